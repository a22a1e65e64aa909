/- The law DirtyDrains of the repository answers true for every input. No conditions. -/
import Derived.Test.YtjncccongbfoiaaDirArgs
import Derived.Deep.DeepCutAuto
import Derived.Deep.LoopGhost
import Derived.Deep.CutBlock
import Derived.StillTailTactics
import Derived.Test.YtjncccongbfoiaaRows
import Derived.WalkKit
import Derived.ProofKit
import Derived.OpenShut
import Derived.Below
import Derived.ShutString
import Derived.Carry
import Derived.Test.YtjncccongbfoiaaArgs
namespace Go.Proofs.Ytjncccongbfoiaa.dirtyDrains
open Go.ChangeShapes Go.WideShapes Go.ChangeAt Go.RowKit
open Go.ChangeMaps (open_string shut_string)
set_option linter.unusedVariables false
set_option linter.unusedSimpArgs false

theorem own : ownKnob Try.prog.godebug = none := by kernel_rfl
theorem laidOut : laidOutB Try.prog = true := by kernel_rfl
theorem op3 : Opens Try.prog 3 (.int .i64) := opens_int Try.underlying3
theorem op29 : Opens Try.prog 29 (.slice (.int .i64)) := opens_slice Try.underlying29 (by kernel_rfl) (by decide) op3

set_option maxRecDepth 100000 in
set_option maxHeartbeats 16000000 in
theorem walk (a0 : Option Addr) (len0 cap0 : Nat) (a1 : Int) (w : World) (w0 : Has w (.slice (.int .i64)) [.slice a0 len0 cap0]) (w1 : (Lit.int .u8 a1).wf = true) :
    Calls Try.prog 4 #[.slice a0 len0 cap0, .int .u8 a1] w fun e w' => e = .returned (.bool true) ∧ Below w.heap.size w w' := by
  obtain ⟨ns, hlen, hrd, hin⟩ := rdI_came w0
  subst hlen
  have ha1 := bounds_u8 w1
  have HR := Lib.hid hrd
  have HIN := Lib.hid hin
  clear hrd hin w0 w1
  have AW := Lib.hid fun w => dirty_awake w
  by_cases hg : 200 < ns.length
  · have d1 : decide ((200 : Int) < (ns.length : Int)) = true := decide_eq_true (by omega)
    have d2 : decide (200 < ns.length) = true := decide_eq_true hg
    go_enter Try.func4, Try.ntmps4
    go_wp2_with fail
    refine (AW.out _).mono ?_; rintro e wy ⟨rfl, hb⟩
    have HF := Lib.hid hb
    clear hb
    go_wp2_with fail
    go_ret
    exact ⟨rfl, HF.out⟩
  · have d1 : decide ((200 : Int) < (ns.length : Int)) = false := decide_eq_false (by omega)
    have d2 : decide (200 < ns.length) = false := decide_eq_false hg
    have h200 : ns.length ≤ 200 := by omega
    have NW := Lib.hid fun w => snew_any w
    clear hg
    go_enter Try.func4, Try.ntmps4
    go_wp2_with fail
    refine (NW.out _).mono ?_; rintro e w1 ⟨rfl, hp, hb1⟩
    have HP := Lib.hid hp
    have HB1 := Lib.hid hb1
    clear hp hb1
    go_wp2_with fail
    refine (NW.out _).mono ?_; rintro e w2 ⟨rfl, hp2, hb2⟩
    have HI := Lib.hid (dinv_start2 (wL := w) HP.out (fun k hk => Nat.le_of_eq hk.symm) HB1.out hp2 (fun k hk => Nat.le_of_eq hk.symm) hb2)
    clear hp2 hb2 HP HB1 NW
    generalize w1.heap.size = bz at *
    have MK := Lib.hid (idmark_h (by simp) (by omega) HIN.out HR.out HI.out)
    have HLE := putsI_len_le ns []
    have HLA := Lib.hid (show ∀ k, putsI (putsI [] (ns.drop k)) (ns.take k) = putsI [] ns from putsI_turn ns)
    have HAL := Lib.hid (show ∀ i (hi : i < (putsI [] ns).length), hasI ns (putsI [] ns)[i] = true from putsI_has ns)
    have HLH := Lib.hid (show ∀ i (hi : i < ns.length), hasI (putsI [] ns) ns[i] = true from has_putsI ns)
    have HRS := Lib.hid (rise_putsI ns Rise.nil)
    generalize hLA : putsI [] ns = LA at *
    clear hLA
    simp only [List.length_nil, Nat.zero_add] at HLE
    have c0 : ((([] : List Int).length : Nat) : Int) = 0 := rfl
    rw [c0, Int.sub_zero] at MK
    clear HI
    go_wp2_with fail
    refine MK.out.mono ?_; rintro e w3 ⟨rfl, hI⟩
    have HI := Lib.hid hI
    clear hI MK c0
    have q1 : IntKind.i64.wrap a1 = a1 := IntWalk.i64_in _ (by omega)
    go_upto_if 25 with (fail)
    go_cut [8] from 26 to 30 (fun t wx => ∃ k : Nat, k ≤ ns.length ∧ t = .int .i64 (k : Int) ∧ w3 = wx)
    case first =>
      by_cases h0 : 0 < ns.length
      · have e0 : decide ((0 : Int) < (ns.length : Int)) = true := decide_eq_true (by omega)
        have e1 : decide (0 < ns.length) = true := decide_eq_true h0
        have e2 : decide ((ns.length : Int) > 0) = true := e0
        go_wp2_with fail
        go_meet
        exact ⟨(a1 % (ns.length : Int)).toNat, by have := Int.emod_nonneg a1 (show (ns.length : Int) ≠ 0 by omega); have := Int.emod_lt_of_pos a1 (show (0 : Int) < (ns.length : Int) by omega); omega, by rw [Int.toNat_of_nonneg (Int.emod_nonneg a1 (by omega))], rfl⟩
      · have e0 : decide ((0 : Int) < (ns.length : Int)) = false := decide_eq_false (by omega)
        have e1 : decide (0 < ns.length) = false := decide_eq_false h0
        have e2 : decide ((ns.length : Int) > 0) = false := e0
        go_wp2_with fail
        go_meet
        exact ⟨0, by omega, rfl, rfl⟩
    case rest =>
      obtain ⟨k, hk, rfl, rfl⟩ := hcut
      have hcap : ns.length ≤ cap0 := by
        obtain ⟨A, c, e, h1, _⟩ := HR.out.form
        cases e; exact h1
      have hs1 := fun w => run_slice_tl (P := Try.prog) w 29 3 a0 ns.length cap0 k Try.underlying29 Try.sizeOf3 hk
      have hs2 := fun w => run_slice_hd (P := Try.prog) w 29 3 a0 ns.length cap0 k Try.underlying29 Try.sizeOf3 (by omega)
      have R1 := HR.out.drop k hk
      have R2 := HR.out.take k hk
      have hd1 : (ns.drop k).length ≤ 200 := by rw [List.length_drop]; omega
      have hd2 : (ns.take k).length ≤ 200 := by rw [List.length_take]; omega
      have hi1 : ∀ x ∈ ns.drop k, inI x := fun x hx => HIN.out x (List.mem_of_mem_drop hx)
      have hi2 : ∀ x ∈ ns.take k, inI x := fun x hx => HIN.out x (List.mem_of_mem_take hx)
      generalize sliced a0 k ns.length cap0 1 = s1 at hs1 R1
      have X1 := Lib.hid (show ∀ m w', m[0]? = some false → M2 w (.pointer (some ⟨w.heap.size, 0, none⟩)) LA (.pointer (some ⟨bz, 0, none⟩)) (ns.drop k) (ns.take k) m w' → _ from fun m w' hm hC => m2_first (by omega) hi1 R1 hm hC)
      have X2 := Lib.hid (show ∀ m w', m[0]? = some true → m[1]? = some false → M2 w (.pointer (some ⟨w.heap.size, 0, none⟩)) LA (.pointer (some ⟨bz, 0, none⟩)) (ns.drop k) (ns.take k) m w' → _ from fun m w' hm hm1 hC => m2_second (by omega) (by omega) hi2 R2 hm hm1 hC)
      have HI0 := Lib.hid (show M2 w (.pointer (some ⟨w.heap.size, 0, none⟩)) LA (.pointer (some ⟨bz, 0, none⟩)) (ns.drop k) (ns.take k) ([4, 9].map fun _ => false) w3.drew from ⟨(fun h => by cases h), HI.out.below ⟨rfl, rfl, rfl, Nat.le_refl _, fun _ _ => rfl⟩⟩)
      have HN0 := Lib.hid (show ∀ w', M2 w (.pointer (some ⟨w.heap.size, 0, none⟩)) LA (.pointer (some ⟨bz, 0, none⟩)) (ns.drop k) (ns.take k) ([4, 9].map fun _ => true) w' → DInv w (.pointer (some ⟨w.heap.size, 0, none⟩)) LA (.pointer (some ⟨bz, 0, none⟩)) LA (.slice none 0 0) [] w' from fun w' h => by have := h.2; rw [show pkD ([4, 9].map fun _ => true) 0 [] (pkD ([4, 9].map fun _ => true) 1 (putsI [] (ns.drop k)) (putsI (putsI [] (ns.drop k)) (ns.take k))) = putsI (putsI [] (ns.drop k)) (ns.take k) from rfl, HLA.out k] at this; exact this)
      have hp1 := putsI_len_le (ns.drop k) []
      have hq := HLA.out k
      generalize ns.drop k = pa at *
      generalize ns.take k = pb at *
      rw [hq] at X2
      generalize (putsI [] pa).length = np at *
      simp only [List.length_nil, Nat.zero_add] at hp1
      have q2 : IntKind.i64.wrap ((np : Int) + ((LA.length : Int) - (np : Int))) = (LA.length : Int) := by rw [IntWalk.i64_in _ (by omega)]; omega
      clear hi1 hi2 R1 R2 hq HI HLA hcap
      go_wp2_with fail
      refine wp_region_holdC [4, 9] (fun m w' => M2 w (.pointer (some ⟨w.heap.size, 0, none⟩)) LA (.pointer (some ⟨bz, 0, none⟩)) pa pb m w') (by kernel_rfl) (by kernel_rfl) rfl HI0.out ?_
      repeat
        first
        | (refine holdC_val (v := ?_) (by rfl) (by rfl) ?_ ?_
           rotate_left
           · (intro m w' hC
              go_simp
              try with_reducible rfl)
           simp only [Act.put, List.setIfInBounds_toArray, List.set_cons_zero, List.set_cons_succ])
        | (refine holdC_write 0 [] rfl rfl (by decide) (by rfl) rfl ?_ (fun m w' hm _ hC => X1.out m w' hm hC) ?_
           · (intro m w' hC; go_simp; done)
           simp only [Act.put, List.setIfInBounds_toArray, List.set_cons_zero, List.set_cons_succ])
        | (refine holdC_write 1 [0] rfl rfl (by decide) (by rfl) (by kernel_rfl) ?_ (fun m w' hm hp hC => X2.out m w' (hp 0 (by simp)) hm hC) ?_
           · (intro m w' hC; go_simp; done)
           simp only [Act.put, List.setIfInBounds_toArray, List.set_cons_zero, List.set_cons_succ])
      refine holdC_nil (fun w4 hC => ?_)
      have HI4 := Lib.hid (HN0.out w4 hC)
      clear hC HI0 HN0 X1 X2 hs1 hs2
      have h201 : LA.length ≤ 200 := by omega
      have DR1 := Lib.hid (idrain_h (by omega) HI4.out)
      clear HI4 q1 q2 HLE hp1
      go_wp2_with fail
      refine DR1.out.mono ?_; rintro e w5 ⟨va, rfl, hra, _, hI⟩
      obtain ⟨Aa, ca, rfl, hca, _⟩ := hra.form
      have HRA := Lib.hid hra
      have DR2 := Lib.hid (idrain_z (by omega) hI)
      clear hI hra DR1
      go_wp2_with fail
      refine DR2.out.mono ?_; rintro e w6 ⟨vb, rfl, hrb, hI⟩
      have HI6 := Lib.hid hI
      obtain ⟨Ka, hra6⟩ := hI.rd
      have SM := Lib.hid (isame_bel _ vb LA _ _ w6 (by omega) hra6 hrb)
      clear hI hrb hra6 DR2 HRA
      go_wp2_with fail
      refine SM.out.mono ?_; rintro e w7 ⟨rfl, hb7⟩
      have HI7 := Lib.hid (HI6.out.below hb7)
      have LN := Lib.hid (idlen_h HI7.out)
      clear hb7 HI6 SM
      simp only [List.length_nil] at LN
      go_wp2_with fail
      refine LN.out.mono ?_; rintro e w8 ⟨rfl, rfl⟩
      have DR3 := Lib.hid (idrain_h (by simp) HI7.out)
      clear LN
      go_wp2_with fail
      refine DR3.out.mono ?_; rintro e w8 ⟨vc, rfl, hrc, hI, _⟩
      obtain ⟨Ac, cc, rfl, _, _⟩ := hrc.form
      have HI8 := Lib.hid hI
      have HB8 := Lib.hid hI.bel
      obtain ⟨Ka, hra8⟩ := hI.rd
      have HRA := Lib.hid hra8
      clear hI hrc hra8 HI7 DR3 HI8
      simp only [List.length_nil]
      go_wp2_with fail
      go_loopw [12] (fun i wr => ∃ k : Nat, k ≤ LA.length ∧ i = .int .i64 k ∧ Below w8.heap.size w8 wr) (fun i _ => LA.length - (intOf i).toNat)
      case atStart => exact ⟨0, by omega, rfl, Below.refl _ _⟩
      case round =>
        obtain ⟨k, hk, rfl, hbr⟩ := hrel
        have HBR := Lib.hid hbr
        clear hbr
        by_cases hlt : k < LA.length
        · have dk : decide (k < LA.length) = true := decide_eq_true hlt
          obtain ⟨ba, oa, rfl, hba, _, hxa⟩ := HRA.out.at_ hlt
          have HAS := Lib.hid (show ∀ w', Below w8.heap.size w8 w' → Calls Try.prog 7 #[.slice a0 ns.length cap0, .int .i64 LA[k]] w' fun e w2 => e = .returned (.bool true) ∧ Below w8.heap.size w8 w2 from fun w' hS => by
            have := k12has_any _ ns LA[k] _ w' (by omega) (HR.out.below (HB8.out.trans (hS.mono HB8.out.size)))
            rw [HAL.out k hlt] at this
            exact this.mono fun e w2 ⟨he, hw⟩ => ⟨he, by rw [← hw]; exact hS⟩)
          have HC1 := Lib.hid (show ∀ w', Below w8.heap.size w8 w' → w'.cell? ⟨ba, oa + k, none⟩ = some (.int .i64 LA[k]) from fun w' hS => (hS.cell (p := ⟨ba, oa + k, none⟩) hba).trans (hxa k hlt))
          cases k with
          | zero =>
            have HC2 := Lib.hid (show ∀ w', Below w8.heap.size w8 w' → w'.cell? ⟨ba, oa, none⟩ = some (.int .i64 LA[0]) from fun w' hS => by have := HC1.out w' hS; simpa using this)
            clear hxa
            go_wp2_with fail
            refine wp_region_hold (fun w' => Below w8.heap.size w8 w') (by kernel_rfl) (by kernel_rfl) ⟨HBR.out.os, HBR.out.tape, HBR.out.output, HBR.out.size, HBR.out.block⟩ ?_
            repeat
              first
              | (refine hold_val (v := ?_) (by rfl) ?_ ?_
                 rotate_left
                 · (intro w' hS
                    have h1 := HC1.out w' hS
                    have h2 := HC2.out w' hS
                    go_simp
                    try with_reducible rfl)
                 simp only [Act.put, List.setIfInBounds_toArray, List.set_cons_zero, List.set_cons_succ])
              | (refine hold_skip (by rfl) ?_
                 simp only [Act.put, List.setIfInBounds_toArray, List.set_cons_zero, List.set_cons_succ])
              | (refine hold_call (by rfl) ?_ (fun w' hS => HAS.out w' hS) ?_
                 · (intro w' hS; go_simp; done)
                 simp only [Act.put, List.setIfInBounds_toArray, List.set_cons_zero, List.set_cons_succ])
            refine hold_nil (fun w9 hS => ?_)
            have HB9 := Lib.hid hS
            clear hS HC1 HC2 HAS HBR
            go_wp2_with fail
            go_roundw
            case rel => exact ⟨1, by omega, by go_num, HB9.out⟩
            case measure => simp [intOf]; omega
          | succ j =>
            have hjl : j < LA.length := by omega
            have HC2 := Lib.hid (show ∀ w', Below w8.heap.size w8 w' → w'.cell? ⟨ba, oa + j, none⟩ = some (.int .i64 LA[j]) from fun w' hS => (hS.cell (p := ⟨ba, oa + j, none⟩) hba).trans (hxa j hjl))
            have hlt2 : LA[j] < LA[j + 1] := rise_at HRS.out (j + 1) hlt (by omega)
            have e1 : decide (LA[j] ≥ LA[j + 1]) = false := decide_eq_false (by omega)
            have e2 : decide (LA[j + 1] ≤ LA[j]) = false := decide_eq_false (by omega)
            have e3 : decide (((j : Int) + 1) > 0) = true := decide_eq_true (by omega)
            have e4 : decide (0 < ((j : Int) + 1)) = true := decide_eq_true (by omega)
            have e5 : decide (0 < j + 1) = true := decide_eq_true (by omega)
            have q5 : IntKind.i64.wrap ((j : Int) + 1 - 1) = (j : Int) := by rw [IntWalk.i64_in _ (by omega)]; omega
            have q6 : IntKind.i64.wrap (j : Int) = (j : Int) := IntWalk.i64_in _ (by omega)
            have i0 : (0 : Int) ≤ (j : Int) := by omega
            have i3 : (0 : Int) ≤ (j : Int) + 1 := by omega
            have i1 : (j : Int) < (LA.length : Int) := by omega
            have i2 : (j : Int) + 1 < (LA.length : Int) := by omega
            clear hxa hlt2
            generalize LA[j] = xj at *
            generalize LA[j + 1] = xk at *
            go_wp2_with fail
            refine wp_region_hold (fun w' => Below w8.heap.size w8 w') (by kernel_rfl) (by kernel_rfl) ⟨HBR.out.os, HBR.out.tape, HBR.out.output, HBR.out.size, HBR.out.block⟩ ?_
            repeat
              first
              | (refine hold_val (v := ?_) (by rfl) ?_ ?_
                 rotate_left
                 · (intro w' hS
                    have h1 := HC1.out w' hS
                    have h2 := HC2.out w' hS
                    go_simp
                    try with_reducible rfl)
                 simp only [Act.put, List.setIfInBounds_toArray, List.set_cons_zero, List.set_cons_succ])
              | (refine hold_skip (by rfl) ?_
                 simp only [Act.put, List.setIfInBounds_toArray, List.set_cons_zero, List.set_cons_succ])
              | (refine hold_call (by rfl) ?_ (fun w' hS => HAS.out w' hS) ?_
                 · (intro w' hS; go_simp; done)
                 simp only [Act.put, List.setIfInBounds_toArray, List.set_cons_zero, List.set_cons_succ])
            refine hold_nil (fun w9 hS => ?_)
            have HB9 := Lib.hid hS
            clear hS HC1 HC2 HAS HBR
            go_wp2_with fail
            go_roundw
            case rel => exact ⟨j + 2, by omega, by go_num, HB9.out⟩
            case measure => simp [intOf]; omega
        · have dk : decide (k < LA.length) = false := decide_eq_false hlt
          clear hlt hk
          go_wp2_with fail
          go_loopw [13] (fun i wr => ∃ k : Nat, k ≤ ns.length ∧ i = .int .i64 k ∧ Below w8.heap.size w8 wr) (fun i _ => ns.length - (intOf i).toNat)
          case atStart => exact ⟨0, by omega, rfl, HBR.out⟩
          case round =>
            clear HBR
            obtain ⟨k, hk, rfl, hbr⟩ := hrel
            have HBR := Lib.hid hbr
            clear hbr
            by_cases hlt : k < ns.length
            · have dk2 : decide (k < ns.length) = true := decide_eq_true hlt
              obtain ⟨bn, on_, rfl, hbn, _, hxn⟩ := HR.out.at_ hlt
              have HAS := Lib.hid (show Calls Try.prog 7 #[.slice Aa LA.length ca, .int .i64 ns[k]] wr fun e w2 => e = .returned (.bool true) ∧ wr = w2 from by
                have := k12has_any _ LA ns[k] _ wr (by omega) (HRA.out.below HBR.out)
                rw [HLH.out k hlt] at this
                exact this)
              have g1 : wr.cell? ⟨bn, on_ + k, none⟩ = some (.int .i64 ns[k]) := ((HB8.out.trans (HBR.out.mono HB8.out.size)).cell (p := ⟨bn, on_ + k, none⟩) hbn).trans (hxn k hlt)
              clear hxn
              generalize ns[k] = xk at *
              go_wp2_with fail
              refine HAS.out.mono ?_; rintro e w9 ⟨rfl, rfl⟩
              clear HAS
              go_wp2_with fail
              go_roundw
              case rel => exact ⟨k + 1, by omega, by go_num, HBR.out⟩
              case measure => simp [intOf]; omega
            · have dk2 : decide (k < ns.length) = false := decide_eq_false hlt
              have HF := Lib.hid (HB8.out.trans (HBR.out.mono HB8.out.size))
              clear hlt hk HB8 HBR
              go_wp2_with fail
              refine (AW.out _).mono ?_; rintro e w9 ⟨rfl, hb⟩
              have HG := Lib.hid (HF.out.trans (hb.mono HF.out.size))
              clear hb HF AW
              go_wp2_with fail
              go_ret
              exact ⟨rfl, HG.out⟩

set_option maxRecDepth 100000 in
theorem lifted (os : Os) (started : os.Started) (H : Type) (enc : TypeId × Value → H) :
    ReturnsInHanded {} Try.checked os 4 .any (Rows.dirtyDrainsSpec.pre6 enc Try.prog Try.f4 Rows.dirtyDrainsRow.domain false) (Rows.dirtyDrainsSpec.post enc Try.prog Try.f4 false true false false) := by
  refine returnsInHanded_of_change (C := Try.checked) own started (by kernel_rfl) Try.func4
    (ChangeSpec.witness6 (enc := enc) (C := Try.checked) false ⟨#[], #[.slice none 0 0, .int .u8 0], []⟩ 8 (by kernel_rfl) (by kernel_rfl) (by kernel_rfl) (by kernel_rfl)) ?_
  intro W base args ds gs before hval0 hW hcnd _
  have hval : ∀ (j : Nat) t v, Try.f4.params[j]? = some t → args[j]? = some v → Value.okWide Try.prog W .any base t v := hval0
  have hW' := hW
  obtain ⟨p, q, hA0, hV, rfl, hfz, hnd⟩ := hW
  have hA : DataW.TrodAll enc Try.prog W 0 (fun _ => true) true Try.f4.params.toList args.toList ds p := hA0
  rw [Try.params4] at hA hval
  obtain ⟨v0, vs0, d0, ds0, p0, q0, hargs, rfl, rfl, h0, r0⟩ := trodAll_cons hA
  obtain ⟨v1, vs1, d1, ds1, p1, q1, rfl, rfl, rfl, h1, r1⟩ := trodAll_cons r0
  obtain ⟨rfl, rfl, rfl⟩ := trodAll_nil r1
  obtain rfl : args = #[v0, v1] := by cases args; simp_all
  obtain ⟨rfl, rfl⟩ := trodVars_none hV
  obtain ⟨a0, len0, cap0, rfl⟩ := okWide_slice Try.underlying29 (hval 0 29 v0 rfl rfl)
  have k0 := h0
  have lt0 : ∀ x ∈ p0, x.block < W.heap.size := by obtain ⟨m, hm⟩ := k0; exact DataW.trod_lt m _ _ _ hm
  have w0 : Has W (.slice (.int .i64)) [.slice a0 len0 cap0] := by obtain ⟨m, hm⟩ := h0; exact op29 _ _ _ _ _ _ _ _ _ hm
  obtain ⟨a1, rfl, rfl, rfl, w1⟩ := open_int Try.underlying5 (hval 1 5 v1 rfl rfl) h1
  clear hA0 hval0
  refine (walk a0 len0 cap0 a1 W w0 w1).mono fun e W' ⟨he, bel⟩ => ?_
  subst he
  exact ⟨_, rfl, _, _, _, [], _, [], hW', trodAll_mk1 (shut_bool Try.underlying4 _), (trodAll_cons_mk (Below.trod laidOut (by kernel_rfl) (of_decide_eq_true (by kernel_rfl)) k0 bel lt0) (trodAll_cons_mk (shut_int Try.underlying5 w1) trodAll_mk0)), rfl, bel.frame _, fun h => by cases h⟩

theorem over : Rows.dirtyDrainsRow.holds Try.pinned (OpenSpec.ofChange Rows.dirtyDrainsSpec) :=
  OpenClaim.holds_of_wide 4 Try.f4 rfl rfl rfl rfl rfl rfl rfl ⟨rfl, rfl, rfl, rfl, rfl⟩ rfl rfl rfl rfl rfl (by kernel_rfl) Try.func4 (by kernel_rfl)
    (of_decide_eq_true (by kernel_rfl)) (by unfold Func.isWrapper; first | (rw [if_pos (by decide +kernel)]; kernel_rfl) | (rw [if_neg (by decide +kernel)]; exact ⟨rfl, rfl⟩))
    (fun os started H enc _ => lifted os started H enc)

/-- ████ THE STATEMENT ████ -/
theorem proved : Rows.DirtyDrainsSaid := over
end Go.Proofs.Ytjncccongbfoiaa.dirtyDrains
