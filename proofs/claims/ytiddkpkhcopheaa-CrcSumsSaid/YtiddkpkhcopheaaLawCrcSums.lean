/- The law CrcSums of the repository answers true for every input. No conditions. -/
import Derived.Test.YtiddkpkhcopheaaCrcTurn
import Derived.Test.YtiddkpkhcopheaaArgs
import Derived.Test.YtiddkpkhcopheaaRows
import Derived.WalkKit
import Derived.ProofKit
import Derived.OpenShut
import Derived.Below
import Derived.ShutString
namespace Go.Proofs.Ytiddkpkhcopheaa.crcSums
open Go.ChangeShapes Go.WideShapes Go.ChangeAt Go.RowKit
open Go.ChangeMaps (open_string shut_string)
set_option linter.unusedVariables false      -- a walk need not use every 'w<i>' (that an integer argument fits its kind)

theorem own : ownKnob Try.prog.godebug = none := by kernel_rfl

/-- The two tables, and the list that they lie in. -/
def ListC (w : World) (B : Nat) : Prop := w.heap[B + 1 + 1]? = some (.cells #[.pointer (some ⟨B, 0, none⟩), .pointer (some ⟨B + 1, 0, none⟩)] 24 (0, 0))
theorem ListC.cell {w : World} {B : Nat} (h : ListC w B) (k : Nat) (hk : k < 2) : w.cell? ⟨B + 1 + 1, k, none⟩ = some (.pointer (some ⟨B + k, 0, none⟩)) := by
  rw [blk_cell h k]
  rcases k with _ | _ | k
  · rfl
  · rfl
  · omega
/-- What a round finds. -/
structure RI (w wr : World) (B k : Nat) : Prop where
  list : ListC wr B
  tabs : ∀ j, k ≤ j → j < 2 → Tab wr (B + j) false
  below : Below B w wr
  size : B + 3 ≤ wr.heap.size
theorem RI.next {w wr wx : World} {B k : Nat} (h : RI w wr B k) (hk : k < 2) (o : Only (B + k) wr wx) : RI w wx B (k + 1) where
  list := o.old h.list (by omega)
  tabs := fun j h1 h2 => TabC.only (h.tabs j (by omega) h2) o (by omega)
  below := h.below.trans (o.below (by omega) (by have := h.size; omega))
  size := Nat.le_trans h.size o.size
theorem RI.first (w : World) (C : Array Value) (hC : C = cellsC 0 0 0 0) : RI w (((w.alloc (.cells C 42)).alloc (.cells C 42)).alloc (.cells #[.pointer (some ⟨w.heap.size, 0, none⟩), .pointer (some ⟨w.heap.size + 1, 0, none⟩)] 24)) w.heap.size 0 := by
  have key : ∀ (W : World) (b : Nat), W.heap[b]? = some (.cells C 42 (0, 0)) → Tab W b false := fun W b h => by rw [hC] at h; exact h
  clear hC
  have e1 : (w.alloc (.cells C 42)).heap.size = w.heap.size + 1 := by simp
  have e2 : ((w.alloc (.cells C 42)).alloc (.cells C 42)).heap.size = w.heap.size + 1 + 1 := by simp
  refine ⟨?_, ?_, (((Below.refl _ _).alloc (Nat.le_refl _) _).alloc (by omega) _).alloc (by omega) _, by simp⟩
  · have := blk_new ((w.alloc (.cells C 42)).alloc (.cells C 42)) (.cells #[.pointer (some ⟨w.heap.size, 0, none⟩), .pointer (some ⟨w.heap.size + 1, 0, none⟩)] 24)
    rw [e2] at this
    exact this
  · intro j h1 h2
    apply key
    rcases j with _ | _ | j
    · exact blk_old _ (blk_old _ (blk_new _ _))
    · have := blk_new (w.alloc (.cells C 42)) (.cells C 42)
      rw [e1] at this
      exact blk_old _ this
    · omega

/-! ### STEP 1: THE WALK: the Go text returns true. 'Grown w w'': the world has at most new blocks (Derived/RowKit3.lean). Part the cases AHEAD of 'go_enter' where a test parts the walk; take each callee by a contract of your own. -/
theorem walk (a0 : ByteArray) (a1 : Int) (a2 : Int) (w0 : a0.size ≤ maxLen) (w1 : (Lit.int .u32 a1).wf = true) (w2 : (Lit.int .i64 a2).wf = true) (w : World) :
    Calls Try.prog 3 #[.string a0, .int .u32 a1, .int .i64 a2] w fun e w' => e = .returned (.bool true) ∧ Below w.heap.size w w' := by
  unfold maxLen at w0
  by_cases hg1 : 300 < a0.size
  · clear w1 w2
    go_enter Try.func3, Try.ntmps3
    go_wp2_with (go_at_call 6; refine (awake_any _).mono ?_; rintro e w' ⟨rfl, hb⟩)
    go_ret
    exact ⟨rfl, by assumption⟩
  have d1 : decide ((300 : Int) < a0.size) = false := decide_eq_false (by omega)
  obtain ⟨u, rfl, hu⟩ := wf_u32 w1
  clear w1 w2
  have N := Lib.hid (new_any w)
  have hz := zero_tab
  have hn := cellsC_size 0 0 0 0
  have RF := Lib.hid (RI.first w _ rfl)
  generalize cellsC 0 0 0 0 = C at *
  go_enter Try.func3, Try.ntmps3
  go_wp2_with fail
  refine N.out.mono ?_
  rintro e w' ⟨rfl, rfl⟩
  go_wp2_with fail
  clear N hz
  generalize ((w.alloc (.cells C 42)).alloc (.cells C 42)).alloc (.cells #[.pointer (some ⟨w.heap.size, 0, none⟩), .pointer (some ⟨w.heap.size + 1, 0, none⟩)] 24) = w3 at *
  generalize hBB : w.heap.size = B at *
  have HB := Lib.hid hBB
  clear hBB
  go_loopw [8] (fun i wr => ∃ k : Nat, k ≤ 2 ∧ i = .int .i64 k ∧ RI w wr B k) (fun i _ => 2 - (intOf i).toNat)
  case atStart => exact ⟨0, by omega, rfl, RF.out⟩
  case round =>
    obtain ⟨k, hk, rfl, hr⟩ := hrel
    clear RF
    by_cases hk2 : k < 2
    · have c := hr.list.cell k hk2
      have t0 := hr.tabs k (Nat.le_refl _) hk2
      have HR := Lib.hid hr
      have M1 := Lib.hid (made_any (B + k) false wr t0)
      have M2 := fun wx t => Lib.hid (made_any (B + k) true wx t)
      have EN := fun wx d t => Lib.hid (entry_any (B + k) d a2 wx t)
      have RE := fun wx => Lib.hid (rentry_any a2 wx)
      have MN := fun wx d t => Lib.hid (more_any (B + k) d u { data := #[] } wx hu (by decide) t)
      have MO := fun wx d t => Lib.hid (more_any (B + k) d u a0 wx hu (by omega) t)
      have RM := fun wx => Lib.hid (rmore_any u a0 wx hu (by omega))
      have SU := fun wx d t => Lib.hid (sum_any (B + k) d a0 wx (by omega) t)
      have RS := fun wx => Lib.hid (rsum_any a0 wx (by omega))
      generalize entryV a2 = x3 at *
      generalize more u a0.data.toList = x2 at *
      generalize more 0 a0.data.toList = x1 at *
      generalize more u ({ data := #[] } : ByteArray).data.toList = x4 at *
      have e1 : ((x1 : Int) != (x1 : Int)) = false := by simp
      have e2 : ((x2 : Int) != (x2 : Int)) = false := by simp
      have e3 : ((x3 : Int) != (x3 : Int)) = false := by simp
      have z0 : (madeN false != 0) = false := rfl
      have z1 : (madeN true != 1) = false := rfl
      clear hr
      go_wp2_with fail
      refine M1.out.mono ?_
      rintro e w' ⟨rfl, rfl⟩
      clear M1 c
      by_cases q0 : bits .and .i64 a2 3 = 0
      · have f0 : (bits .and .i64 a2 3 == 0) = true := by rw [q0]; rfl
        go_wp2_with fail
        refine (EN _ _ t0).out.mono ?_
        rintro e wx ⟨rfl, tx, ox⟩
        clear t0
        go_wp2_with fail
        refine (SU _ _ tx).out.mono ?_
        rintro e w1 ⟨rfl, t1, o1⟩
        have o1 := ox.trans o1
        clear tx ox
        go_wp2_with fail
        refine (RS _).out.mono ?_
        rintro e w' ⟨rfl, rfl⟩
        go_wp2_with fail
        refine (MO _ _ t1).out.mono ?_
        rintro e w2 ⟨rfl, t2, o2⟩
        have o2 := o1.trans o2
        clear t1 o1
        go_wp2_with fail
        refine (RM _).out.mono ?_
        rintro e w' ⟨rfl, rfl⟩
        go_wp2_with fail
        refine (EN _ _ t2).out.mono ?_
        rintro e w3 ⟨rfl, t3, o3⟩
        have o3 := o2.trans o3
        clear t2 o2
        go_wp2_with fail
        refine (RE _).out.mono ?_
        rintro e w' ⟨rfl, rfl⟩
        go_wp2_with fail
        refine (M2 _ t3).out.mono ?_
        rintro e w' ⟨rfl, rfl⟩
        go_wp2_with fail
        go_roundw
        case measure => simp [intOf]; omega
        case rel => exact ⟨k + 1, by omega, by go_num, HR.out.next hk2 o3⟩
      · have f0 : (bits .and .i64 a2 3 == 0) = false := by simpa using q0
        by_cases q1 : bits .and .i64 a2 3 = 1
        · have f1 : (bits .and .i64 a2 3 == 1) = true := by rw [q1]; rfl
          go_wp2_with fail
          refine (MN _ _ t0).out.mono ?_
          rintro e wx ⟨rfl, tx, ox⟩
          clear t0
          go_wp2_with fail
          refine (SU _ _ tx).out.mono ?_
          rintro e w1 ⟨rfl, t1, o1⟩
          have o1 := ox.trans o1
          clear tx ox
          go_wp2_with fail
          refine (RS _).out.mono ?_
          rintro e w' ⟨rfl, rfl⟩
          go_wp2_with fail
          refine (MO _ _ t1).out.mono ?_
          rintro e w2 ⟨rfl, t2, o2⟩
          have o2 := o1.trans o2
          clear t1 o1
          go_wp2_with fail
          refine (RM _).out.mono ?_
          rintro e w' ⟨rfl, rfl⟩
          go_wp2_with fail
          refine (EN _ _ t2).out.mono ?_
          rintro e w3 ⟨rfl, t3, o3⟩
          have o3 := o2.trans o3
          clear t2 o2
          go_wp2_with fail
          refine (RE _).out.mono ?_
          rintro e w' ⟨rfl, rfl⟩
          go_wp2_with fail
          refine (M2 _ t3).out.mono ?_
          rintro e w' ⟨rfl, rfl⟩
          go_wp2_with fail
          go_roundw
          case measure => simp [intOf]; omega
          case rel => exact ⟨k + 1, by omega, by go_num, HR.out.next hk2 o3⟩
        · have f1 : (bits .and .i64 a2 3 == 1) = false := by simpa using q1
          have ox := Only.refl (B + k) wr
          have tx := t0
          clear t0
          go_wp2_with fail
          refine (SU _ _ tx).out.mono ?_
          rintro e w1 ⟨rfl, t1, o1⟩
          have o1 := ox.trans o1
          clear tx ox
          go_wp2_with fail
          refine (RS _).out.mono ?_
          rintro e w' ⟨rfl, rfl⟩
          go_wp2_with fail
          refine (MO _ _ t1).out.mono ?_
          rintro e w2 ⟨rfl, t2, o2⟩
          have o2 := o1.trans o2
          clear t1 o1
          go_wp2_with fail
          refine (RM _).out.mono ?_
          rintro e w' ⟨rfl, rfl⟩
          go_wp2_with fail
          refine (EN _ _ t2).out.mono ?_
          rintro e w3 ⟨rfl, t3, o3⟩
          have o3 := o2.trans o3
          clear t2 o2
          go_wp2_with fail
          refine (RE _).out.mono ?_
          rintro e w' ⟨rfl, rfl⟩
          go_wp2_with fail
          refine (M2 _ t3).out.mono ?_
          rintro e w' ⟨rfl, rfl⟩
          go_wp2_with fail
          go_roundw
          case measure => simp [intOf]; omega
          case rel => exact ⟨k + 1, by omega, by go_num, HR.out.next hk2 o3⟩
    · obtain rfl : k = 2 := by omega
      have hb := hr.below
      have hsz := hr.size
      have S0 := fun wx => Lib.hid (sum_nil a0 wx)
      have M0 := fun wx => Lib.hid (more_nilT u a0 wx)
      have E0 := fun wx => Lib.hid (entry_nil a2 wx)
      have D0 := fun wx => Lib.hid (made_nil wx)
      clear hr
      go_wp2_with fail
      refine (S0 _).out.mono ?_
      rintro e w' ⟨rfl, rfl⟩
      go_wp2_with fail
      refine (M0 _).out.mono ?_
      rintro e w' ⟨rfl, rfl⟩
      go_wp2_with fail
      refine (E0 _).out.mono ?_
      rintro e w' ⟨rfl, rfl⟩
      go_wp2_with fail
      refine (D0 _).out.mono ?_
      rintro e w' ⟨rfl, rfl⟩
      go_wp2_with fail
      refine (awake_any _).mono ?_
      rintro e w5 ⟨rfl, b5⟩
      go_wp2_with fail
      go_ret
      exact ⟨rfl, by rw [HB.out]; exact hb.trans (b5.mono (by omega))⟩

/-! ### THE ROW's STEP: WRITTEN OUT: LEAVE IT -/
set_option maxRecDepth 100000 in
theorem lifted (os : Os) (started : os.Started) (H : Type) (enc : TypeId × Value → H) :
    ReturnsInHanded {} Try.checked os 3 .any (Rows.crcSumsSpec.pre6 enc Try.prog Try.f3 Rows.crcSumsRow.domain false) (Rows.crcSumsSpec.post enc Try.prog Try.f3 false true false false) := by
  refine returnsInHanded_of_change (C := Try.checked) own started (by kernel_rfl) Try.func3
    (ChangeSpec.witness6 (enc := enc) (C := Try.checked) false ⟨#[], #[.string ByteArray.empty, .int .u32 0, .int .i64 0], []⟩ 8 (by kernel_rfl) (by kernel_rfl) (by kernel_rfl) (by kernel_rfl)) ?_
  intro W base args ds gs before hval0 hW hcnd _
  have hval : ∀ (j : Nat) t v, Try.f3.params[j]? = some t → args[j]? = some v → Value.okWide Try.prog W .any base t v := hval0
  have hW' := hW
  obtain ⟨p, q, hA0, hV, rfl, hfz, hnd⟩ := hW
  have hA : DataW.TrodAll enc Try.prog W 0 (fun _ => true) true Try.f3.params.toList args.toList ds p := hA0
  rw [Try.params3] at hA hval
  obtain ⟨v0, vs0, d0, ds0, p0, q0, hargs, rfl, rfl, h0, r0⟩ := trodAll_cons hA
  obtain ⟨v1, vs1, d1, ds1, p1, q1, rfl, rfl, rfl, h1, r1⟩ := trodAll_cons r0
  obtain ⟨v2, vs2, d2, ds2, p2, q2, rfl, rfl, rfl, h2, r2⟩ := trodAll_cons r1
  obtain ⟨rfl, rfl, rfl⟩ := trodAll_nil r2
  obtain rfl : args = #[v0, v1, v2] := by cases args; simp_all
  obtain ⟨rfl, rfl⟩ := trodVars_none hV
  obtain ⟨a0, rfl, rfl, rfl, w0⟩ := open_string Try.underlying9 (hval 0 9 v0 rfl rfl) h0
  obtain ⟨a1, rfl, rfl, rfl, w1⟩ := open_int Try.underlying22 (hval 1 22 v1 rfl rfl) h1
  obtain ⟨a2, rfl, rfl, rfl, w2⟩ := open_int Try.underlying3 (hval 2 3 v2 rfl rfl) h2
  clear hA0 hval0
  simp only [List.append_nil] at hW'
  refine (walk a0 a1 a2 w0 w1 w2 W).mono fun e W' ⟨he, hg⟩ => ?_
  subst he
  exact ⟨_, rfl, _, _, _, [], [], [], hW', trodAll_mk1 (shut_bool Try.underlying4 _), (trodAll_cons_mk (shut_string Try.underlying9 w0) (trodAll_cons_mk (shut_int Try.underlying22 w1) (trodAll_cons_mk (shut_int Try.underlying3 w2) trodAll_mk0))), rfl, hg.frame _, fun h => by cases h⟩

theorem over : Rows.crcSumsRow.holds Try.pinned (OpenSpec.ofChange Rows.crcSumsSpec) :=
  OpenClaim.holds_of_wide 3 Try.f3 rfl rfl rfl rfl rfl rfl rfl ⟨rfl, rfl, rfl, rfl, rfl⟩ rfl rfl rfl rfl rfl (by kernel_rfl) Try.func3 (by kernel_rfl)
    (of_decide_eq_true (by kernel_rfl)) (by unfold Func.isWrapper; first | (rw [if_pos (by decide +kernel)]; kernel_rfl) | (rw [if_neg (by decide +kernel)]; exact ⟨rfl, rfl⟩))
    (fun os started H enc _ => lifted os started H enc)

/-- ████ THE STATEMENT ████ -/
theorem proved : Rows.CrcSumsSaid :=
  over
end Go.Proofs.Ytiddkpkhcopheaa.crcSums
