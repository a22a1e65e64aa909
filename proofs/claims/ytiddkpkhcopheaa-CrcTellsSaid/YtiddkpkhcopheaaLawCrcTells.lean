/- The law CrcTells of the repository answers true for every input. No conditions. -/
import Derived.Test.YtiddkpkhcopheaaCrcTurn
import Derived.Test.YtiddkpkhcopheaaArgs
import Derived.Test.YtiddkpkhcopheaaRows
import Derived.WalkKit
import Derived.ProofKit
import Derived.OpenShut
import Derived.Below
import Derived.ShutString
namespace Go.Proofs.Ytiddkpkhcopheaa.crcTells
open Go.ChangeShapes Go.WideShapes Go.ChangeAt Go.RowKit
open Go.ChangeMaps (open_string shut_string)
set_option linter.unusedVariables false      -- a walk need not use every 'w<i>' (that an integer argument fits its kind)

theorem own : ownKnob Try.prog.godebug = none := by kernel_rfl

/-! ### STEP 1: THE WALK: the Go text returns true. 'Grown w w'': the world has at most new blocks (Derived/RowKit3.lean). Part the cases AHEAD of 'go_enter' where a test parts the walk; take each callee by a contract of your own. -/
theorem walk (a0 : ByteArray) (a1 : Int) (a2 : Int) (w0 : a0.size ≤ maxLen) (w1 : (Lit.int .i64 a1).wf = true) (w2 : (Lit.int .u32 a2).wf = true) (w : World) :
    Calls Try.prog 5 #[.string a0, .int .i64 a1, .int .u32 a2] w fun e w' => e = .returned (.bool true) ∧ Below w.heap.size w w' := by
  unfold maxLen at w0
  by_cases hg1 : a0.size < 4
  · have d1 : decide ((a0.size : Int) < 4) = true := decide_eq_true (by omega)
    clear w1 w2
    go_enter Try.func5, Try.ntmps5
    go_wp2_with (go_at_call 6; refine (awake_any _).mono ?_; rintro e w' ⟨rfl, hb⟩)
    go_ret
    exact ⟨rfl, by assumption⟩
  have d1 : decide ((a0.size : Int) < 4) = false := decide_eq_false (by omega)
  by_cases hg2 : 200 < a0.size
  · have d2 : decide ((200 : Int) < a0.size) = true := decide_eq_true (by omega)
    clear w1 w2
    go_enter Try.func5, Try.ntmps5
    go_wp2_with (go_at_call 6; refine (awake_any _).mono ?_; rintro e w' ⟨rfl, hb⟩)
    go_ret
    exact ⟨rfl, by assumption⟩
  have d2 : decide ((200 : Int) < a0.size) = false := decide_eq_false (by omega)
  by_cases hg3 : a2 = 0
  · subst hg3
    clear w1 w2
    go_enter Try.func5, Try.ntmps5
    go_wp2_with (go_at_call 6; refine (awake_any _).mono ?_; rintro e w' ⟨rfl, hb⟩)
    go_ret
    exact ⟨rfl, by assumption⟩
  have d3 : ((a2 : Int) == 0) = false := by simpa using hg3
  obtain ⟨z, hz, hz2⟩ := and_byte a1
  obtain ⟨K, hK, hK4⟩ : ∃ K : Nat, (bits .and .i64 a1 255).tmod ((a0.size : Int) - 3) = (K : Int) ∧ K + 4 ≤ a0.size := by
    refine ⟨z % (a0.size - 3), ?_, by have := Nat.mod_lt z (show 0 < a0.size - 3 by omega); omega⟩
    rw [hz, Int.tmod_eq_emod_of_nonneg (by omega), show (a0.size : Int) - 3 = ((a0.size - 3 : Nat) : Int) by omega]; rfl
  clear hz hz2
  obtain ⟨u, rfl, hu⟩ := wf_u32 w2
  have hu0 : ¬ u = 0 := by omega
  obtain ⟨cap, w1', hcv, hcap, hbb, hb1⟩ := conv_bytes w a0
  rw [← turnI_zero a0.data.toList K u] at hbb
  have hL : a0.data.toList.length = a0.size := data_len a0
  have BBH := Lib.hid hbb
  clear w1 w2 hbb
  go_enter Try.func5, Try.ntmps5
  go_wp2_with fail
  generalize hBB : w.heap.size = B at *
  have HB := Lib.hid hBB
  clear hBB
  go_loopw [9] (fun i wr => ∃ j : Nat, j ≤ 4 ∧ i = .int .i64 j ∧ BB wr B (turnI a0.data.toList K u j) ∧ Below B w wr) (fun i _ => 4 - (intOf i).toNat)
  case atStart => exact ⟨0, by omega, rfl, BBH.out, hb1⟩
  case round =>
    obtain ⟨j, hj, rfl, hb, hbe⟩ := hrel
    clear BBH hb1 hcv
    by_cases hj4 : j < 4
    · have hlen : K + j < (turnI a0.data.toList K u j).length := by rw [turnI_length]; omega
      have c := hb.cell (K + j) hlen
      have f := hb.free (K + j) hlen
      rw [turnI_get a0.data.toList K u j hlen (by omega)] at c
      have q1 : IntKind.i64.wrap (8 * (j : Int)) = 8 * j := IntWalk.i64_in _ (by omega)
      have q2 : IntKind.i64.wrap ((K : Int) + j) = (K : Int) + j := IntWalk.i64_in _ (by omega)
      have i1 : (0 : Int) ≤ (K : Int) + j := by omega
      have i2 : (K : Int) + j < (a0.size : Int) := by omega
      have i3 : (0 : Int) ≤ 8 * (j : Int) := by omega
      have HBB := Lib.hid hb
      generalize hcc : a0.data.toList[K + j] = x at *
      have HX := Lib.hid hcc
      clear hb hcc
      go_wp2_with fail
      go_region
      all_goals go_wp2_with fail
      all_goals go_roundw
      all_goals first | (simp [intOf]; omega; done) | skip
      all_goals
        have hset := HBB.out.set _ hlen (x ^^^ UInt8.ofNat (u / 256 ^ j))
        rw [← HX.out, turnI_set a0.data.toList K u j (by omega), HX.out, ← turn_bits] at hset
        exact ⟨j + 1, by omega, by go_num, hset, (hbe.setCell (by simp) _).drew⟩
    · obtain rfl : j = 4 := by omega
      rw [turnI_four _ _ _ (by omega)] at hb
      have hl4 : (turned a0.data.toList K u).length = a0.size := by rw [← turnI_four _ _ _ (by omega), turnI_length, hL]
      have HNE := Lib.hid (more_turned a0.data.toList K u 0 (by omega) hu)
      have CB := fun (w1 : World) (h : BB w1 B (turned a0.data.toList K u)) => conv_back w1 B cap _ h
      rw [hl4] at CB
      generalize turned a0.data.toList K u = T at *
      have t2 := tab_new wr
      have b2 : Below B w (wr.alloc (.cells (cellsC 0 0 0 0) 42)) := hbe.alloc (Nat.le_of_lt hb.lt) _
      have hsz : (wr.alloc (.cells (cellsC 0 0 0 0) 42)).heap.size = wr.heap.size + 1 := by simp
      have hb2 : BB (wr.alloc (.cells (cellsC 0 0 0 0) 42)) B T := hb.old (Below.heap_alloc _ _ _ hb.lt)
      have N := Lib.hid (new_any wr)
      have hBw := hb.lt
      clear hb hbe
      generalize wr.alloc (.cells (cellsC 0 0 0 0) 42) = w2 at *
      have hcb := CB w2 hb2
      have hT : (bs T).size ≤ 9223372036854775000 := by rw [← hl4] at hg2; rw [bs_size]; omega
      have S1 := Lib.hid (sum_any _ false (bs T) w2 hT t2)
      have S2 := fun w3 h => Lib.hid (sum_any wr.heap.size true a0 w3 (by omega) h)
      rw [bs_list] at S1
      have hx : more 0 T < 4294967296 := more_lt (by omega) _
      generalize more 0 T = x at *
      generalize more 0 a0.data.toList = y at *
      have hne : ((x : Int) == (y : Int)) = false := by
        have := HNE.out
        simp
        intro h
        exact hu0 (this (by omega))
      have hne2 : ((x : Int) != (y : Int)) = true := by rw [bne, hne]; rfl
      clear t2 CB hb2
      go_wp2_with fail
      refine N.out.mono ?_
      rintro e w' ⟨rfl, rfl⟩
      go_wp2_with fail
      refine S1.out.mono ?_
      rintro e w3 ⟨rfl, t3, o3⟩
      have b3 := b2.trans (o3.below (B := B) (by omega) (by omega))
      have hs3 := o3.size
      have S2' := S2 w3 t3
      clear t3 o3 S2
      go_wp2_with fail
      refine S2'.out.mono ?_
      rintro e w4 ⟨rfl, t4, o4⟩
      have b4 := b3.trans (o4.below (B := B) (by omega) (by omega))
      have hs4 := o4.size
      clear t4 o4
      go_wp2_with fail
      refine (awake_any _).mono ?_
      rintro e w5 ⟨rfl, b5⟩
      go_wp2_with fail
      go_ret
      exact ⟨rfl, by rw [HB.out]; exact b4.trans (b5.mono (by omega))⟩

/-! ### THE ROW's STEP: WRITTEN OUT: LEAVE IT -/
set_option maxRecDepth 100000 in
theorem lifted (os : Os) (started : os.Started) (H : Type) (enc : TypeId × Value → H) :
    ReturnsInHanded {} Try.checked os 5 .any (Rows.crcTellsSpec.pre6 enc Try.prog Try.f5 Rows.crcTellsRow.domain false) (Rows.crcTellsSpec.post enc Try.prog Try.f5 false true false false) := by
  refine returnsInHanded_of_change (C := Try.checked) own started (by kernel_rfl) Try.func5
    (ChangeSpec.witness6 (enc := enc) (C := Try.checked) false ⟨#[], #[.string ByteArray.empty, .int .i64 0, .int .u32 0], []⟩ 8 (by kernel_rfl) (by kernel_rfl) (by kernel_rfl) (by kernel_rfl)) ?_
  intro W base args ds gs before hval0 hW hcnd _
  have hval : ∀ (j : Nat) t v, Try.f5.params[j]? = some t → args[j]? = some v → Value.okWide Try.prog W .any base t v := hval0
  have hW' := hW
  obtain ⟨p, q, hA0, hV, rfl, hfz, hnd⟩ := hW
  have hA : DataW.TrodAll enc Try.prog W 0 (fun _ => true) true Try.f5.params.toList args.toList ds p := hA0
  rw [Try.params5] at hA hval
  obtain ⟨v0, vs0, d0, ds0, p0, q0, hargs, rfl, rfl, h0, r0⟩ := trodAll_cons hA
  obtain ⟨v1, vs1, d1, ds1, p1, q1, rfl, rfl, rfl, h1, r1⟩ := trodAll_cons r0
  obtain ⟨v2, vs2, d2, ds2, p2, q2, rfl, rfl, rfl, h2, r2⟩ := trodAll_cons r1
  obtain ⟨rfl, rfl, rfl⟩ := trodAll_nil r2
  obtain rfl : args = #[v0, v1, v2] := by cases args; simp_all
  obtain ⟨rfl, rfl⟩ := trodVars_none hV
  obtain ⟨a0, rfl, rfl, rfl, w0⟩ := open_string Try.underlying9 (hval 0 9 v0 rfl rfl) h0
  obtain ⟨a1, rfl, rfl, rfl, w1⟩ := open_int Try.underlying3 (hval 1 3 v1 rfl rfl) h1
  obtain ⟨a2, rfl, rfl, rfl, w2⟩ := open_int Try.underlying22 (hval 2 22 v2 rfl rfl) h2
  clear hA0 hval0
  simp only [List.append_nil] at hW'
  refine (walk a0 a1 a2 w0 w1 w2 W).mono fun e W' ⟨he, hg⟩ => ?_
  subst he
  exact ⟨_, rfl, _, _, _, [], [], [], hW', trodAll_mk1 (shut_bool Try.underlying4 _), (trodAll_cons_mk (shut_string Try.underlying9 w0) (trodAll_cons_mk (shut_int Try.underlying3 w1) (trodAll_cons_mk (shut_int Try.underlying22 w2) trodAll_mk0))), rfl, hg.frame _, fun h => by cases h⟩

theorem over : Rows.crcTellsRow.holds Try.pinned (OpenSpec.ofChange Rows.crcTellsSpec) :=
  OpenClaim.holds_of_wide 5 Try.f5 rfl rfl rfl rfl rfl rfl rfl ⟨rfl, rfl, rfl, rfl, rfl⟩ rfl rfl rfl rfl rfl (by kernel_rfl) Try.func5 (by kernel_rfl)
    (of_decide_eq_true (by kernel_rfl)) (by unfold Func.isWrapper; first | (rw [if_pos (by decide +kernel)]; kernel_rfl) | (rw [if_neg (by decide +kernel)]; exact ⟨rfl, rfl⟩))
    (fun os started H enc _ => lifted os started H enc)

/-- ████ THE STATEMENT ████ -/
theorem proved : Rows.CrcTellsSaid :=
  over
end Go.Proofs.Ytiddkpkhcopheaa.crcTells
