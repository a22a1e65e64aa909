/- The law LeaseNobody of the repository answers true for every input. No conditions. -/
import Derived.Test.YtcoclpghimcnfaaLeaW
import Derived.Deep.DeepCutAuto
import Derived.Deep.LoopGhost
import Derived.Deep.CutBlock
import Derived.StillTailTactics
import Derived.Test.YtcoclpghimcnfaaRows
import Derived.WalkKit
import Derived.ProofKit
import Derived.OpenShut
import Derived.Below
import Derived.ShutString
import Derived.Carry
import Derived.Test.YtcoclpghimcnfaaArgs
namespace Go.Proofs.Ytcoclpghimcnfaa.leaseNobody
open Go.ChangeShapes Go.WideShapes Go.ChangeAt Go.RowKit
open Go.ChangeMaps (open_string shut_string)
set_option linter.unusedVariables false
set_option linter.unusedSimpArgs false

theorem own : ownKnob Try.prog.godebug = none := by kernel_rfl
theorem laidOut : laidOutB Try.prog = true := by kernel_rfl

/-- What the law has laid: a zero store, and a row of two. -/
structure LN (wL w : World) : Prop where
  c0 : w.cell? ⟨wL.heap.size + 1, 0, none⟩ = some (.pointer none)
  c1 : w.cell? ⟨wL.heap.size + 1, 1, none⟩ = some (.pointer (some ⟨wL.heap.size, 0, none⟩))
  nob : Nob (.pointer (some ⟨wL.heap.size, 0, none⟩)) w
  siz : wL.heap.size + 1 < w.heap.size
  bel : Below wL.heap.size wL w
theorem LN.below {wL w w' : World} (h : LN wL w) (hb : Below w.heap.size w w') : LN wL w' :=
  ⟨(hb.cell (p := ⟨wL.heap.size + 1, 0, none⟩) h.siz).trans h.c0, (hb.cell (p := ⟨wL.heap.size + 1, 1, none⟩) h.siz).trans h.c1, h.nob.below hb, Nat.lt_of_lt_of_le h.siz hb.size, h.bel.trans (hb.mono h.bel.size)⟩
theorem ln_start (wL : World) (t : TypeId) : LN wL ((wL.alloc (.cells zstC 55)).alloc (.cells #[.pointer none, .pointer (some ⟨wL.heap.size, 0, none⟩)] t)) := by
  have e1 : (wL.alloc (.cells zstC 55)).heap.size = wL.heap.size + 1 := by simp
  have k := blk_new (wL.alloc (.cells zstC 55)) (.cells #[.pointer none, .pointer (some ⟨wL.heap.size, 0, none⟩)] t)
  rw [e1] at k
  exact ⟨by rw [blk_cell k]; rfl, by rw [blk_cell k]; rfl, .inr ⟨_, rfl, blk_old _ (blk_new _ _)⟩, by simp, ((Below.refl _ wL).alloc (Nat.le_refl _) _).alloc (by simp) _⟩

set_option maxRecDepth 100000 in
set_option maxHeartbeats 16000000 in
theorem walk (a0 : Int) (a1 : Int) (a2 : Int) (w : World) (w0 : (Lit.int .i64 a0).wf = true) (w1 : (Lit.int .i64 a1).wf = true) (w2 : (Lit.int .i64 a2).wf = true) :
    Calls Try.prog 5 #[.int .i64 a0, .int .i64 a1, .int .i64 a2] w fun e w' => e = .returned (.bool true) ∧ Below w.heap.size w w' := by
  have AW := Lib.hid fun w => lease_awake w
  have NA := Lib.hid (show ∀ v, v = Value.pointer none ∨ v = Value.pointer (some ⟨w.heap.size, 0, none⟩) → ∀ w', LN w w' → Calls Try.prog 10 #[v, .int .i64 a0, .int .i64 a1] w' fun e w2 => e = .returned (.tuple #[.int .i64 0, .int .i64 7]) ∧ LN w w2 from fun v hv w' h => (nlacq_any v a0 a1 w' (by rcases hv with rfl | rfl; exact .inl rfl; exact h.nob)).mono fun e w2 ⟨he, hb⟩ => ⟨he, h.below hb⟩)
  have NR := Lib.hid (show ∀ v, v = Value.pointer none ∨ v = Value.pointer (some ⟨w.heap.size, 0, none⟩) → ∀ w', LN w w' → Calls Try.prog 12 #[v, .int .i64 a0, .int .i64 a1, .int .i64 a2] w' fun e w2 => e = .returned (.int .i64 7) ∧ LN w w2 from fun v hv w' h => (nlren_any v a0 a1 a2 w' (by rcases hv with rfl | rfl; exact .inl rfl; exact h.nob)).mono fun e w2 ⟨he, hb⟩ => ⟨he, h.below hb⟩)
  have NL := Lib.hid (show ∀ v, v = Value.pointer none ∨ v = Value.pointer (some ⟨w.heap.size, 0, none⟩) → ∀ w', LN w w' → Calls Try.prog 14 #[v, .int .i64 a0, .int .i64 a1, .int .i64 a2] w' fun e w2 => e = .returned (.int .i64 7) ∧ LN w w2 from fun v hv w' h => (nlrel_any v a0 a1 a2 w' (by rcases hv with rfl | rfl; exact .inl rfl; exact h.nob)).mono fun e w2 ⟨he, hb⟩ => ⟨he, h.below hb⟩)
  have NG := Lib.hid (show ∀ v, v = Value.pointer none ∨ v = Value.pointer (some ⟨w.heap.size, 0, none⟩) → ∀ w', LN w w' → Calls Try.prog 16 #[v] w' fun e w2 => e = .returned (.agg #[.int .i64 0, .int .i64 0, .int .i64 0]) ∧ LN w w2 from fun v hv w' h => (nlget_any v w' (by rcases hv with rfl | rfl; exact .inl rfl; exact h.nob)).mono fun e w2 ⟨he, hb⟩ => ⟨he, h.below hb⟩)
  have NH := Lib.hid (show ∀ v, v = Value.pointer none ∨ v = Value.pointer (some ⟨w.heap.size, 0, none⟩) → ∀ w', LN w w' → Calls Try.prog 17 #[v, .int .i64 a0, .int .i64 a1, .int .i64 a2] w' fun e w2 => e = .returned (.bool false) ∧ LN w w2 from fun v hv w' h => (nlholds_any v a0 a1 a2 w' (by rcases hv with rfl | rfl; exact .inl rfl; exact h.nob)).mono fun e w2 ⟨he, hb⟩ => ⟨he, h.below hb⟩)
  have EQ : ∀ w : World, (Op.equalIn 10000 29 (.agg #[.int .i64 0, .int .i64 0, .int .i64 0]) (.agg #[.int .i64 0, .int .i64 0, .int .i64 0])).run Try.prog w = .ok true w := fun w => eqL_run w ⟨0, 0, 0⟩ ⟨0, 0, 0⟩
  have HS := Lib.hid fun t => ln_start w t
  clear w0 w1 w2
  go_enter Try.func5, Try.ntmps5
  go_wp2_with fail
  go_loopw [10, 11, 12] (fun i n e wr => ∃ k : Nat, k ≤ 2 ∧ i = .int .i64 (k : Int) ∧ LN w wr) (fun i _ _ _ => 2 - (intOf i).toNat)
  case atStart => exact ⟨0, by omega, rfl, HS.out _⟩
  case round =>
    obtain ⟨k, hk, rfl, hI⟩ := hrel
    clear HS
    obtain rfl | rfl | rfl : k = 0 ∨ k = 1 ∨ k = 2 := by omega
    · have g0 := hI.c0
      go_wp2_with fail
      refine (NA.out _ (.inl rfl) _ hI).mono ?_; clear hI g0; rintro e w2 ⟨rfl, hI⟩
      have g0 := hI.c0
      go_wp2_with fail
      refine (NR.out _ (.inl rfl) _ hI).mono ?_; clear hI g0; rintro e w3 ⟨rfl, hI⟩
      have g0 := hI.c0
      go_wp2_with fail
      refine (NL.out _ (.inl rfl) _ hI).mono ?_; clear hI g0; rintro e w4 ⟨rfl, hI⟩
      have g0 := hI.c0
      go_wp2_with fail
      refine (NG.out _ (.inl rfl) _ hI).mono ?_; clear hI g0; rintro e w5 ⟨rfl, hI⟩
      have g0 := hI.c0
      go_wp2_with fail
      refine (NH.out _ (.inl rfl) _ hI).mono ?_; clear hI g0; rintro e w6 ⟨rfl, hI⟩
      go_wp2_with fail
      exact ⟨⟨1, by omega, rfl, hI⟩, by decide⟩
    · have g0 := hI.c1
      go_wp2_with fail
      refine (NA.out _ (.inr rfl) _ hI).mono ?_; clear hI g0; rintro e w2 ⟨rfl, hI⟩
      have g0 := hI.c1
      go_wp2_with fail
      refine (NR.out _ (.inr rfl) _ hI).mono ?_; clear hI g0; rintro e w3 ⟨rfl, hI⟩
      have g0 := hI.c1
      go_wp2_with fail
      refine (NL.out _ (.inr rfl) _ hI).mono ?_; clear hI g0; rintro e w4 ⟨rfl, hI⟩
      have g0 := hI.c1
      go_wp2_with fail
      refine (NG.out _ (.inr rfl) _ hI).mono ?_; clear hI g0; rintro e w5 ⟨rfl, hI⟩
      have g0 := hI.c1
      go_wp2_with fail
      refine (NH.out _ (.inr rfl) _ hI).mono ?_; clear hI g0; rintro e w6 ⟨rfl, hI⟩
      go_wp2_with fail
      exact ⟨⟨2, by omega, rfl, hI⟩, by decide⟩
    · go_wp2_with fail
      refine (AW.out _).mono ?_; rintro e w3 ⟨rfl, hb⟩
      have HF := Lib.hid (hI.bel.trans (hb.mono hI.bel.size))
      clear hI hb
      go_wp2_with fail
      go_ret
      exact ⟨rfl, HF.out⟩

set_option maxRecDepth 100000 in
theorem lifted (os : Os) (started : os.Started) (H : Type) (enc : TypeId × Value → H) :
    ReturnsInHanded {} Try.checked os 5 .any (Rows.leaseNobodySpec.pre6 enc Try.prog Try.f5 Rows.leaseNobodyRow.domain false) (Rows.leaseNobodySpec.post enc Try.prog Try.f5 false true false false) := by
  refine returnsInHanded_of_change (C := Try.checked) own started (by kernel_rfl) Try.func5
    (ChangeSpec.witness6 (enc := enc) (C := Try.checked) false ⟨#[], #[.int .i64 0, .int .i64 0, .int .i64 0], []⟩ 8 (by kernel_rfl) (by kernel_rfl) (by kernel_rfl) (by kernel_rfl)) ?_
  intro W base args ds gs before hval0 hW hcnd _
  have hval : ∀ (j : Nat) t v, Try.f5.params[j]? = some t → args[j]? = some v → Value.okWide Try.prog W .any base t v := hval0
  have hW' := hW
  obtain ⟨p, q, hA0, hV, rfl, hfz, hnd⟩ := hW
  have hA : DataW.TrodAll enc Try.prog W 0 (fun _ => true) true Try.f5.params.toList args.toList ds p := hA0
  rw [Try.params5] at hA hval
  obtain ⟨v0, vs0, d0, ds0, p0, q0, hargs, rfl, rfl, h0, r0⟩ := trodAll_cons hA
  obtain ⟨v1, vs1, d1, ds1, p1, q1, rfl, rfl, rfl, h1, r1⟩ := trodAll_cons r0
  obtain ⟨v2, vs2, d2, ds2, p2, q2, rfl, rfl, rfl, h2, r2⟩ := trodAll_cons r1
  obtain ⟨rfl, rfl, rfl⟩ := trodAll_nil r2
  obtain rfl : args = #[v0, v1, v2] := by cases args; simp_all
  obtain ⟨rfl, rfl⟩ := trodVars_none hV
  obtain ⟨a0, rfl, rfl, rfl, w0⟩ := open_int Try.underlying3 (hval 0 3 v0 rfl rfl) h0
  obtain ⟨a1, rfl, rfl, rfl, w1⟩ := open_int Try.underlying3 (hval 1 3 v1 rfl rfl) h1
  obtain ⟨a2, rfl, rfl, rfl, w2⟩ := open_int Try.underlying3 (hval 2 3 v2 rfl rfl) h2
  clear hA0 hval0
  refine (walk a0 a1 a2 W w0 w1 w2).mono fun e W' ⟨he, bel⟩ => ?_
  subst he
  exact ⟨_, rfl, _, _, _, [], _, [], hW', trodAll_mk1 (shut_bool Try.underlying4 _), (trodAll_cons_mk (shut_int Try.underlying3 w0) (trodAll_cons_mk (shut_int Try.underlying3 w1) (trodAll_cons_mk (shut_int Try.underlying3 w2) trodAll_mk0))), rfl, bel.frame _, fun h => by cases h⟩

theorem over : Rows.leaseNobodyRow.holds Try.pinned (OpenSpec.ofChange Rows.leaseNobodySpec) :=
  OpenClaim.holds_of_wide 5 Try.f5 rfl rfl rfl rfl rfl rfl rfl ⟨rfl, rfl, rfl, rfl, rfl⟩ rfl rfl rfl rfl rfl (by kernel_rfl) Try.func5 (by kernel_rfl)
    (of_decide_eq_true (by kernel_rfl)) (by unfold Func.isWrapper; first | (rw [if_pos (by decide +kernel)]; kernel_rfl) | (rw [if_neg (by decide +kernel)]; exact ⟨rfl, rfl⟩))
    (fun os started H enc _ => lifted os started H enc)

/-- ████ THE STATEMENT ████ -/
theorem proved : Rows.LeaseNobodySaid := over
end Go.Proofs.Ytcoclpghimcnfaa.leaseNobody
