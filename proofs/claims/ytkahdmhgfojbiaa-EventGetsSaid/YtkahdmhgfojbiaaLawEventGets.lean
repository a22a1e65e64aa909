/- The law EventGets of the repository answers true for every input. No conditions. -/
import Derived.Test.YtkahdmhgfojbiaaEvtW
import Derived.Test.YtkahdmhgfojbiaaArgs
import Derived.Test.YtkahdmhgfojbiaaRows
import Derived.WalkKit
import Derived.ProofKit
import Derived.OpenShut
import Derived.Below
import Derived.ShutString
import Derived.Carry
import Derived.Test.YtkahdmhgfojbiaaArgs
namespace Go.Proofs.Ytkahdmhgfojbiaa.eventGets
open Go.ChangeShapes Go.WideShapes Go.ChangeAt Go.RowKit
open Go.ChangeMaps (open_string shut_string)
set_option linter.unusedVariables false
set_option linter.unusedSimpArgs false

theorem own : ownKnob Try.prog.godebug = none := by kernel_rfl
theorem laidOut : laidOutB Try.prog = true := by kernel_rfl

set_option maxRecDepth 100000 in
set_option maxHeartbeats 16000000 in
theorem walk (a0 : ByteArray) (w : World) (w0 : a0.size ≤ maxLen) :
    Calls Try.prog 4 #[.string a0] w fun e w' => e = .returned (.bool true) ∧ Below w.heap.size w w' := by
  have AW := Lib.hid fun w => event_awake w
  by_cases hlen : a0.size ≤ 200
  · have G := Lib.hid fun w => evget_any a0 w (by omega)
    have R := Lib.hid fun w => rgetE_any a0 w (by omega)
    have dl : decide (a0.size > 200) = false := decide_eq_false (by omega)
    have dl2 : decide (200 < a0.size) = false := dl
    have dl3 : decide ((a0.size : Int) > 200) = false := decide_eq_false (by omega)
    have dl4 : decide (200 < (a0.size : Int)) = false := dl3
    generalize (getE a0.data.toList).1 = x at *
    generalize (getE a0.data.toList).2 = r at *
    have ER : ∀ w' : World, (Op.equalIn 9999 23 (.agg #[.int .i64 x.r.a, .int .i64 x.r.b, .int .i64 x.r.c]) (.agg #[.int .i64 x.r.a, .int .i64 x.r.b, .int .i64 x.r.c])).run Try.prog w' = .ok true w' := fun w' => by rw [eqRes_run, (eq3_iff x.r x.r).2 rfl]
    have al : ∀ (X : Obj) (a : World), Below w.heap.size w a → Below w.heap.size w (a.alloc X) := fun X a h => h.alloc h.size X
    unfold Evt.val at G R
    obtain ⟨cs, hcs⟩ : ∃ cs, cs = x.cells := ⟨_, rfl⟩
    go_enter Try.func4, Try.ntmps4
    go_wp2_with fail
    refine (G.out _).mono ?_; rintro e w1 ⟨rfl, hB⟩
    have X1 := Lib.hid (blk_new w1 (.cells x.cells 25))
    have hB1 := Lib.hid (al (.cells x.cells 25) _ hB)
    clear hB
    go_wp2_with fail
    refine (R.out _).mono ?_; rintro e w2 ⟨rfl, hB⟩
    rw [World.size_alloc] at hB
    have hl2 : w1.heap.size + 1 ≤ w2.heap.size := by have := hB.size; simpa using this
    have X2 := Lib.hid (blk_old (.cells x.cells 25) (blk_below hB X1.out (by omega)))
    have hB2 := Lib.hid (al (.cells x.cells 25) _ (hB1.out.trans (hB.mono (by have := hB1.out.size; simpa using this))))
    clear hB hcs
    have hc := evt_cells X2.out
    unfold Evt.cells at hc hB2
    obtain ⟨x0, x1, x2, x3, x4, x5, x6, x7⟩ := hc
    clear X1 X2 hB1
    go_wp2_with fail
    refine (AW.out _).mono ?_; rintro e w3 ⟨rfl, hB⟩
    have hB3 := Lib.hid (hB2.out.trans (hB.mono hB2.out.size))
    clear hB
    go_wp2_with fail
    go_ret
    exact ⟨rfl, hB3.out⟩
  · have dl : decide (a0.size > 200) = true := decide_eq_true (by omega)
    have dl2 : decide (200 < a0.size) = true := dl
    have dl3 : decide ((a0.size : Int) > 200) = true := decide_eq_true (by omega)
    have dl4 : decide (200 < (a0.size : Int)) = true := dl3
    go_enter Try.func4, Try.ntmps4
    go_wp2_with fail
    refine (AW.out _).mono ?_; rintro e w3 ⟨rfl, hB⟩
    have hB3 := Lib.hid hB
    clear hB
    go_wp2_with fail
    go_ret
    exact ⟨rfl, hB3.out⟩

set_option maxRecDepth 100000 in
theorem lifted (os : Os) (started : os.Started) (H : Type) (enc : TypeId × Value → H) :
    ReturnsInHanded {} Try.checked os 4 .any (Rows.eventGetsSpec.pre6 enc Try.prog Try.f4 Rows.eventGetsRow.domain false) (Rows.eventGetsSpec.post enc Try.prog Try.f4 false true false false) := by
  refine returnsInHanded_of_change (C := Try.checked) own started (by kernel_rfl) Try.func4
    (ChangeSpec.witness6 (enc := enc) (C := Try.checked) false ⟨#[], #[.string ByteArray.empty], []⟩ 8 (by kernel_rfl) (by kernel_rfl) (by kernel_rfl) (by kernel_rfl)) ?_
  intro W base args ds gs before hval0 hW hcnd _
  have hval : ∀ (j : Nat) t v, Try.f4.params[j]? = some t → args[j]? = some v → Value.okWide Try.prog W .any base t v := hval0
  have hW' := hW
  obtain ⟨p, q, hA0, hV, rfl, hfz, hnd⟩ := hW
  have hA : DataW.TrodAll enc Try.prog W 0 (fun _ => true) true Try.f4.params.toList args.toList ds p := hA0
  rw [Try.params4] at hA hval
  obtain ⟨v0, vs0, d0, ds0, p0, q0, hargs, rfl, rfl, h0, r0⟩ := trodAll_cons hA
  obtain ⟨rfl, rfl, rfl⟩ := trodAll_nil r0
  obtain rfl : args = #[v0] := by cases args; simp_all
  obtain ⟨rfl, rfl⟩ := trodVars_none hV
  obtain ⟨a0, rfl, rfl, rfl, w0⟩ := open_string Try.underlying9 (hval 0 9 v0 rfl rfl) h0
  clear hA0 hval0
  refine (walk a0 W w0).mono fun e W' ⟨he, bel⟩ => ?_
  subst he
  exact ⟨_, rfl, _, _, _, [], _, [], hW', trodAll_mk1 (shut_bool Try.underlying4 _), (trodAll_cons_mk (shut_string Try.underlying9 w0) trodAll_mk0), rfl, bel.frame _, fun h => by cases h⟩

theorem over : Rows.eventGetsRow.holds Try.pinned (OpenSpec.ofChange Rows.eventGetsSpec) :=
  OpenClaim.holds_of_wide 4 Try.f4 rfl rfl rfl rfl rfl rfl rfl ⟨rfl, rfl, rfl, rfl, rfl⟩ rfl rfl rfl rfl rfl (by kernel_rfl) Try.func4 (by kernel_rfl)
    (of_decide_eq_true (by kernel_rfl)) (by unfold Func.isWrapper; first | (rw [if_pos (by decide +kernel)]; kernel_rfl) | (rw [if_neg (by decide +kernel)]; exact ⟨rfl, rfl⟩))
    (fun os started H enc _ => lifted os started H enc)

/-- ████ THE STATEMENT ████ -/
theorem proved : Rows.EventGetsSaid := over
end Go.Proofs.Ytkahdmhgfojbiaa.eventGets
