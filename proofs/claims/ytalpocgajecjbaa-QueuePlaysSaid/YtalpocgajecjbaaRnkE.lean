/- What the document's SameJobs comes to; equality of jobs. Conditions: lists of at most 100,000 jobs. -/
import Derived.Test.YtalpocgajecjbaaRnkD
import Derived.Test.YtalpocgajecjbaaSame
import Derived.Deep.LoopGhost
namespace Go.Proofs.Ytalpocgajecjbaa
open Go.ChangeShapes Go.WideShapes Go.ChangeAt Go.RowKit
set_option linter.unusedVariables false
set_option maxRecDepth 100000
set_option linter.unusedSimpArgs false

theorem jneed_same (d : Nat) (hd : d = 9999) (a b c : Int) (w : World) : (Op.equalIn d 35 (.agg #[.int .i64 a, .int .i64 b, .int .i64 c]) (.agg #[.int .i64 a, .int .i64 b, .int .i64 c])).run Try.prog w = .ok true w := by
  subst hd
  obtain ⟨i, hi, hz0, hz1, hz2⟩ := info_parts infoI64
  have h := run_equalIn_array (P := Try.prog) (w := w) 9998 (t := 35) (e := 3) (n := 3) #[.int .i64 a, .int .i64 b, .int .i64 c] #[.int .i64 a, .int .i64 b, .int .i64 c] (by kernel_rfl) hi
  rw [show Try.prog.cellsOf 3 = 1 by kernel_rfl, show List.range 3 = [0, 1, 2] from rfl] at h
  refine Eq.trans h ?_
  have hu : Try.prog.underlying 3 = some (.int .i64) := Try.underlying3
  simp [Op.eqItems, part, go_sem, hi, hz1, hu]
theorem jeq_same (x : Jb) (w : World) : (Op.equalIn 10000 37 (.agg #[.int .i64 x.id, .int .i64 x.prio, .int .i64 x.seq, .int .i64 x.phase, .int .i64 x.node, .int .i64 x.need.a, .int .i64 x.need.b, .int .i64 x.need.c]) (.agg #[.int .i64 x.id, .int .i64 x.prio, .int .i64 x.seq, .int .i64 x.phase, .int .i64 x.node, .int .i64 x.need.a, .int .i64 x.need.b, .int .i64 x.need.c])).run Try.prog w = .ok true w := by
  have u3 := Try.underlying3
  have a3 := Try.isAgg3
  have z3 := Try.sizeOf3
  have a5 := Try.isAgg35
  have z5 := Try.sizeOf35
  have hS : Try.prog.underlying 37 = some (.struct (Try.prog.fieldsOf 37)) := by kernel_rfl
  have hp : Try.prog.stoodInHeld 37 = false := by kernel_rfl
  have hn := fun w => jneed_same 9999 rfl x.need.a x.need.b x.need.c w
  rw [show (10000 : Nat) = 9999 + 1 from rfl, run_equalIn_struct w 9999 37 _ _ hS hp]
  simp only [Program.fieldsOf, Try.underlying37]
  simp [Op.eqFields, part, go_sem, hn]
set_option maxHeartbeats 2000000 in
theorem ksame_any (v u : Value) (l : List Jb) (K1 K2 : Nat → Prop) (w : World) (hn : l.length ≤ 1000000) (h1 : RdK 8 w K1 v (rowsJ l)) (h2 : RdK 8 w K2 u (rowsJ l)) :
    Calls Try.prog 16 #[v, u] w fun e w' => e = .returned (.bool true) ∧ Below w.heap.size w w' := by
  obtain ⟨A, c, rfl, _, _⟩ := h1.form
  obtain ⟨A', c', rfl, _, _⟩ := h2.form
  have H1 := Lib.hid fun k (hk : k < l.length) => j8_of h1 hk
  have H2 := Lib.hid fun k (hk : k < l.length) => j8_of h2 hk
  rw [rowsJ_len]
  clear h1 h2
  have e0 : ((l.length : Int) != (l.length : Int)) = false := by simp
  go_enter Try.func16, Try.ntmps16
  go_wp2_with fail
  go_loopw [5] (fun i wr => ∃ k : Nat, k ≤ l.length ∧ i = .int .i64 k ∧ Below w.heap.size w wr) (fun i _ => l.length - (intOf i).toNat)
  case atStart => exact ⟨0, by omega, rfl, Below.refl _ _⟩
  case round =>
    obtain ⟨k, hk, rfl, hb⟩ := hrel
    have HB := Lib.hid hb
    by_cases hlt : k < l.length
    · have dk : decide (k < l.length) = true := decide_eq_true hlt
      obtain ⟨b, o, rfl, hbl, hx⟩ := H1.out k hlt
      obtain ⟨b', o', rfl, hbl', hx'⟩ := H2.out k hlt
      obtain ⟨c0, c1, c2, c3, c4, c5, c6, c7⟩ := (hx k hlt).below hb hbl
      obtain ⟨d0, d1, d2, d3, d4, d5, d6, d7⟩ := (hx' k hlt).below hb hbl'
      have E1 := fun w => jeq_same l[k] w
      clear hx hx' hb
      generalize l[k] = x at *
      go_wp2_with fail
      go_quiet (fail)
      have HB2 := Lib.hid (show Below w.heap.size w (wr.drewN nq) from below_drewQ HB.out nq)
      generalize wr.drewN nq = w2 at *
      go_wp2_with fail
      go_roundw
      case rel => exact ⟨k + 1, by omega, by go_num, HB2.out⟩
      case measure => simp [intOf]; omega
    · obtain rfl : k = l.length := by omega
      have dk : decide (l.length < l.length) = false := decide_eq_false hlt
      clear hb
      go_wp2_with fail
      go_ret
      exact ⟨rfl, HB.out⟩
end Go.Proofs.Ytalpocgajecjbaa
