/- Plain facts on jobs and nodes and their order: no Go in sight. Conditions: as stated. -/
import Derived.Test.YtalpocgajecjbaaHpqPlain
import Derived.Test.YtalpocgajecjbaaStbPlain
namespace Go.Proofs.Ytalpocgajecjbaa
open Go.RowKit
open Go.Sort (SWO)
set_option linter.unusedVariables false
set_option linter.unusedSimpArgs false

/-- A job. -/
structure Jb where
  id : Int
  prio : Int
  seq : Int
  phase : Int
  node : Int
  need : V3
def Jb.ok (x : Jb) : Prop := inI x.id ∧ inI x.prio ∧ inI x.seq ∧ inI x.phase ∧ inI x.node ∧ x.need.ok
def Jb.row (x : Jb) : List Value := [.int .i64 x.id, .int .i64 x.prio, .int .i64 x.seq, .int .i64 x.phase, .int .i64 x.node, .int .i64 x.need.a, .int .i64 x.need.b, .int .i64 x.need.c]
def Jb.val (x : Jb) : Value := .agg #[.int .i64 x.id, .int .i64 x.prio, .int .i64 x.seq, .int .i64 x.phase, .int .i64 x.node, .int .i64 x.need.a, .int .i64 x.need.b, .int .i64 x.need.c]
def zeroJ : Jb := ⟨0, 0, 0, 0, 0, zero3⟩
instance : Inhabited Jb := ⟨zeroJ⟩
/-- Is one ahead of the other? -/
def jobB (x y : Jb) : Bool := if x.prio ≠ y.prio then decide (x.prio > y.prio) else if x.seq ≠ y.seq then decide (x.seq < y.seq) else decide (x.id < y.id)
def keyJ (x : Jb) : V3 := ⟨9223372036854775807 - max x.prio 0, x.seq, x.id⟩
def cmpJ (x y : Jb) : Int := if jobB x y = true then -1 else if jobB y x = true then 1 else 0
/-- A node. -/
structure Nd where
  id : Int
  inc : Int
  load : Int
  cap : V3
  used : V3
  up : Bool
def Nd.ok (x : Nd) : Prop := inI x.id ∧ inI x.inc ∧ inI x.load ∧ x.cap.ok ∧ x.used.ok
def Nd.row (x : Nd) : List Value := [.int .i64 x.id, .int .i64 x.inc, .int .i64 x.load, .int .i64 x.cap.a, .int .i64 x.cap.b, .int .i64 x.cap.c, .int .i64 x.used.a, .int .i64 x.used.b, .int .i64 x.used.c, .bool x.up]
def Nd.val (x : Nd) : Value := .agg #[.int .i64 x.id, .int .i64 x.inc, .int .i64 x.load, .int .i64 x.cap.a, .int .i64 x.cap.b, .int .i64 x.cap.c, .int .i64 x.used.a, .int .i64 x.used.b, .int .i64 x.used.c, .bool x.up]
def nodeB (x y : Nd) : Bool := if x.load ≠ y.load then decide (x.load < y.load) else decide (x.id < y.id)
def keyN (x : Nd) : V3 := ⟨x.load, x.id, 0⟩
/-- What is free of one number. -/
def freeI (c u : Int) : Int := if u < c then IntKind.i64.wrap (c - u) else 0
def freeV (x : Nd) : V3 := ⟨freeI x.cap.a x.used.a, freeI x.cap.b x.used.b, freeI x.cap.c x.used.c⟩
def ndTakes (x : Nd) (need : V3) : Bool := x.up && fitsB need (freeV x)
theorem jobB_iff (x y : Jb) : jobB x y = true ↔ y.prio < x.prio ∨ (x.prio = y.prio ∧ (x.seq < y.seq ∨ (x.seq = y.seq ∧ x.id < y.id))) := by
  unfold jobB
  split
  · rw [decide_eq_true_iff]; omega
  · split
    · rw [decide_eq_true_iff]; omega
    · rw [decide_eq_true_iff]; omega
theorem nodeB_iff (x y : Nd) : nodeB x y = true ↔ x.load < y.load ∨ (x.load = y.load ∧ x.id < y.id) := by
  unfold nodeB
  split
  · rw [decide_eq_true_iff]; omega
  · rw [decide_eq_true_iff]; omega
theorem not_iff {b : Bool} {p : Prop} (h : b = true ↔ p) : b = false ↔ ¬ p := by cases b <;> simp_all
theorem jobB_self (x : Jb) : jobB x x = false := by rw [not_iff (jobB_iff x x)]; omega
theorem nodeB_self (x : Nd) : nodeB x x = false := by rw [not_iff (nodeB_iff x x)]; omega
theorem jobB_trans {x y z : Jb} (h1 : jobB x y = true) (h2 : jobB y z = true) : jobB x z = true := by rw [jobB_iff] at *; omega
theorem nodeB_trans {x y z : Nd} (h1 : nodeB x y = true) (h2 : nodeB y z = true) : nodeB x z = true := by rw [nodeB_iff] at *; omega
theorem jobB_other (x y : Jb) (h : x.id ≠ y.id) : jobB x y = !jobB y x := by
  rw [Bool.eq_iff_iff, jobB_iff, Bool.not_eq_true', not_iff (jobB_iff y x)]; omega
theorem nodeB_other (x y : Nd) (h : x.id ≠ y.id) : nodeB x y = !nodeB y x := by
  rw [Bool.eq_iff_iff, nodeB_iff, Bool.not_eq_true', not_iff (nodeB_iff y x)]; omega
theorem jobB_asymm {x y : Jb} (h : jobB x y = true) : jobB y x = false := by rw [not_iff (jobB_iff y x)]; rw [jobB_iff] at h; omega
theorem keyJ_less (x y : Jb) (hx : 0 ≤ x.prio) (hy : 0 ≤ y.prio) : lessB (keyJ x) (keyJ y) = jobB x y := by
  rw [Bool.eq_iff_iff, lessB_iff, jobB_iff]; unfold keyJ; dsimp only; omega
theorem keyN_less (x y : Nd) : lessB (keyN x) (keyN y) = nodeB x y := by
  rw [Bool.eq_iff_iff, lessB_iff, nodeB_iff]; unfold keyN; dsimp only; omega
theorem swoJ : SWO jobB where
  irrefl := jobB_self
  trans x y z := jobB_trans
  ntrans x y z h1 h2 := by rw [not_iff (jobB_iff _ _)] at *; omega
theorem cmpJ_lt (x y : Jb) : decide (cmpJ x y < 0) = jobB x y := by
  unfold cmpJ
  cases jobB x y
  · cases jobB y x <;> rfl
  · rfl
theorem freeI_in (c u : Int) : inI (freeI c u) := by
  unfold freeI inI
  split
  · have h1 := IntKind.wrap_i64 (c - u); omega
  · omega
theorem freeV_ok (x : Nd) : (freeV x).ok := ⟨freeI_in _ _, freeI_in _ _, freeI_in _ _⟩
end Go.Proofs.Ytalpocgajecjbaa
