/- Fences, plain; what the document's own Pass comes to. Conditions: counts below a bound. -/
import Derived.Test.YtjpcghnhekafiaaKit
import Derived.Test.YtjpcghnhekafiaaNumB
import Derived.Test.YtjpcghnhekafiaaProg
import Derived.Laws.Rows
namespace Go.Proofs.Ytjpcghnhekafiaa
open Go.ChangeShapes Go.WideShapes Go.ChangeAt Go.RowKit
set_option linter.unusedVariables false
set_option maxRecDepth 100000
set_option linter.unusedSimpArgs false
set_option maxHeartbeats 2000000

/-- A fence: the greatest epoch that has passed, how many have, how many have not. -/
structure Fe where
  e : Int
  y : Int
  n : Int
def mayF (x : Fe) (k : Int) : Bool := decide (1 ≤ k) && decide (k ≤ 4294967295) && decide (x.e ≤ k)
def passF (x : Fe) (k : Int) : Fe := if mayF x k = true then ⟨k, x.y + 1, x.n⟩ else ⟨x.e, x.y, x.n + 1⟩
def fen0 : Fe := ⟨0, 0, 0⟩
def okF (x : Fe) : Prop := 0 ≤ x.e ∧ x.e ≤ 4294967295 ∧ 0 ≤ x.y ∧ 0 ≤ x.n
theorem passF_ok {x : Fe} (k : Int) (h : okF x) : okF (passF x k) := by
  unfold passF okF at *
  split
  · rename_i hm
    unfold mayF at hm
    simp at hm
    exact ⟨by show 0 ≤ k; omega, by show k ≤ 4294967295; omega, by show 0 ≤ x.y + 1; omega, h.2.2.2⟩
  · exact ⟨h.1, h.2.1, h.2.2.1, by show 0 ≤ x.n + 1; omega⟩
theorem passF_more (x : Fe) (k : Int) : (passF x k).y + (passF x k).n = x.y + x.n + 1 := by
  unfold passF
  split
  · show x.y + 1 + x.n = _; omega
  · show x.y + (x.n + 1) = _; omega
def fe3 (x : Fe) : Array Value := #[.int .i64 x.e, .int .i64 x.y, .int .i64 x.n]
theorem results_cf {P : Program} {fn : Func} {p u : Tmp} {ty : TypeId} (h : fn.results = #[.cell p ty, .tmp u]) {tmps : Array Value} {w : World} {g : Nat} {t : TypeId} {cs : Array Value} {d : TypeDesc} {x : Value}
    (hp : tmps.getD p undef = .pointer (some ⟨g, 0, none⟩)) (hx : tmps.getD u undef = x) (hg : w.heap[g]? = some (.cells cs t (0, 0)))
    (hu : P.underlying ty = some d) (hd : (match d with | .struct _ | .array _ _ => true | _ => false) = true) (hi : (P.info? ty).map (·.size) = some cs.size) : (results fn tmps).run P w = .ok (.tuple #[.agg cs, x]) w := by
  have hp' : tmps[p]?.getD undef = .pointer (some ⟨g, 0, none⟩) := by simpa using hp
  have hx' : tmps[u]?.getD undef = x := by simpa using hx
  simp [results, h, hp', hx', asAddr, run_loadVar_row w g t ty cs (0, 0) d hg hu hd hi]
theorem rfpass_any (x : Fe) (k : Int) (w : World) (h : okF x) (hy : x.y ≤ 1000000) (hn : x.n ≤ 1000000) :
    Calls Try.prog 7 #[.agg #[.int .i64 x.e, .int .i64 x.y, .int .i64 x.n], .int .i64 k] w fun e w' => e = .returned (.tuple #[.agg #[.int .i64 (passF x k).e, .int .i64 (passF x k).y, .int .i64 (passF x k).n], .bool (mayF x k)]) ∧ Below w.heap.size w w' := by
  have hb : ∀ (X Y : Obj) (a : World), Below a.heap.size a ((a.alloc X).alloc Y) := fun X Y a => ((Below.refl _ _).alloc (Nat.le_refl _) _).alloc (Nat.le_of_lt (by simp)) _
  have hn2 : ∀ (X Y : Obj), ((w.alloc X).alloc Y).heap[w.heap.size + 1]? = some Y := fun X Y => by
    have := blk_new (w.alloc X) Y
    rwa [show (w.alloc X).heap.size = w.heap.size + 1 by simp] at this
  obtain ⟨h1, h2, h3, h4⟩ := h
  have q1 : IntKind.i64.wrap (x.n + 1) = x.n + 1 := IntWalk.i64_in _ (by omega)
  have q2 : IntKind.i64.wrap (x.y + 1) = x.y + 1 := IntWalk.i64_in _ (by omega)
  have hun : undef = Value.tuple #[] := rfl
  unfold passF mayF
  have e1 : decide (k < 1) = !decide (1 ≤ k) := by by_cases q : 1 ≤ k <;> simp [q] <;> omega
  have e2 : decide (k > 4294967295) = !decide (k ≤ 4294967295) := by by_cases q : k ≤ 4294967295 <;> simp [q] <;> omega
  have e2' : decide (4294967295 < k) = !decide (k ≤ 4294967295) := e2
  have e3 : decide (k < x.e) = !decide (x.e ≤ k) := by by_cases q : x.e ≤ k <;> simp [q] <;> omega
  cases c1 : decide (1 ≤ k)
  all_goals cases c2 : decide (k ≤ 4294967295)
  all_goals cases c3 : decide (x.e ≤ k)
  all_goals
    rw [c1] at e1
    rw [c2] at e2 e2'
    rw [c3] at e3
    clear c1 c2 c3 h1 h2 h3 h4 hy hn
    simp only [Bool.not_true, Bool.not_false] at e1 e2 e2' e3
    go_enter Try.func7, Try.ntmps7
    go_wp2_with fail
    exact bodyPost_ret (results_cf rfl rfl rfl (hn2 _ _) Try.underlying36 rfl (by kernel_rfl)) rfl ⟨rfl, hb _ _ _⟩
end Go.Proofs.Ytjpcghnhekafiaa
