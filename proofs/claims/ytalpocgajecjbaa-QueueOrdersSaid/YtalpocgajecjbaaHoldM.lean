/- A region in the text's order: an operation that makes memory among the marked ones; a call that waits for marked ones. Conditions: as stated. -/
import Derived.Test.YtalpocgajecjbaaHold
import Derived.Sort.Grow
import Derived.Deep.Draws
import Derived.Test.YtalpocgajecjbaaKit
namespace Go.Proofs.Ytalpocgajecjbaa
open Go.RowKit Go.ChangeShapes Go.WideShapes Go.ChangeAt
open Go.Sort (grow)
set_option linter.unusedVariables false

section
variable {P : Program} {ops : Array Oper} {ps : List Nat} {C : List Bool → World → Prop}
theorem marks_pre {i : Nat} {o : Oper} {L : Array Bool} {pre : List Nat} (hi : ops[i]? = some o)
    (hpre : (pre.all fun q => match ps[q]? with | some j => o.after.any (fun e => Region.binds .any e && e.on == j) | none => false) = true) (hr : i ∈ Region.ready .any ops L) : ∀ q ∈ pre, (marks ps L)[q]? = some true := fun q hq => by
  have h1 := List.all_eq_true.1 hpre q hq
  unfold marks
  rw [List.getElem?_map]
  cases hj : ps[q]? with
  | none => rw [hj] at h1; cases h1
  | some j =>
    rw [hj] at h1
    simp only [Option.map_some]
    rw [ready_on hi hr h1]
/-- An operation that makes or turns memory and yields a value, the k-th of the marked ones. -/
theorem holdC_make {T : Act → Prop} {i : Nat} {o : Oper} {r : List Oper} {a : Act} {v : Value} (k : Nat) (pre : List Nat) (hi : ops[i]? = some o) (hk : ps[k]? = some i) (hnd : ps.Nodup) (hw : Region.wanted o (yielded ops a.tmps) = true)
    (hpre : (pre.all fun q => match ps[q]? with | some j => o.after.any (fun e => Region.binds .any e && e.on == j) | none => false) = true)
    (hv : ∀ m w, m[k]? = some false → (∀ q ∈ pre, m[q]? = some true) → C m w → ∃ w', (execOp a.eval o).run P w = .ok (.value v) w' ∧ C (m.set k true) w') (h : HoldC P ops ps C T (i + 1) r (a.put o.dst v)) : HoldC P ops ps C T i (o :: r) a :=
  ⟨v, .inl ⟨hw, fun L w hr hS => .inl (by
    obtain ⟨w', hrun, hC⟩ := hv _ w (by unfold marks; rw [List.getElem?_map, hk]; simp only [Option.map_some]; rw [ready_off hr]) (marks_pre hi hpre hr) hS.2
    exact ⟨w', hrun, by simpa using hS.1, by rw [marks_at hk hnd (ready_size hr)]; exact hC⟩)⟩, h⟩
/-- The same, with nothing to yield. -/
theorem holdC_turn {T : Act → Prop} {i : Nat} {o : Oper} {r : List Oper} {a : Act} (k : Nat) (pre : List Nat) (hi : ops[i]? = some o) (hk : ps[k]? = some i) (hnd : ps.Nodup) (hw : Region.wanted o (yielded ops a.tmps) = true)
    (hpre : (pre.all fun q => match ps[q]? with | some j => o.after.any (fun e => Region.binds .any e && e.on == j) | none => false) = true)
    (hv : ∀ m w, m[k]? = some false → (∀ q ∈ pre, m[q]? = some true) → C m w → ∃ w', (execOp a.eval o).run P w = .ok .skip w' ∧ C (m.set k true) w') (h : HoldC P ops ps C T (i + 1) r (a.put o.dst undef)) : HoldC P ops ps C T i (o :: r) a :=
  ⟨undef, .inl ⟨hw, fun L w hr hS => .inr (.inl (by
    obtain ⟨w', hrun, hC⟩ := hv _ w (by unfold marks; rw [List.getElem?_map, hk]; simp only [Option.map_some]; rw [ready_off hr]) (marks_pre hi hpre hr) hS.2
    exact ⟨w', hrun, rfl, by simpa using hS.1, by rw [marks_at hk hnd (ready_size hr)]; exact hC⟩))⟩, h⟩
/-- A read that waits for marked ones. -/
theorem holdC_valP {T : Act → Prop} {i : Nat} {o : Oper} {r : List Oper} {a : Act} {v : Value} (pre : List Nat) (hi : ops[i]? = some o) (hp : ps.contains i = false) (hw : Region.wanted o (yielded ops a.tmps) = true)
    (hpre : (pre.all fun q => match ps[q]? with | some j => o.after.any (fun e => Region.binds .any e && e.on == j) | none => false) = true)
    (hv : ∀ m w, (∀ q ∈ pre, m[q]? = some true) → C m w → (execOp a.eval o).run P w = .ok (.value v) w) (h : HoldC P ops ps C T (i + 1) r (a.put o.dst v)) : HoldC P ops ps C T i (o :: r) a :=
  ⟨v, .inl ⟨hw, fun L w hr hS => .inl ⟨w, hv _ w (marks_pre hi hpre hr) hS.2, by simpa using hS.1, by rw [marks_far hp]; exact hS.2⟩⟩, h⟩
/-- A call that waits for marked ones. -/
theorem holdC_callP {T : Act → Prop} {i : Nat} {o : Oper} {r : List Oper} {a : Act} {v : Value} {f : FuncId} {args : Array Value} (pre : List Nat) (hi : ops[i]? = some o) (hp : ps.contains i = false) (hw : Region.wanted o (yielded ops a.tmps) = true)
    (hpre : (pre.all fun q => match ps[q]? with | some j => o.after.any (fun e => Region.binds .any e && e.on == j) | none => false) = true)
    (hv : ∀ m w, C m w → (execOp a.eval o).run P w = .ok (.enter f args) w)
    (hc : ∀ m w, (∀ q ∈ pre, m[q]? = some true) → C m w → Calls P f args w fun e w' => e = .returned v ∧ C m w') (h : HoldC P ops ps C T (i + 1) r (a.put o.dst v)) : HoldC P ops ps C T i (o :: r) a :=
  ⟨v, .inl ⟨hw, fun L w hr hS => .inr (.inr ⟨f, args, w, hv _ w hS.2, (hc _ w (marks_pre hi hpre hr) hS.2).mono fun e w' ⟨he, hC⟩ => ⟨he, by simpa using hS.1, by rw [marks_far hp]; exact hC⟩⟩)⟩, h⟩
end
/-- One mark: the world ahead of it and behind it. -/
def oneC (w1 w2 : World) (m : List Bool) (w : World) : Prop := if m[0]? = some true then w = w2 else w = w1
theorem oneC_start (w1 w2 : World) : oneC w1 w2 ([0].map fun _ => false) w1 := by simp [oneC]
theorem oneC_off {w1 w2 w : World} {m : List Bool} (h : m[0]? = some false) (hC : oneC w1 w2 m w) : w = w1 := by
  unfold oneC at hC; rw [if_neg (by rw [h]; simp)] at hC; exact hC
theorem oneC_on {w1 w2 w : World} {m : List Bool} (h : m[0]? = some true) (hC : oneC w1 w2 m w) : w = w2 := by
  unfold oneC at hC; rw [if_pos h] at hC; exact hC
theorem oneC_set {w1 w2 : World} {m : List Bool} (h : m[0]? = some false) : oneC w1 w2 (m.set 0 true) w2 := by
  have : 0 < m.length := by
    rcases Nat.lt_or_ge 0 m.length with h' | h'
    · exact h'
    · rw [List.getElem?_eq_none h'] at h; cases h
  unfold oneC; rw [if_pos (by simp [this])]
theorem oneC_any {w1 w2 w : World} {m : List Bool} (hC : oneC w1 w2 m w) : w = w1 ∨ w = w2 := by
  unfold oneC at hC; split at hC
  · exact .inr hC
  · exact .inl hC
theorem blk_pair (w : World) (o1 o2 : Obj) : ((w.alloc o1).alloc o2).heap[w.heap.size]? = some o1 ∧ ((w.alloc o1).alloc o2).heap[w.heap.size + 1]? = some o2 :=
  ⟨blk_old _ (blk_new w _), by have := blk_new (w.alloc o1) o2; rwa [show (w.alloc o1).heap.size = w.heap.size + 1 by simp] at this⟩
/-- What only grew. -/
theorem grow_below (w : World) (q : Nat) (os : Array Obj)   : Below w.heap.size w (grow (w.drewN q) os) :=
  ⟨rfl, rfl, rfl, by simp [grow], fun k hk => by
    show (w.heap ++ os)[k]? = _
    rw [Array.getElem?_append_left hk]⟩
end Go.Proofs.Ytalpocgajecjbaa
