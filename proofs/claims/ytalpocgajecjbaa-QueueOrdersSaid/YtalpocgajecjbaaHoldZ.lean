/- A region that draws its order and holds calls whose results hang on the world and slices written out (which may be made ahead of an earlier call): taken in the text's order. Conditions: as stated. -/
import Derived.Test.YtalpocgajecjbaaHoldX
namespace Go.Proofs.Ytalpocgajecjbaa
open Go.RowKit
set_option linter.unusedVariables false

/-- A slice written out. -/
def isMk (o : Oper) : Bool := match o.op with
  | .buildSlice _ _ _ => true
  | _ => false
section
variable {P : Program} {ops : Array Oper} {Q : Exit → Act → World → Prop} {G : Nat → Value → World → Prop}
/-- What only reads, or is not wanted. -/
def StR (P : Program) (ops : Array Oper) (S : Array Bool → World → Prop) (i : Nat) (o : Oper) (v : Value) (a : Act) : Prop :=
  (Region.wanted o (yielded ops a.tmps) = true ∧ isMk o = false ∧ ∀ L w, i ∈ Region.ready .any ops L → S L w → ((execOp a.eval o).run P w = .ok (.value v) w ∨ ((execOp a.eval o).run P w = .ok .skip w ∧ v = undef)) ∧ S (L.setIfInBounds i true) w) ∨
  (Region.wanted o (yielded ops a.tmps) = false ∧ v = undef ∧ ∀ L w, i ∈ Region.ready .any ops L → S L w → S (L.setIfInBounds i true) w)
/-- A call that yields one value. -/
def StC (P : Program) (ops : Array Oper) (S : Array Bool → World → Prop) (i : Nat) (o : Oper) (v : Value) (a : Act) : Prop :=
  Region.wanted o (yielded ops a.tmps) = true ∧ isFn o = true ∧ ∀ L w, i ∈ Region.ready .any ops L → S L w → ∃ f args, (execOp a.eval o).run P w = .ok (.enter f args) w ∧ Calls P f args w fun e w' => e = .returned v ∧ Below w.heap.size w w' ∧ S (L.setIfInBounds i true) w'
/-- A call that yields any value of which something is known. -/
def StE (P : Program) (ops : Array Oper) (S : Array Bool → World → Prop) (i : Nat) (o : Oper) (F : Value → World → Prop) (a : Act) : Prop :=
  Region.wanted o (yielded ops a.tmps) = true ∧ isFn o = true ∧ ∀ L w, i ∈ Region.ready .any ops L → S L w → ∃ f args, (execOp a.eval o).run P w = .ok (.enter f args) w ∧ Calls P f args w fun e w' => ∃ v, e = .returned v ∧ Below w.heap.size w w' ∧ S (L.setIfInBounds i true) w' ∧ F v w'
/-- A slice that is made. -/
def StM (P : Program) (ops : Array Oper) (S : Array Bool → World → Prop) (i : Nat) (o : Oper) (F : Value → World → Prop) (a : Act) : Prop :=
  Region.wanted o (yielded ops a.tmps) = true ∧ isMk o = true ∧ ∀ L w, i ∈ Region.ready .any ops L → S L w → ∃ v w', (execOp a.eval o).run P w = .ok (.value v) w' ∧ Below w.heap.size w w' ∧ S (L.setIfInBounds i true) w' ∧ F v w'
theorem mk_fn {o : Oper} (h : isMk o = true) : isFn o = false := by
  unfold isMk at h
  unfold isFn
  split at h
  · rename_i he; rw [he]
  · cases h
theorem plusS_swap (S : Array Bool → World → Prop) (i j : Nat) (F F' : World → Prop) : plusS (plusS S i F) j F' = plusS (plusS S j F') i F := by
  funext L w
  exact propext ⟨fun h => ⟨⟨h.1.1, h.2⟩, h.1.2⟩, fun h => ⟨⟨h.1.1, h.2⟩, h.1.2⟩⟩
section
variable {S : Array Bool → World → Prop} {i j : Nat} {o : Oper} {v : Value} {a a' : Act} {F : Value → World → Prop} {F' : World → Prop}
theorem StR.of_same (hy : StR P ops S i o v a) (he : execOp a'.eval o = execOp a.eval o) (hw : Region.wanted o (yielded ops a'.tmps) = Region.wanted o (yielded ops a.tmps)) : StR P ops S i o v a' := by
  unfold StR at *; rw [he, hw]; exact hy
theorem StC.of_same (hy : StC P ops S i o v a) (he : execOp a'.eval o = execOp a.eval o) (hw : Region.wanted o (yielded ops a'.tmps) = Region.wanted o (yielded ops a.tmps)) : StC P ops S i o v a' := by
  unfold StC at *; rw [he, hw]; exact hy
theorem StE.of_same (hy : StE P ops S i o F a) (he : execOp a'.eval o = execOp a.eval o) (hw : Region.wanted o (yielded ops a'.tmps) = Region.wanted o (yielded ops a.tmps)) : StE P ops S i o F a' := by
  unfold StE at *; rw [he, hw]; exact hy
theorem StM.of_same (hy : StM P ops S i o F a) (he : execOp a'.eval o = execOp a.eval o) (hw : Region.wanted o (yielded ops a'.tmps) = Region.wanted o (yielded ops a.tmps)) : StM P ops S i o F a' := by
  unfold StM at *; rw [he, hw]; exact hy
theorem StR.more (hy : StR P ops S i o v a) (hij : i ≠ j) : StR P ops (plusS S j F') i o v a := by
  rcases hy with ⟨hw, hm, h⟩ | ⟨hw, hv, h⟩
  · refine .inl ⟨hw, hm, fun L w hr hS => ⟨(h L w hr hS.1).1, (h L w hr hS.1).2, ?_⟩⟩
    rw [getD_set_ne true hij]; exact hS.2
  · refine .inr ⟨hw, hv, fun L w hr hS => ⟨h L w hr hS.1, ?_⟩⟩
    rw [getD_set_ne true hij]; exact hS.2
theorem plus_step (hK : Kept F') (hij : i ≠ j) {L : Array Bool} {w w' : World} (hS : L.getD j true = true → F' w) (hb : Below w.heap.size w w') : (L.setIfInBounds i true).getD j true = true → F' w' := by
  rw [getD_set_ne true hij]; exact fun h => hK _ _ (hS h) hb
theorem StC.more (hy : StC P ops S i o v a) (hK : Kept F') (hij : i ≠ j) : StC P ops (plusS S j F') i o v a := by
  refine ⟨hy.1, hy.2.1, fun L w hr hS => ?_⟩
  obtain ⟨f, args, h1, h2⟩ := hy.2.2 L w hr hS.1
  exact ⟨f, args, h1, h2.mono fun e w' ⟨he, hb, hs⟩ => ⟨he, hb, hs, plus_step hK hij hS.2 hb⟩⟩
theorem StE.more (hy : StE P ops S i o F a) (hK : Kept F') (hij : i ≠ j) : StE P ops (plusS S j F') i o F a := by
  refine ⟨hy.1, hy.2.1, fun L w hr hS => ?_⟩
  obtain ⟨f, args, h1, h2⟩ := hy.2.2 L w hr hS.1
  exact ⟨f, args, h1, h2.mono fun e w' ⟨v, he, hb, hs, hF⟩ => ⟨v, he, hb, ⟨hs, plus_step hK hij hS.2 hb⟩, hF⟩⟩
theorem StM.more (hy : StM P ops S i o F a) (hK : Kept F') (hij : i ≠ j) : StM P ops (plusS S j F') i o F a := by
  refine ⟨hy.1, hy.2.1, fun L w hr hS => ?_⟩
  obtain ⟨v, w', h1, hb, hs, hF⟩ := hy.2.2 L w hr hS.1
  exact ⟨v, w', h1, hb, ⟨hs, plus_step hK hij hS.2 hb⟩, hF⟩
end
/-- The operations that are left, in the text's order. -/
def HoldZ (P : Program) (ops : Array Oper) (G : Nat → Value → World → Prop) (T : Act → (Array Bool → World → Prop) → Prop) : List Nat → Act → (Array Bool → World → Prop) → Prop
  | [], a, S => T a S
  | i :: r, a, S => ∃ o, ops[i]? = some o ∧ ((∃ v, StR P ops S i o v a ∧ HoldZ P ops G T r (a.put o.dst v) S) ∨ (∃ v, StC P ops S i o v a ∧ HoldZ P ops G T r (a.put o.dst v) S) ∨
      (∃ F : Value → World → Prop, StE P ops S i o F a ∧ ∀ v, HoldZ P ops G T r (a.put o.dst v) (plusS S i (F v))) ∨ (StM P ops S i o (G i) a ∧ ∀ v, HoldZ P ops G T r (a.put o.dst v) (plusS S i (G i v))))
/-- What becomes of number j, no call, taken now. -/
def OutN (P : Program) (ops : Array Oper) (G : Nat → Value → World → Prop) (T : Act → (Array Bool → World → Prop) → Prop) (L : Array Bool) (w : World) (j : Nat) (o : Oper) (l : List Nat) (a : Act) (S : Array Bool → World → Prop) : Prop :=
  (∃ v, ((Region.wanted o (yielded ops a.tmps) = true ∧ isMk o = false ∧ ((execOp a.eval o).run P w = .ok (.value v) w ∨ ((execOp a.eval o).run P w = .ok .skip w ∧ v = undef))) ∨ (Region.wanted o (yielded ops a.tmps) = false ∧ v = undef)) ∧ S (L.setIfInBounds j true) w ∧ HoldZ P ops G T l (a.put o.dst v) S) ∨
  (Region.wanted o (yielded ops a.tmps) = true ∧ isMk o = true ∧ ∃ v w', (execOp a.eval o).run P w = .ok (.value v) w' ∧ Below w.heap.size w w' ∧ S (L.setIfInBounds j true) w' ∧ G j v w' ∧ HoldZ P ops G T l (a.put o.dst v) (plusS S j (G j v)))
theorem HoldZ.pickN {T : Act → (Array Bool → World → Prop) → Prop} (hsel : Region.noSelect ops = true) (hG : ∀ j v, Kept (G j v)) {L : Array Bool} {w : World} {j : Nat} {oj : Oper} (hj : ops[j]? = some oj) (hnf : isFn oj = false) (hr : j ∈ Region.ready .any ops L) {l2 : List Nat} :
    ∀ (l1 : List Nat) (a : Act) (S : Array Bool → World → Prop), (∀ i ∈ l1, i ≠ j ∧ L.getD i true = false ∧ ∀ oi, ops[i]? = some oi → oi.apart ops oj = true) → S L w → HoldZ P ops G T (l1 ++ j :: l2) a S →
      OutN P ops G T L w j oj (l1 ++ l2) a S
  | [], a, S, _, hS, h => by
    obtain ⟨o, ho, h⟩ := h
    obtain rfl : o = oj := Option.some.inj (ho.symm.trans hj)
    rcases h with ⟨v, hy, h⟩ | ⟨v, ⟨_, hf, _⟩, _⟩ | ⟨F, ⟨_, hf, _⟩, _⟩ | ⟨⟨hw, hm, hy⟩, h⟩
    · rcases hy with ⟨hw, hm, hy⟩ | ⟨hw, hv, hy⟩
      · exact .inl ⟨v, .inl ⟨hw, hm, (hy L w hr hS).1⟩, (hy L w hr hS).2, h⟩
      · exact .inl ⟨v, .inr ⟨hw, hv⟩, hy L w hr hS, h⟩
    · rw [hnf] at hf; cases hf
    · rw [hnf] at hf; cases hf
    · obtain ⟨v, w', h1, hb, hs, hg⟩ := hy L w hr hS
      exact .inr ⟨hw, hm, v, w', h1, hb, hs, hg, h v⟩
  | i :: l1, a, S, hap, hS, h => by
    obtain ⟨o, ho, h⟩ := h
    obtain ⟨hne, hun, hio⟩ := hap i (by simp)
    have hapt := hio o ho
    obtain ⟨h1, h2', h3⟩ := Oper.apart_spec hapt
    have hso := Region.noSelect_spec hsel i o
    have hsj := Region.noSelect_spec hsel j oj
    have hap' : ∀ k ∈ l1, k ≠ j ∧ L.getD k true = false ∧ ∀ oi, ops[k]? = some oi → oi.apart ops oj = true := fun k hk => hap k (by simp [hk])
    have ej : ∀ v, execOp (a.put o.dst v).eval oj = execOp a.eval oj := fun v => execOp_put oj (fun cs b => hsj cs b hj) a o.dst v h1
    have wj : ∀ v, Region.wanted oj (yielded ops (a.put o.dst v).tmps) = Region.wanted oj (yielded ops a.tmps) := fun v => wanted_put oj a o.dst v h1
    have ei : ∀ u, execOp (a.put oj.dst u).eval o = execOp a.eval o := fun u => execOp_put o (fun cs b => hso cs b ho) a oj.dst u h3
    have wi : ∀ u, Region.wanted o (yielded ops (a.put oj.dst u).tmps) = Region.wanted o (yielded ops a.tmps) := fun u => wanted_put o a oj.dst u h3
    have cm : ∀ v u, (a.put o.dst v).put oj.dst u = (a.put oj.dst u).put o.dst v := fun v u => Act.put_comm a v u (fun d hd hd2 => h2' d hd hd2)
    -- one value: the same for reads and for calls
    have one : ∀ v, OutN P ops G T L w j oj (l1 ++ l2) (a.put o.dst v) S → (∀ u, StR P ops S i o v (a.put oj.dst u) ∨ StC P ops S i o v (a.put oj.dst u)) → (∀ u, StR P ops (plusS S j (G j u)) i o v (a.put oj.dst u) ∨ StC P ops (plusS S j (G j u)) i o v (a.put oj.dst u)) → OutN P ops G T L w j oj (i :: l1 ++ l2) a S := fun v ih hA hB => by
      unfold OutN at ih
      rw [ej, wj] at ih
      rcases ih with ⟨u, hu, hs, hh⟩ | ⟨hw, hm, u, w', hu, hb, hs, hg, hh⟩
      · refine .inl ⟨u, hu, hs, o, ho, ?_⟩
        rw [cm] at hh
        rcases hA u with h | h
        · exact .inl ⟨v, h, hh⟩
        · exact .inr (.inl ⟨v, h, hh⟩)
      · refine .inr ⟨hw, hm, u, w', hu, hb, hs, hg, o, ho, ?_⟩
        rw [cm] at hh
        rcases hB u with h | h
        · exact .inl ⟨v, h, hh⟩
        · exact .inr (.inl ⟨v, h, hh⟩)
    -- any value
    have any : ∀ (F : Value → World → Prop), (∀ v, OutN P ops G T L w j oj (l1 ++ l2) (a.put o.dst v) (plusS S i (F v))) →
        (∃ u, ((Region.wanted oj (yielded ops a.tmps) = true ∧ isMk oj = false ∧ ((execOp a.eval oj).run P w = .ok (.value u) w ∨ ((execOp a.eval oj).run P w = .ok .skip w ∧ u = undef))) ∨ (Region.wanted oj (yielded ops a.tmps) = false ∧ u = undef)) ∧ S (L.setIfInBounds j true) w ∧ ∀ v, HoldZ P ops G T (l1 ++ l2) ((a.put oj.dst u).put o.dst v) (plusS S i (F v))) ∨
        (Region.wanted oj (yielded ops a.tmps) = true ∧ isMk oj = true ∧ ∃ u w', (execOp a.eval oj).run P w = .ok (.value u) w' ∧ Below w.heap.size w w' ∧ S (L.setIfInBounds j true) w' ∧ G j u w' ∧ ∀ v, HoldZ P ops G T (l1 ++ l2) ((a.put oj.dst u).put o.dst v) (plusS (plusS S j (G j u)) i (F v))) := fun F ih => by
      have key : ∀ v, (∃ u, ((Region.wanted oj (yielded ops a.tmps) = true ∧ isMk oj = false ∧ ((execOp a.eval oj).run P w = .ok (.value u) w ∨ ((execOp a.eval oj).run P w = .ok .skip w ∧ u = undef))) ∨ (Region.wanted oj (yielded ops a.tmps) = false ∧ u = undef)) ∧ S (L.setIfInBounds j true) w ∧ HoldZ P ops G T (l1 ++ l2) ((a.put oj.dst u).put o.dst v) (plusS S i (F v))) ∨
          (Region.wanted oj (yielded ops a.tmps) = true ∧ isMk oj = true ∧ ∃ u w', (execOp a.eval oj).run P w = .ok (.value u) w' ∧ Below w.heap.size w w' ∧ S (L.setIfInBounds j true) w' ∧ G j u w' ∧ HoldZ P ops G T (l1 ++ l2) ((a.put oj.dst u).put o.dst v) (plusS (plusS S j (G j u)) i (F v))) := fun v => by
        have ihv := ih v
        unfold OutN at ihv
        rw [ej, wj] at ihv
        rcases ihv with ⟨u, hu, hs, hh⟩ | ⟨hw, hm, u, w', hu, hb, hs, hg, hh⟩
        · exact .inl ⟨u, hu, hs.1, by rw [← cm]; exact hh⟩
        · exact .inr ⟨hw, hm, u, w', hu, hb, hs.1, hg, by rw [← cm, ← plusS_swap]; exact hh⟩
      rcases key undef with ⟨u, hu, hs, _⟩ | ⟨hw, hm, u, w', hu, hb, hs, hg, _⟩
      · refine .inl ⟨u, hu, hs, fun v => ?_⟩
        rcases key v with ⟨u', hu', _, hh⟩ | ⟨hw', hm', u', w', hu', _⟩
        · have : u' = u := by
            rcases hu with ⟨hw, _, hu⟩ | ⟨hw, hu⟩ <;> rcases hu' with ⟨hw', _, hu'⟩ | ⟨hw', hu'⟩
            · rcases hu with hu | ⟨hu, e⟩ <;> rcases hu' with hu' | ⟨hu', e'⟩
              · rw [hu] at hu'; cases hu'; rfl
              · rw [hu] at hu'; cases hu'
              · rw [hu] at hu'; cases hu'
              · rw [e, e']
            · rw [hw] at hw'; cases hw'
            · rw [hw] at hw'; cases hw'
            · rw [hu, hu']
          rw [← this]; exact hh
        · rcases hu with ⟨_, hm, _⟩ | ⟨hw, _⟩
          · rw [hm] at hm'; cases hm'
          · rw [hw] at hw'; cases hw'
      · refine .inr ⟨hw, hm, u, w', hu, hb, hs, hg, fun v => ?_⟩
        rcases key v with ⟨u', hu', _, hh⟩ | ⟨hw', hm', u', w2, hu', hb', hs', hg', hh⟩
        · rcases hu' with ⟨_, hm', _⟩ | ⟨hw', _⟩
          · rw [hm] at hm'; cases hm'
          · rw [hw] at hw'; cases hw'
        · rw [hu] at hu'
          cases hu'
          exact hh
    rcases h with ⟨v, hy, h⟩ | ⟨v, hy, h⟩ | ⟨F, hy, h⟩ | ⟨hy, h⟩
    · exact one v (HoldZ.pickN hsel hG hj hnf hr l1 _ S hap' hS h) (fun u => .inl (hy.of_same (ei u) (wi u))) (fun u => .inl ((hy.of_same (ei u) (wi u)).more hne))
    · exact one v (HoldZ.pickN hsel hG hj hnf hr l1 _ S hap' hS h) (fun u => .inr (hy.of_same (ei u) (wi u))) (fun u => .inr ((hy.of_same (ei u) (wi u)).more (hG j u) hne))
    · rcases any F (fun v => HoldZ.pickN hsel hG hj hnf hr l1 _ (plusS S i (F v)) hap' ⟨hS, fun e => by rw [hun] at e; cases e⟩ (h v)) with ⟨u, hu, hs, hh⟩ | ⟨hw, hm, u, w', hu, hb, hs, hg, hh⟩
      · exact .inl ⟨u, hu, hs, o, ho, .inr (.inr (.inl ⟨F, hy.of_same (ei u) (wi u), hh⟩))⟩
      · exact .inr ⟨hw, hm, u, w', hu, hb, hs, hg, o, ho, .inr (.inr (.inl ⟨F, (hy.of_same (ei u) (wi u)).more (hG j u) hne, hh⟩))⟩
    · rcases any (G i) (fun v => HoldZ.pickN hsel hG hj hnf hr l1 _ (plusS S i (G i v)) hap' ⟨hS, fun e => by rw [hun] at e; cases e⟩ (h v)) with ⟨u, hu, hs, hh⟩ | ⟨hw, hm, u, w', hu, hb, hs, hg, hh⟩
      · exact .inl ⟨u, hu, hs, o, ho, .inr (.inr (.inr ⟨hy.of_same (ei u) (wi u), hh⟩))⟩
      · exact .inr ⟨hw, hm, u, w', hu, hb, hs, hg, o, ho, .inr (.inr (.inr ⟨(hy.of_same (ei u) (wi u)).more (hG j u) hne, hh⟩))⟩
/-- What becomes of number j, a call, taken now. -/
def OutF (P : Program) (ops : Array Oper) (G : Nat → Value → World → Prop) (T : Act → (Array Bool → World → Prop) → Prop) (L : Array Bool) (w : World) (j : Nat) (o : Oper) (l : List Nat) (a : Act) (S : Array Bool → World → Prop) : Prop :=
  (∃ v, ((Region.wanted o (yielded ops a.tmps) = true ∧ ((execOp a.eval o).run P w = .ok (.value v) w ∨ ((execOp a.eval o).run P w = .ok .skip w ∧ v = undef))) ∨ (Region.wanted o (yielded ops a.tmps) = false ∧ v = undef)) ∧ S (L.setIfInBounds j true) w ∧ HoldZ P ops G T l (a.put o.dst v) S) ∨
  (Region.wanted o (yielded ops a.tmps) = true ∧ ∃ v f args, (execOp a.eval o).run P w = .ok (.enter f args) w ∧ (Calls P f args w fun e w' => e = .returned v ∧ S (L.setIfInBounds j true) w') ∧ HoldZ P ops G T l (a.put o.dst v) S) ∨
  (Region.wanted o (yielded ops a.tmps) = true ∧ ∃ (F : Value → World → Prop) (f : FuncId) (args : Array Value), (execOp a.eval o).run P w = .ok (.enter f args) w ∧ (Calls P f args w fun e w' => ∃ v, e = .returned v ∧ S (L.setIfInBounds j true) w' ∧ F v w') ∧ ∀ v, HoldZ P ops G T l (a.put o.dst v) (plusS S j (F v)))
theorem HoldZ.pickF {T : Act → (Array Bool → World → Prop) → Prop} (hsel : Region.noSelect ops = true) {L : Array Bool} {w : World} {j : Nat} {oj : Oper} (hj : ops[j]? = some oj) (hfj : isFn oj = true) (hr : j ∈ Region.ready .any ops L) {l2 : List Nat} :
    ∀ (l1 : List Nat) (a : Act) (S : Array Bool → World → Prop), (∀ i ∈ l1, i ≠ j ∧ L.getD i true = false ∧ ∀ oi, ops[i]? = some oi → oi.apart ops oj = true ∧ isFn oi = false ∧ isMk oi = false) → S L w → HoldZ P ops G T (l1 ++ j :: l2) a S →
      OutF P ops G T L w j oj (l1 ++ l2) a S
  | [], a, S, _, hS, h => by
    obtain ⟨o, ho, h⟩ := h
    obtain rfl : o = oj := Option.some.inj (ho.symm.trans hj)
    rcases h with ⟨v, hy, h⟩ | ⟨v, ⟨hw, hf, hy⟩, h⟩ | ⟨F, ⟨hw, hf, hy⟩, h⟩ | ⟨⟨hw, hm, hy⟩, h⟩
    · rcases hy with ⟨hw, _, hy⟩ | ⟨hw, hv, hy⟩
      · exact .inl ⟨v, .inl ⟨hw, (hy L w hr hS).1⟩, (hy L w hr hS).2, h⟩
      · exact .inl ⟨v, .inr ⟨hw, hv⟩, hy L w hr hS, h⟩
    · obtain ⟨f, args, h1, h2⟩ := hy L w hr hS
      exact .inr (.inl ⟨hw, v, f, args, h1, h2.mono fun e w' ⟨he, _, hs⟩ => ⟨he, hs⟩, h⟩)
    · obtain ⟨f, args, h1, h2⟩ := hy L w hr hS
      exact .inr (.inr ⟨hw, F, f, args, h1, h2.mono fun e w' ⟨v, he, _, hs, hF⟩ => ⟨v, he, hs, hF⟩, h⟩)
    · rw [mk_fn hm] at hfj; cases hfj
  | i :: l1, a, S, hap, hS, h => by
    obtain ⟨o, ho, h⟩ := h
    obtain ⟨hne, hun, hio⟩ := hap i (by simp)
    obtain ⟨hapt, hnf, hnm⟩ := hio o ho
    obtain ⟨h1, h2', h3⟩ := Oper.apart_spec hapt
    have hso := Region.noSelect_spec hsel i o
    have hsj := Region.noSelect_spec hsel j oj
    have hap' : ∀ k ∈ l1, k ≠ j ∧ L.getD k true = false ∧ ∀ oi, ops[k]? = some oi → oi.apart ops oj = true ∧ isFn oi = false ∧ isMk oi = false := fun k hk => hap k (by simp [hk])
    have ej : ∀ v, execOp (a.put o.dst v).eval oj = execOp a.eval oj := fun v => execOp_put oj (fun cs b => hsj cs b hj) a o.dst v h1
    have wj : ∀ v, Region.wanted oj (yielded ops (a.put o.dst v).tmps) = Region.wanted oj (yielded ops a.tmps) := fun v => wanted_put oj a o.dst v h1
    have ei : ∀ u, execOp (a.put oj.dst u).eval o = execOp a.eval o := fun u => execOp_put o (fun cs b => hso cs b ho) a oj.dst u h3
    have wi : ∀ u, Region.wanted o (yielded ops (a.put oj.dst u).tmps) = Region.wanted o (yielded ops a.tmps) := fun u => wanted_put o a oj.dst u h3
    have cm : ∀ v u, (a.put o.dst v).put oj.dst u = (a.put oj.dst u).put o.dst v := fun v u => Act.put_comm a v u (fun d hd hd2 => h2' d hd hd2)
    rcases h with ⟨v, hy, h⟩ | ⟨v, ⟨_, hf, _⟩, _⟩ | ⟨F, ⟨_, hf, _⟩, _⟩ | ⟨⟨_, hm, _⟩, _⟩
    · have ih := HoldZ.pickF hsel hj hfj hr l1 (a.put o.dst v) S hap' hS h
      unfold OutF at ih
      rw [ej, wj] at ih
      rcases ih with ⟨u, hu, hs, hh⟩ | ⟨hw, u, f, args, hu, hc, hh⟩ | ⟨hw, F, f, args, hu, hc, hh⟩
      · exact .inl ⟨u, hu, hs, o, ho, .inl ⟨v, hy.of_same (ei u) (wi u), by rw [← cm]; exact hh⟩⟩
      · exact .inr (.inl ⟨hw, u, f, args, hu, hc, o, ho, .inl ⟨v, hy.of_same (ei u) (wi u), by rw [← cm]; exact hh⟩⟩)
      · exact .inr (.inr ⟨hw, F, f, args, hu, hc, fun u => ⟨o, ho, .inl ⟨v, (hy.of_same (ei u) (wi u)).more hne, by rw [← cm]; exact hh u⟩⟩⟩)
    · rw [hnf] at hf; cases hf
    · rw [hnf] at hf; cases hf
    · rw [hnm] at hm; cases hm
/-- A call of a Go function waits for all calls, and all slices written out, ahead of it in the text. -/
def chainZ (ops : Array Oper) : Bool :=
  let ms := masks ops.toList []
  (List.range ops.size).all fun j => (List.range j).all fun i => match ops[i]?, ops[j]? with
    | some oi, some oj => !(isFn oi || isMk oi) || !isFn oj || (ms.getD j 0).testBit i
    | _, _ => true
theorem chainZ_spec (h : chainZ ops = true) {i j : Nat} {oi oj : Oper} (hij : i < j) (hi : ops[i]? = some oi) (hj : ops[j]? = some oj) (h1 : (isFn oi || isMk oi) = true) (h2 : isFn oj = true) : Anc ops i j := by
  unfold chainZ at h
  simp only at h
  rw [List.all_eq_true] at h
  have h3 := h j (List.mem_range.2 (Array.getElem?_eq_some_iff.1 hj).1)
  rw [List.all_eq_true] at h3
  have h4 := h3 i (List.mem_range.2 hij)
  rw [hi, hj] at h4
  refine masks_spec ops.toList [] 0 (fun j => by simp) rfl (fun j i hh => by simp at hh) j i ?_
  dsimp only at h4
  rw [h1, h2] at h4
  simpa using h4
theorem wpAny_of_holdZ (hsel : Region.noSelect ops = true) (hB : meetB .any ops = true) (hK : backB .any ops = true) (hC : chainZ ops = true) (hG : ∀ j v, Kept (G j v)) {T : Act → (Array Bool → World → Prop) → Prop}
    (hend : ∀ a S L w, L.size = ops.size → leftOf ops.size L = [] → T a S → S L w → Q .normal a w) :
    ∀ (fuel : Nat) (L : Array Bool) (a : Act) (w : World) (S : Array Bool → World → Prop), L.size = ops.size → ClosedL ops L → (leftOf ops.size L).length = fuel → S L w → HoldZ P ops G T (leftOf ops.size L) a S → wpAny P .any ops Q fuel L a w := by
  intro fuel
  induction fuel with
  | zero =>
    intro L a w S hsz hcl hl hS h
    have h0 : leftOf ops.size L = [] := List.eq_nil_of_length_eq_zero hl
    rw [h0] at h
    have hr : Region.ready .any ops L = [] := by
      rw [List.eq_nil_iff_forall_not_mem]
      intro i hi
      obtain ⟨hun, oi, hoi, _⟩ := mem_ready.1 hi
      have : i ∈ leftOf ops.size L := leftOf_mem.2 ⟨(Array.getElem?_eq_some_iff.1 hoi).1, hun⟩
      rw [h0] at this; cases this
    exact ⟨hr, hend a S L w hsz h0 h hS⟩
  | succ fuel ih =>
    intro L a w S hsz hcl hl hS h
    refine ⟨fun h0 => absurd h0 (ready_some hK L hsz (fun e => by rw [e] at hl; cases hl)), fun j hj => ?_⟩
    obtain ⟨hun, oj, hoj, hall⟩ := mem_ready.1 hj
    have hjs : j < ops.size := (Array.getElem?_eq_some_iff.1 hoj).1
    have hmem : j ∈ leftOf ops.size L := leftOf_mem.2 ⟨hjs, hun⟩
    obtain ⟨l1, l2, hsp⟩ := List.append_of_mem hmem
    have hsrt : (leftOf ops.size L).Pairwise (· < ·) := List.Pairwise.filter _ List.pairwise_lt_range
    rw [hsp] at h hsrt
    have hlt : ∀ i ∈ l1, i < j := fun i hi => (List.pairwise_append.1 hsrt).2.2 i hi j (by simp)
    have hj1 : j ∉ l1 := fun e => Nat.lt_irrefl _ (hlt j e)
    have hj2 : j ∉ l2 := fun e => by
      have := (List.pairwise_append.1 hsrt).2.1
      exact Nat.lt_irrefl _ ((List.pairwise_cons.1 this).1 j e)
    have hL : ∀ k, k < ops.size → k < L.size := fun k hk => by rw [hsz]; exact hk
    have hun1 : ∀ i ∈ l1, L.getD i true = false := fun i hi => (leftOf_mem.1 (show i ∈ leftOf ops.size L by rw [hsp]; simp [hi])).2
    have hap1 : ∀ i ∈ l1, ∀ oi, ops[i]? = some oi → oi.apart ops oj = true := fun i hi oi hoi => by
      refine meetB_spec hB (hlt i hi) hoi hoj fun e he hb heq => ?_
      have h1 := hall e he hb
      have h3 := hun1 i hi
      rw [heq] at h1
      have hil : i < L.size := by rw [hsz]; exact (Array.getElem?_eq_some_iff.1 hoi).1
      simp [hil] at h1 h3
      rw [h3] at h1; cases h1
    have hleft : leftOf ops.size (L.setIfInBounds j true) = l1 ++ l2 := by
      have e1 : leftOf ops.size (L.setIfInBounds j true) = (leftOf ops.size L).filter (· ≠ j) := by
        unfold leftOf
        rw [List.filter_filter]
        refine List.filter_congr fun i hi => ?_
        by_cases hij : i = j
        · subst hij
          have : i < L.size := by rw [hsz]; exact hjs
          simp [this]
        · rw [getD_set_ne true (fun e => hij e.symm)]; simp [hij]
      rw [e1, hsp, List.filter_append, List.filter_cons]
      simp only [ne_eq, not_true_eq_false, decide_false]
      have f1 : l1.filter (fun x => decide (¬ x = j)) = l1 := List.filter_eq_self.2 fun x hx => by simp; rintro rfl; exact hj1 hx
      have f2 : l2.filter (fun x => decide (¬ x = j)) = l2 := List.filter_eq_self.2 fun x hx => by simp; rintro rfl; exact hj2 hx
      rw [f1]
      simp only [Bool.false_eq_true, if_false]
      rw [f2]
    have hsz' : (L.setIfInBounds j true).size = ops.size := by simpa using hsz
    have hlen : (leftOf ops.size (L.setIfInBounds j true)).length = fuel := by
      rw [hleft]; rw [hsp] at hl; simp at hl ⊢; omega
    have hcl' : ClosedL ops (L.setIfInBounds j true) := fun k o hk hm e he hb => by
      have done : ∀ q, q < ops.size → L.getD q false = true → (L.setIfInBounds j true).getD q false = true := fun q hq h => by
        by_cases hqj : q = j
        · subst hqj; have := hL q hq; simp [this]
        · rw [getD_set_ne false (fun e => hqj e.symm)]; exact h
      have hks : k < ops.size := (Array.getElem?_eq_some_iff.1 hk).1
      have hes : e.on < ops.size := Nat.lt_trans (backB_spec hK hk e he hb) hks
      refine done _ hes ?_
      by_cases hkj : k = j
      · subst hkj
        obtain rfl : o = oj := Option.some.inj (hk.symm.trans hoj)
        have h1 := hall e he hb
        have := hL _ hes
        simp [this] at h1 ⊢; exact h1
      · rw [getD_set_ne false (fun e => hkj e.symm)] at hm
        exact hcl k o hk hm e he hb
    have go : ∀ v w' S', S' (L.setIfInBounds j true) w' → HoldZ P ops G T (l1 ++ l2) (a.put oj.dst v) S' → wpAny P .any ops Q fuel (L.setIfInBounds j true) (a.put oj.dst v) w' := fun v w' S' hS' hh =>
      ih (L.setIfInBounds j true) (a.put oj.dst v) w' S' hsz' hcl' hlen hS' (by rw [hleft]; exact hh)
    have hjL : j < L.size := hL j hjs
    unfold Go.wpOp
    simp only [hoj]
    cases hfj : isFn oj with
    | false =>
      have hap : ∀ i ∈ l1, i ≠ j ∧ L.getD i true = false ∧ ∀ oi, ops[i]? = some oi → oi.apart ops oj = true := fun i hi => ⟨Nat.ne_of_lt (hlt i hi), hun1 i hi, hap1 i hi⟩
      rcases HoldZ.pickN hsel hG hoj hfj hj l1 a S hap hS h with ⟨v, hu, hs, hh⟩ | ⟨hw, _, v, w', hu, _, hs, hg, hh⟩
      · rcases hu with ⟨hw, _, hu⟩ | ⟨hw, rfl⟩
        · simp only [hw, if_true, Oper.wp]
          refine .inl ?_
          rcases hu with hu | ⟨hu, rfl⟩
          · simp only [hu, Oper.upon]; exact go _ _ _ hs hh
          · simp only [hu, Oper.upon]; exact go _ _ _ hs hh
        · simp only [hw, Bool.false_eq_true, if_false]; exact go _ _ _ hs hh
      · simp only [hw, if_true, Oper.wp]
        refine .inl ?_
        simp only [hu, Oper.upon]
        exact go _ _ _ ⟨hs, fun _ => hg⟩ hh
    | true =>
      have hap : ∀ i ∈ l1, i ≠ j ∧ L.getD i true = false ∧ ∀ oi, ops[i]? = some oi → oi.apart ops oj = true ∧ isFn oi = false ∧ isMk oi = false := fun i hi => ⟨Nat.ne_of_lt (hlt i hi), hun1 i hi, fun oi hoi => ⟨hap1 i hi oi hoi, by
        have hno : (isFn oi || isMk oi) = true → False := fun hx => by
          have h1 := anc_ready hcl (chainZ_spec hC (hlt i hi) hoi hoj hx hfj) hj hL (fun o ho e he hb => Nat.lt_trans (backB_spec hK ho e he hb) hjs)
          have h3 := hun1 i hi
          have hil : i < L.size := by rw [hsz]; exact (Array.getElem?_eq_some_iff.1 hoi).1
          simp [hil] at h1 h3
          rw [h3] at h1; cases h1
        constructor
        · cases hx : isFn oi
          · rfl
          · exact (hno (by rw [hx]; rfl)).elim
        · cases hx : isMk oi
          · rfl
          · exact (hno (by rw [hx]; simp)).elim⟩⟩
      rcases HoldZ.pickF hsel hoj hfj hj l1 a S hap hS h with ⟨v, hu, hs, hh⟩ | ⟨hw, v, f, args, hu, hc, hh⟩ | ⟨hw, F, f, args, hu, hc, hh⟩
      · rcases hu with ⟨hw, hu⟩ | ⟨hw, rfl⟩
        · simp only [hw, if_true, Oper.wp]
          refine .inl ?_
          rcases hu with hu | ⟨hu, rfl⟩
          · simp only [hu, Oper.upon]; exact go _ _ _ hs hh
          · simp only [hu, Oper.upon]; exact go _ _ _ hs hh
        · simp only [hw, Bool.false_eq_true, if_false]; exact go _ _ _ hs hh
      · simp only [hw, if_true, Oper.wp]
        refine .inl ?_
        simp only [hu, Oper.upon]
        exact hc.mono fun e w'' ⟨he, hs⟩ => by subst he; exact go _ _ _ hs hh
      · simp only [hw, if_true, Oper.wp]
        refine .inl ?_
        simp only [hu, Oper.upon]
        exact hc.mono fun e w'' ⟨v, he, hs, hF⟩ => by subst he; exact go _ _ _ ⟨hs, fun _ => hF⟩ (hh v)
def holdZOk (ops : Array Oper) : Bool := Region.noSelect ops && meetB .any ops && backB .any ops && chainZ ops
theorem wp_region_holdZ0 {id : Nat} {l : List Oper} {a : Act} {w : World} (S : Array Bool → World → Prop) (hG : ∀ j v, Kept (G j v)) (hm : P.follows .mixedOrders = true) (hB : holdZOk l.toArray = true)
    (hS : S (Array.replicate l.length false) w.drew) (h : HoldZ P l.toArray G (fun a S => ∀ L w, (∀ i, i < l.length → L.getD i true = true ∧ L.getD i false = true) → S L w → Q .normal a w) (List.range l.length) a S) :
    (Code.region id l.toArray true).wp P Q a w := by
  unfold holdZOk at hB
  simp only [Bool.and_eq_true] at hB
  obtain ⟨⟨⟨h1, h2⟩, h3⟩, h4⟩ := hB
  refine wp_region_any hm ?_
  have hl0 : leftOf l.toArray.size (Array.replicate l.toArray.size false) = List.range l.length := by
    unfold leftOf
    rw [List.filter_eq_self.2]
    · simp
    · intro x hx
      have : x < l.toArray.size := List.mem_range.1 hx
      simp at this
      simp [this]
  refine wpAny_of_holdZ (ops := l.toArray) h1 h2 h3 h4 hG (T := fun a S => ∀ L w, (∀ i, i < l.length → L.getD i true = true ∧ L.getD i false = true) → S L w → Q .normal a w) (fun a S L w hsz hl hT hs => ?_) _ _ _ _ S (by simp) (fun j o ho hm => ?_) (by rw [hl0]; simp) (by simpa using hS) (by rw [hl0]; exact h)
  · refine hT L w (fun i hi => ?_) hs
    have h' : i < L.size := by rw [hsz]; simpa using hi
    by_cases hx : L.getD i true = false
    · have : i ∈ leftOf l.toArray.size L := leftOf_mem.2 ⟨by simpa using hi, hx⟩
      rw [hl] at this; cases this
    · simp [h'] at hx ⊢; exact hx
  · rw [Array.getD_eq_getD_getElem?, Array.getElem?_replicate] at hm
    split at hm <;> cases hm
end
/-! ### The same, with a condition that calls keep -/
section
variable {P : Program} {ops : Array Oper} {Q : Exit → Act → World → Prop} {S : World → Prop} {G : Nat → Value → World → Prop}
/-- The operations from number i on, in the text's order. -/
def HoldW (P : Program) (ops : Array Oper) (G : Nat → Value → World → Prop) (S : World → Prop) (T : Act → Env → Prop) : Nat → List Oper → Act → Env → Prop
  | _, [], a, E => T a E
  | i, o :: r, a, E => (∃ v, StR P ops (envS ops.size S E) i o v a ∧ HoldW P ops G S T (i + 1) r (a.put o.dst v) E) ∨ (∃ v, StC P ops (envS ops.size S E) i o v a ∧ HoldW P ops G S T (i + 1) r (a.put o.dst v) E) ∨
      (∃ F : Value → World → Prop, StE P ops (envS ops.size S E) i o F a ∧ ∀ v, HoldW P ops G S T (i + 1) r (a.put o.dst v) ((i, F v) :: E)) ∨ (StM P ops (envS ops.size S E) i o (G i) a ∧ ∀ v, HoldW P ops G S T (i + 1) r (a.put o.dst v) ((i, G i v) :: E))
theorem HoldW.holdZ {T : Act → Env → Prop} : ∀ (l : List Oper) (i : Nat) (a : Act) (E : Env), (∀ j, l[j]? = ops[i + j]?) → HoldW P ops G S T i l a E →
    HoldZ P ops G (fun a S' => ∃ E, S' = envS ops.size S E ∧ T a E) (List.range' i l.length) a (envS ops.size S E)
  | [], i, a, E, _, h => ⟨E, rfl, h⟩
  | o :: r, i, a, E, hl, h => by
    have ho : ops[i]? = some o := by have := hl 0; simpa using this.symm
    have hr : ∀ j, r[j]? = ops[i + 1 + j]? := fun j => by have := hl (j + 1); simp at this; rw [this]; congr 1; omega
    refine ⟨o, ho, ?_⟩
    rcases h with ⟨v, hy, h⟩ | ⟨v, hy, h⟩ | ⟨F, hy, h⟩ | ⟨hy, h⟩
    · exact .inl ⟨v, hy, HoldW.holdZ r (i + 1) _ E hr h⟩
    · exact .inr (.inl ⟨v, hy, HoldW.holdZ r (i + 1) _ E hr h⟩)
    · exact .inr (.inr (.inl ⟨F, hy, fun v => HoldW.holdZ r (i + 1) _ ((i, F v) :: E) hr (h v)⟩))
    · exact .inr (.inr (.inr ⟨hy, fun v => HoldW.holdZ r (i + 1) _ ((i, G i v) :: E) hr (h v)⟩))
/-- THE BEGINNING. G: what is known of each slice written out. -/
theorem wp_region_holdW {id : Nat} {l : List Oper} {a : Act} {w : World} (G : Nat → Value → World → Prop) (hG : ∀ j v, Kept (G j v)) (S : World → Prop) (hm : P.follows .mixedOrders = true) (hB : holdZOk l.toArray = true) (hK : Kept S) (hS : S w.drew)
    (h : KeptE S [] → HoldW P l.toArray G S (fun a E => ∀ w, S w → (∀ p ∈ E, p.1 < l.length → p.2 w) → Q .normal a w) 0 l a []) : (Code.region id l.toArray true).wp P Q a w := by
  have h' := HoldW.holdZ (ops := l.toArray) l 0 a [] (fun j => by simp) (h ⟨hK, fun p hp => by cases hp⟩)
  rw [← List.range_eq_range'] at h'
  refine wp_region_holdZ0 (envS l.toArray.size S []) hG hm hB ⟨by simp, hS⟩ ?_
  revert h'
  generalize List.range l.length = ns
  generalize envS l.toArray.size S [] = S0
  intro h'
  have mono : ∀ (ns : List Nat) (a : Act) (S' : Array Bool → World → Prop), HoldZ P l.toArray G (fun a S' => ∃ E, S' = envS l.toArray.size S E ∧ ∀ w, S w → (∀ p ∈ E, p.1 < l.length → p.2 w) → Q .normal a w) ns a S' →
      HoldZ P l.toArray G (fun a S => ∀ L w, (∀ i, i < l.length → L.getD i true = true ∧ L.getD i false = true) → S L w → Q .normal a w) ns a S' := by
    intro ns
    induction ns with
    | nil =>
      intro a S' h L w hall hs
      obtain ⟨E, rfl, h⟩ := h
      exact h w (env_base hs).2 (fun p hp hl => env_get hp hs (hall _ hl).1)
    | cons i ns ih =>
      intro a S' h
      obtain ⟨o, ho, h⟩ := h
      refine ⟨o, ho, ?_⟩
      rcases h with ⟨v, hy, h⟩ | ⟨v, hy, h⟩ | ⟨F, hy, h⟩ | ⟨hy, h⟩
      · exact .inl ⟨v, hy, ih _ _ h⟩
      · exact .inr (.inl ⟨v, hy, ih _ _ h⟩)
      · exact .inr (.inr (.inl ⟨F, hy, fun v => ih _ _ (h v)⟩))
      · exact .inr (.inr (.inr ⟨hy, fun v => ih _ _ (h v)⟩))
  exact mono _ _ _ h'
section
variable {T : Act → Env → Prop} {i : Nat} {o : Oper} {r : List Oper} {a : Act} {E : Env} {v : Value}
theorem holdW_nil {k : Nat} (h : T a E) : HoldW P ops G S T k [] a E := h
theorem holdW_val (hm : isMk o = false) (hK : KeptE S E) (hE : (E.all fun p => p.1 != i) = true) (hw : Region.wanted o (yielded ops a.tmps) = true) (hv : ∀ w, S w → (execOp a.eval o).run P w = .ok (.value v) w) (h : HoldW P ops G S T (i + 1) r (a.put o.dst v) E) : HoldW P ops G S T i (o :: r) a E :=
  .inl ⟨v, .inl ⟨hw, hm, fun L w _ hs => ⟨.inl (hv w (env_base hs).2), env_step (Below.refl _ _) hK hE hs⟩⟩, h⟩
theorem holdW_skip (hK : KeptE S E) (hE : (E.all fun p => p.1 != i) = true) (hw : Region.wanted o (yielded ops a.tmps) = false) (h : HoldW P ops G S T (i + 1) r (a.put o.dst undef) E) : HoldW P ops G S T i (o :: r) a E :=
  .inl ⟨undef, .inr ⟨hw, rfl, fun L w _ hs => env_step (Below.refl _ _) hK hE hs⟩, h⟩
theorem holdW_call {f : FuncId} {args : Array Value} (hf : isFn o = true) (hK : KeptE S E) (hE : (E.all fun p => p.1 != i) = true) (hw : Region.wanted o (yielded ops a.tmps) = true) (hv : ∀ w, S w → (execOp a.eval o).run P w = .ok (.enter f args) w)
    (hc : ∀ w, S w → Calls P f args w fun e w' => e = .returned v ∧ Below w.heap.size w w') (h : HoldW P ops G S T (i + 1) r (a.put o.dst v) E) : HoldW P ops G S T i (o :: r) a E :=
  .inr (.inl ⟨v, ⟨hw, hf, fun L w _ hs => ⟨f, args, hv w (env_base hs).2, (hc w (env_base hs).2).mono fun e w' ⟨he, hb⟩ => ⟨he, hb, env_step hb hK hE hs⟩⟩⟩, h⟩)
/-- A call of two results that hang on the world. -/
theorem holdW_call2 {f : FuncId} {args : Array Value} (k1 k2 : Nat) (F1 F2 : World → Prop) (hi : ops[i]? = some o) (hk1 : (k1, F1) ∈ E) (hk2 : (k2, F2) ∈ E) (hb1 : o.after.any (fun e => Region.binds .any e && e.on == k1) = true) (hb2 : o.after.any (fun e => Region.binds .any e && e.on == k2) = true)
    (hf : isFn o = true) (hK : KeptE S E) (hE : (E.all fun p => p.1 != i) = true) (hw : Region.wanted o (yielded ops a.tmps) = true) (hv : ∀ w, S w → (execOp a.eval o).run P w = .ok (.enter f args) w)
    (hc : ∀ w, S w → F1 w → F2 w → Calls P f args w fun e w' => e = .returned v ∧ Below w.heap.size w w') (h : HoldW P ops G S T (i + 1) r (a.put o.dst v) E) : HoldW P ops G S T i (o :: r) a E :=
  .inr (.inl ⟨v, ⟨hw, hf, fun L w hr hs => ⟨f, args, hv w (env_base hs).2, (hc w (env_base hs).2 (ready_env hi hk1 hb1 hr hs) (ready_env hi hk2 hb2 hr hs)).mono fun e w' ⟨he, hb⟩ => ⟨he, hb, env_step hb hK hE hs⟩⟩⟩, h⟩)
/-- A call of one result that hangs on the world. -/
theorem holdW_call1 {f : FuncId} {args : Array Value} (k1 : Nat) (F1 : World → Prop) (hi : ops[i]? = some o) (hk1 : (k1, F1) ∈ E) (hb1 : o.after.any (fun e => Region.binds .any e && e.on == k1) = true)
    (hf : isFn o = true) (hK : KeptE S E) (hE : (E.all fun p => p.1 != i) = true) (hw : Region.wanted o (yielded ops a.tmps) = true) (hv : ∀ w, S w → (execOp a.eval o).run P w = .ok (.enter f args) w)
    (hc : ∀ w, S w → F1 w → Calls P f args w fun e w' => e = .returned v ∧ Below w.heap.size w w') (h : HoldW P ops G S T (i + 1) r (a.put o.dst v) E) : HoldW P ops G S T i (o :: r) a E :=
  .inr (.inl ⟨v, ⟨hw, hf, fun L w hr hs => ⟨f, args, hv w (env_base hs).2, (hc w (env_base hs).2 (ready_env hi hk1 hb1 hr hs)).mono fun e w' ⟨he, hb⟩ => ⟨he, hb, env_step hb hK hE hs⟩⟩⟩, h⟩)
/-- A call whose result hangs on the world. -/
theorem holdW_some {f : FuncId} {args : Array Value} (F : Value → World → Prop) (hF : ∀ v, Kept (F v)) (hf : isFn o = true) (hK : KeptE S E) (hE : (E.all fun p => p.1 != i) = true) (hw : Region.wanted o (yielded ops a.tmps) = true) (hv : ∀ w, S w → (execOp a.eval o).run P w = .ok (.enter f args) w)
    (hc : ∀ w, S w → Calls P f args w fun e w' => ∃ v, e = .returned v ∧ F v w' ∧ Below w.heap.size w w') (h : ∀ v, KeptE S ((i, F v) :: E) → HoldW P ops G S T (i + 1) r (a.put o.dst v) ((i, F v) :: E)) : HoldW P ops G S T i (o :: r) a E :=
  .inr (.inr (.inl ⟨F, ⟨hw, hf, fun L w _ hs => ⟨f, args, hv w (env_base hs).2, (hc w (env_base hs).2).mono fun e w' ⟨v, he, hF, hb⟩ => ⟨v, he, hb, env_step hb hK hE hs, hF⟩⟩⟩, fun v => h v ⟨hK.1, fun p hp => by
    rcases List.mem_cons.1 hp with rfl | hp
    · exact hF v
    · exact hK.2 p hp⟩⟩))
/-- The same, of one result that hangs on the world. -/
theorem holdW_some1 {f : FuncId} {args : Array Value} (k1 : Nat) (F1 : World → Prop) (F : Value → World → Prop) (hF : ∀ v, Kept (F v)) (hi : ops[i]? = some o) (hk1 : (k1, F1) ∈ E) (hb1 : o.after.any (fun e => Region.binds .any e && e.on == k1) = true) (hf : isFn o = true) (hK : KeptE S E) (hE : (E.all fun p => p.1 != i) = true) (hw : Region.wanted o (yielded ops a.tmps) = true) (hv : ∀ w, S w → (execOp a.eval o).run P w = .ok (.enter f args) w)
    (hc : ∀ w, S w → F1 w → Calls P f args w fun e w' => ∃ v, e = .returned v ∧ F v w' ∧ Below w.heap.size w w') (h : ∀ v, KeptE S ((i, F v) :: E) → HoldW P ops G S T (i + 1) r (a.put o.dst v) ((i, F v) :: E)) : HoldW P ops G S T i (o :: r) a E :=
  .inr (.inr (.inl ⟨F, ⟨hw, hf, fun L w hr hs => ⟨f, args, hv w (env_base hs).2, (hc w (env_base hs).2 (ready_env hi hk1 hb1 hr hs)).mono fun e w' ⟨v, he, hF, hb⟩ => ⟨v, he, hb, env_step hb hK hE hs, hF⟩⟩⟩, fun v => h v ⟨hK.1, fun p hp => by
    rcases List.mem_cons.1 hp with rfl | hp
    · exact hF v
    · exact hK.2 p hp⟩⟩))
/-- A slice written out. -/
theorem holdW_make (hG : ∀ v, Kept (G i v)) (hm : isMk o = true) (hK : KeptE S E) (hE : (E.all fun p => p.1 != i) = true) (hw : Region.wanted o (yielded ops a.tmps) = true)
    (hv : ∀ w, S w → ∃ v w', (execOp a.eval o).run P w = .ok (.value v) w' ∧ Below w.heap.size w w' ∧ G i v w') (h : ∀ v, KeptE S ((i, G i v) :: E) → HoldW P ops G S T (i + 1) r (a.put o.dst v) ((i, G i v) :: E)) : HoldW P ops G S T i (o :: r) a E :=
  .inr (.inr (.inr ⟨⟨hw, hm, fun L w _ hs => by
    obtain ⟨v, w', h1, hb, hg⟩ := hv w (env_base hs).2
    exact ⟨v, w', h1, hb, env_step hb hK hE hs, hg⟩⟩, fun v => h v ⟨hK.1, fun p hp => by
    rcases List.mem_cons.1 hp with rfl | hp
    · exact hG v
    · exact hK.2 p hp⟩⟩))
end
end
end Go.Proofs.Ytalpocgajecjbaa
