/- A heap in memory: its block, its row, its map; what lay, above, below and less come to. Conditions: as stated. -/
import Derived.Test.YtalpocgajecjbaaHpqB
import Derived.Test.YtalpocgajecjbaaRdm
import Derived.Test.YtalpocgajecjbaaTurned
import Derived.Maps.OwnSet
import Derived.Maps.OwnOps
import Derived.Maps.Views
namespace Go.Proofs.Ytalpocgajecjbaa
open Go.ChangeShapes Go.WideShapes Go.ChangeAt Go.RowKit
open Go.Maps (Keyed int_keyed keyOf_int_mk)
set_option linter.unusedVariables false
set_option maxRecDepth 100000
set_option linter.unusedSimpArgs false
variable {X : List Value × TypeId}

noncomputable abbrev RM : Value → Option (DataW Unit × List MemPlace) := plainElem (H := Unit) Try.prog 3
def zdM : DataW Unit := .lit (.int .i64 0)
/-- What the datum says of a number. -/
def SaysM (D : DataW Unit) (m : PosM) : Prop := ∀ id, inI id → (m id = none ∧ Maps.has D (.int .i64 id) = false ∧ D.atKey (.int .i64 id) zdM = .lit (.int .i64 0)) ∨ ∃ k : Nat, m id = some k ∧ Maps.has D (.int .i64 id) = true ∧ D.atKey (.int .i64 id) zdM = .lit (.int .i64 (k : Int))
/-- Block bm is a map of n numbers, each with its place. -/
def PosW (w : World) (bm n : Nat) (m : PosM) : Prop := ∃ D, w.ownsMap Try.prog 3 RM bm n D ∧ Maps.size D = n ∧ SaysM D m
theorem keyedI : Keyed Try.prog 3 := int_keyed Try.underlying3
theorem lit_wf {n : Int} (h : inI n) : (Lit.int .i64 n).wf = true := by
  unfold inI at h
  simp [Lit.wf, IntKind.min, IntKind.max, IntKind.signed, IntKind.bits]; omega
theorem keyI {n : Int} (h : inI n) : keyOf Try.prog 3 (.int .i64 n) = some (.int .i64 n) := keyOf_int_mk Try.underlying3 (lit_wf h)
theorem lit_ne {a b : Int} (h : a ≠ b) : (Lit.int .i64 a) ≠ Lit.int .i64 b := fun e => h (by cases e; rfl)
theorem SaysM.put {D : DataW Unit} {m : PosM} (h : SaysM D m) (hM : Maps.IsMap D) {id : Int} (hid : inI id) (k : Nat) : SaysM (D.put (.int .i64 id) (.lit (.int .i64 (k : Int)))) (setM m id k) := by
  intro i hi
  unfold setM
  by_cases e : i = id
  · subst e
    refine .inr ⟨k, if_pos rfl, Maps.has_put_same hM ?_ _, Maps.atKey_put_same hM ?_ _ _⟩ <;> trivial
  · rw [if_neg e, Maps.has_put_other (lit_ne e), Maps.atKey_put_other (lit_ne e)]
    exact h i hi
theorem SaysM.del {D : DataW Unit} {m : PosM} (h : SaysM D m) (id : Int) : SaysM (D.del (.int .i64 id)) (delM m id) := by
  intro i hi
  unfold delM
  by_cases e : i = id
  · subst e
    exact .inl ⟨if_pos rfl, Maps.has_del_same, Maps.atKey_del_same _⟩
  · rw [if_neg e, Maps.has_del_other (lit_ne e), Maps.atKey_del_other (lit_ne e)]
    exact h i hi
theorem PosW.keep {w w' : World} {bm n : Nat} {m : PosM} (h : PosW w bm n m) (hk : w'.heap[bm]? = w.heap[bm]?) : PosW w' bm n m := by
  obtain ⟨D, ⟨es, clock, hb, F, hs, hD⟩, h2, h3⟩ := h
  exact ⟨D, ⟨es, clock, hk.trans hb, F, hs, hD⟩, h2, h3⟩
theorem PosW.lt {w : World} {bm n : Nat} {m : PosM} (h : PosW w bm n m) : bm < w.heap.size := by
  obtain ⟨D, h1, _⟩ := h; exact h1.lt
theorem owns_tight {w : World} {P : Program} {k : TypeId} {R : Value → Option (DataW Unit × List MemPlace)} {b n : Nat} {D : DataW Unit} (h : w.ownsMap P k R b n D) : w.ownsMap P k R b (Maps.size D) D := by
  obtain ⟨es, clock, hb, F, hs, rfl⟩ := h
  exact ⟨es, clock, hb, F, by simp [Maps.size, length_sorted], rfl⟩
/-- One more number with its place, or another place. -/
theorem PosW.store {w : World} {bm n : Nat} {m : PosM} (h : PosW w bm n m) (hn : n < maxLen) {id : Int} (hid : inI id) (k : Nat) (hk : inI (k : Int)) :
    ∃ w', (Instr.mapUpdate 27 (.map (some bm)) (.int .i64 id) (.int .i64 (k : Int))).run Try.prog w = .ok () w' ∧ PosW w' bm (n + if (m id).isNone = true then 1 else 0) (setM m id k) ∧ Only bm w w' := by
  obtain ⟨D, h1, h2, h3⟩ := h
  have hT := h1.tidy keyedI
  obtain ⟨w', hr, ho, hm⟩ := h1.store (t := 27) (e := 3) keyedI Try.underlying27 hn (keyI hid) (plainElem_int Try.underlying3 (lit_wf hk))
  have hg := hm.grown
  refine ⟨w', hr, ⟨_, owns_tight ho |>.mono ?_, ?_, h3.put hT.isMap hid k⟩, ⟨hg.os, hg.tape, hg.output, hg.size, fun j hj hne => hg.block j hj (fun e => hne (Option.some.inj e))⟩⟩
  · rw [Maps.size_put hT, h2]
    rcases h3 id hid with ⟨e1, e2, _⟩ | ⟨j, e1, e2, _⟩ <;> rw [e1, e2] <;> simp
  · rw [Maps.size_put hT, h2]
    rcases h3 id hid with ⟨e1, e2, _⟩ | ⟨j, e1, e2, _⟩ <;> rw [e1, e2] <;> simp
/-! ### The row -/
abbrev RowW (w : World) (sv : Value) (l : List Thg) : Prop := w.ownsRow 0 66 4 sv l.length (rowsT l).flatten
theorem row_cells {w : World} {bi cap : Nat} {l : List Thg} (h : RowW w (.slice (some ⟨bi, 0, none⟩) l.length cap) l) (k : Nat) (hk : k < l.length) :
    w.cell? ⟨bi, k * 4, none⟩ = some (.int .i64 (nth l k).id) ∧ w.cell? ⟨bi, k * 4 + 1, none⟩ = some (.int .i64 (nth l k).key.a) ∧ w.cell? ⟨bi, k * 4 + 2, none⟩ = some (.int .i64 (nth l k).key.b) ∧ w.cell? ⟨bi, k * 4 + 3, none⟩ = some (.int .i64 (nth l k).key.c) := by
  have hc : ∀ j x, (nth l k).row[j]? = some x → w.cell? ⟨bi, k * 4 + j, none⟩ = some x := fun j x hj => by
    have := h.cells (g := bi) rfl (k * 4 + j) x (flat_get 4 (rowsT l) (rowsT_four l) k _ (by rw [rowsT_get l k hk, nth_eq l k hk]) j x hj)
    rwa [show ((⟨bi, 0, none⟩ : Addr).add (k * 4 + j)) = ⟨bi, k * 4 + j, none⟩ by unfold Addr.add; split <;> simp_all] at this
  exact ⟨hc 0 _ rfl, hc 1 _ rfl, hc 2 _ rfl, hc 3 _ rfl⟩
theorem row_free {w : World} {bi cap : Nat} {l : List Thg} (h : RowW w (.slice (some ⟨bi, 0, none⟩) l.length cap) l) (o : Nat) : w.frozen? ⟨bi, o, none⟩ = false := by
  rcases h.2 with ⟨h, _⟩ | ⟨g, c, cur, h, _, hg, _⟩
  · cases h
  · cases h; exact blk_free hg o
/-- The four cells of an item. -/
def set4 (w : World) (b o : Nat) (x : Thg) : World := (((w.setCell ⟨b, o, none⟩ (.int .i64 x.id)).setCell ⟨b, o + 1, none⟩ (.int .i64 x.key.a)).setCell ⟨b, o + 2, none⟩ (.int .i64 x.key.b)).setCell ⟨b, o + 3, none⟩ (.int .i64 x.key.c)
theorem set4_only (w : World) (b o : Nat) (x : Thg) : Only b w (set4 w b o x) := ((((Only.refl b w).setCell _ _).setCell _ _).setCell _ _).setCell _ _
theorem rowsT_set (l : List Thg) (k : Nat) (x : Thg) (hk : k < l.length) : (rowsT (l.set k x)).flatten = ((((rowsT l).flatten.set (k * 4) (.int .i64 x.id)).set (k * 4 + 1) (.int .i64 x.key.a)).set (k * 4 + 2) (.int .i64 x.key.b)).set (k * 4 + 3) (.int .i64 x.key.c) := by
  induction l generalizing k with
  | nil => simp at hk
  | cons a l ih =>
    cases k with
    | zero => simp [rowsT, Thg.row]
    | succ k =>
      have := ih k (by simpa using hk)
      have e : ∀ q, (k + 1) * 4 + q = k * 4 + q + 1 + 1 + 1 + 1 := fun q => by omega
      have e0 : (k + 1) * 4 = k * 4 + 1 + 1 + 1 + 1 := by omega
      unfold rowsT at this ⊢
      rw [List.set_cons_succ, List.map_cons, List.flatten_cons, this, List.map_cons, List.flatten_cons]
      unfold Thg.row
      rw [e 1, e 2, e 3, e0]
      simp only [List.cons_append, List.nil_append, List.set_cons_succ]
theorem row_set {w : World} {bi cap : Nat} {l : List Thg} (h : RowW w (.slice (some ⟨bi, 0, none⟩) l.length cap) l) (k : Nat) (x : Thg) (hk : k < l.length) : RowW (set4 w bi (k * 4) x) (.slice (some ⟨bi, 0, none⟩) (l.set k x).length cap) (l.set k x) := by
  have h1 := h.1
  rcases h.2 with ⟨h, _⟩ | ⟨g, c, cur, hv, h0, hg, hc, hm, hs, ht⟩
  · cases h
  · cases hv
    refine ⟨?_, .inr ⟨bi, cap, _, rfl, h0, blk_set (blk_set (blk_set (blk_set hg _ _) _ _) _ _) _ _, by simpa using hc, hm, by simpa using hs, ?_⟩⟩
    · rw [rowsT_set l k x hk]; simpa using h1
    · rw [rowsT_set l k x hk, ← ht, List.length_set]
      simp only [Array.toList_setIfInBounds, List.take_set]
theorem row_keep {w w' : World} {bi cap n : Nat} {l : List Thg} (h : RowW w (.slice (some ⟨bi, 0, none⟩) n cap) l) (hk : w'.heap[bi]? = w.heap[bi]?) : RowW w' (.slice (some ⟨bi, 0, none⟩) n cap) l := by
  refine ⟨h.1, ?_⟩
  rcases h.2 with ⟨h, _⟩ | ⟨g, c, cur, hv, h0, hg, h3⟩
  · cases h
  · cases hv
    exact .inr ⟨bi, cap, cur, rfl, h0, hk.trans hg, h3⟩
theorem row_lt {w : World} {bi cap n : Nat} {l : List Thg} (h : RowW w (.slice (some ⟨bi, 0, none⟩) n cap) l) : bi < w.heap.size := by
  rcases h.2 with ⟨h, _⟩ | ⟨g, c, cur, hv, h0, hg, h3⟩
  · cases h
  · cases hv
    exact lt_of_block hg
/-! ### The heap -/
/-- The block of a heap, which may lie at the head of a struct that embeds it: what else the struct has, and the block's type. -/
abbrev hX (X : List Value × TypeId) (a b : Value) : Obj := .cells (a :: b :: X.1).toArray X.2 (0, 0)
theorem hx_set0 {w : World} {b : Nat} {a c : Value} (h : w.heap[b]? = some (hX X a c)) (v : Value) : (w.setCell ⟨b, 0, none⟩ v).heap[b]? = some (hX X v c) := by
  have := blk_set h 0 v
  simpa [hX] using this
theorem hx_set1 {w : World} {b : Nat} {a c : Value} (h : w.heap[b]? = some (hX X a c)) (v : Value) : (w.setCell ⟨b, 1, none⟩ v).heap[b]? = some (hX X a v) := by
  have := blk_set h 1 v
  simpa [hX] using this
structure HS (X : List Value × TypeId) (b bi cap bm n : Nat) (l : List Thg) (m : PosM) (w : World) : Prop where
  blk : w.heap[b]? = some (hX X (.slice (some ⟨bi, 0, none⟩) l.length cap) (.map (some bm)))
  row : RowW w (.slice (some ⟨bi, 0, none⟩) l.length cap) l
  pos : PosW w bm n m
  ne1 : b ≠ bi
  ne2 : b ≠ bm
  ne3 : bi ≠ bm
section
variable {b bi cap bm n : Nat} {l : List Thg} {m : PosM} {w w' : World}
theorem HS.keep (h : HS X b bi cap bm n l m w) (hk : ∀ k, k = b ∨ k = bi ∨ k = bm → w'.heap[k]? = w.heap[k]?) : HS X b bi cap bm n l m w' :=
  ⟨(hk b (.inl rfl)).trans h.blk, row_keep h.row (hk bi (.inr (.inl rfl))), h.pos.keep (hk bm (.inr (.inr rfl))), h.ne1, h.ne2, h.ne3⟩
theorem HS.lt (h : HS X b bi cap bm n l m w) : ∀ k, k = b ∨ k = bi ∨ k = bm → k < w.heap.size := by
  rintro k (rfl | rfl | rfl)
  · exact lt_of_block h.blk
  · exact row_lt h.row
  · exact h.pos.lt
theorem HS.below (h : HS X b bi cap bm n l m w) (hb : Below w.heap.size w w') : HS X b bi cap bm n l m w' := h.keep fun k hk => hb.block k (h.lt k hk)
theorem HS.cells (h : HS X b bi cap bm n l m w) : w.cell? ⟨b, 0, none⟩ = some (.slice (some ⟨bi, 0, none⟩) l.length cap) ∧ w.cell? ⟨b, 1, none⟩ = some (.map (some bm)) := ⟨blk_cell h.blk 0, blk_cell h.blk 1⟩
theorem HS.len (h : HS X b bi cap bm n l m w) : l.length ≤ cap ∧ cap ≤ maxLen := by
  rcases h.row.2 with ⟨h, _⟩ | ⟨g, c, cur, hv, h0, hg, h3, h4, _⟩
  · cases h
  · cases hv
    exact ⟨h3, h4⟩
end
/-- One mark: the world ahead of it, and what is known behind it. -/
def twoC (w1 : World) (Q : World → Prop) (m : List Bool) (w : World) : Prop := if m[0]? = some true then Q w else w = w1
theorem twoC_start (w1 : World) (Q : World → Prop) : twoC w1 Q ([0].map fun _ => false) w1 := by simp [twoC]
theorem twoC_off {w1 w : World} {Q : World → Prop} {m : List Bool} (h : m[0]? = some false) (hC : twoC w1 Q m w) : w = w1 := by
  unfold twoC at hC; rw [if_neg (by rw [h]; simp)] at hC; exact hC
theorem twoC_on {w1 w : World} {Q : World → Prop} {m : List Bool} (h : m[0]? = some true) (hC : twoC w1 Q m w) : Q w := by
  unfold twoC at hC; rw [if_pos h] at hC; exact hC
theorem twoC_set {w1 w : World} {Q : World → Prop} {m : List Bool} (h : m[0]? = some false) (hq : Q w) : twoC w1 Q (m.set 0 true) w := by
  have : 0 < m.length := by
    rcases Nat.lt_or_ge 0 m.length with h' | h'
    · exact h'
    · rw [List.getElem?_eq_none h'] at h; cases h
  unfold twoC; rw [if_pos (by simp [this])]; exact hq
theorem twoC_any {w1 w : World} {Q : World → Prop} {m : List Bool} (hC : twoC w1 Q m w) : w = w1 ∨ Q w := by
  unfold twoC at hC; split at hC
  · exact .inr hC
  · exact .inl hC
end Go.Proofs.Ytalpocgajecjbaa
