/- Slices of elements of several cells: what reads as a list of rows, in blocks of which something is known. Conditions: as stated. -/
import Derived.Test.YtgooepfhapaenaaGreatSlices
namespace Go.Proofs.YtgooepfhapaenaaGreat
open Go.ChangeShapes Go.WideShapes Go.ChangeAt Go.RowKit
set_option linter.unusedVariables false
set_option maxRecDepth 100000

/-- The value is a slice of elements of m cells that reads as the rows; its block, if it has any, is one of K. -/
def RdK (m : Nat) (w : World) (K : Nat → Prop) (v : Value) (rs : List (List Value)) : Prop :=
  ∃ (A : Option Addr) (c : Nat), v = .slice A rs.length c ∧ rs.length ≤ c ∧ c ≤ maxLen ∧
    (0 < rs.length → ∃ b o, A = some ⟨b, o, none⟩ ∧ b < w.heap.size ∧ K b ∧ ∀ i r, rs[i]? = some r → ∀ j x, r[j]? = some x → w.cell? ⟨b, o + i * m + j, none⟩ = some x)
/-- Blocks made behind a world. -/
def Fresh (w w' : World) (b : Nat) : Prop := w.heap.size ≤ b
theorem flat_get (m : Nat) : ∀ (rs : List (List Value)), (∀ r ∈ rs, r.length = m) → ∀ (i : Nat) r, rs[i]? = some r → ∀ (j : Nat) x, r[j]? = some x → rs.flatten[i * m + j]? = some x
  | [], _, i, r, hi, _, _, _ => by simp at hi
  | a :: rs, hm, i, r, hi, j, x, hj => by
    have ha := hm a (by simp)
    rw [List.flatten_cons]
    cases i with
    | zero =>
      simp at hi
      subst hi
      have hjl : j < a.length := (List.getElem?_eq_some_iff.1 hj).1
      rw [List.getElem?_append_left (by omega)]
      simpa using hj
    | succ i =>
      have := flat_get m rs (fun q hq => hm q (by simp [hq])) i r (by simpa using hi) j x hj
      rw [List.getElem?_append_right (by rw [ha, Nat.add_mul]; omega), ha, show (i + 1) * m + j - m = i * m + j by rw [Nat.add_mul]; omega]
      exact this
theorem flat_len (m : Nat) (rs : List (List Value)) (hm : ∀ r ∈ rs, r.length = m) : rs.flatten.length = rs.length * m := by
  induction rs with
  | nil => simp
  | cons a rs ih =>
    rw [List.flatten_cons, List.length_append, hm a (by simp), ih (fun r hr => hm r (by simp [hr])), List.length_cons, Nat.add_mul]; omega
theorem flat_inv (m : Nat) (h0 : 0 < m) : ∀ (rs : List (List Value)), (∀ r ∈ rs, r.length = m) → ∀ (q : Nat) x, rs.flatten[q]? = some x → ∃ i r j, q = i * m + j ∧ rs[i]? = some r ∧ r[j]? = some x
  | [], _, q, x, h => by simp at h
  | a :: rs, hm, q, x, h => by
    have ha := hm a (by simp)
    rw [List.flatten_cons] at h
    by_cases hq : q < m
    · rw [List.getElem?_append_left (by omega)] at h
      exact ⟨0, a, q, by omega, rfl, h⟩
    · rw [List.getElem?_append_right (by omega), ha] at h
      obtain ⟨i, r, j, h1, h2, h3⟩ := flat_inv m h0 rs (fun r hr => hm r (by simp [hr])) (q - m) x h
      exact ⟨i + 1, r, j, by rw [Nat.add_mul]; omega, by simpa using h2, h3⟩
section
variable {w w' : World} {K K' : Nat → Prop} {v : Value} {rs : List (List Value)} {m : Nat}
theorem RdK.nil (m : Nat) (w : World) (K : Nat → Prop) : RdK m w K (.slice none 0 0) [] := ⟨none, 0, rfl, Nat.le_refl _, Nat.zero_le _, fun h => absurd h (by simp)⟩
theorem RdK.keep (h : RdK m w K v rs) (hk : ∀ b, K b → b < w.heap.size → w'.heap[b]? = w.heap[b]?) (hs : w.heap.size ≤ w'.heap.size) : RdK m w' K v rs := by
  obtain ⟨A, c, h1, h2, hm, h3⟩ := h
  refine ⟨A, c, h1, h2, hm, fun h0 => ?_⟩
  obtain ⟨b, o, ha, hl, hb, hc⟩ := h3 h0
  refine ⟨b, o, ha, by omega, hb, fun i r hi j x hj => ?_⟩
  rw [← hc i r hi j x hj]
  unfold World.cell?
  rw [hk b hb hl]
theorem RdK.below (h : RdK m w K v rs) (hb : Below w.heap.size w w') : RdK m w' K v rs := h.keep (fun b _ hl => hb.block b hl) hb.size
theorem RdK.imp (h : RdK m w K v rs) (hk : ∀ b, K b → b < w.heap.size → K' b) : RdK m w K' v rs := by
  obtain ⟨A, c, h1, h2, hm, h3⟩ := h
  refine ⟨A, c, h1, h2, hm, fun h0 => ?_⟩
  obtain ⟨b, o, ha, hl, hb, hc⟩ := h3 h0
  exact ⟨b, o, ha, hl, hk b hb hl, hc⟩
theorem RdK.form (h : RdK m w K v rs) : ∃ A c, v = .slice A rs.length c ∧ rs.length ≤ c ∧ c ≤ maxLen := by
  obtain ⟨A, c, h1, h2, hm, _⟩ := h; exact ⟨A, c, h1, h2, hm⟩
theorem RdK.at_ {A : Option Addr} {l c k : Nat} (h : RdK m w K (.slice A l c) rs) (hk : k < rs.length) : ∃ b o, A = some ⟨b, o, none⟩ ∧ b < w.heap.size ∧ K b ∧ ∀ i r, rs[i]? = some r → ∀ j x, r[j]? = some x → w.cell? ⟨b, o + i * m + j, none⟩ = some x := by
  obtain ⟨A', c', h1, h2, hm, h3⟩ := h
  simp only [Value.slice.injEq] at h1
  obtain ⟨rfl, rfl, rfl⟩ := h1
  exact h3 (by omega)
/-- What is left behind k elements. -/
theorem RdK.drop (k : Nat) {A : Option Addr} {l c : Nat} (h : RdK m w K (.slice A l c) rs) (hk : k ≤ rs.length) : RdK m w K (sliced A k l c m) (rs.drop k) := by
  obtain ⟨A', c', h1, h2, hm, h3⟩ := h
  simp only [Value.slice.injEq] at h1
  obtain ⟨rfl, rfl, rfl⟩ := h1
  have hl : (rs.drop k).length = rs.length - k := List.length_drop
  refine ⟨_, c - k, by unfold sliced; rw [hl], by rw [hl]; omega, by omega, fun h0 => ?_⟩
  obtain ⟨b, o, rfl, hlt, hb, hc⟩ := h3 (by omega)
  have hck : ¬ c = k := by omega
  refine ⟨b, o + k * m, ?_, hlt, hb, fun i r hi j x hj => ?_⟩
  · rw [if_neg hck]
    simp only [Option.map_some]
    unfold Addr.add; split <;> simp_all
  · have := hc (k + i) r (by rw [← hi, List.getElem?_drop]) j x hj
    rw [← this, show o + (k + i) * m + j = o + k * m + i * m + j by rw [Nat.add_mul]; omega]
/-- What is the call's own. -/
theorem RdK.own {base n : Nat} {e : TypeId} (h : w.ownsRow base e m v n rs.flatten) (hn : rs.length = n) (hm : ∀ r ∈ rs, r.length = m) : RdK m w (fun b => base ≤ b) v rs := by
  rcases h.2 with ⟨rfl, h0⟩ | ⟨g, cap, cur, rfl, hb, hg, hc, hmx, hs, ht⟩
  · obtain rfl : rs = [] := List.eq_nil_of_length_eq_zero (by omega)
    exact RdK.nil _ _ _
  · refine ⟨some ⟨g, 0, none⟩, cap, by rw [hn], by omega, hmx, fun h0 => ⟨g, 0, rfl, lt_of_block hg, hb, fun i r hi j x hj => ?_⟩⟩
    have := h.cells (g := g) rfl (i * m + j) x (flat_get m rs hm i r hi j x hj)
    rw [show ((⟨g, 0, none⟩ : Addr).add (i * m + j)) = ⟨g, 0 + i * m + j, none⟩ by unfold Addr.add; split <;> simp_all] at this
    exact this
end
/-- All its cells, one behind the other. -/
theorem RdK.cells {w : World} {K : Nat → Prop} {rs : List (List Value)} {m : Nat} {ad : Addr} {l c : Nat} (h : RdK m w K (.slice (some ad) l c) rs) (h0 : 0 < m) (hm : ∀ r ∈ rs, r.length = m) : ∀ j u, rs.flatten[j]? = some u → w.cell? (ad.add j) = some u := by
  intro q u hq
  obtain ⟨i, r, j, rfl, h1, h2⟩ := flat_inv m h0 rs hm q u hq
  obtain ⟨b, o, he, _, _, hc⟩ := h.at_ (k := 0) (by have := (List.getElem?_eq_some_iff.1 h1).1; omega)
  cases he
  have := hc i r h1 j u h2
  rw [← this]
  congr 1
  unfold Addr.add; split <;> simp_all <;> omega
/-- The cells of a new block. -/
theorem cells_new (w : World) (cs : Array Value) (t : TypeId) : ∀ j u, cs.toList[j]? = some u → (w.alloc (.cells cs t)).cell? ((⟨w.heap.size, 0, none⟩ : Addr).add j) = some u := by
  intro j u hj
  rw [show ((⟨w.heap.size, 0, none⟩ : Addr).add j) = ⟨w.heap.size, j, none⟩ by unfold Addr.add; split <;> simp_all, blk_cell (blk_new w (.cells cs t))]
  simpa using hj
end Go.Proofs.YtgooepfhapaenaaGreat
