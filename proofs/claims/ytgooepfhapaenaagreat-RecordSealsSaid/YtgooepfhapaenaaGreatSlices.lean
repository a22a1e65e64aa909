/- Slices of one-cell elements: what reads as a list, and what is the call's own. Conditions: as stated. -/
import Derived.Test.YtgooepfhapaenaaGreatKit
import Derived.Maps.AppendAt
import Derived.OwnWalk
import Derived.Laws.AppendOwn
namespace Go.Proofs.YtgooepfhapaenaaGreat
open Go.ChangeShapes Go.WideShapes Go.ChangeAt Go.RowKit
set_option linter.unusedVariables false
set_option maxRecDepth 100000

/-- The value is a slice that reads as xs, and lies below block B. -/
def Rd (w : World) (B : Nat) (v : Value) (xs : List Value) : Prop :=
  ∃ (A : Option Addr) (c : Nat), v = .slice A xs.length c ∧ xs.length ≤ c ∧ c ≤ maxLen ∧
    (0 < xs.length → ∃ b o, A = some ⟨b, o, none⟩ ∧ b < B ∧ ∀ j x, xs[j]? = some x → w.cell? ⟨b, o + j, none⟩ = some x)
section
variable {w w' : World} {B B' : Nat} {v : Value} {xs : List Value}
theorem Rd.nil (w : World) (B : Nat) : Rd w B (.slice none 0 0) [] := ⟨none, 0, rfl, Nat.le_refl _, Nat.zero_le _, fun h => absurd h (by simp)⟩
theorem Rd.keep (h : Rd w B v xs) (hk : ∀ b o, b < B → w'.cell? ⟨b, o, none⟩ = w.cell? ⟨b, o, none⟩) : Rd w' B v xs := by
  obtain ⟨A, c, h1, h2, hm, h3⟩ := h
  refine ⟨A, c, h1, h2, hm, fun h0 => ?_⟩
  obtain ⟨b, o, ha, hb, hc⟩ := h3 h0
  exact ⟨b, o, ha, hb, fun j x hj => (hk b _ hb).trans (hc j x hj)⟩
theorem Rd.below (h : Rd w B v xs) (hb : Below B w w') : Rd w' B v xs := h.keep fun b o hB => hb.cell (p := ⟨b, o, none⟩) hB
theorem Rd.more (h : Rd w B v xs) (hB : B ≤ B') : Rd w B' v xs := by
  obtain ⟨A, c, h1, h2, hm, h3⟩ := h
  refine ⟨A, c, h1, h2, hm, fun h0 => ?_⟩
  obtain ⟨b, o, ha, hb, hc⟩ := h3 h0
  exact ⟨b, o, ha, by omega, hc⟩
theorem Rd.drewN (h : Rd w B v xs) (n : Nat) : Rd (w.drewN n) B v xs := h
/-- A beginning of it. -/
theorem Rd.take (k : Nat) {A : Option Addr} {l c : Nat} (h : Rd w B (.slice A l c) xs) (hk : k ≤ xs.length) : Rd w B (.slice A k c) (xs.take k) := by
  obtain ⟨A', c', h1, h2, hm, h3⟩ := h
  simp only [Value.slice.injEq] at h1
  obtain ⟨rfl, rfl, rfl⟩ := h1
  have hl : (xs.take k).length = k := by rw [List.length_take]; omega
  refine ⟨A, c, by rw [hl], by omega, hm, fun h0 => ?_⟩
  obtain ⟨b, o, ha, hb, hc⟩ := h3 (by omega)
  refine ⟨b, o, ha, hb, fun j x hj => hc j x ?_⟩
  rw [List.getElem?_take] at hj
  split at hj
  · exact hj
  · cases hj
theorem Rd.form (h : Rd w B v xs) : ∃ A c, v = .slice A xs.length c ∧ xs.length ≤ c ∧ c ≤ maxLen := by
  obtain ⟨A, c, h1, h2, hm, _⟩ := h; exact ⟨A, c, h1, h2, hm⟩
theorem Rd.at_ {A : Option Addr} {l c k : Nat} (h : Rd w B (.slice A l c) xs) (hk : k < xs.length) : ∃ b o, A = some ⟨b, o, none⟩ ∧ b < B ∧ ∀ j (hj : j < xs.length), w.cell? ⟨b, o + j, none⟩ = some xs[j] := by
  obtain ⟨A', c', h1, h2, hm, h3⟩ := h
  simp only [Value.slice.injEq] at h1
  obtain ⟨rfl, rfl, rfl⟩ := h1
  obtain ⟨b, o, ha, hb, hc⟩ := h3 (by omega)
  exact ⟨b, o, ha, hb, fun j hj => hc j _ (List.getElem?_eq_getElem hj)⟩
theorem Rd.own {base n : Nat} {e : TypeId} (h : w.ownsRow base e 1 v n xs) : Rd w w.heap.size v xs := by
  have hl : xs.length = n := by have := h.1; omega
  rcases h.2 with ⟨rfl, h0⟩ | ⟨g, cap, cur, rfl, _, hg, hc, hm, hs, ht⟩
  · obtain rfl : xs = [] := List.eq_nil_of_length_eq_zero (by omega)
    exact Rd.nil _ _
  · refine ⟨some ⟨g, 0, none⟩, cap, by rw [hl], by omega, hm, fun h0 => ⟨g, 0, rfl, lt_of_block hg, fun j x hj => ?_⟩⟩
    have := h.cells (g := g) rfl j x hj
    rw [show ((⟨g, 0, none⟩ : Addr).add j) = ⟨g, 0 + j, none⟩ by unfold Addr.add; split <;> simp_all] at this
    exact this
end
section
variable {w w' : World} {base size n : Nat} {e : TypeId} {v : Value} {xs : List Value}
/-- What is the call's own stays so where its block stays. -/
theorem owns_keep (h : w.ownsRow base e size v n xs) (hk : ∀ g, base ≤ g → g < w.heap.size → w'.heap[g]? = w.heap[g]?) : w'.ownsRow base e size v n xs := by
  refine ⟨h.1, ?_⟩
  rcases h.2 with h2 | ⟨g, cap, cur, hv, hb, hg, h3⟩
  · exact Or.inl h2
  · exact Or.inr ⟨g, cap, cur, hv, hb, (hk g hb (lt_of_block hg)).trans hg, h3⟩
theorem owns_below (h : w.ownsRow base e size v n xs) (hb : Below w.heap.size w w') : w'.ownsRow base e size v n xs := owns_keep h fun g _ hg => hb.block g hg
theorem owns_only {b : Nat} (h : w.ownsRow base e size v n xs) (ho : Only b w w') (hb : b < base) : w'.ownsRow base e size v n xs := owns_keep h fun g hg hl => ho.block g hl (by omega)
theorem owns_row (h : w.ownsRow base e size v n xs) {g : Nat} (hg : v.ownBlock = some g) : base ≤ g := (h.lt g hg).1
theorem grown_below {B : Nat} {a : World} {row : Option Nat} (hb : Below B a w) (hg : w.grownBy w' row) (hr : ∀ g, row = some g → B ≤ g) (hB : B ≤ w.heap.size) : Below B a w' :=
  ⟨hg.os.trans hb.os, hg.tape.trans hb.tape, hg.output.trans hb.output, Nat.le_trans hb.size hg.size, fun k hk => (hg.block k (by omega) (fun e => by have := hr k e.symm; omega)).trans (hb.block k hk)⟩
theorem grown_blk {b : Nat} {o : Obj} {row : Option Nat} (h : w.heap[b]? = some o) (hg : w.grownBy w' row) (hr : ∀ g, row = some g → g ≠ b) : w'.heap[b]? = some o :=
  (hg.block b (lt_of_block h) (fun e => hr b e.symm rfl)).trans h
end
/-- Texts, as cells. -/
def strs (l : List (List UInt8)) : List Value := l.map fun b => .string (bs b)
theorem strs_len (l : List (List UInt8)) : (strs l).length = l.length := by simp [strs]
theorem strs_take (l : List (List UInt8)) (k : Nat) : (strs l).take k = strs (l.take k) := by simp [strs]
theorem strs_maps (l : List (List UInt8)) : strs l = (l.map bs).map Value.string := by simp [strs]
/-- Numbers, as cells. -/
theorem owns_form {w : World} {base e size n : Nat} {v : Value} {xs : List Value} (h : w.ownsRow base e size v n xs) : ∃ A c, v = .slice A n c := by
  rcases h.2 with ⟨h1, h2⟩ | ⟨g, cap, cur, h1, _⟩
  · subst h2; exact ⟨none, 0, h1⟩
  · exact ⟨_, _, h1⟩
/-- How long a slice is. -/
def lenV : Value → Nat
  | .slice _ n _ => n
  | _ => 0
def ints (ns : List Int) : List Value := ns.map (Value.int .i64)
theorem ints_len (ns : List Int) : (ints ns).length = ns.length := by simp [ints]
theorem ints_take (ns : List Int) (k : Nat) : (ints ns).take k = ints (ns.take k) := by simp [ints]
theorem ints_get (ns : List Int) (k : Nat) (h : k < (ints ns).length) : (ints ns)[k] = .int .i64 (ns[k]'(by rw [← ints_len]; exact h)) := by simp [ints]
/-- Bytes, as cells. -/
def u8v (l : List UInt8) : List Value := l.map fun b => .int .u8 (b.toNat : Nat)
/-- A slice of texts, of numbers, that the call has written out. -/
theorem rd_lit (w : World) (l : List (List UInt8)) (cs : Array Value) (hc : cs.toList = strs l) (hl : l.length ≤ 1000) :
    Rd (w.alloc (.cells cs 9)) (w.heap.size + 1) (.slice (some ⟨w.heap.size, 0, none⟩) l.length l.length) (strs l) := by
  refine ⟨some ⟨w.heap.size, 0, none⟩, l.length, by rw [strs_len], by rw [strs_len]; exact Nat.le_refl _, by unfold maxLen; omega, fun _ => ⟨w.heap.size, 0, rfl, by omega, fun j x hj => ?_⟩⟩
  rw [blk_cell (blk_new w (.cells cs 9))]
  rw [← hc] at hj
  simpa using hj
theorem rd_liti (w : World) (l : List Int) (cs : Array Value) (hc : cs.toList = ints l) (hl : l.length ≤ 1000) :
    Rd (w.alloc (.cells cs 3)) (w.heap.size + 1) (.slice (some ⟨w.heap.size, 0, none⟩) l.length l.length) (ints l) := by
  refine ⟨some ⟨w.heap.size, 0, none⟩, l.length, by rw [ints_len], by rw [ints_len]; exact Nat.le_refl _, by unfold maxLen; omega, fun _ => ⟨w.heap.size, 0, rfl, by omega, fun j x hj => ?_⟩⟩
  rw [blk_cell (blk_new w (.cells cs 3))]
  rw [← hc] at hj
  simpa using hj
end Go.Proofs.YtgooepfhapaenaaGreat
