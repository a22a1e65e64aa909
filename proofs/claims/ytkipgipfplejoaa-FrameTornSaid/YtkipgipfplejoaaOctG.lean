/- What the cursor's groups gives. Conditions: the text is no longer than any text. -/
import Derived.Test.YtkipgipfplejoaaOctF
namespace Go.Proofs.Ytkipgipfplejoaa
open Go.ChangeShapes Go.WideShapes Go.ChangeAt Go.RowKit
set_option linter.unusedVariables false
set_option maxRecDepth 100000
set_option linter.unusedSimpArgs false

/-- The array behind so many bytes. -/
def grpA (l : List UInt8) (k : Nat) : Array Value := varA (l.take (min k 9))
theorem grpA_zero (l : List UInt8) : grpA l 0 = varA [] := by simp [grpA]
theorem grpA_set (l : List UInt8) (k : Nat) (h : k < 9) (hk : k < l.length) : (grpA l k).setIfInBounds k (.int .u8 (l[k]).toNat) = grpA l (k + 1) := by
  unfold grpA
  rw [Nat.min_eq_left (by omega), Nat.min_eq_left (by omega), List.take_succ_eq_append_getElem hk]
  have hl : (l.take k).length = k := by rw [List.length_take]; omega
  have := varA_set (l.take k) l[k] (by omega)
  rw [hl] at this
  exact this
theorem grpA_more (l : List UInt8) (k : Nat) (h : 9 ≤ k) : grpA l k = grpA l (k + 1) := by
  unfold grpA; rw [Nat.min_eq_right h, Nat.min_eq_right (by omega)]

/-- What groups gives. -/
def groupsV (l : List UInt8) : Value := if l.length ≤ leadN l then .tuple #[.agg (varA []), .int .i64 0, .bool false] else .tuple #[.agg (grpA l (leadN l + 1)), .int .i64 ((leadN l + 1 : Nat) : Int), .bool true]
theorem setRow_heap (w : World) (g : Nat) (cs : Array Value) (t : TypeId) (old : Array Value) (h : w.heap[g]? = some (.cells old t (0, 0))) : (w.setRow g cs).heap[g]? = some (.cells cs t (0, 0)) := by
  simp [World.setRow, Array.getElem?_modify, h]
theorem setRow_below {w w' : World} {B g : Nat} (cs : Array Value) (h : Below B w w') (hB : B ≤ g) : Below B w (w'.setRow g cs) :=
  h.trans ⟨rfl, rfl, rfl, by simp [World.setRow], fun k hk => by simp only [World.setRow, Array.getElem?_modify]; rw [if_neg (by omega)]⟩
theorem u8s_one (l : List UInt8) : (u8s l).all (·.oneCell') = true := by
  simp [u8s, Array.all_eq_true_iff_forall_mem]
  intro b hb; rfl
theorem varA_size (l : List UInt8) (h : l.length ≤ 9) : (varA l).size = 9 := by unfold varA; rw [u8s_size]; simp; omega
theorem grpA_size (l : List UInt8) (k : Nat) : (grpA l k).size = 9 := varA_size _ (by rw [List.length_take]; omega)
theorem next_step (a r i B : Nat) (t : ByteArray) (w : World) (ht : t.size ≤ 9223372036854775000) (hi : i < t.size) (hB : B ≤ a) (ha : w.heap[a]? = some (.cells #[.int .i64 i] 3 (0, 0))) (hr : w.heap[r]? = some (.cells #[.string t] 9 (0, 0))) :
    Calls Try.prog 47 #[.pointer (some ⟨a, 0, none⟩), .pointer (some ⟨r, 0, none⟩)] w fun e w' => e = .returned (.tuple #[.int .u8 (t[i]).toNat, .bool true]) ∧ w'.heap[a]? = some (.cells #[.int .i64 ((i : Int) + 1)] 3 (0, 0)) ∧ Hid (∀ b, b ≠ a → w'.heap[b]? = w.heap[b]?) ∧ Below B w w' :=
  (next_any a r i t w ht hi ha hr).mono fun e w' h => by
    obtain ⟨h1, h2⟩ := h
    subst h2
    exact ⟨h1, one_setCell ha, fun b hb => Below.heap_setCell _ _ _ _ hb, (Below.refl _ _).setCell hB _⟩

theorem int_str_ne {w : World} {a r : Nat} {n : Int} {t : ByteArray} (hA : w.heap[a]? = some (.cells #[.int .i64 n] 3 (0, 0))) (hR : w.heap[r]? = some (.cells #[.string t] 9 (0, 0))) : r ≠ a := by
  rintro rfl; rw [hA] at hR; simp at hR
end Go.Proofs.Ytkipgipfplejoaa
