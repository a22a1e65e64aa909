/- Plain facts on things with keys: no Go in sight. Conditions: none. -/
import Derived.Test.YtalpocgajecjbaaResPlain
import Derived.Test.YtalpocgajecjbaaWrdPlain
namespace Go.Proofs.Ytalpocgajecjbaa
open Go.RowKit
set_option linter.unusedVariables false
set_option linter.unusedSimpArgs false

/-- A thing. -/
structure Thg where
  id : Int
  key : V3
def Thg.ok (t : Thg) : Prop := inI t.id ∧ t.key.ok
def Thg.row (t : Thg) : List Value := [.int .i64 t.id, .int .i64 t.key.a, .int .i64 t.key.b, .int .i64 t.key.c]
def Thg.val (t : Thg) : Value := .agg #[.int .i64 t.id, .int .i64 t.key.a, .int .i64 t.key.b, .int .i64 t.key.c]
def rowsT (l : List Thg) : List (List Value) := l.map Thg.row
def eq3 (v u : V3) : Bool := v.a == u.a && (v.b == u.b && v.c == u.c)
theorem eq3_iff (v u : V3) : eq3 v u = true ↔ v = u := by cases v; cases u; simp [eq3]
/-- Is one less? -/
def aheadT (x y : Thg) : Bool := lessB x.key y.key || (eq3 x.key y.key && decide (x.id < y.id))
def findT (l : List Thg) (id : Int) : Option Nat := findA id (l.map (·.id))
def dropT (l : List Thg) (id : Int) : List Thg := l.filter fun t => t.id != id
def putT (l : List Thg) (x : Thg) : List Thg := (dropT l x.id).takeWhile (fun t => aheadT t x) ++ x :: (dropT l x.id).dropWhile (fun t => aheadT t x)
def idsT (l : List Thg) : List Int := l.map (·.id)
theorem rowsT_len (l : List Thg) : (rowsT l).length = l.length := by simp [rowsT]
theorem rowsT_four (l : List Thg) : ∀ r ∈ rowsT l, r.length = 4 := by
  intro r hr
  obtain ⟨t, _, rfl⟩ := List.mem_map.1 hr
  rfl
theorem rowsT_get (l : List Thg) (k : Nat) (h : k < l.length) : (rowsT l)[k]? = some l[k].row := by simp [rowsT, h]
theorem rowsT_drop (l : List Thg) (k : Nat) : (rowsT l).drop k = rowsT (l.drop k) := by simp [rowsT]
theorem rowsT_snoc (l : List Thg) (x : Thg) : rowsT (l ++ [x]) = rowsT l ++ [x.row] := by simp [rowsT]
theorem rowsT_append (l r : List Thg) : rowsT (l ++ r) = rowsT l ++ rowsT r := by simp [rowsT]
theorem dropT_take (l : List Thg) (id : Int) (k : Nat) (h : k < l.length) : dropT (l.take (k + 1)) id = dropT (l.take k) id ++ if l[k].id = id then [] else [l[k]] := by
  rw [List.take_succ_eq_append_getElem h]
  unfold dropT
  rw [List.filter_append]
  by_cases hid : l[k].id = id
  · simp [hid]
  · simp [hid]
theorem dropT_len (l : List Thg) (id : Int) : (dropT l id).length ≤ l.length := List.length_filter_le _ _
theorem idsT_take (l : List Thg) (k : Nat) (h : k < l.length) : idsT (l.take (k + 1)) = idsT (l.take k) ++ [l[k].id] := by
  unfold idsT; rw [List.take_succ_eq_append_getElem h, List.map_append]; rfl
theorem while_at {α : Type} (p : α → Bool) (l : List α) (k : Nat) (h : ∀ i (hi : i < l.length), i < k → p l[i] = true) (hk : k ≤ l.length) (hc : ∀ h : k < l.length, p (l[k]'h) = false) : l.takeWhile p = l.take k ∧ l.dropWhile p = l.drop k := by
  induction l generalizing k with
  | nil => simp at hk; subst hk; exact ⟨rfl, rfl⟩
  | cons a l ih =>
    cases k with
    | zero =>
      have := hc (by simp)
      simp at this
      simp [this]
    | succ k =>
      have h0 := h 0 (by simp) (by omega)
      simp at h0
      have := ih k (fun i hi hik => by have := h (i + 1) (by simp; omega) (by omega); simpa using this) (by simp at hk; omega) (fun hh => by have := hc (by simp; omega); simpa using this)
      simp [h0, this]
theorem putT_at (l : List Thg) (x : Thg) (k : Nat) (hk : k ≤ (dropT l x.id).length) (h : ∀ i (hi : i < (dropT l x.id).length), i < k → aheadT (dropT l x.id)[i] x = true) (hc : ∀ h : k < (dropT l x.id).length, aheadT ((dropT l x.id)[k]'h) x = false) :
    putT l x = (dropT l x.id).take k ++ x :: (dropT l x.id).drop k := by
  obtain ⟨h1, h2⟩ := while_at (fun t => aheadT t x) (dropT l x.id) k h hk hc
  unfold putT
  rw [h1, h2]
end Go.Proofs.Ytalpocgajecjbaa
