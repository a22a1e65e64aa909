/- Rows of jobs in memory. Conditions: as stated. -/
import Derived.Test.YtalpocgajecjbaaRnkA
import Derived.Test.YtalpocgajecjbaaRdm
import Derived.Laws.AppendOwnNone
import Derived.ChangeKeysEq
import Derived.Laws.StructEq
namespace Go.Proofs.Ytalpocgajecjbaa
open Go.ChangeShapes Go.WideShapes Go.ChangeAt Go.RowKit
set_option linter.unusedVariables false
set_option maxRecDepth 100000
set_option linter.unusedSimpArgs false

def rowsJ (l : List Jb) : List (List Value) := l.map Jb.row
theorem rowsJ_len (l : List Jb) : (rowsJ l).length = l.length := by simp [rowsJ]
theorem rowsJ_eight (l : List Jb) : ∀ r ∈ rowsJ l, r.length = 8 := by
  intro r hr
  obtain ⟨x, _, rfl⟩ := List.mem_map.1 hr
  rfl
theorem rowsJ_get (l : List Jb) (k : Nat) (h : k < l.length) : (rowsJ l)[k]? = some l[k].row := by simp [rowsJ, h]
theorem rowsJ_append (l r : List Jb) : rowsJ (l ++ r) = rowsJ l ++ rowsJ r := by simp [rowsJ]
theorem jrow_one (x : Jb) : ∀ v ∈ Jb.row x, v.oneCell' = true := by
  intro v hv; unfold Jb.row at hv; simp at hv
  rcases hv with rfl | rfl | rfl | rfl | rfl | rfl | rfl | rfl <;> rfl
theorem rowsJ_one (l : List Jb) : ∀ u ∈ (rowsJ l).flatten, u.oneCell' = true := by
  intro u hu
  obtain ⟨r, hr, hu⟩ := List.mem_flatten.1 hu
  obtain ⟨t, _, rfl⟩ := List.mem_map.1 hr
  exact jrow_one t u hu
theorem rowsJ_flat (l : List Jb) : (rowsJ l).flatten.length = l.length * 8 := by rw [flat_len 8 _ (rowsJ_eight _), rowsJ_len]
theorem infoJ : (Try.prog.info? 37).map (fun i => (i.zero, i.size, i.bytes)) = some (some (.agg #[.int .i64 0, .int .i64 0, .int .i64 0, .int .i64 0, .int .i64 0, .int .i64 0, .int .i64 0, .int .i64 0]), 8, 64) := by kernel_rfl
/-- A result that is a slice of jobs, in memory of the call's own. -/
def JobsR (l : List Jb) (w : World) (e : Ending) (w' : World) : Prop :=
  ∃ v, e = .returned v ∧ RdK 8 w' (fun b => w.heap.size ≤ b) v (rowsJ l) ∧ Below w.heap.size w w'
theorem own_formJ {w : World} {base m n : Nat} {e : TypeId} {v : Value} {xs : List Value} (h : w.ownsRow base e m v n xs) : (v = .slice none 0 0 ∧ n = 0) ∨ ∃ g c, v = .slice (some ⟨g, 0, none⟩) n c := by
  rcases h.2 with ⟨h1, h2⟩ | ⟨g, cap, cur, h, _⟩
  · refine .inl ⟨h1, ?_⟩
    first | exact h2 | omega
  · exact .inr ⟨g, cap, h⟩
theorem RdK.cellsA {w : World} {K : Nat → Prop} {rs : List (List Value)} {m : Nat} {ad : Addr} {l c : Nat} (h : RdK m w K (.slice (some ad) l c) rs) (h0 : 0 < m) (hm : ∀ r ∈ rs, r.length = m) {B : Nat} {w' : World} (hb : Below w.heap.size w w') : ∀ j u, rs.flatten[j]? = some u → w'.cell? (ad.add j) = some u :=
  (h.below hb).cells h0 hm
theorem below_drewQ {B : Nat} {a w : World} (h : Below B a w) (n : Nat) : Below B a (w.drewN n) := ⟨h.os, h.tape, h.output, h.size, h.block⟩
end Go.Proofs.Ytalpocgajecjbaa
