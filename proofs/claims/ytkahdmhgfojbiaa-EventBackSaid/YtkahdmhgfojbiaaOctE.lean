/- What the document's TakeText returns, and the cursor's small methods. Conditions: the text is no longer than any text. -/
import Derived.Test.YtkahdmhgfojbiaaOctD
namespace Go.Proofs.Ytkahdmhgfojbiaa
open Go.ChangeShapes Go.WideShapes Go.ChangeAt Go.RowKit
set_option linter.unusedVariables false
set_option maxRecDepth 100000
set_option linter.unusedSimpArgs false

def ttE (l : List UInt8) (most : Int) : Nat := if tvE l ≠ 0 then tvE l else if most < tvV l then 9 else if l.length - tvM l < tvV l then 3 else 0
def ttT (l : List UInt8) (most : Int) : ByteArray := if ttE l most = 0 then bs ((l.take (tvM l + tvV l)).drop (tvM l)) else bs []
def ttM (l : List UInt8) (most : Int) : Nat := if ttE l most = 0 then tvM l + tvV l else 0
theorem ttE_ne {l : List UInt8} {most : Int} (h : ttE l most ≠ 0) : ttT l most = bs [] ∧ ttM l most = 0 := by
  unfold ttT ttM; rw [if_neg h, if_neg h]; exact ⟨rfl, rfl⟩
theorem ttE_le (l : List UInt8) (most : Int) : ttM l most ≤ l.length := by
  unfold ttM
  split
  · rename_i h
    unfold ttE at h
    have := tvM_le l
    split at h
    · omega
    · split at h
      · omega
      · split at h <;> omega
  · omega
theorem tvE_cases (l : List UInt8) : tvE l = 0 ∨ tvE l = 2 ∨ tvE l = 3 := by
  unfold tvE; split
  · omega
  · split <;> omega
theorem threeO {a b c : Value} {a' b' c' : Value} (h1 : a = a') (h2 : b = b') (h3 : c = c') : Ending.returned (.tuple #[a, b, c]) = .returned (.tuple #[a', b', c']) := by rw [h1, h2, h3]
theorem twoO {a b : Value} {a' b' : Value} (h1 : a = a') (h2 : b = b') : Ending.returned (.tuple #[a, b]) = .returned (.tuple #[a', b']) := by rw [h1, h2]

/-- A cursor: its bytes, and where it stands. -/
def Cur (w : World) (b : Nat) (s : ByteArray) (k : Nat) : Prop := w.heap[b]? = some (.cells #[.string s, .int .i64 k] 71 (0, 0)) ∧ k ≤ s.size
def rest (s : ByteArray) (k : Nat) : List UInt8 := s.data.toList.drop k
theorem rest_len (s : ByteArray) (k : Nat) : (rest s k).length = s.size - k := by unfold rest; rw [List.length_drop, data_len]

theorem left_nil (w : World) : Calls Try.prog 32 #[.pointer none] w fun e w' => e = .returned (.int .i64 0) ∧ w = w' := by
  go_enter Try.func32, Try.ntmps32
  go_wp2
  go_ret
  exact ⟨rfl, rfl⟩
theorem left_any (b : Nat) (s : ByteArray) (k : Nat) (w : World) (hs : s.size ≤ 9223372036854775000) (hc : Cur w b s k) :
    Calls Try.prog 32 #[.pointer (some ⟨b, 0, none⟩)] w fun e w' => e = .returned (.int .i64 ((s.size - k : Nat) : Int)) ∧ ∃ n, w' = w.drewN n := by
  obtain ⟨hb, hk⟩ := hc
  have c0 : w.cell? ⟨b, 0, none⟩ = some (.string s) := cell_of_row w b 0 _ _ _ hb
  have c1 : w.cell? ⟨b, 1, none⟩ = some (.int .i64 k) := cell_of_row w b 1 _ _ _ hb
  have q : IntKind.i64.wrap ((s.size : Int) - k) = ((s.size - k : Nat) : Int) := by rw [IntWalk.i64_in _ (by omega)]; omega
  clear hb
  go_enter Try.func32, Try.ntmps32
  go_wp2_with fail
  go_quiet (fail)
  go_wp2
  go_ret
  exact ⟨rfl, _, rfl⟩
end Go.Proofs.Ytkahdmhgfojbiaa
