/- What the document's TakeText returns, and the cursor's small methods. Conditions: the text is no longer than any text. -/
import Derived.Test.YtflbogaknjdfjaaOctD
namespace Go.Proofs.Ytflbogaknjdfjaa
open Go.ChangeShapes Go.WideShapes Go.ChangeAt Go.RowKit
set_option linter.unusedVariables false
set_option linter.unusedSimpArgs false

def ttE (l : List UInt8) (most : Int) : Nat := if tvE l ≠ 0 then tvE l else if most < tvV l then 9 else if l.length - tvM l < tvV l then 3 else 0
def ttT (l : List UInt8) (most : Int) : ByteArray := if ttE l most = 0 then bs ((l.take (tvM l + tvV l)).drop (tvM l)) else bs []
def ttM (l : List UInt8) (most : Int) : Nat := if ttE l most = 0 then tvM l + tvV l else 0
theorem ttE_ne {l : List UInt8} {most : Int} (h : ttE l most ≠ 0) : ttT l most = bs [] ∧ ttM l most = 0 := by
  unfold ttT ttM; rw [if_neg h, if_neg h]; exact ⟨rfl, rfl⟩
theorem ttE_le (l : List UInt8) (most : Int) : ttM l most ≤ l.length := by
  unfold ttM
  split
  · rename_i h
    unfold ttE at h
    have := tvM_le l
    split at h
    · omega
    · split at h
      · omega
      · split at h <;> omega
  · omega
theorem tvE_cases (l : List UInt8) : tvE l = 0 ∨ tvE l = 2 ∨ tvE l = 3 := by
  unfold tvE; split
  · omega
  · split <;> omega
theorem three {a b c : Value} {a' b' c' : Value} (h1 : a = a') (h2 : b = b') (h3 : c = c') : Ending.returned (.tuple #[a, b, c]) = .returned (.tuple #[a', b', c']) := by rw [h1, h2, h3]
theorem two {a b : Value} {a' b' : Value} (h1 : a = a') (h2 : b = b') : Ending.returned (.tuple #[a, b]) = .returned (.tuple #[a', b']) := by rw [h1, h2]

set_option maxRecDepth 100000 in
theorem rtakeText_any (s : ByteArray) (most : Int) (w : World) (hs : s.size ≤ 9223372036854775000) :
    Calls Try.prog 19 #[.string s, .int .i64 most] w fun e w' => e = .returned (.tuple #[.string (ttT s.data.toList most), .int .i64 (ttM s.data.toList most), .int .i64 (ttE s.data.toList most)]) ∧ Below w.heap.size w w' := by
  have hv := fun w => Lib.hid (rtakeVar_any s w hs)
  have hV := tvV_lt s.data.toList
  have hM := tvM_le s.data.toList
  have hL := data_len s
  have hX : bs ((s.data.toList.take (tvM s.data.toList + tvV s.data.toList)).drop (tvM s.data.toList)) = s.extract (tvM s.data.toList) (tvM s.data.toList + tvV s.data.toList) := by
    rw [← extract_list, bs_of]
  have hE := tvE_cases s.data.toList
  have e1 : ttE s.data.toList most = if tvE s.data.toList ≠ 0 then tvE s.data.toList else if most < tvV s.data.toList then 9 else if s.size - tvM s.data.toList < tvV s.data.toList then 3 else 0 := by
    unfold ttE; rw [hL]
  have e2 : ttT s.data.toList most = if ttE s.data.toList most = 0 then s.extract (tvM s.data.toList) (tvM s.data.toList + tvV s.data.toList) else bs [] := by
    unfold ttT; rw [hX]
  have e3 : ttM s.data.toList most = if ttE s.data.toList most = 0 then tvM s.data.toList + tvV s.data.toList else 0 := rfl
  rw [hL] at hM
  clear hX hL
  generalize ttE s.data.toList most = E at *
  generalize ttT s.data.toList most = T at *
  generalize ttM s.data.toList most = M at *
  generalize tvE s.data.toList = te at *
  generalize tvV s.data.toList = tv at *
  generalize tvM s.data.toList = tm at *
  by_cases c1 : te = 0
  · subst c1
    rw [if_neg (by omega)] at e1
    by_cases c2 : most < tv
    · rw [if_pos c2] at e1
      subst e1
      rw [if_neg (by omega)] at e2 e3
      subst e2; subst e3
      go_enter Try.func19, Try.ntmps19
      go_wp2_with (go_at_call 17; (with_reducible refine (hv _).out.mono ?_); rintro e w1 ⟨rfl, hb⟩)
      go_ret3
      exact ⟨rfl, by assumption⟩
    · rw [if_neg c2] at e1
      by_cases c3 : s.size - tm < tv
      · rw [if_pos c3] at e1
        subst e1
        rw [if_neg (by omega)] at e2 e3
        subst e2; subst e3
        have c3' : decide ((s.size : Int) - tm < tv) = true := decide_eq_true (by omega)
        go_enter Try.func19, Try.ntmps19
        go_wp2_with (go_at_call 17; (with_reducible refine (hv _).out.mono ?_); rintro e w1 ⟨rfl, hb⟩)
        go_ret3
        exact ⟨rfl, by assumption⟩
      · rw [if_neg c3] at e1
        subst e1
        rw [if_pos rfl] at e2 e3
        subst e2; subst e3
        have c3' : decide ((s.size : Int) - tm < tv) = false := decide_eq_false (by omega)
        have hsl := fun w => run_slice_string (P := Try.prog) w 9 s .i64 .i64 (tm : Int) ((tm : Int) + tv) (by kernel_rfl) (by omega) (by omega) (by omega)
        rw [show ((tm : Int) + tv).toNat = tm + tv by omega, show ((tm : Int)).toNat = tm by omega] at hsl
        go_enter Try.func19, Try.ntmps19
        go_wp2_with (go_at_call 17; (with_reducible refine (hv _).out.mono ?_); rintro e w1 ⟨rfl, hb⟩)
        go_ret3
        exact ⟨three (by simp) (by simp) rfl, by assumption⟩
  · rw [if_pos c1] at e1
    rw [if_neg (by omega)] at e2 e3
    subst e2; subst e3
    obtain rfl : te = E := e1.symm
    have c5 : ((te : Int) != 0) = true := by simp; omega
    have c6 : ((te : Int) == 0) = false := by simp; omega
    clear hE
    go_enter Try.func19, Try.ntmps19
    go_wp2_with (go_at_call 17; (with_reducible refine (hv _).out.mono ?_); rintro e w1 ⟨rfl, hb⟩)
    go_ret3
    exact ⟨rfl, by assumption⟩

/-- A cursor: its bytes, and where it stands. -/
def Cur (w : World) (b : Nat) (s : ByteArray) (k : Nat) : Prop := w.heap[b]? = some (.cells #[.string s, .int .i64 k] 48 (0, 0)) ∧ k ≤ s.size
def rest (s : ByteArray) (k : Nat) : List UInt8 := s.data.toList.drop k
theorem rest_len (s : ByteArray) (k : Nat) : (rest s k).length = s.size - k := by unfold rest; rw [List.length_drop, data_len]

theorem left_nil (w : World) : Calls Try.prog 20 #[.pointer none] w fun e w' => e = .returned (.int .i64 0) ∧ w = w' := by
  go_enter Try.func20, Try.ntmps20
  go_wp2
  go_ret
  exact ⟨rfl, rfl⟩
theorem left_any (b : Nat) (s : ByteArray) (k : Nat) (w : World) (hs : s.size ≤ 9223372036854775000) (hc : Cur w b s k) :
    Calls Try.prog 20 #[.pointer (some ⟨b, 0, none⟩)] w fun e w' => e = .returned (.int .i64 ((s.size - k : Nat) : Int)) ∧ ∃ n, w' = w.drewN n := by
  obtain ⟨hb, hk⟩ := hc
  have c0 : w.cell? ⟨b, 0, none⟩ = some (.string s) := cell_of_row w b 0 _ _ _ hb
  have c1 : w.cell? ⟨b, 1, none⟩ = some (.int .i64 k) := cell_of_row w b 1 _ _ _ hb
  have q : IntKind.i64.wrap ((s.size : Int) - k) = ((s.size - k : Nat) : Int) := by rw [IntWalk.i64_in _ (by omega)]; omega
  clear hb
  go_enter Try.func20, Try.ntmps20
  go_wp2_with fail
  go_quiet (fail)
  go_wp2
  go_ret
  exact ⟨rfl, _, rfl⟩
end Go.Proofs.Ytflbogaknjdfjaa
