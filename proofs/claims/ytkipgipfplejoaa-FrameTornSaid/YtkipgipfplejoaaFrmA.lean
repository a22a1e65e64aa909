/- Small functions of package frame: what is demanded, what was reported, parts, sums, a number of a cursor. Conditions: as stated. -/
import Derived.Test.YtkipgipfplejoaaOctJ
import Derived.Test.YtkipgipfplejoaaCrcSum
import Derived.Test.YtkipgipfplejoaaShelf
import Derived.Recover
import Derived.WalkSmall
namespace Go.Proofs.Ytkipgipfplejoaa
open Go.ChangeShapes Go.WideShapes Go.ChangeAt Go.RowKit
set_option linter.unusedVariables false
set_option maxRecDepth 100000
set_option linter.unusedSimpArgs false

/-- The chain of one panic with an error. -/
def pan (e : Int) : List PanicEntry := [{ v := .iface 23 (.int .i64 e), recovered := false }]
theorem demand_yes (e : Int) (w : World) : Calls Try.prog 16 #[.bool true, .int .i64 e] w fun r w' => r = .returned (.tuple #[]) ∧ w = w' := by
  go_enter Try.func16, Try.ntmps16
  go_wp2
  go_end0
  exact ⟨rfl, rfl⟩
theorem demand_no (e : Int) (w : World) : Calls Try.prog 16 #[.bool false, .int .i64 e] w fun r w' => r = .panicked (pan e) ∧ w = w' := by
  go_enter Try.func16, Try.ntmps16
  go_wp2
  exact ⟨rfl, rfl, rfl⟩
theorem reported_nil (w : World) : Calls Try.prog 15 #[.nilIface] w fun r w' => r = .returned (.int .i64 0) ∧ w = w' := by
  go_enter Try.func15, Try.ntmps15
  go_wp2
  go_ret
  exact ⟨rfl, rfl⟩
theorem reported_err (e : Int) (w : World) : Calls Try.prog 15 #[.iface 23 (.int .i64 e)] w fun r w' => r = .returned (.int .i64 e) ∧ w = w' := by
  have ha : ∀ (v : Value) (w : World), (Instr.typeAssert (.iface 23 v) 20 23 false).run Try.prog w = .ok v w := fun v w => by kernel_rfl
  go_enter Try.func15, Try.ntmps15
  go_wp2
  go_ret
  exact ⟨rfl, rfl⟩
/-- What was panicked with is recovered, and laid where the result lies. -/
theorem seal_panicking (p : Addr) (x n : Int) (older : List PanicEntry) (w : World) (hc : w.cell? p = some (.int .i64 x)) (hz : w.frozen? p = false) :
    CallsD Try.prog 14 #[.pointer (some p)] (.panicking ({ v := .iface 23 (.int .i64 n), recovered := false } :: older)) w fun e u' w' =>
      e = .returned (.tuple #[]) ∧ u' = .panicking ({ v := .iface 23 (.int .i64 n), recovered := true } :: older) ∧ w' = w.setCell p (.int .i64 n) := by
  have hr := reported_err n w
  refine callsD_of_wpS Try.func14 rfl fun c₀ cs hu => ?_
  apply wpS_region
  simp [wpOpsS, go_sem, recoverD, hu, Try.ntmps14, Exit.thenS]
  refine hr.mono ?_
  rintro e w' ⟨rfl, rfl⟩
  simp [go_sem, hc, hz, bodyPostS, results, Try.results14]
theorem seal_idle (p : Addr) (x : Int) (w : World) (hc : w.cell? p = some (.int .i64 x)) (hz : w.frozen? p = false) :
    CallsD Try.prog 14 #[.pointer (some p)] .returning w fun e u' w' => e = .returned (.tuple #[]) ∧ u' = .returning ∧ w' = w.setCell p (.int .i64 0) := by
  have hr := reported_nil w
  refine callsD_of_wpS Try.func14 rfl fun c₀ cs hu => ?_
  apply wpS_region
  simp [wpOpsS, go_sem, recoverD, hu, Try.ntmps14, Exit.thenS]
  refine hr.mono ?_
  rintro e w' ⟨rfl, rfl⟩
  cases c₀
  simp_all [go_sem, bodyPostS, results, Try.results14]
/-- What was panicked with is recovered, and laid where the result lies. -/
theorem open_panicking (p : Addr) (x n : Int) (older : List PanicEntry) (w : World) (hc : w.cell? p = some (.int .i64 x)) (hz : w.frozen? p = false) :
    CallsD Try.prog 27 #[.pointer (some p)] (.panicking ({ v := .iface 23 (.int .i64 n), recovered := false } :: older)) w fun e u' w' =>
      e = .returned (.tuple #[]) ∧ u' = .panicking ({ v := .iface 23 (.int .i64 n), recovered := true } :: older) ∧ w' = w.setCell p (.int .i64 n) := by
  have hr := reported_err n w
  refine callsD_of_wpS Try.func27 rfl fun c₀ cs hu => ?_
  apply wpS_region
  simp [wpOpsS, go_sem, recoverD, hu, Try.ntmps27, Exit.thenS]
  refine hr.mono ?_
  rintro e w' ⟨rfl, rfl⟩
  simp [go_sem, hc, hz, bodyPostS, results, Try.results27]
theorem open_idle (p : Addr) (x : Int) (w : World) (hc : w.cell? p = some (.int .i64 x)) (hz : w.frozen? p = false) :
    CallsD Try.prog 27 #[.pointer (some p)] .returning w fun e u' w' => e = .returned (.tuple #[]) ∧ u' = .returning ∧ w' = w.setCell p (.int .i64 0) := by
  have hr := reported_nil w
  refine callsD_of_wpS Try.func27 rfl fun c₀ cs hu => ?_
  apply wpS_region
  simp [wpOpsS, go_sem, recoverD, hu, Try.ntmps27, Exit.thenS]
  refine hr.mono ?_
  rintro e w' ⟨rfl, rfl⟩
  cases c₀
  simp_all [go_sem, bodyPostS, results, Try.results27]

theorem join_nil (l : List (List UInt8)) : Lib.join l [] = l.flatten := by
  induction l with
  | nil => rfl
  | cons a l ih => cases l <;> simp_all [Lib.join]
/-- Parts, one behind the other. -/
theorem joined_any (bk o c : Nat) (xs : List ByteArray) (w : World) (hcells : ∀ (j : Nat) x, xs[j]? = some x → w.cell? ⟨bk, o + j, none⟩ = some (.string x)) (hbk : bk < w.heap.size) (hN : xs.length ≤ 10000) (hcap : xs.length ≤ c)
    (hlen : (xs.map (·.data.toList)).flatten.length ≤ 140737488355328) :
    Calls Try.prog 17 #[.slice (some ⟨bk, o, none⟩) xs.length c] w fun e w' => e = .returned (.string (bs (xs.map (·.data.toList)).flatten)) ∧ Below w.heap.size w w' := by
  have h := Lib.hid (Try.strings_Join bk o c xs ⟨#[]⟩ w hcells hbk (by omega) hcap (by rw [join_nil]; exact hlen))
  rw [show (⟨#[]⟩ : ByteArray).data.toList = [] from rfl, join_nil] at h
  generalize (xs.map (·.data.toList)).flatten = L at *
  clear hcells hlen
  go_enter Try.func17, Try.ntmps17
  go_wp2_with fail
  refine h.out.mono ?_
  rintro e w' ⟨rfl, hb⟩
  go_wp2_with fail
  go_ret
  exact ⟨rfl, by assumption⟩
theorem joined2 (a b : ByteArray) (w : World) (h : a.size + b.size ≤ 1000000) :
    Calls Try.prog 17 #[.slice (some ⟨w.heap.size, 0, none⟩) 2 2] (w.alloc (.cells #[.string a, .string b] 9)) fun e w' => e = .returned (.string (bs (a.data.toList ++ b.data.toList))) ∧ Below w.heap.size w w' := by
  have hb := blk_new w (.cells #[.string a, .string b] 9)
  have := joined_any w.heap.size 0 2 [a, b] (w.alloc (.cells #[.string a, .string b] 9)) (fun j x hx => by
    rw [Nat.zero_add, blk_cell hb]
    rcases j with _ | _ | j <;> simp_all) (by simp) (by simp) (by simp) (by simp [data_len]; omega)
  refine this.mono ?_
  rintro e w' ⟨rfl, hbe⟩
  exact ⟨by simp, ((Below.refl _ _).alloc (Nat.le_refl _) _).trans (hbe.mono (by simp))⟩
theorem joined3 (a b c : ByteArray) (w : World) (h : a.size + b.size + c.size ≤ 1000000) :
    Calls Try.prog 17 #[.slice (some ⟨w.heap.size, 0, none⟩) 3 3] (w.alloc (.cells #[.string a, .string b, .string c] 9)) fun e w' => e = .returned (.string (bs (a.data.toList ++ (b.data.toList ++ c.data.toList)))) ∧ Below w.heap.size w w' := by
  have hb := blk_new w (.cells #[.string a, .string b, .string c] 9)
  have := joined_any w.heap.size 0 3 [a, b, c] (w.alloc (.cells #[.string a, .string b, .string c] 9)) (fun j x hx => by
    rw [Nat.zero_add, blk_cell hb]
    rcases j with _ | _ | _ | j <;> simp_all) (by simp) (by simp) (by simp) (by simp [data_len]; omega)
  refine this.mono ?_
  rintro e w' ⟨rfl, hbe⟩
  exact ⟨by simp, ((Below.refl _ _).alloc (Nat.le_refl _) _).trans (hbe.mono (by simp))⟩
/-- The sum's bytes. -/
theorem fsum_any (b : Nat) (d : Bool) (s : ByteArray) (w : World) (hs : s.size ≤ 9223372036854775000) (ht : Tab w b d) :
    Calls Try.prog 19 #[.pointer (some ⟨b, 0, none⟩), .string s] w fun e w' => e = .returned (.string (bs (fixL (more 0 s.data.toList) 4))) ∧ Tab w' b true ∧ Only b w w' := by
  have H := Lib.hid (tsum_any b d s w hs ht)
  have hlt : more 0 s.data.toList < 4294967296 := more_lt (by omega) _
  clear ht
  generalize more 0 s.data.toList = m at *
  have F := fun w => Lib.hid (fixed_in m 4 w (by omega) (by omega) (by omega))
  go_enter Try.func19, Try.ntmps19
  go_wp2_with fail
  refine H.out.mono ?_
  rintro e w' ⟨rfl, t2, o2⟩
  have T2 := Lib.hid t2
  clear t2
  go_wp2_with fail
  refine (F _).out.mono ?_
  rintro e w2 ⟨rfl, hb⟩
  go_wp2_with fail
  go_ret
  exact ⟨rfl, tab_below T2.out hb (tab_lt T2.out), o2.trans (Only.of _ hb)⟩
/-- How many bytes. -/
def sizeV (n : Int) : Int := if 0 ≤ n ∧ n ≤ 200 then n + 7 else 0
theorem size_any (n : Int) (w : World) : Calls Try.prog 13 #[.int .i64 n] w fun e w' => e = .returned (.int .i64 (sizeV n)) ∧ w = w' := by
  unfold sizeV
  by_cases h : 0 ≤ n ∧ n ≤ 200
  · rw [if_pos h]
    obtain ⟨h1, h2⟩ := h
    have d1 : decide (n < 0) = false := decide_eq_false (by omega)
    have d2 : decide (200 < n) = false := decide_eq_false (by omega)
    go_enter Try.func13, Try.ntmps13
    go_wp2
    go_ret
    exact ⟨by go_num, rfl⟩
  · rw [if_neg h]
    by_cases h1 : n < 0
    · have d1 : decide (n < 0) = true := decide_eq_true h1
      clear h
      go_enter Try.func13, Try.ntmps13
      go_wp2
      go_ret
      exact ⟨rfl, rfl⟩
    · have d1 : decide (n < 0) = false := decide_eq_false h1
      have d2 : decide (200 < n) = true := decide_eq_true (by omega)
      clear h
      go_enter Try.func13, Try.ntmps13
      go_wp2
      go_ret
      exact ⟨rfl, rfl⟩
theorem number_ok (b : Nat) (s : ByteArray) (k B : Nat) (size : Int) (w : World) (hs : s.size ≤ 9223372036854775000) (hB : B ≤ b) (hc : Cur w b s k) (h : tfE (rest s k) size = 0) (hv : tfV (rest s k) size < 9223372036854775808) :
    Calls Try.prog 29 #[.pointer (some ⟨b, 0, none⟩), .int .i64 size] w fun e w' => e = .returned (.int .i64 (tfV (rest s k) size)) ∧ Cur w' b s (k + tfM (rest s k) size) ∧ Below B w w' := by
  have H := fixed_cur b s k B size w hs hB hc
  rw [h] at H
  have H := Lib.hid H
  generalize tfV (rest s k) size = v at *
  generalize tfM (rest s k) size = m at *
  have D := fun w => Lib.hid (demand_yes 0 w)
  clear hc h
  go_enter Try.func29, Try.ntmps29
  go_wp2_with fail
  refine H.out.mono ?_
  rintro e w' ⟨rfl, hc2, b2⟩
  have HC := Lib.hid hc2
  clear hc2
  go_wp2_with fail
  refine (D _).out.mono ?_
  rintro e w2 ⟨rfl, rfl⟩
  go_wp2_with fail
  go_ret
  exact ⟨rfl, HC.out, by assumption⟩
theorem number_err (b : Nat) (s : ByteArray) (k B : Nat) (size : Int) (w : World) (hs : s.size ≤ 9223372036854775000) (hB : B ≤ b) (hc : Cur w b s k) (h : tfE (rest s k) size ≠ 0) :
    Calls Try.prog 29 #[.pointer (some ⟨b, 0, none⟩), .int .i64 size] w fun e w' => e = .panicked (pan (tfE (rest s k) size)) ∧ Below B w w' := by
  have H := fixed_cur b s k B size w hs hB hc
  have H := Lib.hid H
  have d : ((tfE (rest s k) size : Int) == 0) = false := by simpa using h
  generalize tfV (rest s k) size = v at *
  generalize tfM (rest s k) size = m at *
  generalize tfE (rest s k) size = te at *
  have D := fun w => Lib.hid (demand_no te w)
  clear hc h
  go_enter Try.func29, Try.ntmps29
  go_wp2_with fail
  refine H.out.mono ?_
  rintro e w' ⟨rfl, hc2, b2⟩
  have HC := Lib.hid hc2
  clear hc2
  go_wp2_with fail
  refine (D _).out.mono ?_
  rintro e w2 ⟨rfl, rfl⟩
  trace_state
  go_wp2_with fail
  exact ⟨rfl, rfl, by assumption⟩
end Go.Proofs.Ytkipgipfplejoaa
