/- Small functions of package frame: what is demanded, what was reported, parts, sums, a number of a cursor. Conditions: as stated. -/
import Derived.Test.YtgooepfhapaenaaGreatOctJ
import Derived.Test.YtgooepfhapaenaaGreatCrcSum
import Derived.Test.YtgooepfhapaenaaGreatShelf
import Derived.Recover
import Derived.WalkSmall
import Derived.Test.YtgooepfhapaenaaGreatFrmPlain
import Derived.Test.YtgooepfhapaenaaGreatFrmS
import Derived.Test.YtgooepfhapaenaaGreatSlices
import Derived.Test.YtgooepfhapaenaaGreatSame
namespace Go.Proofs.YtgooepfhapaenaaGreat
open Go.ChangeShapes Go.WideShapes Go.ChangeAt Go.RowKit
set_option linter.unusedVariables false
set_option maxRecDepth 100000
set_option linter.unusedSimpArgs false

/-- The chain of one panic with an error. -/
def pan (e : Int) : List PanicEntry := [{ v := .iface 29 (.int .i64 e), recovered := false }]
theorem demand_yes (e : Int) (w : World) : Calls Tryz.prog 45 #[.bool true, .int .i64 e] w fun r w' => r = .returned (.tuple #[]) ∧ w = w' := by
  go_enter Tryz.func45, Tryz.ntmps45
  go_wp2
  go_end0
  exact ⟨rfl, rfl⟩
theorem demand_no (e : Int) (w : World) : Calls Tryz.prog 45 #[.bool false, .int .i64 e] w fun r w' => r = .panicked (pan e) ∧ w = w' := by
  go_enter Tryz.func45, Tryz.ntmps45
  go_wp2
  exact ⟨rfl, rfl, rfl⟩
theorem reported_nil (w : World) : Calls Tryz.prog 44 #[.nilIface] w fun r w' => r = .returned (.int .i64 0) ∧ w = w' := by
  go_enter Tryz.func44, Tryz.ntmps44
  go_wp2
  go_ret
  exact ⟨rfl, rfl⟩
theorem reported_err (e : Int) (w : World) : Calls Tryz.prog 44 #[.iface 29 (.int .i64 e)] w fun r w' => r = .returned (.int .i64 e) ∧ w = w' := by
  have ha : ∀ (v : Value) (w : World), (Instr.typeAssert (.iface 29 v) 20 29 false).run Tryz.prog w = .ok v w := fun v w => by kernel_rfl
  go_enter Tryz.func44, Tryz.ntmps44
  go_wp2
  go_ret
  exact ⟨rfl, rfl⟩
/-- What was panicked with is recovered, and laid where the result lies. -/
theorem seal_panicking (p : Addr) (x n : Int) (older : List PanicEntry) (w : World) (hc : w.cell? p = some (.int .i64 x)) (hz : w.frozen? p = false) :
    CallsD Tryz.prog 43 #[.pointer (some p)] (.panicking ({ v := .iface 29 (.int .i64 n), recovered := false } :: older)) w fun e u' w' =>
      e = .returned (.tuple #[]) ∧ u' = .panicking ({ v := .iface 29 (.int .i64 n), recovered := true } :: older) ∧ w' = w.setCell p (.int .i64 n) := by
  have hr := reported_err n w
  refine callsD_of_wpS Tryz.func43 rfl fun c₀ cs hu => ?_
  apply wpS_region
  simp [wpOpsS, go_sem, recoverD, hu, Tryz.ntmps43, Exit.thenS]
  refine hr.mono ?_
  rintro e w' ⟨rfl, rfl⟩
  simp [go_sem, hc, hz, bodyPostS, results, Tryz.results43]
theorem seal_idle (p : Addr) (x : Int) (w : World) (hc : w.cell? p = some (.int .i64 x)) (hz : w.frozen? p = false) :
    CallsD Tryz.prog 43 #[.pointer (some p)] .returning w fun e u' w' => e = .returned (.tuple #[]) ∧ u' = .returning ∧ w' = w.setCell p (.int .i64 0) := by
  have hr := reported_nil w
  refine callsD_of_wpS Tryz.func43 rfl fun c₀ cs hu => ?_
  apply wpS_region
  simp [wpOpsS, go_sem, recoverD, hu, Tryz.ntmps43, Exit.thenS]
  refine hr.mono ?_
  rintro e w' ⟨rfl, rfl⟩
  cases c₀
  simp_all [go_sem, bodyPostS, results, Tryz.results43]
/-- What was panicked with is recovered, and laid where the result lies. -/
theorem open_panicking (p : Addr) (x n : Int) (older : List PanicEntry) (w : World) (hc : w.cell? p = some (.int .i64 x)) (hz : w.frozen? p = false) :
    CallsD Tryz.prog 66 #[.pointer (some p)] (.panicking ({ v := .iface 29 (.int .i64 n), recovered := false } :: older)) w fun e u' w' =>
      e = .returned (.tuple #[]) ∧ u' = .panicking ({ v := .iface 29 (.int .i64 n), recovered := true } :: older) ∧ w' = w.setCell p (.int .i64 n) := by
  have hr := reported_err n w
  refine callsD_of_wpS Tryz.func66 rfl fun c₀ cs hu => ?_
  apply wpS_region
  simp [wpOpsS, go_sem, recoverD, hu, Tryz.ntmps66, Exit.thenS]
  refine hr.mono ?_
  rintro e w' ⟨rfl, rfl⟩
  simp [go_sem, hc, hz, bodyPostS, results, Tryz.results66]
theorem open_idle (p : Addr) (x : Int) (w : World) (hc : w.cell? p = some (.int .i64 x)) (hz : w.frozen? p = false) :
    CallsD Tryz.prog 66 #[.pointer (some p)] .returning w fun e u' w' => e = .returned (.tuple #[]) ∧ u' = .returning ∧ w' = w.setCell p (.int .i64 0) := by
  have hr := reported_nil w
  refine callsD_of_wpS Tryz.func66 rfl fun c₀ cs hu => ?_
  apply wpS_region
  simp [wpOpsS, go_sem, recoverD, hu, Tryz.ntmps66, Exit.thenS]
  refine hr.mono ?_
  rintro e w' ⟨rfl, rfl⟩
  cases c₀
  simp_all [go_sem, bodyPostS, results, Tryz.results66]

theorem join_nil (l : List (List UInt8)) : Lib.join l [] = l.flatten := by
  induction l with
  | nil => rfl
  | cons a l ih => cases l <;> simp_all [Lib.join]
/-- Parts, one behind the other. -/
theorem joined_any (bk o c : Nat) (xs : List ByteArray) (w : World) (hcells : ∀ (j : Nat) x, xs[j]? = some x → w.cell? ⟨bk, o + j, none⟩ = some (.string x)) (hbk : bk < w.heap.size) (hN : xs.length ≤ 10000) (hcap : xs.length ≤ c)
    (hlen : (xs.map (·.data.toList)).flatten.length ≤ 140737488355328) :
    Calls Tryz.prog 46 #[.slice (some ⟨bk, o, none⟩) xs.length c] w fun e w' => e = .returned (.string (bs (xs.map (·.data.toList)).flatten)) ∧ Below w.heap.size w w' := by
  have h := Lib.hid (Tryz.strings_Join bk o c xs ⟨#[]⟩ w hcells hbk (by omega) hcap (by rw [join_nil]; exact hlen))
  rw [show (⟨#[]⟩ : ByteArray).data.toList = [] from rfl, join_nil] at h
  generalize (xs.map (·.data.toList)).flatten = L at *
  clear hcells hlen
  go_enter Tryz.func46, Tryz.ntmps46
  go_wp2_with fail
  refine h.out.mono ?_
  rintro e w' ⟨rfl, hb⟩
  go_wp2_with fail
  go_ret
  exact ⟨rfl, by assumption⟩
theorem joined2 (a b : ByteArray) (w : World) (h : a.size + b.size ≤ 1000000) :
    Calls Tryz.prog 46 #[.slice (some ⟨w.heap.size, 0, none⟩) 2 2] (w.alloc (.cells #[.string a, .string b] 9)) fun e w' => e = .returned (.string (bs (a.data.toList ++ b.data.toList))) ∧ Below w.heap.size w w' := by
  have hb := blk_new w (.cells #[.string a, .string b] 9)
  have := joined_any w.heap.size 0 2 [a, b] (w.alloc (.cells #[.string a, .string b] 9)) (fun j x hx => by
    rw [Nat.zero_add, blk_cell hb]
    rcases j with _ | _ | j <;> simp_all) (by simp) (by simp) (by simp) (by simp [data_len]; omega)
  refine this.mono ?_
  rintro e w' ⟨rfl, hbe⟩
  exact ⟨by simp, ((Below.refl _ _).alloc (Nat.le_refl _) _).trans (hbe.mono (by simp))⟩
theorem joined3 (a b c : ByteArray) (w : World) (h : a.size + b.size + c.size ≤ 1000000) :
    Calls Tryz.prog 46 #[.slice (some ⟨w.heap.size, 0, none⟩) 3 3] (w.alloc (.cells #[.string a, .string b, .string c] 9)) fun e w' => e = .returned (.string (bs (a.data.toList ++ (b.data.toList ++ c.data.toList)))) ∧ Below w.heap.size w w' := by
  have hb := blk_new w (.cells #[.string a, .string b, .string c] 9)
  have := joined_any w.heap.size 0 3 [a, b, c] (w.alloc (.cells #[.string a, .string b, .string c] 9)) (fun j x hx => by
    rw [Nat.zero_add, blk_cell hb]
    rcases j with _ | _ | _ | j <;> simp_all) (by simp) (by simp) (by simp) (by simp [data_len]; omega)
  refine this.mono ?_
  rintro e w' ⟨rfl, hbe⟩
  exact ⟨by simp, ((Below.refl _ _).alloc (Nat.le_refl _) _).trans (hbe.mono (by simp))⟩
/-- The sum's bytes. -/
theorem fsum_any (b : Nat) (d : Bool) (s : ByteArray) (w : World) (hs : s.size ≤ 9223372036854775000) (ht : Tab w b d) :
    Calls Tryz.prog 47 #[.pointer (some ⟨b, 0, none⟩), .string s] w fun e w' => e = .returned (.string (bs (fixL (more 0 s.data.toList) 4))) ∧ Tab w' b true ∧ Only b w w' := by
  have H := Lib.hid (tsum_any b d s w hs ht)
  have hlt : more 0 s.data.toList < 4294967296 := more_lt (by omega) _
  clear ht
  generalize more 0 s.data.toList = m at *
  have F := fun w => Lib.hid (fixed_in m 4 w (by omega) (by omega) (by omega))
  go_enter Tryz.func47, Tryz.ntmps47
  go_wp2_with fail
  refine H.out.mono ?_
  rintro e w' ⟨rfl, t2, o2⟩
  have T2 := Lib.hid t2
  clear t2
  go_wp2_with fail
  refine (F _).out.mono ?_
  rintro e w2 ⟨rfl, hb⟩
  go_wp2_with fail
  go_ret
  exact ⟨rfl, tab_below T2.out hb (tab_lt T2.out), o2.trans (Only.of _ hb)⟩
/-- How many bytes. -/
def sizeV (n : Int) : Int := if 0 ≤ n ∧ n ≤ 200 then n + 7 else 0
theorem fsize_any (n : Int) (w : World) : Calls Tryz.prog 68 #[.int .i64 n] w fun e w' => e = .returned (.int .i64 (sizeV n)) ∧ w = w' := by
  unfold sizeV
  by_cases h : 0 ≤ n ∧ n ≤ 200
  · rw [if_pos h]
    obtain ⟨h1, h2⟩ := h
    have d1 : decide (n < 0) = false := decide_eq_false (by omega)
    have d2 : decide (200 < n) = false := decide_eq_false (by omega)
    go_enter Tryz.func68, Tryz.ntmps68
    go_wp2
    go_ret
    exact ⟨by go_num, rfl⟩
  · rw [if_neg h]
    by_cases h1 : n < 0
    · have d1 : decide (n < 0) = true := decide_eq_true h1
      clear h
      go_enter Tryz.func68, Tryz.ntmps68
      go_wp2
      go_ret
      exact ⟨rfl, rfl⟩
    · have d1 : decide (n < 0) = false := decide_eq_false h1
      have d2 : decide (200 < n) = true := decide_eq_true (by omega)
      clear h
      go_enter Tryz.func68, Tryz.ntmps68
      go_wp2
      go_ret
      exact ⟨rfl, rfl⟩
theorem number_ok (b : Nat) (s : ByteArray) (k B : Nat) (size : Int) (w : World) (hs : s.size ≤ 9223372036854775000) (hB : B ≤ b) (hc : Cur w b s k) (h : tfE (rest s k) size = 0) (hv : tfV (rest s k) size < 9223372036854775808) :
    Calls Tryz.prog 67 #[.pointer (some ⟨b, 0, none⟩), .int .i64 size] w fun e w' => e = .returned (.int .i64 (tfV (rest s k) size)) ∧ Cur w' b s (k + tfM (rest s k) size) ∧ Below B w w' := by
  have H := fixed_cur b s k B size w hs hB hc
  rw [h] at H
  have H := Lib.hid H
  generalize tfV (rest s k) size = v at *
  generalize tfM (rest s k) size = m at *
  have D := fun w => Lib.hid (demand_yes 0 w)
  clear hc h
  go_enter Tryz.func67, Tryz.ntmps67
  go_wp2_with fail
  refine H.out.mono ?_
  rintro e w' ⟨rfl, hc2, b2⟩
  have HC := Lib.hid hc2
  clear hc2
  go_wp2_with fail
  refine (D _).out.mono ?_
  rintro e w2 ⟨rfl, rfl⟩
  go_wp2_with fail
  go_ret
  exact ⟨rfl, HC.out, by assumption⟩
theorem number_err (b : Nat) (s : ByteArray) (k B : Nat) (size : Int) (w : World) (hs : s.size ≤ 9223372036854775000) (hB : B ≤ b) (hc : Cur w b s k) (h : tfE (rest s k) size ≠ 0) :
    Calls Tryz.prog 67 #[.pointer (some ⟨b, 0, none⟩), .int .i64 size] w fun e w' => e = .panicked (pan (tfE (rest s k) size)) ∧ Below B w w' := by
  have H := fixed_cur b s k B size w hs hB hc
  have H := Lib.hid H
  have d : ((tfE (rest s k) size : Int) == 0) = false := by simpa using h
  generalize tfV (rest s k) size = v at *
  generalize tfM (rest s k) size = m at *
  generalize tfE (rest s k) size = te at *
  have D := fun w => Lib.hid (demand_no te w)
  clear hc h
  go_enter Tryz.func67, Tryz.ntmps67
  go_wp2_with fail
  refine H.out.mono ?_
  rintro e w' ⟨rfl, hc2, b2⟩
  have HC := Lib.hid hc2
  clear hc2
  go_wp2_with fail
  refine (D _).out.mono ?_
  rintro e w2 ⟨rfl, rfl⟩
  trace_state
  go_wp2_with fail
  exact ⟨rfl, rfl, by assumption⟩
end Go.Proofs.YtgooepfhapaenaaGreat
/- What frame's Seal, Open and All come to. Conditions: texts no longer than any text. -/
namespace Go.Proofs.YtgooepfhapaenaaGreat
open Go.ChangeShapes Go.WideShapes Go.ChangeAt Go.RowKit
set_option linter.unusedVariables false
set_option maxRecDepth 100000
set_option linter.unusedSimpArgs false

set_option maxHeartbeats 1000000 in
theorem fseal_any (s : ByteArray) (w : World) (hs : s.size ≤ 9223372036854775000) :
    Calls Tryz.prog 16 #[.string s] w fun e w' => e = .returned (.tuple #[.string (sealT s), .int .i64 (sealE s)]) ∧ Below w.heap.size w w' := by
  have hmf : ∀ (fn : Fn) (first cap : Array Value) (w : World), (Instr.makeFunc fn first cap).run Tryz.prog w = .ok (.func fn first cap) w := fun _ _ _ _ => rfl
  unfold sealE sealT
  by_cases h : 200 < s.size
  · rw [if_pos h, if_pos h]
    have d1 : decide ((s.size : Int) ≤ 200) = false := decide_eq_false (by omega)
    go_enter_defers Tryz.func16, Tryz.ntmps16
    go_wp2_with fail
    refine (demand_no _ _).mono ?_
    rintro e w1 ⟨rfl, rfl⟩
    go_wp2_with fail
    refine leaves_cons (f := 43) (args := #[.pointer (some ⟨w.heap.size, 0, none⟩)]) (by simp) (by simp [go_sem]) ?_
    refine (seal_panicking ⟨w.heap.size, 0, none⟩ 0 9 [] _ ?_ ?_).mono ?_
    · simp [go_sem]
    · simp [go_sem]
    rintro e u' w'' ⟨rfl, rfl, rfl⟩
    simp [Leaves, settle, results, Tryz.results16, go_sem]
    exact ⟨rfl, (Below.refl _ _).alloc (Nat.le_refl _) _⟩
  · rw [if_neg h, if_neg h]
    have d1 : decide ((s.size : Int) ≤ 200) = true := decide_eq_true (by omega)
    have hl : s.data.toList.length = s.size := data_len s
    have F2 := Lib.hid (fun w => fixed_in s.size 2 w (by omega) (by omega) (by omega))
    have F1 := Lib.hid (fun w => fixed_in 82 1 w (by omega) (by omega) (by omega))
    have z2 : (bs (fixL s.size 2)).size = 2 := by rw [bs_size, fixL_length]
    have z1 : (bs (fixL 82 1)).size = 1 := by rw [bs_size, fixL_length]
    have J1 := Lib.hid (fun (w : World) => joined2 (bs (fixL s.size 2)) s w (by omega))
    rw [bs_list, show fixL s.size 2 ++ s.data.toList = lenL s.data.toList by rw [lenL, hl]] at J1
    have hL : (bs (lenL s.data.toList)).size = s.size + 2 := by rw [bs_size, lenL_length, hl]
    have S3 := Lib.hid (fun (b : Nat) (w : World) => fsum_any b false (bs (lenL s.data.toList)) w (by omega))
    rw [bs_list] at S3
    have z4 : (bs (fixL (more 0 (lenL s.data.toList)) 4)).size = 4 := by rw [bs_size, fixL_length]
    have J2 := Lib.hid (fun (w : World) => joined3 (bs (fixL 82 1)) (bs (lenL s.data.toList)) (bs (fixL (more 0 (lenL s.data.toList)) 4)) w (by omega))
    rw [bs_list, bs_list, bs_list, show fixL 82 1 ++ (lenL s.data.toList ++ fixL (more 0 (lenL s.data.toList)) 4) = sealL s.data.toList from rfl] at J2
    generalize bs (fixL s.size 2) = T2 at *
    generalize bs (fixL 82 1) = T1 at *
    generalize bs (fixL (more 0 (lenL s.data.toList)) 4) = T4 at *
    generalize bs (lenL s.data.toList) = TL at *
    generalize bs (sealL s.data.toList) = TS at *
    clear z1 z2 z4 hL hl
    go_enter_defers Tryz.func16, Tryz.ntmps16
    go_wp2_with fail
    refine (demand_yes _ _).mono ?_
    rintro e w1 ⟨rfl, rfl⟩
    have hcell := blk_new w (.cells #[.int .i64 0] 29)
    have hb0 := Lib.hid ((Below.refl w.heap.size w).alloc (Nat.le_refl _) (.cells #[.int .i64 0] 29))
    have hw0 : w.heap.size < (w.alloc (.cells #[.int .i64 0] 29)).heap.size := by simp
    go_wp2_with fail
    refine (F2.out _).mono ?_
    rintro e w2 ⟨rfl, b2⟩
    have hcell2 := blk_below b2 hcell hw0
    go_wp2_with fail
    refine (J1.out _).mono ?_
    rintro e w3 ⟨rfl, b3⟩
    have hcell3 := blk_below b3 hcell2 (lt_of_block hcell2)
    go_wp2_with fail
    refine (F1.out _).mono ?_
    rintro e w4 ⟨rfl, b4⟩
    have hcell4 := blk_below b4 hcell3 (lt_of_block hcell3)
    go_wp2_with fail
    refine (tnew_any _).mono ?_
    rintro e w5 ⟨rfl, rfl⟩
    have ht := tab_new0 w4
    have b5 := (Below.refl w4.heap.size w4).alloc (Nat.le_refl _) (.cells (cellsC 0 0 0 0) 110)
    have hcell5 := blk_below b5 hcell4 (lt_of_block hcell4)
    have S3' := S3.out w4.heap.size _ ht
    generalize w4.alloc (.cells (cellsC 0 0 0 0) 110) = w5 at *
    clear ht
    go_wp2_with fail
    refine S3'.mono ?_
    rintro e w6 ⟨rfl, -, o6⟩
    have hcell6 := o6.old hcell5 (by have := lt_of_block hcell4; omega)
    have b6 : Below w.heap.size w w6 := by
      have s2 := b2.size
      have s3 := b3.size
      have s4 := b4.size
      exact ((((hb0.out.trans (b2.mono (by omega))).trans (b3.mono (by omega))).trans (b4.mono (by omega))).trans (b5.mono (by omega))).trans (o6.below (by omega) (by have := b5.size; omega))
    clear S3' b2 b3 b4 b5 o6 hcell hcell2 hcell3 hcell4 hcell5 S3
    go_wp2_with fail
    refine (J2.out _).mono ?_
    rintro e w7 ⟨rfl, b7⟩
    have hcell7 := blk_below b7 hcell6 (lt_of_block hcell6)
    have hb7 := b6.trans (b7.mono b6.size)
    have c7 := cell_of_one hcell7
    have f7 := free_of_one hcell7
    clear b7 b6 hcell6 hb0
    go_wp2_with fail
    refine leaves_cons (f := 43) (args := #[.pointer (some ⟨w.heap.size, 0, none⟩)]) (by simp) (by simp [go_sem]) ?_
    have hset : (w7.setCell ⟨w.heap.size, 0, none⟩ (.int .i64 0)).heap[w.heap.size]? = some (.cells #[.int .i64 0] 29 (0, 0)) := blk_set hcell7 0 (.int .i64 0)
    have hb8 := hb7.setCell (p := ⟨w.heap.size, 0, none⟩) (Nat.le_refl _) (.int .i64 0)
    generalize w7.setCell ⟨w.heap.size, 0, none⟩ (.int .i64 0) = w8 at *
    have hset2 : (w8.setCell ⟨w.heap.size, 0, none⟩ (.int .i64 0)).heap[w.heap.size]? = some (.cells #[.int .i64 0] 29 (0, 0)) := blk_set hset 0 (.int .i64 0)
    have hb9 := hb8.setCell (p := ⟨w.heap.size, 0, none⟩) (Nat.le_refl _) (.int .i64 0)
    refine (seal_idle ⟨w.heap.size, 0, none⟩ 0 _ (cell_of_one hset) (free_of_one hset)).mono ?_
    rintro e u' w'' ⟨rfl, rfl, rfl⟩
    generalize w8.setCell ⟨w.heap.size, 0, none⟩ (.int .i64 0) = w9 at *
    have c9 := cell_of_one hset2
    have HB := Lib.hid hb9
    clear hb9 hb8 hb7 hset hset2 hcell7 c7 f7
    simp [Leaves, settle, results, Tryz.results16, go_sem, c9]
    exact HB.out
end Go.Proofs.YtgooepfhapaenaaGreat
/- What frame's open, by a table that is given, comes to. Conditions: texts no longer than any text. -/
namespace Go.Proofs.YtgooepfhapaenaaGreat
open Go.ChangeShapes Go.WideShapes Go.ChangeAt Go.RowKit
set_option linter.unusedVariables false
set_option maxRecDepth 100000
set_option linter.unusedSimpArgs false

/-- Behind a panic only what the results read counts. -/
theorem leaves_congr {P : Program} {fn : Func} {t t' : Array Value} {R : Ending → World → Prop} (h : results fn t = results fn t') :
    ∀ (ds : List Deferred) (u : FrameMode) (w : World), Leaves P fn t R ds u w → Leaves P fn t' R ds u w := by
  intro ds
  induction ds with
  | nil => intro u w hl; cases u <;> simp_all [Leaves]
  | cons d ds ih =>
    intro u w hl
    obtain ⟨hu, fv, cap, f, args, h1, h2, h3⟩ := hl
    refine ⟨hu, fv, cap, f, args, h1, h2, h3.mono ?_⟩
    rintro e u' w' hr
    cases e <;> first | exact ih _ _ hr | exact hr
theorem open_blind (R : Ending → World → Prop) (k : Nat) (hk : 7 ≤ k) (v : Value) (c : List PanicEntry) (a : Act) (w : World)
    (h : bodyPostD Tryz.prog Tryz.f52 R (.panic c) (a.put (some k) v) w) : bodyPostD Tryz.prog Tryz.f52 R (.panic c) a w := by
  refine leaves_congr ?_ _ _ _ h
  simp [results, Tryz.results52, Act.put, Array.getElem?_setIfInBounds, show ¬ k = 4 by omega, show ¬ k = 5 by omega, show ¬ k = 6 by omega]
def TabS (w : World) (b : Nat) : Prop := ∃ d, Tab w b d
/-- A panic that the deferred call turns into the error. -/
theorem open_fails (tmps : Array Value) (n : Int) (c : Nat) (W : World) (R : Ending → World → Prop)
    (hc : W.heap[c]? = some (.cells #[.int .i64 0] 29 (0, 0)))
    (h4 : tmps.getD 4 undef = .string ⟨#[]⟩) (h5 : tmps.getD 5 undef = .int .i64 0) (h6 : tmps.getD 6 undef = .pointer (some ⟨c, 0, none⟩))
    (hR : R (.returned (.tuple #[.string ⟨#[]⟩, .int .i64 0, .int .i64 n])) (W.setCell ⟨c, 0, none⟩ (.int .i64 n))) :
    Leaves Tryz.prog Tryz.f52 tmps R [{ target := .fn (.func 66) #[.pointer (some ⟨c, 0, none⟩)], args := #[] }] (.panicking (pan n)) W := by
  refine leaves_cons (f := 66) (args := #[.pointer (some ⟨c, 0, none⟩)]) (by simp) (by simp [go_sem]) ?_
  refine (open_panicking ⟨c, 0, none⟩ 0 n [] _ (cell_of_one hc) (free_of_one hc)).mono ?_
  rintro e u' w'' ⟨rfl, rfl, rfl⟩
  have hset : (W.setCell ⟨c, 0, none⟩ (.int .i64 n)).heap[c]? = some (.cells #[.int .i64 n] 29 (0, 0)) := blk_set hc 0 (.int .i64 n)
  have c1 := cell_of_one hset
  clear hc hset
  generalize W.setCell ⟨c, 0, none⟩ (.int .i64 n) = w9 at *
  simp only [Array.getD_eq_getD_getElem?] at h4 h5 h6
  simp [Leaves, settle, results, Tryz.results52, go_sem, h4, h5, h6, c1]
  exact hR
theorem open_goes (tmps : Array Value) (T : ByteArray) (n : Int) (c : Nat) (W : World) (R : Ending → World → Prop)
    (hc : W.heap[c]? = some (.cells #[.int .i64 0] 29 (0, 0)))
    (h4 : tmps.getD 4 undef = .string T) (h5 : tmps.getD 5 undef = .int .i64 n) (h6 : tmps.getD 6 undef = .pointer (some ⟨c, 0, none⟩))
    (hR : R (.returned (.tuple #[.string T, .int .i64 n, .int .i64 0])) (W.setCell ⟨c, 0, none⟩ (.int .i64 0))) :
    Leaves Tryz.prog Tryz.f52 tmps R [{ target := .fn (.func 66) #[.pointer (some ⟨c, 0, none⟩)], args := #[] }] .returning W := by
  refine leaves_cons (f := 66) (args := #[.pointer (some ⟨c, 0, none⟩)]) (by simp) (by simp [go_sem]) ?_
  refine (open_idle ⟨c, 0, none⟩ 0 _ (cell_of_one hc) (free_of_one hc)).mono ?_
  rintro e u' w'' ⟨rfl, rfl, rfl⟩
  have hset : (W.setCell ⟨c, 0, none⟩ (.int .i64 0)).heap[c]? = some (.cells #[.int .i64 0] 29 (0, 0)) := blk_set hc 0 (.int .i64 0)
  have c1 := cell_of_one hset
  clear hc hset
  generalize W.setCell ⟨c, 0, none⟩ (.int .i64 0) = w9 at *
  simp only [Array.getD_eq_getD_getElem?] at h4 h5 h6
  simp [Leaves, settle, results, Tryz.results52, go_sem, h4, h5, h6, c1]
  exact hR
theorem rest_zero (s : ByteArray) : rest s 0 = s.data.toList := rfl
theorem n1_err (b : Nat) (s : ByteArray) (w : World) (h : s.size < 1) (hc : Cur w b s 0) :
    Calls Tryz.prog 67 #[.pointer (some ⟨b, 0, none⟩), .int .i64 1] w fun e w' => e = .panicked (pan 3) ∧ Below b w w' := by
  have e : tfE (rest s 0) 1 = 3 := by unfold tfE; rw [if_neg (by omega), if_pos (by rw [rest_len]; omega)]
  have := number_err b s 0 b 1 w (by omega) (Nat.le_refl _) hc (by omega)
  rw [e] at this
  exact this
theorem n1_ok (b : Nat) (s : ByteArray) (w : World) (hs : s.size ≤ 9223372036854775000) (h : 1 ≤ s.size) (hc : Cur w b s 0) :
    Calls Tryz.prog 67 #[.pointer (some ⟨b, 0, none⟩), .int .i64 1] w fun e w' => e = .returned (.int .i64 (bigV (s.data.toList.take 1) 0 : Nat)) ∧ Cur w' b s 1 ∧ Below b w w' := by
  have e : tfE (rest s 0) 1 = 0 := by unfold tfE; rw [if_neg (by omega), if_neg (by rw [rest_len]; omega)]
  have v : tfV (rest s 0) 1 = bigV (s.data.toList.take 1) 0 := by unfold tfV; rw [if_pos e]; rfl
  have m : tfM (rest s 0) 1 = 1 := by unfold tfM; rw [if_pos e]; rfl
  have hb := bigV_lt (s.data.toList.take 1) 0
  have hp : 256 ^ (s.data.toList.take 1).length ≤ 256 ^ 1 := Nat.pow_le_pow_right (by omega) (by simp; omega)
  have := number_ok b s 0 b 1 w hs (Nat.le_refl _) hc e (by rw [v]; omega)
  rw [v, m] at this
  exact this
theorem n2_err (b : Nat) (s : ByteArray) (w : World) (h : s.size < 3) (hc : Cur w b s 1) :
    Calls Tryz.prog 67 #[.pointer (some ⟨b, 0, none⟩), .int .i64 2] w fun e w' => e = .panicked (pan 3) ∧ Below b w w' := by
  have e : tfE (rest s 1) 2 = 3 := by unfold tfE; rw [if_neg (by omega), if_pos (by rw [rest_len]; omega)]
  have := number_err b s 1 b 2 w (by omega) (Nat.le_refl _) hc (by omega)
  rw [e] at this
  exact this
theorem n2_ok (b : Nat) (s : ByteArray) (w : World) (hs : s.size ≤ 9223372036854775000) (h : 3 ≤ s.size) (hc : Cur w b s 1) :
    Calls Tryz.prog 67 #[.pointer (some ⟨b, 0, none⟩), .int .i64 2] w fun e w' => e = .returned (.int .i64 (told s.data.toList : Nat)) ∧ Cur w' b s 3 ∧ Below b w w' := by
  have e : tfE (rest s 1) 2 = 0 := by unfold tfE; rw [if_neg (by omega), if_neg (by rw [rest_len]; omega)]
  have v : tfV (rest s 1) 2 = told s.data.toList := by unfold tfV; rw [if_pos e]; rfl
  have m : tfM (rest s 1) 2 = 2 := by unfold tfM; rw [if_pos e]; rfl
  have := told_lt s.data.toList
  have := number_ok b s 1 b 2 w hs (Nat.le_refl _) hc e (by rw [v]; omega)
  rw [v, m] at this
  exact this
/-- What holds behind a call of open. -/
def OpenR (tb : Nat) (l : List UInt8) (w : World) (e : Ending) (w' : World) : Prop :=
  e = .returned (.tuple #[.string (bs (openB l)), .int .i64 (openN l), .int .i64 (openE l)]) ∧ TabS w' tb ∧ Only tb w w'
theorem openR_err {tb : Nat} {d : Bool} {l : List UInt8} {w w' : World} {n : Nat} (ht : Tab w tb d) (hn : openE l = n) (h0 : n ≠ 0) (hb : Below w.heap.size w w') :
    OpenR tb l w (.returned (.tuple #[.string ⟨#[]⟩, .int .i64 0, .int .i64 n])) w' := by
  refine ⟨?_, ⟨d, tab_below ht hb (tab_lt ht)⟩, Only.of _ hb⟩
  unfold openB openN
  rw [hn, if_neg h0, if_neg h0]; rfl

theorem tab_far {w : World} {b c : Nat} {d : Bool} (h : Tab w b d) (hne : b ≠ c) (v : Value) : Tab (w.setCell ⟨c, 0, none⟩ v) b d := by cases d <;> exact blk_far v h hne
/-- A store into a block that was not there. -/
theorem only_far {b c : Nat} {a w : World} (h : Only b a w) (hc : a.heap.size ≤ c) (hne : b ≠ c) (v : Value) : Only b a (w.setCell ⟨c, 0, none⟩ v) :=
  ⟨h.os, h.tape, h.output, by simpa [World.setCell] using h.size, fun k hk hkb => (Below.heap_setCell w ⟨c, 0, none⟩ v k (by intro e; simp at e; omega)).trans (h.block k hk hkb)⟩
theorem cnew1 (s : ByteArray) (w : World) :
    Calls Tryz.prog 24 #[.string s] (w.alloc (.cells #[.int .i64 0] 29)) fun e w' => e = .returned (.pointer (some ⟨w.heap.size + 1, 0, none⟩)) ∧ Cur w' (w.heap.size + 1) s 0 ∧
      w'.heap[w.heap.size]? = some (.cells #[.int .i64 0] 29 (0, 0)) ∧ Below w.heap.size w w' := by
  have hcell := blk_new w (.cells #[.int .i64 0] 29)
  have hb0 := (Below.refl w.heap.size w).alloc (Nat.le_refl _) (.cells #[.int .i64 0] 29)
  refine (curnew_any s _).mono ?_
  rintro e w' ⟨rfl, hc, hb⟩
  rw [World.size_alloc] at hc hb ⊢
  exact ⟨rfl, hc, blk_below hb hcell (by omega), hb0.trans (hb.mono (by omega))⟩
set_option maxHeartbeats 400000 in
theorem open_any (tb : Nat) (d : Bool) (s : ByteArray) (w : World) (hs : s.size ≤ 9223372036854775000) (ht : Tab w tb d) :
    Calls Tryz.prog 52 #[.pointer (some ⟨tb, 0, none⟩), .string s] w (OpenR tb s.data.toList w) := by
  have hmf : ∀ (fn : Fn) (first cap : Array Value) (w : World), (Instr.makeFunc fn first cap).run Tryz.prog w = .ok (.func fn first cap) w := fun _ _ _ _ => rfl
  have hl : s.data.toList.length = s.size := data_len s
  have hE : openE s.data.toList = if s.data.toList.length < 1 then 3 else if bigV (s.data.toList.take 1) 0 ≠ 82 then 2 else if s.data.toList.length < 3 then 3 else if 200 < told s.data.toList then 9 else if s.data.toList.length < told s.data.toList + 7 then 3
  else if (s.data.toList.drop (told s.data.toList + 3)).take 4 ≠ fixL (more 0 ((s.data.toList.drop 1).take (told s.data.toList + 2))) 4 then 4 else 0 := rfl
  rw [hl] at hE
  have N1 := n1_ok (w.heap.size + 1) s
  have N2 := n2_ok (w.heap.size + 1) s
  have htl := told_lt s.data.toList
  by_cases c1 : s.size < 1
  · rw [if_pos c1] at hE
    have HE := Lib.hid hE
    have HT := Lib.hid ht
    clear hE hl ht
    go_enter_defers Tryz.func52, Tryz.ntmps52
    go_wp2_with fail
    refine (cnew1 _ _).mono ?_
    rintro e w2 ⟨rfl, hc2, hcell2, b2⟩
    have N := Lib.hid (n1_err _ _ _ c1 hc2)
    clear hc2
    go_wp2_with fail
    refine N.out.mono ?_
    rintro e w3 ⟨rfl, b3⟩
    have hcell3 := blk_below b3 hcell2 (by omega)
    go_wp2_with fail
    refine open_fails _ 3 w.heap.size w3 _ hcell3 rfl rfl rfl ?_
    exact openR_err (n := 3) HT.out HE.out (by omega) ((b2.trans (b3.mono (by omega))).setCell (Nat.le_refl _) _)
  rw [if_neg c1] at hE
  have N1 := Lib.hid fun w => N1 w hs (by omega)
  by_cases c2 : bigV (s.data.toList.take 1) 0 ≠ 82
  · rw [if_pos c2] at hE
    generalize bigV (s.data.toList.take 1) 0 = v1 at *
    have d2 : ((v1 : Int) == 82) = false := by simp; omega
    have HE := Lib.hid hE
    have HT := Lib.hid ht
    clear hE hl ht c2 N2
    go_enter_defers Tryz.func52, Tryz.ntmps52
    go_wp2_with fail
    refine (cnew1 _ _).mono ?_
    rintro e w2 ⟨rfl, hc2, hcell2, b2⟩
    have N := Lib.hid (N1.out _ hc2)
    clear hc2
    go_wp2_with fail
    refine N.out.mono ?_
    rintro e w3 ⟨rfl, -, b3⟩
    have hcell3 := blk_below b3 hcell2 (by omega)
    clear hcell2
    go_wp2_with fail
    refine (demand_no _ _).mono ?_
    rintro e w4 ⟨rfl, rfl⟩
    go_wp2_with fail
    refine open_fails _ 2 w.heap.size w3 _ hcell3 rfl rfl rfl ?_
    exact openR_err (n := 2) HT.out HE.out (by omega) ((b2.trans (b3.mono (by omega))).setCell (Nat.le_refl _) _)
  rw [if_neg c2] at hE
  have c2 := Classical.not_not.1 c2
  rw [c2] at N1
  clear c2
  by_cases c3 : s.size < 3
  · rw [if_pos c3] at hE
    have HE := Lib.hid hE
    have HT := Lib.hid ht
    clear hE hl ht N2
    go_enter_defers Tryz.func52, Tryz.ntmps52
    go_wp2_with fail
    refine (cnew1 _ _).mono ?_
    rintro e w2 ⟨rfl, hc2, hcell2, b2⟩
    have N := Lib.hid (N1.out _ hc2)
    clear hc2
    go_wp2_with fail
    refine N.out.mono ?_
    rintro e w3 ⟨rfl, hc3, b3⟩
    have hcell3 := blk_below b3 hcell2 (by omega)
    have N := Lib.hid (n2_err _ _ _ c3 hc3)
    clear hcell2 hc3
    go_wp2_with fail
    refine (demand_yes _ _).mono ?_
    rintro e w4 ⟨rfl, rfl⟩
    go_wp2_with fail
    refine N.out.mono ?_
    rintro e w4 ⟨rfl, b4⟩
    have hcell4 := blk_below b4 hcell3 (by omega)
    clear hcell3
    go_wp2_with fail
    refine open_fails _ 3 w.heap.size w4 _ hcell4 rfl rfl rfl ?_
    exact openR_err (n := 3) HT.out HE.out (by omega) (((b2.trans (b3.mono (by omega))).trans (b4.mono (by omega))).setCell (Nat.le_refl _) _)
  rw [if_neg c3] at hE
  have N2 := Lib.hid fun w => N2 w hs (by omega)
  by_cases c4 : 200 < told s.data.toList
  · rw [if_pos c4] at hE
    generalize told s.data.toList = n at *
    have d4 : decide ((n : Int) ≤ 200) = false := decide_eq_false (by omega)
    have HE := Lib.hid hE
    have HT := Lib.hid ht
    clear hE hl ht
    go_enter_defers Tryz.func52, Tryz.ntmps52
    go_wp2_with fail
    refine (cnew1 _ _).mono ?_
    rintro e w2 ⟨rfl, hc2, hcell2, b2⟩
    have N := Lib.hid (N1.out _ hc2)
    clear hc2
    go_wp2_with fail
    refine N.out.mono ?_
    rintro e w3 ⟨rfl, hc3, b3⟩
    have hcell3 := blk_below b3 hcell2 (by omega)
    have N := Lib.hid (N2.out _ hc3)
    clear hcell2 hc3
    go_wp2_with fail
    refine (demand_yes _ _).mono ?_
    rintro e w4 ⟨rfl, rfl⟩
    go_wp2_with fail
    refine N.out.mono ?_
    rintro e w4 ⟨rfl, -, b4⟩
    have hcell4 := blk_below b4 hcell3 (by omega)
    clear hcell3
    go_wp2_with fail
    refine (demand_no _ _).mono ?_
    rintro e w5 ⟨rfl, rfl⟩
    go_wp2_with fail
    refine open_fails _ 9 w.heap.size w4 _ hcell4 rfl rfl rfl ?_
    exact openR_err (n := 9) HT.out HE.out (by omega) (((b2.trans (b3.mono (by omega))).trans (b4.mono (by omega))).setCell (Nat.le_refl _) _)
  rw [if_neg c4] at hE
  have hsz : ∀ w, Calls Tryz.prog 68 #[.int .i64 (told s.data.toList : Nat)] w fun e w' => e = .returned (.int .i64 ((told s.data.toList + 7 : Nat) : Int)) ∧ w = w' := fun w => by
    have := fsize_any (told s.data.toList : Nat) w
    unfold sizeV at this
    rw [if_pos (by omega)] at this
    exact this
  have HSZ := Lib.hid hsz
  clear hsz
  by_cases c5 : s.size < told s.data.toList + 7
  · rw [if_pos c5] at hE
    generalize told s.data.toList = n at *
    have d4 : decide ((n : Int) ≤ 200) = true := decide_eq_true (by omega)
    have d5 : decide ((n : Int) + 7 ≤ (s.size : Int)) = false := decide_eq_false (by omega)
    have HE := Lib.hid hE
    have HT := Lib.hid ht
    clear hE hl ht
    go_enter_defers Tryz.func52, Tryz.ntmps52
    go_wp2_with fail
    refine (cnew1 _ _).mono ?_
    rintro e w2 ⟨rfl, hc2, hcell2, b2⟩
    have N := Lib.hid (N1.out _ hc2)
    clear hc2
    go_wp2_with fail
    refine N.out.mono ?_
    rintro e w3 ⟨rfl, hc3, b3⟩
    have hcell3 := blk_below b3 hcell2 (by omega)
    have N := Lib.hid (N2.out _ hc3)
    clear hcell2 hc3
    go_wp2_with fail
    refine (demand_yes _ _).mono ?_
    rintro e w4 ⟨rfl, rfl⟩
    go_wp2_with fail
    refine N.out.mono ?_
    rintro e w4 ⟨rfl, -, b4⟩
    have hcell4 := blk_below b4 hcell3 (by omega)
    have hb4 := Lib.hid ((b2.trans (b3.mono (by omega))).trans (b4.mono (by omega)))
    clear hcell3 N
    go_wp2_with fail
    refine (demand_yes _ _).mono ?_
    rintro e w5 ⟨rfl, rfl⟩
    go_wp2_with fail
    refine (HSZ.out _).mono ?_
    rintro e w5 ⟨rfl, rfl⟩
    go_wp2_with fail
    refine (demand_no _ _).mono ?_
    rintro e w5 ⟨rfl, rfl⟩
    go_wp2_with fail
    refine open_fails _ 3 w.heap.size w4 _ hcell4 rfl rfl rfl ?_
    exact openR_err (n := 3) HT.out HE.out (by omega) (hb4.out.setCell (Nat.le_refl _) _)
  rw [if_neg c5] at hE
  have hx1 : (s.extract 1 (told s.data.toList + 3)).data.toList = (s.data.toList.drop 1).take (told s.data.toList + 2) := by
    rw [extract_list, List.drop_take]; rfl
  have hx2 : (s.extract (told s.data.toList + 3) (told s.data.toList + 7)).data.toList = (s.data.toList.drop (told s.data.toList + 3)).take 4 := by
    rw [extract_list, List.drop_take]; congr 1; omega
  have hx3 : (s.extract 3 (told s.data.toList + 3)).data.toList = (s.data.toList.drop 3).take (told s.data.toList) := by
    rw [extract_list, List.drop_take]; congr 1
  have hB : openE s.data.toList = 0 → bs (openB s.data.toList) = s.extract 3 (told s.data.toList + 3) := fun h => by
    unfold openB; rw [if_pos h, ← hx3, bs_of]
  have hN : openE s.data.toList = 0 → openN s.data.toList = told s.data.toList + 7 := fun h => by
    unfold openN; rw [if_pos h]
  have hz1 : (s.extract 1 (told s.data.toList + 3)).size ≤ 9223372036854775000 := by rw [← data_len, hx1]; simp; omega
  have S1 := fun (w : World) (h : Tab w tb d) => fsum_any tb d (s.extract 1 (told s.data.toList + 3)) w hz1 h
  rw [hx1] at S1
  rw [← hx2] at hE
  have hE2 : s.extract (told s.data.toList + 3) (told s.data.toList + 7) = bs (fixL (more 0 ((s.data.toList.drop 1).take (told s.data.toList + 2))) 4) ∧ openE s.data.toList = 0 ∨ s.extract (told s.data.toList + 3) (told s.data.toList + 7) ≠ bs (fixL (more 0 ((s.data.toList.drop 1).take (told s.data.toList + 2))) 4) ∧ openE s.data.toList = 4 := by
    by_cases h : (s.extract (told s.data.toList + 3) (told s.data.toList + 7)).data.toList = fixL (more 0 ((s.data.toList.drop 1).take (told s.data.toList + 2))) 4
    · rw [if_neg (by simpa using h)] at hE
      exact Or.inl ⟨by rw [← h, bs_of], hE⟩
    · rw [if_pos h] at hE
      refine Or.inr ⟨fun e => h ?_, hE⟩
      rw [e, bs_list]
  have hsl1 := fun w => run_slice_string (P := Tryz.prog) w 9 s .i64 .i64 (1 : Int) (3 + (told s.data.toList : Int)) (by kernel_rfl) (by omega) (by omega) (by omega)
  have hsl2 := fun w => run_slice_string (P := Tryz.prog) w 9 s .i64 .i64 (3 + (told s.data.toList : Int)) ((told s.data.toList : Int) + 7) (by kernel_rfl) (by omega) (by omega) (by omega)
  have hsl3 := fun w => run_slice_string (P := Tryz.prog) w 9 s .i64 .i64 (3 : Int) (3 + (told s.data.toList : Int)) (by kernel_rfl) (by omega) (by omega) (by omega)
  have t3 : (3 + (told s.data.toList : Int)).toNat = told s.data.toList + 3 := by omega
  have t7 : ((told s.data.toList : Int) + 7).toNat = told s.data.toList + 7 := by omega
  rw [t3] at hsl1 hsl2 hsl3
  rw [t7] at hsl2
  rw [show (1 : Int).toNat = 1 from rfl] at hsl1
  rw [show (3 : Int).toNat = 3 from rfl] at hsl3
  clear t3 t7
  clear hE hx1 hx2 hx3 hz1
  generalize bs (fixL (more 0 ((s.data.toList.drop 1).take (told s.data.toList + 2))) 4) = Y at *
  generalize s.extract (told s.data.toList + 3) (told s.data.toList + 7) = X at *
  generalize s.extract 1 (told s.data.toList + 3) = Z at *
  generalize s.extract 3 (told s.data.toList + 3) = V at *
  generalize told s.data.toList = n at *
  have d4 : decide ((n : Int) ≤ 200) = true := decide_eq_true (by omega)
  have d5 : decide ((n : Int) + 7 ≤ (s.size : Int)) = true := decide_eq_true (by omega)
  have HT := Lib.hid ht
  have S1 := Lib.hid S1
  have HB := Lib.hid hB
  have HN := Lib.hid hN
  clear hl ht hB hN
  rcases hE2 with ⟨rfl, hE⟩ | ⟨hne, hE⟩
  · have HE := Lib.hid hE
    clear hE
    go_enter_defers Tryz.func52, Tryz.ntmps52
    go_wp2_with fail
    refine (cnew1 _ _).mono ?_
    rintro e w2 ⟨rfl, hc2, hcell2, b2⟩
    have N := Lib.hid (N1.out _ hc2)
    clear hc2
    go_wp2_with fail
    refine N.out.mono ?_
    rintro e w3 ⟨rfl, hc3, b3⟩
    have hcell3 := blk_below b3 hcell2 (by omega)
    have N := Lib.hid (N2.out _ hc3)
    clear hcell2 hc3
    go_wp2_with fail
    refine (demand_yes _ _).mono ?_
    rintro e w4 ⟨rfl, rfl⟩
    go_wp2_with fail
    refine N.out.mono ?_
    rintro e w4 ⟨rfl, -, b4⟩
    have hcell4 := blk_below b4 hcell3 (by omega)
    have hb4 := Lib.hid ((b2.trans (b3.mono (by omega))).trans (b4.mono (by omega)))
    clear hcell3 N
    go_wp2_with fail
    refine (demand_yes _ _).mono ?_
    rintro e w5 ⟨rfl, rfl⟩
    go_wp2_with fail
    refine (HSZ.out _).mono ?_
    rintro e w5 ⟨rfl, rfl⟩
    go_wp2_with fail
    have HT4 := Lib.hid (fun k => tab_drewN k (tab_below HT.out hb4.out (tab_lt HT.out)))
    refine (demand_yes _ _).mono ?_
    rintro e w5 ⟨rfl, rfl⟩
    go_wp2_with fail
    refine wp_region_any (by kernel_rfl) ?_
    change wpAny _ _ _ _ _ _ _ (World.drew _)
    refine wpAny_take (i := 0) (v := .string s) rfl (by kernel_rfl) (by kernel_rfl) (by kernel_rfl) (fun c a w h => open_blind _ 34 (by decide) _ c a w h) (Or.inl ⟨by rfl, ?_⟩) ?_
    · intro w; go_simp
    refine wpAny_take (i := 1) (v := .int .i64 (3 + (n : Int))) rfl (by kernel_rfl) (by kernel_rfl) (by kernel_rfl) (fun c a w h => open_blind _ 35 (by decide) _ c a w h) (Or.inl ⟨by rfl, ?_⟩) ?_
    · intro w; go_simp
    refine wpAny_take (i := 2) (v := .int .i64 ((n : Int) + 7)) rfl (by kernel_rfl) (by kernel_rfl) (by kernel_rfl) (fun c a w h => open_blind _ 36 (by decide) _ c a w h) (Or.inl ⟨by rfl, ?_⟩) ?_
    · intro w; go_simp
    refine wpAny_take (i := 3) (v := .string X) rfl (by kernel_rfl) (by kernel_rfl) (by kernel_rfl) (fun c a w h => open_blind _ 37 (by decide) _ c a w h) (Or.inl ⟨by rfl, ?_⟩) ?_
    · intro w; go_simp
    refine wpAny_take (i := 4) (v := .pointer (some ⟨tb, 0, none⟩)) rfl (by kernel_rfl) (by kernel_rfl) (by kernel_rfl) (fun c a w h => open_blind _ 38 (by decide) _ c a w h) (Or.inl ⟨by rfl, ?_⟩) ?_
    · intro w; go_simp
    refine wpAny_take (i := 5) (v := .string s) rfl (by kernel_rfl) (by kernel_rfl) (by kernel_rfl) (fun c a w h => open_blind _ 39 (by decide) _ c a w h) (Or.inl ⟨by rfl, ?_⟩) ?_
    · intro w; go_simp
    refine wpAny_take (i := 6) (v := .int .i64 (3 + (n : Int))) rfl (by kernel_rfl) (by kernel_rfl) (by kernel_rfl) (fun c a w h => open_blind _ 40 (by decide) _ c a w h) (Or.inl ⟨by rfl, ?_⟩) ?_
    · intro w; go_simp
    refine wpAny_take (i := 7) (v := .string Z) rfl (by kernel_rfl) (by kernel_rfl) (by kernel_rfl) (fun c a w h => open_blind _ 41 (by decide) _ c a w h) (Or.inl ⟨by rfl, ?_⟩) ?_
    · intro w; go_simp
    refine wpAny_ready (rs := [8]) (by kernel_rfl) (by simp) ?_
    refine AllReady.cons rfl (fun K hK => ?_) AllReady.nil
    go_simp
    refine (S1.out _ (HT4.out 1)).mono ?_
    rintro e w6 ⟨rfl, t6, o6⟩
    have hcell6 : w6.heap[w.heap.size]? = some (.cells #[.int .i64 0] 29 (0, 0)) := o6.old (w := w4.drewN 1) hcell4 (by have := tab_lt HT.out; omega)
    have O7 := Lib.hid ((Only.of tb (below_drewN hb4.out 1)).trans o6)
    have T6 := Lib.hid t6
    have C6 := Lib.hid hcell6
    have htb : tb ≠ w.heap.size := by have := tab_lt HT.out; omega
    clear o6 t6 hcell6 hcell4 S1
    refine hK _ _ ?_
    clear hK K
    refine wpAny_ready (rs := [9]) (by kernel_rfl) (by simp) ?_
    refine AllReady.cons rfl (fun K hK => ?_) AllReady.nil
    go_simp
    refine hK _ _ ?_
    clear hK K
    refine wpAny_ready (rs := [10]) (by kernel_rfl) (by simp) ?_
    refine AllReady.cons rfl (fun K hK => ?_) AllReady.nil
    go_simp
    refine (demand_yes _ _).mono ?_
    rintro e w7 ⟨rfl, rfl⟩
    refine hK _ _ ?_
    clear hK K
    refine wpAny_done (by kernel_rfl) ?_ _
    have c6 := cell_of_one C6.out
    have f6 := free_of_one C6.out
    go_wp2_with fail
    have C7 : (w6.setCell ⟨w.heap.size, 0, none⟩ (.int .i64 0)).heap[w.heap.size]? = some (.cells #[.int .i64 0] 29 (0, 0)) := blk_set C6.out 0 (.int .i64 0)
    refine open_goes _ V ((n : Int) + 7) w.heap.size _ _ C7 rfl rfl rfl ?_
    refine ⟨?_, ⟨true, tab_far (tab_far T6.out htb _) htb _⟩, only_far (only_far O7.out (Nat.le_refl _) htb _) (Nat.le_refl _) htb _⟩
    rw [HE.out, HB.out HE.out, HN.out HE.out]; rfl
  · have hxy : (X.toList == Y.toList) = false := by
      rw [beq_eq_false_iff_ne]
      intro e
      rw [Lib.toList_data, Lib.toList_data] at e
      exact hne (by rw [← bs_of X, e, bs_of])
    clear hne
    have HE := Lib.hid hE
    clear hE
    go_enter_defers Tryz.func52, Tryz.ntmps52
    go_wp2_with fail
    refine (cnew1 _ _).mono ?_
    rintro e w2 ⟨rfl, hc2, hcell2, b2⟩
    have N := Lib.hid (N1.out _ hc2)
    clear hc2
    go_wp2_with fail
    refine N.out.mono ?_
    rintro e w3 ⟨rfl, hc3, b3⟩
    have hcell3 := blk_below b3 hcell2 (by omega)
    have N := Lib.hid (N2.out _ hc3)
    clear hcell2 hc3
    go_wp2_with fail
    refine (demand_yes _ _).mono ?_
    rintro e w4 ⟨rfl, rfl⟩
    go_wp2_with fail
    refine N.out.mono ?_
    rintro e w4 ⟨rfl, -, b4⟩
    have hcell4 := blk_below b4 hcell3 (by omega)
    have hb4 := Lib.hid ((b2.trans (b3.mono (by omega))).trans (b4.mono (by omega)))
    clear hcell3 N
    go_wp2_with fail
    refine (demand_yes _ _).mono ?_
    rintro e w5 ⟨rfl, rfl⟩
    go_wp2_with fail
    refine (HSZ.out _).mono ?_
    rintro e w5 ⟨rfl, rfl⟩
    go_wp2_with fail
    have HT4 := Lib.hid (fun k => tab_drewN k (tab_below HT.out hb4.out (tab_lt HT.out)))
    refine (demand_yes _ _).mono ?_
    rintro e w5 ⟨rfl, rfl⟩
    go_wp2_with fail
    refine wp_region_any (by kernel_rfl) ?_
    change wpAny _ _ _ _ _ _ _ (World.drew _)
    refine wpAny_take (i := 0) (v := .string s) rfl (by kernel_rfl) (by kernel_rfl) (by kernel_rfl) (fun c a w h => open_blind _ 34 (by decide) _ c a w h) (Or.inl ⟨by rfl, ?_⟩) ?_
    · intro w; go_simp
    refine wpAny_take (i := 1) (v := .int .i64 (3 + (n : Int))) rfl (by kernel_rfl) (by kernel_rfl) (by kernel_rfl) (fun c a w h => open_blind _ 35 (by decide) _ c a w h) (Or.inl ⟨by rfl, ?_⟩) ?_
    · intro w; go_simp
    refine wpAny_take (i := 2) (v := .int .i64 ((n : Int) + 7)) rfl (by kernel_rfl) (by kernel_rfl) (by kernel_rfl) (fun c a w h => open_blind _ 36 (by decide) _ c a w h) (Or.inl ⟨by rfl, ?_⟩) ?_
    · intro w; go_simp
    refine wpAny_take (i := 3) (v := .string X) rfl (by kernel_rfl) (by kernel_rfl) (by kernel_rfl) (fun c a w h => open_blind _ 37 (by decide) _ c a w h) (Or.inl ⟨by rfl, ?_⟩) ?_
    · intro w; go_simp
    refine wpAny_take (i := 4) (v := .pointer (some ⟨tb, 0, none⟩)) rfl (by kernel_rfl) (by kernel_rfl) (by kernel_rfl) (fun c a w h => open_blind _ 38 (by decide) _ c a w h) (Or.inl ⟨by rfl, ?_⟩) ?_
    · intro w; go_simp
    refine wpAny_take (i := 5) (v := .string s) rfl (by kernel_rfl) (by kernel_rfl) (by kernel_rfl) (fun c a w h => open_blind _ 39 (by decide) _ c a w h) (Or.inl ⟨by rfl, ?_⟩) ?_
    · intro w; go_simp
    refine wpAny_take (i := 6) (v := .int .i64 (3 + (n : Int))) rfl (by kernel_rfl) (by kernel_rfl) (by kernel_rfl) (fun c a w h => open_blind _ 40 (by decide) _ c a w h) (Or.inl ⟨by rfl, ?_⟩) ?_
    · intro w; go_simp
    refine wpAny_take (i := 7) (v := .string Z) rfl (by kernel_rfl) (by kernel_rfl) (by kernel_rfl) (fun c a w h => open_blind _ 41 (by decide) _ c a w h) (Or.inl ⟨by rfl, ?_⟩) ?_
    · intro w; go_simp
    refine wpAny_ready (rs := [8]) (by kernel_rfl) (by simp) ?_
    refine AllReady.cons rfl (fun K hK => ?_) AllReady.nil
    go_simp
    refine (S1.out _ (HT4.out 1)).mono ?_
    rintro e w6 ⟨rfl, t6, o6⟩
    have hcell6 : w6.heap[w.heap.size]? = some (.cells #[.int .i64 0] 29 (0, 0)) := o6.old (w := w4.drewN 1) hcell4 (by have := tab_lt HT.out; omega)
    have O7 := Lib.hid ((Only.of tb (below_drewN hb4.out 1)).trans o6)
    have T6 := Lib.hid t6
    have C6 := Lib.hid hcell6
    have htb : tb ≠ w.heap.size := by have := tab_lt HT.out; omega
    clear o6 t6 hcell6 hcell4 S1
    refine hK _ _ ?_
    clear hK K
    refine wpAny_ready (rs := [9]) (by kernel_rfl) (by simp) ?_
    refine AllReady.cons rfl (fun K hK => ?_) AllReady.nil
    go_simp
    refine hK _ _ ?_
    clear hK K
    refine wpAny_ready (rs := [10]) (by kernel_rfl) (by simp) ?_
    refine AllReady.cons rfl (fun K hK => ?_) AllReady.nil
    go_simp
    refine (demand_no _ _).mono ?_
    rintro e w7 ⟨rfl, rfl⟩
    refine open_fails _ 4 w.heap.size w6 _ C6.out rfl rfl rfl ?_
    refine ⟨?_, ⟨true, tab_far T6.out htb _⟩, only_far O7.out (Nat.le_refl _) htb _⟩
    unfold openB openN
    rw [HE.out]; rfl
end Go.Proofs.YtgooepfhapaenaaGreat
/- What frame's Open and All come to. Conditions: texts of at most 100,000 bytes. -/
namespace Go.Proofs.YtgooepfhapaenaaGreat
open Go.ChangeShapes Go.WideShapes Go.ChangeAt Go.RowKit
set_option linter.unusedVariables false
set_option maxRecDepth 100000
set_option linter.unusedSimpArgs false

theorem fopen_any (s : ByteArray) (w : World) (hs : s.size ≤ 9223372036854775000) :
    Calls Tryz.prog 22 #[.string s] w fun e w' => e = .returned (.tuple #[.string (bs (openB s.data.toList)), .int .i64 (openN s.data.toList), .int .i64 (openE s.data.toList)]) ∧ Below w.heap.size w w' := by
  have H := Lib.hid (open_any w.heap.size false s _ hs (tab_new0 w))
  have b1 := (Below.refl w.heap.size w).alloc (Nat.le_refl _) (.cells (cellsC 0 0 0 0) 110)
  have hz : (w.alloc (.cells (cellsC 0 0 0 0) 110)).heap.size = w.heap.size + 1 := by simp
  have N := Lib.hid (tnew_any w)
  generalize w.alloc (.cells (cellsC 0 0 0 0) 110) = w1 at *
  go_enter Tryz.func22, Tryz.ntmps22
  go_wp2_with fail
  refine N.out.mono ?_
  rintro e w2 ⟨rfl, rfl⟩
  go_wp2_with fail
  refine H.out.mono ?_
  rintro e w3 ⟨rfl, -, o3⟩
  have b3 := Lib.hid (b1.trans (o3.below (Nat.le_refl _) (by omega)))
  go_wp2_with fail
  go_ret3
  exact ⟨rfl, b3.out⟩
end Go.Proofs.YtgooepfhapaenaaGreat
