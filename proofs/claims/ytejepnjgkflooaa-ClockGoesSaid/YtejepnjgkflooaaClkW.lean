/- No clock; one clock beside blocks of the law's own; the document's Tick; what must come of package clock, whatever the arguments are. Conditions: as stated. -/
import Derived.Test.YtejepnjgkflooaaClkA
namespace Go.Proofs.Ytejepnjgkflooaa
open Go.ChangeShapes Go.WideShapes Go.ChangeAt Go.RowKit
set_option linter.unusedVariables false
set_option maxRecDepth 100000
set_option linter.unusedSimpArgs false
set_option maxHeartbeats 2000000

theorem nc_same {w : World} {x : Value} {e : Ending} {w' : World} (h : e = .returned x ∧ w = w') : e = .returned x ∧ Below w.heap.size w w' := ⟨h.1, h.2 ▸ Below.refl _ _⟩
theorem ncnow_any (w : World) : Calls Try.prog 10 #[.pointer none] w fun e w' => e = .returned (.int .i64 0) ∧ Below w.heap.size w w' :=
  (cnow_of _ 0 true w (ncread_any w)).mono fun e w' h => nc_same h
theorem nctick_any (n : Int) (w : World) : Calls Try.prog 9 #[.pointer none, .int .i64 n] w fun e w' => e = .returned (.int .i64 0) ∧ Below w.heap.size w w' :=
  (ctick_off _ 0 n w (ncread_any w)).mono fun e w' h => nc_same h
theorem ncstop_any (w : World) : Calls Try.prog 7 #[.pointer none] w fun e w' => e = .returned (.bool false) ∧ Below w.heap.size w w' := by
  go_enter Try.func7, Try.ntmps7
  go_wp2_with fail
  go_ret
  exact ⟨rfl, (Below.refl _ _).alloc (Nat.le_refl _) _⟩
theorem ncstopped_any (w : World) : Calls Try.prog 11 #[.pointer none] w fun e w' => e = .returned (.bool true) ∧ Below w.heap.size w w' :=
  (cstopped_of _ 0 true w (ncread_any w)).mono fun e w' h => nc_same h
section
variable {wL : World} {G : Nat → Prop} {v : Value} {c : Ck} {w : World}
theorem One.clk_in (h : One clkO wL G v c w) : 0 ≤ c.t ∧ c.t ≤ 1099511627776 := by
  obtain ⟨F, ⟨b, _, _, _, h4⟩, _⟩ := h
  exact h4
theorem ocnow (h : One clkO wL G v c w) :
    Calls Try.prog 10 #[v] w fun e w' => e = .returned (.int .i64 c.t) ∧ One clkO wL G v c w' ∧ Stay G w w' := by
  have h0 := h
  obtain ⟨F, h1, h2, h3, h4⟩ := h
  exact (cnow_any F v c w h1).mono fun e w' ⟨he, hw⟩ => ⟨he, hw ▸ h0, hw ▸ fun _ _ => rfl⟩
theorem ocstopped (h : One clkO wL G v c w) :
    Calls Try.prog 11 #[v] w fun e w' => e = .returned (.bool c.off) ∧ One clkO wL G v c w' ∧ Stay G w w' := by
  have h0 := h
  obtain ⟨F, h1, h2, h3, h4⟩ := h
  exact (cstopped_any F v c w h1).mono fun e w' ⟨he, hw⟩ => ⟨he, hw ▸ h0, hw ▸ fun _ _ => rfl⟩
theorem octick (n : Int) (h : One clkO wL G v c w) :
    Calls Try.prog 9 #[v, .int .i64 n] w fun e w' => e = .returned (.int .i64 (tickK c n).t) ∧ One clkO wL G v (tickK c n) w' ∧ Stay G w w' := by
  obtain ⟨F, h1, h2, h3, h4⟩ := h
  exact (ctick_any F v c n w h1).mono fun e w' ⟨he, hp⟩ => ⟨he, one_turn h2 h3 h4 hp⟩
theorem ocstop (h : One clkO wL G v c w) :
    Calls Try.prog 7 #[v] w fun e w' => e = .returned (.bool (!c.off)) ∧ One clkO wL G v ⟨c.t, true⟩ w' ∧ Stay G w w' := by
  obtain ⟨F, h1, h2, h3, h4⟩ := h
  exact (cstop_any F v c w h1).mono fun e w' ⟨he, hp⟩ => ⟨he, one_turn h2 h3 h4 hp⟩
end
theorem blk_new2 (w : World) (X Y : Obj) : ((w.alloc X).alloc Y).heap[w.heap.size + 1]? = some Y := by
  have := blk_new (w.alloc X) Y
  rwa [show (w.alloc X).heap.size = w.heap.size + 1 by simp] at this
theorem rctick_any (c : Ck) (n : Int) (w : World) :
    Calls Try.prog 8 #[.agg #[.int .i64 c.t, .bool c.off], .int .i64 n] w fun e w' => e = .returned (.agg #[.int .i64 (tickK c n).t, .bool (tickK c n).off]) ∧ Below w.heap.size w w' := by
  have L := Lib.hid fun w => rlater_any c.t n w
  unfold tickK
  have hb : ∀ (X Y : Obj) (a : World), Below a.heap.size a ((a.alloc X).alloc Y) := fun X Y a => ((Below.refl _ _).alloc (Nat.le_refl _) _).alloc (Nat.le_of_lt (by simp)) _
  cases hoff : c.off with
  | true =>
    simp only [if_true]
    rw [hoff]
    generalize c.t = t at *
    clear hoff L
    go_enter Try.func8, Try.ntmps8
    go_wp2_with fail
    exact bodyPost_ret (results_cell_row rfl _ _ (w.heap.size + 1) 45 #[.int .i64 t, .bool true] (0, 0) _ rfl (blk_new2 w _ _) Try.underlying45 rfl (by kernel_rfl)) rfl ⟨rfl, hb _ _ _⟩
  | false =>
    simp only [Bool.false_eq_true, if_false]
    generalize c.t = t at *
    generalize laterV t n = lt at *
    clear hoff
    go_enter Try.func8, Try.ntmps8
    go_wp2_with fail
    refine (L.out _).mono ?_; rintro e w1 ⟨rfl, rfl⟩
    go_wp2_with fail
    exact bodyPost_ret (results_cell_row rfl _ _ (w.heap.size + 1) 45 #[.int .i64 lt, .bool false] (0, 0) _ rfl (blk_new2 w _ _) Try.underlying45 rfl (by kernel_rfl)) rfl ⟨rfl, hb _ _ _⟩
abbrev K1 (wL : World) (v : Value) (c : Ck) (w : World) : Prop := One clkO wL (fun _ => False) v c w
theorem clock_awake (w : World) : Calls Try.prog 5 #[] w fun e w' => e = .returned (.bool true) ∧ Below w.heap.size w w' := by
  have NW := Lib.hid (cnew_any w)
  have T1 := Lib.hid (show ∀ v w', K1 w v ck0 w' → Calls Try.prog 9 #[v, .int .i64 3] w' fun e w2 => e = .returned (.int .i64 3) ∧ K1 w v ⟨3, false⟩ w2 from fun v w' h => (octick 3 h).mono fun e w2 ⟨h1, h2, _⟩ => ⟨h1, h2⟩)
  have T2 := Lib.hid (show ∀ v w', K1 w v ⟨3, false⟩ w' → Calls Try.prog 9 #[v, .int .i64 (-1)] w' fun e w2 => e = .returned (.int .i64 3) ∧ K1 w v ⟨3, false⟩ w2 from fun v w' h => (octick (-1) h).mono fun e w2 ⟨h1, h2, _⟩ => ⟨h1, h2⟩)
  have S1 := Lib.hid (show ∀ v w', K1 w v ⟨3, false⟩ w' → Calls Try.prog 7 #[v] w' fun e w2 => e = .returned (.bool true) ∧ K1 w v ⟨3, true⟩ w2 from fun v w' h => (ocstop h).mono fun e w2 ⟨h1, h2, _⟩ => ⟨h1, h2⟩)
  have S2 := Lib.hid (show ∀ v w', K1 w v ⟨3, true⟩ w' → Calls Try.prog 7 #[v] w' fun e w2 => e = .returned (.bool false) ∧ K1 w v ⟨3, true⟩ w2 from fun v w' h => (ocstop h).mono fun e w2 ⟨h1, h2, _⟩ => ⟨h1, h2⟩)
  have T3 := Lib.hid (show ∀ v w', K1 w v ⟨3, true⟩ w' → Calls Try.prog 9 #[v, .int .i64 5] w' fun e w2 => e = .returned (.int .i64 3) ∧ K1 w v ⟨3, true⟩ w2 from fun v w' h => (octick 5 h).mono fun e w2 ⟨h1, h2, _⟩ => ⟨h1, h2⟩)
  have N1 := Lib.hid (show ∀ v w', K1 w v ⟨3, true⟩ w' → Calls Try.prog 10 #[v] w' fun e w2 => e = .returned (.int .i64 3) ∧ K1 w v ⟨3, true⟩ w2 from fun v w' h => (ocnow h).mono fun e w2 ⟨h1, h2, _⟩ => ⟨h1, h2⟩)
  have N2 := Lib.hid (show ∀ v w', K1 w v ⟨3, true⟩ w' → Calls Try.prog 11 #[v] w' fun e w2 => e = .returned (.bool true) ∧ K1 w v ⟨3, true⟩ w2 from fun v w' h => (ocstopped h).mono fun e w2 ⟨h1, h2, _⟩ => ⟨h1, h2⟩)
  go_enter Try.func5, Try.ntmps5
  go_wp2_with fail
  refine NW.out.mono ?_; rintro e w1 ⟨rfl, hp, hb⟩
  have hI := one_start (O := clkO) (wL := w) hp (fun k hk => by omega) hb
  generalize Value.pointer (some ⟨w.heap.size, 0, none⟩) = v at *
  clear hp hb
  go_wp2_with fail
  refine (T1.out _ _ hI).mono ?_; clear hI; rintro e w2 ⟨rfl, hI⟩
  go_wp2_with fail
  refine (T2.out _ _ hI).mono ?_; clear hI; rintro e w3 ⟨rfl, hI⟩
  go_wp2_with fail
  refine (S1.out _ _ hI).mono ?_; clear hI; rintro e w4 ⟨rfl, hI⟩
  go_wp2_with fail
  refine (S2.out _ _ hI).mono ?_; clear hI; rintro e w5 ⟨rfl, hI⟩
  go_wp2_with fail
  refine (T3.out _ _ hI).mono ?_; clear hI; rintro e w6 ⟨rfl, hI⟩
  go_wp2_with fail
  refine (N1.out _ _ hI).mono ?_; clear hI; rintro e w7 ⟨rfl, hI⟩
  go_wp2_with fail
  refine (N2.out _ _ hI).mono ?_; clear hI; rintro e w8 ⟨rfl, hI⟩
  have HF := Lib.hid hI.bel
  clear hI
  go_wp2_with fail
  go_ret
  exact ⟨rfl, HF.out⟩
end Go.Proofs.Ytejepnjgkflooaa
