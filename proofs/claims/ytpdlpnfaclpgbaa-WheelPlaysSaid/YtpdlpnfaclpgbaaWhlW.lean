/- One wheel beside blocks of the law's own; what must come of package wheel, whatever the arguments are. Conditions: as stated. -/
import Derived.Test.YtpdlpnfaclpgbaaWhlD
import Derived.Test.YtpdlpnfaclpgbaaWhlI
import Derived.Test.YtpdlpnfaclpgbaaSame
namespace Go.Proofs.Ytpdlpnfaclpgbaa
open Go.ChangeShapes Go.WideShapes Go.ChangeAt Go.RowKit
set_option linter.unusedVariables false
set_option maxRecDepth 100000
set_option linter.unusedSimpArgs false
set_option maxHeartbeats 2000000

section
variable {wL : World} {G : Nat → Prop} {v : Value} {l : List Tm} {w : World}
theorem owset {id tick : Int} (hid : inI id) (hat : inI tick) (hl : l.length ≤ 1000000) (h : One whlO wL G v l w) :
    Calls Try.prog 8 #[v, .int .i64 id, .int .i64 tick] w fun e w' => e = .returned (.bool (mayW tick)) ∧ One whlO wL G v (setW l ⟨id, tick⟩) w' ∧ Stay G w w' := by
  obtain ⟨F, h1, h2, h3, h4⟩ := h
  exact (wset_any F v l id tick w h1 hid hat hl).mono fun e w' ⟨he, hp⟩ => ⟨he, one_turn h2 h3 h4 hp⟩
theorem owdrop {id : Int} (hid : inI id) (h : One whlO wL G v l w) :
    Calls Try.prog 10 #[v, .int .i64 id] w fun e w' => e = .returned (.bool (tickW l id).isSome) ∧ One whlO wL G v (dropW l id) w' ∧ Stay G w w' := by
  obtain ⟨F, h1, h2, h3, h4⟩ := h
  exact (wdrop_any F v l id w h1 hid).mono fun e w' ⟨he, hp⟩ => ⟨he, one_turn h2 h3 h4 hp⟩
theorem owdue (now : Int) (hl : l.length ≤ 1000000) (h : One whlO wL G v l w) :
    Calls Try.prog 14 #[v, .int .i64 now] w fun e w' => ∃ u, e = .returned u ∧ RdI w' (fun k => w.heap.size ≤ k) u (dueW l now) ∧ One whlO wL G v (leftW l now) w' ∧ Stay G w w' := by
  obtain ⟨F, h1, h2, h3, h4⟩ := h
  exact (wdue_any F v l now w h1 hl).mono fun e w' ⟨u, he, hr, hp, ht⟩ => ⟨u, he, hr, one_turn h2 h3 h4 ⟨F, hp, ht, fun k hk => .inl hk⟩⟩
theorem owat {id : Int} (hid : inI id) (h : One whlO wL G v l w) :
    Calls Try.prog 15 #[v, .int .i64 id] w fun e w' => e = .returned (.tuple #[.int .i64 ((tickW l id).getD 0), .bool (tickW l id).isSome]) ∧ One whlO wL G v l w' ∧ Stay G w w' := by
  have h0 := h
  obtain ⟨F, h1, h2, h3, h4⟩ := h
  exact (wat_any F v l id w h1 hid).mono fun e w' ⟨he, hb⟩ => ⟨he, h0.below hb, h0.stay hb⟩
theorem ownext (h : One whlO wL G v l w) :
    Calls Try.prog 16 #[v] w fun e w' => e = .returned (.tuple #[.int .i64 (nextW l), .bool (!l.isEmpty)]) ∧ One whlO wL G v l w' ∧ Stay G w w' := by
  have h0 := h
  obtain ⟨F, h1, h2, h3, h4⟩ := h
  exact (wnext_any F v l w h1).mono fun e w' ⟨he, hb⟩ => ⟨he, h0.below hb, h0.stay hb⟩
theorem owlen (hl : l.length ≤ 1000000) (h : One whlO wL G v l w) :
    Calls Try.prog 17 #[v] w fun e w' => e = .returned (.int .i64 l.length) ∧ One whlO wL G v l w' ∧ Stay G w w' := by
  have h0 := h
  obtain ⟨F, h1, h2, h3, h4⟩ := h
  exact (wlen_any F v l w h1 hl).mono fun e w' ⟨he, hb⟩ => ⟨he, h0.below hb, h0.stay hb⟩
end
theorem wsame_any (u v : Value) (ns : List Int) (K K' : Nat → Prop) (w : World) (hn : ns.length ≤ 1000000) (h1 : RdI w K u ns) (h2 : RdI w K' v ns) :
    Calls Try.prog 13 #[u, v] w fun e w' => e = .returned (.bool true) ∧ Below w.heap.size w w' :=
  (isame_true u v ns w.heap.size w hn h1.rd h2.rd).mono fun e w' ⟨h, n, hw⟩ => ⟨h, by rw [hw]; exact ⟨rfl, rfl, rfl, Nat.le_refl _, fun _ _ => rfl⟩⟩
abbrev D1 (wL : World) (v : Value) (l : List Tm) (w : World) : Prop := One whlO wL (fun _ => False) v l w
theorem wheel_awake (w : World) : Calls Try.prog 5 #[] w fun e w' => e = .returned (.bool true) ∧ Below w.heap.size w w' := by
  have NW := Lib.hid (wnew_any w)
  have ok : ∀ n : Int, -9223372036854775808 ≤ n ∧ n ≤ 9223372036854775807 → inI n := fun n h => by unfold inI; omega
  have S1 := Lib.hid (show ∀ v w', D1 w v [] w' → Calls Try.prog 8 #[v, .int .i64 5, .int .i64 20] w' fun e w2 => e = .returned (.bool true) ∧ D1 w v [⟨5, 20⟩] w2 from fun v w' h => (owset (ok _ (by omega)) (ok _ (by omega)) (by simp) h).mono fun e w2 ⟨h1, h2, _⟩ => ⟨h1, h2⟩)
  have S2 := Lib.hid (show ∀ v w', D1 w v [⟨5, 20⟩] w' → Calls Try.prog 8 #[v, .int .i64 3, .int .i64 4] w' fun e w2 => e = .returned (.bool true) ∧ D1 w v [⟨3, 4⟩, ⟨5, 20⟩] w2 from fun v w' h => (owset (ok _ (by omega)) (ok _ (by omega)) (by simp) h).mono fun e w2 ⟨h1, h2, _⟩ => ⟨h1, h2⟩)
  have S3 := Lib.hid (show ∀ v w', D1 w v [⟨3, 4⟩, ⟨5, 20⟩] w' → Calls Try.prog 8 #[v, .int .i64 9, .int .i64 4] w' fun e w2 => e = .returned (.bool true) ∧ D1 w v [⟨3, 4⟩, ⟨9, 4⟩, ⟨5, 20⟩] w2 from fun v w' h => (owset (ok _ (by omega)) (ok _ (by omega)) (by simp) h).mono fun e w2 ⟨h1, h2, _⟩ => ⟨h1, h2⟩)
  have S4 := Lib.hid (show ∀ v w', D1 w v [⟨3, 4⟩, ⟨9, 4⟩, ⟨5, 20⟩] w' → Calls Try.prog 8 #[v, .int .i64 1, .int .i64 (-1)] w' fun e w2 => e = .returned (.bool false) ∧ D1 w v [⟨3, 4⟩, ⟨9, 4⟩, ⟨5, 20⟩] w2 from fun v w' h => (owset (ok _ (by omega)) (ok _ (by omega)) (by simp) h).mono fun e w2 ⟨h1, h2, _⟩ => ⟨h1, h2⟩)
  have N1 := Lib.hid (show ∀ v w', D1 w v [⟨3, 4⟩, ⟨9, 4⟩, ⟨5, 20⟩] w' → Calls Try.prog 16 #[v] w' fun e w2 => e = .returned (.tuple #[.int .i64 4, .bool true]) ∧ D1 w v [⟨3, 4⟩, ⟨9, 4⟩, ⟨5, 20⟩] w2 from fun v w' h => (ownext h).mono fun e w2 ⟨h1, h2, _⟩ => ⟨h1, h2⟩)
  have U1 := Lib.hid (show ∀ v w', D1 w v [⟨3, 4⟩, ⟨9, 4⟩, ⟨5, 20⟩] w' → Calls Try.prog 14 #[v, .int .i64 4] w' fun e w2 => ∃ u, e = .returned u ∧ RdI w2 (fun k => w'.heap.size ≤ k) u [3, 9] ∧ D1 w v [⟨5, 20⟩] w2 from fun v w' h => (owdue 4 (by simp) h).mono fun e w2 ⟨u, h1, h2, h3, _⟩ => ⟨u, h1, h2, h3⟩)
  have U2 := Lib.hid (show ∀ v w', D1 w v [⟨5, 20⟩] w' → Calls Try.prog 14 #[v, .int .i64 19] w' fun e w2 => ∃ u, e = .returned u ∧ RdI w2 (fun k => w'.heap.size ≤ k) u [] ∧ D1 w v [⟨5, 20⟩] w2 from fun v w' h => (owdue 19 (by simp) h).mono fun e w2 ⟨u, h1, h2, h3, _⟩ => ⟨u, h1, h2, h3⟩)
  have U3 := Lib.hid (show ∀ v w', D1 w v [⟨5, 20⟩] w' → Calls Try.prog 14 #[v, .int .i64 99] w' fun e w2 => ∃ u, e = .returned u ∧ RdI w2 (fun k => w'.heap.size ≤ k) u [5] ∧ D1 w v [] w2 from fun v w' h => (owdue 99 (by simp) h).mono fun e w2 ⟨u, h1, h2, h3, _⟩ => ⟨u, h1, h2, h3⟩)
  have L1 := Lib.hid (show ∀ v w', D1 w v [] w' → Calls Try.prog 17 #[v] w' fun e w2 => e = .returned (.int .i64 0) ∧ D1 w v [] w2 from fun v w' h => (owlen (by simp) h).mono fun e w2 ⟨h1, h2, _⟩ => ⟨h1, h2⟩)
  clear ok
  go_enter Try.func5, Try.ntmps5
  go_wp2_with fail
  refine NW.out.mono ?_; rintro e w1 ⟨rfl, hp, hb⟩
  have hI := one_start (O := whlO) (wL := w) hp (fun k hk => by omega) hb
  generalize Value.pointer (some ⟨w.heap.size, 0, none⟩) = v at *
  clear hp hb
  go_wp2_with fail
  refine (S1.out _ _ hI).mono ?_; clear hI; rintro e w2 ⟨rfl, hI⟩
  go_wp2_with fail
  refine (S2.out _ _ hI).mono ?_; clear hI; rintro e w3 ⟨rfl, hI⟩
  go_wp2_with fail
  refine (S3.out _ _ hI).mono ?_; clear hI; rintro e w4 ⟨rfl, hI⟩
  go_wp2_with fail
  refine (S4.out _ _ hI).mono ?_; clear hI; rintro e w5 ⟨rfl, hI⟩
  go_wp2_with fail
  refine (N1.out _ _ hI).mono ?_; clear hI; rintro e w6 ⟨rfl, hI⟩
  go_wp2_with fail
  refine (U1.out _ _ hI).mono ?_; clear hI; rintro e w7 ⟨u7, rfl, hr, hI⟩
  have hb7 : Below w7.heap.size w7 (w7.alloc (.cells #[.int .i64 3, .int .i64 9] 3)) := (Below.refl _ _).alloc (Nat.le_refl _) _
  have SM := Lib.hid (wsame_any u7 _ [3, 9] _ _ _ (by simp) (hr.below hb7) (rdI_lit w7 [3, 9] #[.int .i64 3, .int .i64 9] 3 rfl (by simp)))
  have hI2 := hI.below hb7
  clear hI hr hb7
  go_wp2_with fail
  refine SM.out.mono ?_; rintro e w8 ⟨rfl, hb8⟩
  have hI := hI2.below hb8
  clear hI2 hb8 SM
  go_wp2_with fail
  refine (U2.out _ _ hI).mono ?_; clear hI; rintro e w9 ⟨u9, rfl, hr9, hI⟩
  obtain ⟨A9, c9, rfl, _, _⟩ := hr9.form
  clear hr9
  simp only [List.length_nil]
  go_wp2_with fail
  refine (U3.out _ _ hI).mono ?_; clear hI; rintro e w10 ⟨u10, rfl, hr, hI⟩
  have hb7 : Below w10.heap.size w10 (w10.alloc (.cells #[.int .i64 5] 3)) := (Below.refl _ _).alloc (Nat.le_refl _) _
  have SM := Lib.hid (wsame_any u10 _ [5] _ _ _ (by simp) (hr.below hb7) (rdI_lit w10 [5] #[.int .i64 5] 3 rfl (by simp)))
  have hI2 := hI.below hb7
  clear hI hr hb7
  go_wp2_with fail
  refine SM.out.mono ?_; rintro e w11 ⟨rfl, hb8⟩
  have hI := hI2.below hb8
  clear hI2 hb8 SM
  go_wp2_with fail
  refine (L1.out _ _ hI).mono ?_; clear hI; rintro e w12 ⟨rfl, hI⟩
  have HF := Lib.hid hI.bel
  clear hI
  go_wp2_with fail
  go_ret
  exact ⟨rfl, HF.out⟩
end Go.Proofs.Ytpdlpnfaclpgbaa
