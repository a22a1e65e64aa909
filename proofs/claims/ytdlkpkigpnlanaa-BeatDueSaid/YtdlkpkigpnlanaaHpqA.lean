/- What package heap's comparisons come to. Conditions: as stated. -/
import Derived.Test.YtdlkpkigpnlanaaProg
import Derived.Test.YtdlkpkigpnlanaaPlains
import Derived.Test.YtdlkpkigpnlanaaSlices
import Derived.Test.YtdlkpkigpnlanaaHolds
import Derived.Sort.Grow
namespace Go.Proofs.Ytdlkpkigpnlanaa
open Go.ChangeShapes Go.WideShapes Go.ChangeAt Go.RowKit
set_option linter.unusedVariables false
set_option maxRecDepth 100000
set_option linter.unusedSimpArgs false

def ordI (x y : Int) : Int := if x < y then -1 else if y < x then 1 else 0
def cmpK (v u : V3) : Int := if ordI v.a u.a ≠ 0 then ordI v.a u.a else if ordI v.b u.b ≠ 0 then ordI v.b u.b else ordI v.c u.c
def orI (x y : Int) : Int := if x ≠ 0 then x else y
def cmpT (x y : Thg) : Int := orI (cmpK x.key y.key) (ordI x.id y.id)
theorem ordI_eq (x y : Int) : ordI x y = 0 ↔ x = y := by unfold ordI; (repeat' split) <;> omega
theorem ordI_lt (x y : Int) : ordI x y < 0 ↔ x < y := by unfold ordI; (repeat' split) <;> omega
theorem cmpK_lt (v u : V3) : cmpK v u < 0 ↔ lessB v u = true := by
  rw [lessB_iff]
  have h1 := ordI_eq v.a u.a
  have h2 := ordI_eq v.b u.b
  have h4 := ordI_lt v.a u.a
  have h5 := ordI_lt v.b u.b
  have h6 := ordI_lt v.c u.c
  unfold cmpK
  split
  · rename_i h; omega
  · rename_i h
    split
    · rename_i h'; omega
    · rename_i h'; omega
theorem cmpK_eq (v u : V3) : cmpK v u = 0 ↔ v = u := by
  have h1 := ordI_eq v.a u.a
  have h2 := ordI_eq v.b u.b
  have h3 := ordI_eq v.c u.c
  unfold cmpK
  constructor
  · intro h
    split at h
    · omega
    · split at h
      · omega
      · exact v3_ext (by omega) (by omega) (by omega)
  · rintro rfl
    split
    · omega
    · split <;> omega
theorem cmpK_less (v u : V3) : decide (cmpK v u < 0) = lessB v u := by
  rw [Bool.eq_iff_iff, decide_eq_true_iff, cmpK_lt]
theorem cmpT_ahead (x y : Thg) : decide (cmpT x y < 0) = aheadT x y := by
  rw [Bool.eq_iff_iff, decide_eq_true_iff, ahead_iff, ← cmpK_lt, ← cmpK_eq]
  have := ordI_lt x.id y.id
  unfold cmpT orI
  split <;> omega
def atK (v : V3) (k : Nat) : Int := if k = 0 then v.a else if k = 1 then v.b else v.c
theorem cmpK_at (v u : V3) (k : Nat) (hk : k < 3) (he : ∀ j, j < k → atK v j = atK u j) (hn : ordI (atK v k) (atK u k) ≠ 0) : cmpK v u = ordI (atK v k) (atK u k) := by
  have hk3 : k = 0 ∨ k = 1 ∨ k = 2 := by omega
  unfold cmpK
  rcases hk3 with rfl | rfl | rfl
  · exact if_pos hn
  · have h0 : v.a = u.a := he 0 (by omega)
    rw [if_neg (fun h => h ((ordI_eq _ _).2 h0))]
    exact if_pos hn
  · have h0 : v.a = u.a := he 0 (by omega)
    have h1 : v.b = u.b := he 1 (by omega)
    rw [if_neg (fun h => h ((ordI_eq _ _).2 h0)), if_neg (fun h => h ((ordI_eq _ _).2 h1))]
    rfl
theorem cmpK_end (v u : V3) (he : ∀ j, j < 3 → atK v j = atK u j) : cmpK v u = 0 :=
  (cmpK_eq v u).2 (v3_ext (he 0 (by omega)) (he 1 (by omega)) (he 2 (by omega)))
/-- A key's three cells. -/
def K3 (b o : Nat) (v : V3) (w : World) : Prop := ∀ k, k < 3 → w.cell? ⟨b, o + k, none⟩ = some (.int .i64 (atK v k))
theorem k3_of {b o : Nat} {v : V3} {w : World} (h0 : w.cell? ⟨b, o, none⟩ = some (.int .i64 v.a)) (h1 : w.cell? ⟨b, o + 1, none⟩ = some (.int .i64 v.b)) (h2 : w.cell? ⟨b, o + 2, none⟩ = some (.int .i64 v.c)) : K3 b o v w := by
  intro k hk
  have hk3 : k = 0 ∨ k = 1 ∨ k = 2 := by omega
  rcases hk3 with rfl | rfl | rfl
  · exact h0
  · exact h1
  · exact h2
theorem intq {k : IntKind} {a b : Int} (h : a = b) : Ending.returned (.int k a) = .returned (.int k b) := by rw [h]
theorem inan_any (x : Int) (w : World) : Calls Try.prog 51 #[.int .i64 x] w fun e w' => e = .returned (.bool false) ∧ w = w' := by
  have h1 : (x == x) = true := by simp
  have h2 : (x != x) = false := by simp
  go_enter Try.func51, Try.ntmps51
  go_wp2_with fail
  go_ret
  exact ⟨rfl, rfl⟩
set_option maxHeartbeats 1000000 in
theorem icmp_any (x y : Int) (w : World) : Calls Try.prog 40 #[.int .i64 x, .int .i64 y] w fun e w' => e = .returned (.int .i64 (ordI x y)) ∧ w = w' := by
  have N1 := Lib.hid fun w => inan_any x w
  have N2 := Lib.hid fun w => inan_any y w
  have h : x < y ∨ (¬ x < y ∧ y < x) ∨ (¬ x < y ∧ ¬ y < x) := by omega
  rcases h with h | ⟨h, h2⟩ | ⟨h, h2⟩
  · have d1 : decide (x < y) = true := decide_eq_true h
    have HO := Lib.hid (show ordI x y = -1 by unfold ordI; rw [if_pos h])
    go_enter Try.func40, Try.ntmps40
    go_wp2_with fail
    refine (N1.out _).mono ?_; rintro e w1 ⟨rfl, rfl⟩
    go_wp2_with fail
    refine (N2.out _).mono ?_; rintro e w1 ⟨rfl, rfl⟩
    go_wp2_with fail
    go_ret
    exact ⟨intq HO.out.symm, rfl⟩
  · have d1 : decide (x < y) = false := decide_eq_false h
    have d2 : decide (y < x) = true := decide_eq_true h2
    have d3 : decide (x > y) = true := decide_eq_true h2
    have HO := Lib.hid (show ordI x y = 1 by unfold ordI; rw [if_neg h, if_pos h2])
    go_enter Try.func40, Try.ntmps40
    go_wp2_with fail
    refine (N1.out _).mono ?_; rintro e w1 ⟨rfl, rfl⟩
    go_wp2_with fail
    refine (N2.out _).mono ?_; rintro e w1 ⟨rfl, rfl⟩
    go_wp2_with fail
    go_ret
    exact ⟨intq HO.out.symm, rfl⟩
  · have d1 : decide (x < y) = false := decide_eq_false h
    have d2 : decide (y < x) = false := decide_eq_false h2
    have d3 : decide (x > y) = false := decide_eq_false h2
    have HO := Lib.hid (show ordI x y = 0 by unfold ordI; rw [if_neg h, if_neg h2])
    go_enter Try.func40, Try.ntmps40
    go_wp2_with fail
    refine (N1.out _).mono ?_; rintro e w1 ⟨rfl, rfl⟩
    go_wp2_with fail
    refine (N2.out _).mono ?_; rintro e w1 ⟨rfl, rfl⟩
    go_wp2_with fail
    go_ret
    exact ⟨intq HO.out.symm, rfl⟩
set_option maxHeartbeats 1000000 in
theorem ior_any (x y : Int) (b : Nat) (w : World) (h0 : w.cell? ⟨b, 0, none⟩ = some (.int .i64 x)) (h1 : w.cell? ⟨b, 1, none⟩ = some (.int .i64 y)) :
    Calls Try.prog 39 #[.slice (some ⟨b, 0, none⟩) 2 2] w fun e w' => e = .returned (.int .i64 (orI x y)) ∧ w = w' := by
  have HO := Lib.hid (show orI x y = if x ≠ 0 then x else y from rfl)
  go_enter Try.func39, Try.ntmps39
  go_wp2_with fail
  go_loopw [8] (fun i wr => ∃ k : Nat, k ≤ 2 ∧ i = .int .i64 k ∧ w = wr ∧ (0 < k → x = 0) ∧ (1 < k → y = 0)) (fun i _ => 2 - (intOf i).toNat)
  case atStart => exact ⟨0, by omega, rfl, by first | trivial | rfl, fun h => absurd h (by omega), fun h => absurd h (by omega)⟩
  case round =>
    obtain ⟨k, hk, rfl, rfl, hI⟩ := hrel
    have HI := Lib.hid hI
    clear hI
    have hk3 : k = 0 ∨ k = 1 ∨ k = 2 := by omega
    rcases hk3 with rfl | rfl | rfl
    · by_cases hz : x = 0
      · have HZ := Lib.hid hz
        subst hz
        go_wp2_with fail
        go_roundw
        case rel => exact ⟨1, by omega, rfl, by first | trivial | rfl, fun _ => by first | trivial | rfl, fun h => absurd h (by omega)⟩
        case measure => simp [intOf]
      · have dz : (x == 0) = false := beq_false_of_ne hz
        have dz2 : (x != 0) = true := by simp [bne, dz]
        have HQ := Lib.hid (show orI x y = x by unfold orI; exact if_pos hz)
        clear hz
        go_wp2_with fail
        go_ret
        exact ⟨intq HQ.out.symm, rfl⟩
    · have HX := Lib.hid (HI.out.1 (by omega))
      by_cases hz : y = 0
      · subst hz
        go_wp2_with fail
        go_roundw
        case rel => exact ⟨2, by omega, rfl, by first | trivial | rfl, fun _ => HX.out, fun _ => by first | trivial | rfl⟩
        case measure => simp [intOf]
      · have dz : (y == 0) = false := beq_false_of_ne hz
        have dz2 : (y != 0) = true := by simp [bne, dz]
        have HQ := Lib.hid (show orI x y = y by unfold orI; exact if_neg (fun h => h HX.out))
        clear hz
        go_wp2_with fail
        go_ret
        exact ⟨intq HQ.out.symm, rfl⟩
    · have HQ := Lib.hid (show orI x y = 0 by unfold orI; rw [HI.out.1 (by omega), HI.out.2 (by omega)]; rfl)
      go_wp2_with fail
      go_ret
      exact ⟨intq HQ.out.symm, rfl⟩
end Go.Proofs.Ytdlkpkigpnlanaa
