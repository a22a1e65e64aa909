/- The law's own guard holds. No conditions. -/
import Derived.Test.YtaogieelmomfhaaNumSum
import Derived.Test.YtaogieelmomfhaaNumB
import Derived.WalkSpells
namespace Go.Proofs.Ytaogieelmomfhaa
open Go.ChangeShapes Go.WideShapes Go.ChangeAt Go.RowKit
set_option linter.unusedVariables false

def aw3 (i : Nat) : Int := match i with | 0 => 9223372036854775807 | 1 => 1 | _ => -1
theorem aw3_sum : sumTo aw3 3 = none := by
  apply sumTo_no aw3 1 3 9223372036854775807
  · exact sumTo_yes aw3 0 0 rfl (fitB_yes (by decide) (by decide))
  · exact fitB_no (by decide)
  · omega
theorem sum3 (b cap : Nat) (w : World) (c0 : w.cell? ⟨b, 0, none⟩ = some (.int .i64 9223372036854775807)) (c1 : w.cell? ⟨b, 1, none⟩ = some (.int .i64 1)) (c2 : w.cell? ⟨b, 2, none⟩ = some (.int .i64 (-1))) :
    Calls Try.prog 20 #[.slice (some ⟨b, 0, none⟩) 3 cap] w fun e w' => e = .returned (.tuple #[.int .i64 0, .bool false]) ∧ w = w' := by
  have h := sum_any aw3 b 0 3 cap w (by omega)
    (fun i hi => by match i, hi with | 0, _ => exact ⟨by decide, by decide⟩ | 1, _ => exact ⟨by decide, by decide⟩ | 2, _ => exact ⟨by decide, by decide⟩)
    (fun i hi => by match i, hi with | 0, _ => exact c0 | 1, _ => exact c1 | 2, _ => exact c2)
  rw [show sumV aw3 3 = 0 by unfold sumV; rw [aw3_sum]; rfl, show sumB aw3 3 = false by unfold sumB; rw [aw3_sum]; rfl] at h
  exact h
theorem awake_any (w : World) :
    Calls Try.prog 13 #[] w fun e w' => e = .returned (.bool true) ∧ Below w.heap.size w w' := by
  have h1 := add_any 9223372036854775807 1 w (by omega) (by omega) (by omega) (by omega)
  rw [fitV_no (by omega), fitB_no (by omega)] at h1
  have h2 := mul_any (-9223372036854775808) (-1) w (by omega) (by omega) (by omega) (by omega)
  rw [fitV_no (by omega), fitB_no (by omega)] at h2
  have h3 := fun v => sub_any 3 5 v (by omega) (by omega) (by omega) (by omega)
  simp only [fitV_yes (show (-9223372036854775808 : Int) ≤ 3 - 5 by omega) (by omega), fitB_yes (show (-9223372036854775808 : Int) ≤ 3 - 5 by omega) (by omega)] at h3
  have h5 := fun v => span_any 7 0 5 v
  rw [show spanV 7 0 5 = 5 by decide] at h5
  have h6 := fun v => right_any 5 0 5 v
  rw [show rightB 5 0 5 = true by decide] at h6
  go_enter Try.func13, Try.ntmps13
  go_wp2_with (first | (go_at_call 14; refine h1.mono ?_; rintro e w' ⟨rfl, rfl⟩) | (go_at_call 18; refine h2.mono ?_; rintro e w' ⟨rfl, rfl⟩) | (go_at_call 16; refine (h3 _).mono ?_; rintro e w' ⟨rfl, rfl⟩) | (go_at_call 20; refine (sum3 _ _ _ ?c0 ?c1 ?c2).mono ?c3; (case c0 => simp); (case c1 => simp); (case c2 => simp); rintro e w' ⟨rfl, rfl⟩) | (go_at_call 9; refine (h5 _).mono ?_; rintro e w' ⟨rfl, rfl⟩) | (go_at_call 7; refine (h6 _).mono ?_; rintro e w' ⟨rfl, rfl⟩))
  go_ret
  exact ⟨rfl, (Below.refl _ _).alloc (Nat.le_refl _) _⟩
end Go.Proofs.Ytaogieelmomfhaa
