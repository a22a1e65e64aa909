/- A fence beside blocks of the law's own; what must come of package fence, whatever the arguments are. Conditions: as stated. -/
import Derived.Test.YtjpcghnhekafiaaFen
import Derived.Test.YtjpcghnhekafiaaObs
namespace Go.Proofs.Ytjpcghnhekafiaa
open Go.ChangeShapes Go.WideShapes Go.ChangeAt Go.RowKit
set_option linter.unusedVariables false
set_option maxRecDepth 100000
set_option linter.unusedSimpArgs false
set_option maxHeartbeats 2000000

section
variable {wL : World} {bs : List (Nat × Obj)} {v : Value} {x : Fe} {w : World}
theorem OB.fok (h : OB fenO wL bs v x w) : okF x := by obtain ⟨F, h1⟩ := h.own; exact fen_ok h1
theorem ob_pass {k : Int} (hk : inI k) (hy : x.y ≤ 1000000) (hn : x.n ≤ 1000000) (h : OB fenO wL bs v x w) : Calls Try.prog 8 #[v, .int .i64 k] w fun e w' => e = .returned (.bool (mayF x k)) ∧ OB fenO wL bs v (passF x k) w' := by
  obtain ⟨F, h1, h2, h3, h4⟩ := h.1
  exact (fpass_any F v x k w h1 hk hy hn).mono fun e w' ⟨he, hp⟩ => ⟨he, h.turn (one_turn h2 h3 h4 hp)⟩
theorem ob_epoch (h : OB fenO wL bs v x w) : Calls Try.prog 10 #[v] w fun e w' => e = .returned (.int .i64 x.e) ∧ OB fenO wL bs v x w' := by
  obtain ⟨F, h1⟩ := h.own
  exact (fepoch_any F v x w h1).mono fun e w' ⟨he, hb⟩ => ⟨he, h.below hb⟩
theorem ob_passed (h : OB fenO wL bs v x w) : Calls Try.prog 9 #[v] w fun e w' => e = .returned (.tuple #[.int .i64 x.y, .int .i64 x.n]) ∧ OB fenO wL bs v x w' := by
  obtain ⟨F, h1⟩ := h.own
  exact (fpassed_any F v x w h1).mono fun e w' ⟨he, hb⟩ => ⟨he, h.below hb⟩
end
abbrev K1 (wL : World) (v : Value) (x : Fe) (w : World) : Prop := OB fenO wL [] v x w
theorem fence_awake (w : World) : Calls Try.prog 5 #[] w fun e w' => e = .returned (.bool true) ∧ Below w.heap.size w w' := by
  have NW := Lib.hid (fnew_any w)
  have i2 : inI 2 := by unfold inI; omega
  have i3 : inI 3 := by unfold inI; omega
  have e1 : mayF fen0 3 = true ∧ passF fen0 3 = ⟨3, 1, 0⟩ := by constructor <;> kernel_rfl
  have e2 : mayF ⟨3, 1, 0⟩ 2 = false ∧ passF ⟨3, 1, 0⟩ 2 = ⟨3, 1, 1⟩ := by constructor <;> kernel_rfl
  have e3 : mayF ⟨3, 1, 1⟩ 3 = true ∧ passF ⟨3, 1, 1⟩ 3 = ⟨3, 2, 1⟩ := by constructor <;> kernel_rfl
  have P1 := Lib.hid (show ∀ v w', K1 w v fen0 w' → Calls Try.prog 8 #[v, .int .i64 3] w' fun e w2 => e = .returned (.bool true) ∧ K1 w v ⟨3, 1, 0⟩ w2 from fun v w' h => by have := ob_pass i3 (by decide) (by decide) h; rw [e1.1, e1.2] at this; exact this)
  have P2 := Lib.hid (show ∀ v w', K1 w v ⟨3, 1, 0⟩ w' → Calls Try.prog 8 #[v, .int .i64 2] w' fun e w2 => e = .returned (.bool false) ∧ K1 w v ⟨3, 1, 1⟩ w2 from fun v w' h => by have := ob_pass i2 (by simp) (by simp) h; rw [e2.1, e2.2] at this; exact this)
  have P3 := Lib.hid (show ∀ v w', K1 w v ⟨3, 1, 1⟩ w' → Calls Try.prog 8 #[v, .int .i64 3] w' fun e w2 => e = .returned (.bool true) ∧ K1 w v ⟨3, 2, 1⟩ w2 from fun v w' h => by have := ob_pass i3 (by simp) (by simp) h; rw [e3.1, e3.2] at this; exact this)
  have PP := Lib.hid (show ∀ v w', K1 w v ⟨3, 2, 1⟩ w' → Calls Try.prog 9 #[v] w' fun e w2 => e = .returned (.tuple #[.int .i64 2, .int .i64 1]) ∧ K1 w v ⟨3, 2, 1⟩ w2 from fun v w' h => ob_passed h)
  have EP := Lib.hid (show ∀ v w', K1 w v ⟨3, 2, 1⟩ w' → Calls Try.prog 10 #[v] w' fun e w2 => e = .returned (.int .i64 3) ∧ K1 w v ⟨3, 2, 1⟩ w2 from fun v w' h => ob_epoch h)
  clear e1 e2 e3 i2 i3
  go_enter Try.func5, Try.ntmps5
  go_wp2_with fail
  refine NW.out.mono ?_; rintro e w1 ⟨b, F, rfl, hp, hF, hb⟩
  have hI : K1 w (.pointer (some ⟨b, 0, none⟩)) fen0 w1 := ob_start hp hF hb
  generalize Value.pointer (some ⟨b, 0, none⟩) = v at *
  clear hp hb hF NW
  go_wp2_with fail
  refine (P1.out _ _ hI).mono ?_; clear hI P1; rintro e w2 ⟨rfl, hI⟩
  go_wp2_with fail
  refine (P2.out _ _ hI).mono ?_; clear hI P2; rintro e w3 ⟨rfl, hI⟩
  go_wp2_with fail
  refine (P3.out _ _ hI).mono ?_; clear hI P3; rintro e w4 ⟨rfl, hI⟩
  go_wp2_with fail
  refine (PP.out _ _ hI).mono ?_; clear hI PP; rintro e w5 ⟨rfl, hI⟩
  go_wp2_with fail
  refine (EP.out _ _ hI).mono ?_; clear hI EP; rintro e w6 ⟨rfl, hI⟩
  have HF := Lib.hid hI.bel
  clear hI
  go_wp2_with fail
  go_ret
  exact ⟨rfl, HF.out⟩
end Go.Proofs.Ytjpcghnhekafiaa
