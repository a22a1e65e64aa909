/- A store of a lease beside blocks of the law's own; two leases compared; what must come of package lease, whatever the arguments are. Conditions: as stated. -/
import Derived.Test.YtcoclpghimcnfaaLea
import Derived.Test.YtcoclpghimcnfaaObs
import Derived.Test.YtcoclpghimcnfaaSame
namespace Go.Proofs.Ytcoclpghimcnfaa
open Go.ChangeShapes Go.WideShapes Go.ChangeAt Go.RowKit
set_option linter.unusedVariables false
set_option maxRecDepth 100000
set_option linter.unusedSimpArgs false
set_option maxHeartbeats 2000000

section
variable {wL : World} {bs : List (Nat × Obj)} {v : Value} {x : Sv} {w : World}
theorem OB.lok (h : OB leaO wL bs v x w) : 1 ≤ x.s ∧ x.s ≤ 64 ∧ 0 ≤ x.l.e ∧ x.l.e ≤ 4294967295 := by obtain ⟨F, h1⟩ := h.own; exact lea_ok h1
theorem ob_get (h : OB leaO wL bs v x w) : Calls Try.prog 16 #[v] w fun e w' => e = .returned (.agg #[.int .i64 x.l.h, .int .i64 x.l.e, .int .i64 x.l.u]) ∧ OB leaO wL bs v x w' := by
  obtain ⟨F, h1⟩ := h.own
  exact (lget_any F v x w h1).mono fun e w' ⟨he, hb⟩ => ⟨he, h.below hb⟩
theorem ob_holds (now who ep : Int) (h : OB leaO wL bs v x w) : Calls Try.prog 17 #[v, .int .i64 now, .int .i64 who, .int .i64 ep] w fun e w' => e = .returned (.bool (leadsL x.l now who ep)) ∧ OB leaO wL bs v x w' := by
  obtain ⟨F, h1⟩ := h.own
  exact (lholds_any F v x now who ep w h1).mono fun e w' ⟨he, hb⟩ => ⟨he, h.below hb⟩
theorem ob_acq (now who : Int) (h : OB leaO wL bs v x w) : Calls Try.prog 10 #[v, .int .i64 now, .int .i64 who] w fun e w' => e = .returned (.tuple #[.int .i64 (acqL x.s x.l now who).2.1, .int .i64 (acqL x.s x.l now who).2.2]) ∧ OB leaO wL bs v ⟨x.s, (acqL x.s x.l now who).1⟩ w' := by
  obtain ⟨F, h1, h2, h3, h4⟩ := h.1
  exact (lacq_any F v x now who w h1).mono fun e w' ⟨he, hp⟩ => ⟨he, h.turn (one_turn h2 h3 h4 hp)⟩
theorem ob_ren (now who ep : Int) (h : OB leaO wL bs v x w) : Calls Try.prog 12 #[v, .int .i64 now, .int .i64 who, .int .i64 ep] w fun e w' => e = .returned (.int .i64 (renL x.s x.l now who ep).2) ∧ OB leaO wL bs v ⟨x.s, (renL x.s x.l now who ep).1⟩ w' := by
  obtain ⟨F, h1, h2, h3, h4⟩ := h.1
  exact (lren_any F v x now who ep w h1).mono fun e w' ⟨he, hp⟩ => ⟨he, h.turn (one_turn h2 h3 h4 hp)⟩
theorem ob_rel (now who ep : Int) (h : OB leaO wL bs v x w) : Calls Try.prog 14 #[v, .int .i64 now, .int .i64 who, .int .i64 ep] w fun e w' => e = .returned (.int .i64 (relL x.s x.l now who ep).2) ∧ OB leaO wL bs v ⟨x.s, (relL x.s x.l now who ep).1⟩ w' := by
  obtain ⟨F, h1, h2, h3, h4⟩ := h.1
  exact (lrel_any F v x now who ep w h1).mono fun e w' ⟨he, hp⟩ => ⟨he, h.turn (one_turn h2 h3 h4 hp)⟩
end
theorem Nob.below {v : Value} {w w' : World} (h : Nob v w) (hb : Below w.heap.size w w') : Nob v w' := by
  rcases h with h | ⟨b, h, k⟩
  · exact .inl h
  · exact .inr ⟨b, h, blk_below hb k (lt_of_block k)⟩
abbrev K1 (wL : World) (v : Value) (x : Sv) (w : World) : Prop := OB leaO wL [] v x w
theorem lease_awake (w : World) : Calls Try.prog 7 #[] w fun e w' => e = .returned (.bool true) ∧ Below w.heap.size w w' := by
  have NW := Lib.hid (lnew_any 5 (by omega) (by omega) w)
  have e1 : acqL 5 ⟨-1, 0, 0⟩ 0 1 = (⟨1, 1, 5⟩, 1, 0) := by kernel_rfl
  have e2 : acqL 5 ⟨1, 1, 5⟩ 4 2 = (⟨1, 1, 5⟩, 0, 12) := by kernel_rfl
  have e3 : acqL 5 ⟨1, 1, 5⟩ 5 2 = (⟨2, 2, 10⟩, 2, 0) := by kernel_rfl
  have e4 : renL 5 ⟨2, 2, 10⟩ 6 1 1 = (⟨2, 2, 10⟩, 11) := by kernel_rfl
  have e5 : leadsL ⟨2, 2, 10⟩ 9 2 2 = true := by kernel_rfl
  have T1 := Lib.hid (show ∀ v w', K1 w v ⟨5, ⟨-1, 0, 0⟩⟩ w' → Calls Try.prog 10 #[v, .int .i64 0, .int .i64 1] w' fun e w2 => e = .returned (.tuple #[.int .i64 1, .int .i64 0]) ∧ K1 w v ⟨5, ⟨1, 1, 5⟩⟩ w2 from fun v w' h => by have := ob_acq 0 1 h; rw [e1] at this; exact this)
  have T2 := Lib.hid (show ∀ v w', K1 w v ⟨5, ⟨1, 1, 5⟩⟩ w' → Calls Try.prog 10 #[v, .int .i64 4, .int .i64 2] w' fun e w2 => e = .returned (.tuple #[.int .i64 0, .int .i64 12]) ∧ K1 w v ⟨5, ⟨1, 1, 5⟩⟩ w2 from fun v w' h => by have := ob_acq 4 2 h; rw [e2] at this; exact this)
  have T3 := Lib.hid (show ∀ v w', K1 w v ⟨5, ⟨1, 1, 5⟩⟩ w' → Calls Try.prog 10 #[v, .int .i64 5, .int .i64 2] w' fun e w2 => e = .returned (.tuple #[.int .i64 2, .int .i64 0]) ∧ K1 w v ⟨5, ⟨2, 2, 10⟩⟩ w2 from fun v w' h => by have := ob_acq 5 2 h; rw [e3] at this; exact this)
  have T4 := Lib.hid (show ∀ v w', K1 w v ⟨5, ⟨2, 2, 10⟩⟩ w' → Calls Try.prog 12 #[v, .int .i64 6, .int .i64 1, .int .i64 1] w' fun e w2 => e = .returned (.int .i64 11) ∧ K1 w v ⟨5, ⟨2, 2, 10⟩⟩ w2 from fun v w' h => by have := ob_ren 6 1 1 h; rw [e4] at this; exact this)
  have T5 := Lib.hid (show ∀ v w', K1 w v ⟨5, ⟨2, 2, 10⟩⟩ w' → Calls Try.prog 16 #[v] w' fun e w2 => e = .returned (.agg #[.int .i64 2, .int .i64 2, .int .i64 10]) ∧ K1 w v ⟨5, ⟨2, 2, 10⟩⟩ w2 from fun v w' h => ob_get h)
  have T6 := Lib.hid (show ∀ v w', K1 w v ⟨5, ⟨2, 2, 10⟩⟩ w' → Calls Try.prog 17 #[v, .int .i64 9, .int .i64 2, .int .i64 2] w' fun e w2 => e = .returned (.bool true) ∧ K1 w v ⟨5, ⟨2, 2, 10⟩⟩ w2 from fun v w' h => by have := ob_holds 9 2 2 h; rw [e5] at this; exact this)
  have EQ : ∀ w : World, (Op.equalIn 10000 29 (.agg #[.int .i64 2, .int .i64 2, .int .i64 10]) (.agg #[.int .i64 2, .int .i64 2, .int .i64 10])).run Try.prog w = .ok true w := fun w => eqL_run w ⟨2, 2, 10⟩ ⟨2, 2, 10⟩
  clear e1 e2 e3 e4 e5
  go_enter Try.func7, Try.ntmps7
  go_wp2_with fail
  refine NW.out.mono ?_; rintro e w1 ⟨b, F, rfl, hp, hF, hb⟩
  have hI : K1 w (.pointer (some ⟨b, 0, none⟩)) ⟨5, ⟨-1, 0, 0⟩⟩ w1 := ob_start (O := leaO) hp hF hb
  generalize Value.pointer (some ⟨b, 0, none⟩) = v at *
  clear hp hb hF
  go_wp2_with fail
  refine (T1.out _ _ hI).mono ?_; clear hI; rintro e w2 ⟨rfl, hI⟩
  go_wp2_with fail
  refine (T2.out _ _ hI).mono ?_; clear hI; rintro e w3 ⟨rfl, hI⟩
  go_wp2_with fail
  refine (T3.out _ _ hI).mono ?_; clear hI; rintro e w4 ⟨rfl, hI⟩
  go_wp2_with fail
  refine (T4.out _ _ hI).mono ?_; clear hI; rintro e w5 ⟨rfl, hI⟩
  go_wp2_with fail
  refine (T5.out _ _ hI).mono ?_; clear hI; rintro e w6 ⟨rfl, hI⟩
  go_wp2_with fail
  refine (T6.out _ _ hI).mono ?_; clear hI; rintro e w7 ⟨rfl, hI⟩
  have HF := Lib.hid hI.bel
  clear hI
  go_wp2_with fail
  go_ret
  exact ⟨rfl, HF.out⟩
end Go.Proofs.Ytcoclpghimcnfaa
