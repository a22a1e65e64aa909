/- One table of beats beside blocks of the law's own; what must come of package beat, whatever the arguments are. Conditions: as stated. -/
import Derived.Test.YtdlkpkigpnlanaaBea
import Derived.Test.YtdlkpkigpnlanaaObs
import Derived.Test.YtdlkpkigpnlanaaRdA
import Derived.Test.YtdlkpkigpnlanaaMapF
namespace Go.Proofs.Ytdlkpkigpnlanaa
open Go.ChangeShapes Go.WideShapes Go.ChangeAt Go.RowKit
set_option linter.unusedVariables false
set_option maxRecDepth 100000
set_option linter.unusedSimpArgs false
set_option maxHeartbeats 2000000

section
variable {wL : World} {bs : List (Nat × Obj)} {v : Value} {x : Tv} {w : World}
theorem OB.bok (h : OB beaO wL bs v x w) : 0 ≤ x.s ∧ x.s ≤ 64 ∧ (x.s = 0 → x.l = []) ∧ sortedB x.l ∧ ∀ b ∈ x.l, okB b := by obtain ⟨F, h1⟩ := h.own; exact bea_ok h1
theorem ob_seen {n : Int} (i now : Int) (hn : inI n) (h : OB beaO wL bs v x w) : Calls Try.prog 9 #[v, .int .i64 n, .int .i64 i, .int .i64 now] w fun e w' => e = .returned (.int .i64 (seenB x.s x.l n i now).2) ∧ OB beaO wL bs v ⟨x.s, (seenB x.s x.l n i now).1⟩ w' := by
  obtain ⟨F, h1, h2, h3, h4⟩ := h.1
  exact (ta_seen F v x w n i now hn h1).mono fun e w' ⟨he, hp⟩ => ⟨he, h.turn (one_turn h2 h3 h4 hp)⟩
theorem ob_drop {n : Int} (i : Int) (hn : inI n) (h : OB beaO wL bs v x w) : Calls Try.prog 11 #[v, .int .i64 n, .int .i64 i] w fun e w' => e = .returned (.bool (dropB x.l n i).2) ∧ OB beaO wL bs v ⟨x.s, (dropB x.l n i).1⟩ w' := by
  obtain ⟨F, h1, h2, h3, h4⟩ := h.1
  exact (ta_drop F v x w n i hn h1).mono fun e w' ⟨he, hp⟩ => ⟨he, h.turn (one_turn h2 h3 h4 hp)⟩
theorem ob_due (now : Int) (h : OB beaO wL bs v x w) : Calls Try.prog 14 #[v, .int .i64 now] w fun e w' => ∃ u, e = .returned u ∧ RdB w' (fun k => w.heap.size ≤ k) u (dueB 16 x.l now).1 ∧ OB beaO wL bs v ⟨x.s, (dueB 16 x.l now).2⟩ w' := by
  obtain ⟨F, h1, h2, h3, h4⟩ := h.1
  exact (ta_due F v x w now h1).mono fun e w' ⟨u, F', he, hp, ht, hs, hr⟩ => ⟨u, he, RdK.imp hr fun b hb _ => hb.1, h.turn (one_turn h2 h3 h4 ⟨F', hp, ht, hs⟩)⟩
theorem ob_bget {n : Int} (hn : inI n) (h : OB beaO wL bs v x w) : Calls Try.prog 15 #[v, .int .i64 n] w fun e w' => e = .returned (.tuple #[bt3 (btD (beatB x.l n)), .bool (beatB x.l n).isSome]) ∧ OB beaO wL bs v x w' := by
  obtain ⟨F, h1⟩ := h.own
  exact (ta_get F v x w n hn h1).mono fun e w' ⟨he, hb⟩ => ⟨he, h.below hb⟩
theorem ob_all (h : OB beaO wL bs v x w) : Calls Try.prog 17 #[v] w fun e w' => ∃ u, e = .returned u ∧ RdB w' (fun k => w.heap.size ≤ k) u x.l ∧ OB beaO wL bs v x w' := by
  obtain ⟨F, h1⟩ := h.own
  exact (ta_all F v x w h1).mono fun e w' ⟨u, he, hr, hb⟩ => ⟨u, he, hr, h.below hb⟩
end
abbrev K1 (wL : World) (v : Value) (x : Tv) (w : World) : Prop := OB beaO wL [] v x w
theorem beat_awake (w : World) : Calls Try.prog 6 #[] w fun e w' => e = .returned (.bool true) ∧ Below w.heap.size w w' := by
  have NW := Lib.hid (ta_new 5 w)
  have ok : inI 3 := by unfold inI; omega
  have e1 : seenB 5 [] 3 1 0 = ([⟨3, 1, 5⟩], 0) := by kernel_rfl
  have e2 : seenB 5 [⟨3, 1, 5⟩] 3 1 4 = ([⟨3, 1, 9⟩], 0) := by kernel_rfl
  have e3 : seenB 5 [⟨3, 1, 9⟩] 3 2 4 = ([⟨3, 2, 9⟩], 0) := by kernel_rfl
  have e4 : seenB 5 [⟨3, 2, 9⟩] 3 1 9 = ([⟨3, 2, 9⟩], 11) := by kernel_rfl
  have e5 : dueB 16 [⟨3, 2, 9⟩] 8 = ([], [⟨3, 2, 9⟩]) := by kernel_rfl
  have e6 : dueB 16 [⟨3, 2, 9⟩] 9 = ([⟨3, 2, 9⟩], []) := by kernel_rfl
  have e7 : dueB 16 [] 99 = ([], []) := by kernel_rfl
  have S1 := Lib.hid (show ∀ v w', K1 w v ⟨5, []⟩ w' → Calls Try.prog 9 #[v, .int .i64 3, .int .i64 1, .int .i64 0] w' fun e w2 => e = .returned (.int .i64 0) ∧ K1 w v ⟨5, [⟨3, 1, 5⟩]⟩ w2 from fun v w' h => by have := ob_seen 1 0 ok h; rw [e1] at this; exact this)
  have S2 := Lib.hid (show ∀ v w', K1 w v ⟨5, [⟨3, 1, 5⟩]⟩ w' → Calls Try.prog 9 #[v, .int .i64 3, .int .i64 1, .int .i64 4] w' fun e w2 => e = .returned (.int .i64 0) ∧ K1 w v ⟨5, [⟨3, 1, 9⟩]⟩ w2 from fun v w' h => by have := ob_seen 1 4 ok h; rw [e2] at this; exact this)
  have S3 := Lib.hid (show ∀ v w', K1 w v ⟨5, [⟨3, 1, 9⟩]⟩ w' → Calls Try.prog 9 #[v, .int .i64 3, .int .i64 2, .int .i64 4] w' fun e w2 => e = .returned (.int .i64 0) ∧ K1 w v ⟨5, [⟨3, 2, 9⟩]⟩ w2 from fun v w' h => by have := ob_seen 2 4 ok h; rw [e3] at this; exact this)
  have S4 := Lib.hid (show ∀ v w', K1 w v ⟨5, [⟨3, 2, 9⟩]⟩ w' → Calls Try.prog 9 #[v, .int .i64 3, .int .i64 1, .int .i64 9] w' fun e w2 => e = .returned (.int .i64 11) ∧ K1 w v ⟨5, [⟨3, 2, 9⟩]⟩ w2 from fun v w' h => by have := ob_seen 1 9 ok h; rw [e4] at this; exact this)
  have U1 := Lib.hid (show ∀ v w', K1 w v ⟨5, [⟨3, 2, 9⟩]⟩ w' → Calls Try.prog 14 #[v, .int .i64 8] w' fun e w2 => ∃ u, e = .returned u ∧ RdB w2 (fun k => w'.heap.size ≤ k) u [] ∧ K1 w v ⟨5, [⟨3, 2, 9⟩]⟩ w2 from fun v w' h => by have := ob_due 8 h; rw [e5] at this; exact this)
  have U2 := Lib.hid (show ∀ v w', K1 w v ⟨5, [⟨3, 2, 9⟩]⟩ w' → Calls Try.prog 14 #[v, .int .i64 9] w' fun e w2 => ∃ u, e = .returned u ∧ RdB w2 (fun k => w'.heap.size ≤ k) u [⟨3, 2, 9⟩] ∧ K1 w v ⟨5, []⟩ w2 from fun v w' h => by have := ob_due 9 h; rw [e6] at this; exact this)
  have U3 := Lib.hid (show ∀ v w', K1 w v ⟨5, []⟩ w' → Calls Try.prog 14 #[v, .int .i64 99] w' fun e w2 => ∃ u, e = .returned u ∧ RdB w2 (fun k => w'.heap.size ≤ k) u [] ∧ K1 w v ⟨5, []⟩ w2 from fun v w' h => by have := ob_due 99 h; rw [e7] at this; exact this)
  have n5 : newT 5 = (5, 0) := by kernel_rfl
  rw [n5] at NW
  clear ok e1 e2 e3 e4 e5 e6 e7 n5
  go_enter Try.func6, Try.ntmps6
  go_wp2_with fail
  refine NW.out.mono ?_; rintro e w1 ⟨p, F, rfl, hp, _, _, hF, hb⟩
  have hI : K1 w (.pointer p) ⟨5, []⟩ w1 := ob_start hp hF hb
  generalize Value.pointer p = v at *
  clear hp hb hF NW
  go_wp2_with fail
  refine (S1.out _ _ hI).mono ?_; clear hI S1; rintro e w2 ⟨rfl, hI⟩
  go_wp2_with fail
  refine (S2.out _ _ hI).mono ?_; clear hI S2; rintro e w3 ⟨rfl, hI⟩
  go_wp2_with fail
  refine (S3.out _ _ hI).mono ?_; clear hI S3; rintro e w4 ⟨rfl, hI⟩
  go_wp2_with fail
  refine (S4.out _ _ hI).mono ?_; clear hI S4; rintro e w5 ⟨rfl, hI⟩
  go_wp2_with fail
  refine (U1.out _ _ hI).mono ?_; clear hI U1; rintro e w6 ⟨u6, rfl, hr, hI⟩
  obtain ⟨A6, c6, rfl, _, _⟩ := rdB_form hr
  clear hr
  simp only [List.length_nil]
  go_wp2_with fail
  refine (U2.out _ _ hI).mono ?_; clear hI U2; rintro e w7 ⟨u7, rfl, hr, hI⟩
  have hb7 : Below w7.heap.size w7 (w7.alloc (.cells #[.int .i64 3, .int .i64 2, .int .i64 9] 51)) := (Below.refl _ _).alloc (Nat.le_refl _) _
  have SM := Lib.hid (bsame_any u7 _ [⟨3, 2, 9⟩] _ _ _ (by simp) (RdK.below hr hb7) (show RdB _ _ _ [⟨3, 2, 9⟩] from rdK_lit1 w7 (Bt.row ⟨3, 2, 9⟩) #[.int .i64 3, .int .i64 2, .int .i64 9] 51 rfl))
  have hI2 := hI.below hb7
  clear hI hr hb7
  go_wp2_with fail
  refine SM.out.mono ?_; rintro e w8 ⟨rfl, hb8⟩
  have hI := hI2.below hb8
  clear hI2 hb8 SM
  go_wp2_with fail
  refine (U3.out _ _ hI).mono ?_; clear hI U3; rintro e w9 ⟨u9, rfl, hr9, hI⟩
  obtain ⟨A9, c9, rfl, _, _⟩ := rdB_form hr9
  have HF := Lib.hid hI.bel
  clear hr9 hI
  simp only [List.length_nil]
  go_wp2_with fail
  go_ret
  exact ⟨rfl, HF.out⟩
end Go.Proofs.Ytdlkpkigpnlanaa
