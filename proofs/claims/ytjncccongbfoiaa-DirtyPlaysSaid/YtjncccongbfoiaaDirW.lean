/- What must come of package dirty, whatever the arguments are. Conditions: none. -/
import Derived.Test.YtjncccongbfoiaaDirI
namespace Go.Proofs.Ytjncccongbfoiaa
open Go.ChangeShapes Go.WideShapes Go.ChangeAt Go.RowKit
set_option linter.unusedVariables false
set_option maxRecDepth 100000
set_option linter.unusedSimpArgs false

/-- One set of the call's own. -/
def D1 (wL : World) (v : Value) (l : List Int) (w : World) : Prop := ∃ F : Nat → Prop, SP F v l w ∧ (∀ k, F k → wL.heap.size ≤ k) ∧ Below wL.heap.size wL w
section
variable {wL : World} {v : Value} {l : List Int} {w w' : World}
theorem D1.bel (h : D1 wL v l w) : Below wL.heap.size wL w := by obtain ⟨F, _, _, h⟩ := h; exact h
theorem D1.below (h : D1 wL v l w) (hb : Below w.heap.size w w') : D1 wL v l w' := by
  obtain ⟨F, h1, h2, h3⟩ := h
  exact ⟨F, sp_below h1 hb, h2, h3.trans (hb.mono h3.size)⟩
theorem d1_turn {F : Nat → Prop} {l' : List Int} (h2 : ∀ k, F k → wL.heap.size ≤ k) (h3 : Below wL.heap.size wL w) (hp : SPost F v l' w w') : D1 wL v l' w' := by
  obtain ⟨F', p1, p2, p3⟩ := hp
  refine ⟨F', p1, fun k hk => ?_, h3.trans (p2.below h2 h3.size)⟩
  rcases p3 k hk with e | e
  · exact h2 k e
  · exact Nat.le_trans h3.size e
theorem d1mark {ns : List Int} {cs : Array Value} (hc : cs.toList = ints ns) (hl : l.length ≤ 100000) (hns : ns.length ≤ 1000) (hin : ∀ x ∈ ns, inI x) (h : D1 wL v l w) :
    Calls Try.prog 9 #[v, .slice (some ⟨w.heap.size, 0, none⟩) ns.length ns.length] (w.alloc (.cells cs 3)) fun e w' => e = .returned (.int .i64 (((putsI l ns).length : Int) - (l.length : Int))) ∧ D1 wL v (putsI l ns) w' := by
  have hL := rdI_lit w ns cs 3 hc (by omega)
  have hb : Below w.heap.size w (w.alloc (.cells cs 3)) := (Below.refl _ _).alloc (Nat.le_refl _) _
  obtain ⟨F, h1, h2, h3⟩ := h
  refine (smark_any F v _ l ns _ hl hns hin (hL.imp fun b hb _ e => ?_) (sp_below h1 hb)).mono fun e w' ⟨he, hp⟩ => ⟨he, d1_turn h2 (h3.trans (hb.mono h3.size)) hp⟩
  have := sp_lt h1 b e
  have hb : b = w.heap.size := hb
  omega
theorem d1drain (hl : l.length ≤ 100000) (h : D1 wL v l w) :
    Calls Try.prog 13 #[v] w fun e w' => ∃ u, e = .returned u ∧ RdI w' (fun k => w.heap.size ≤ k) u l ∧ D1 wL v [] w' := by
  obtain ⟨F, h1, h2, h3⟩ := h
  exact (sdrain_any F v l w hl h1).mono fun e w' ⟨u, he, hr, hs, ht⟩ => ⟨u, he, hr, d1_turn h2 h3 ⟨F, hs, ht, fun k hk => .inl hk⟩⟩
theorem d1has (n : Int) (hn : inI n) (h : D1 wL v l w) :
    Calls Try.prog 14 #[v, .int .i64 n] w fun e w' => e = .returned (.bool (hasI l n)) ∧ w = w' := by
  obtain ⟨F, h1, h2, h3⟩ := h
  exact shas_any F v l n w hn h1
theorem d1len (h : D1 wL v l w) :
    Calls Try.prog 15 #[v] w fun e w' => e = .returned (.int .i64 l.length) ∧ w = w' := by
  obtain ⟨F, h1, h2, h3⟩ := h
  exact slen_any F v l w h1
theorem d1clean (n : Int) (hn : inI n) (h : D1 wL v l w) :
    Calls Try.prog 11 #[v, .int .i64 n] w fun e w' => e = .returned (.bool (hasI l n)) ∧ D1 wL v (dropI l n) w' := by
  obtain ⟨F, h1, h2, h3⟩ := h
  exact (sclean_any F v l n w hn h1).mono fun e w' ⟨he, hp⟩ => ⟨he, d1_turn h2 h3 hp⟩
end
set_option maxHeartbeats 2000000 in
theorem dirty_awake (w : World) : Calls Try.prog 5 #[] w fun e w' => e = .returned (.bool true) ∧ Below w.heap.size w w' := by
  have NW := Lib.hid (snew_any w)
  have MK := Lib.hid (show ∀ v w', D1 w v [] w' → Calls Try.prog 9 #[v, .slice (some ⟨w'.heap.size, 0, none⟩) 3 3] (w'.alloc (.cells #[.int .i64 3, .int .i64 1, .int .i64 3] 3)) fun e w2 => e = .returned (.int .i64 2) ∧ D1 w v [1, 3] w2 from fun v w' h => d1mark (ns := [3, 1, 3]) rfl (by simp) (by simp) (by unfold inI; decide) h)
  have HS := Lib.hid (show ∀ v w', D1 w v [1, 3] w' → Calls Try.prog 14 #[v, .int .i64 3] w' fun e w2 => e = .returned (.bool true) ∧ w' = w2 from fun v w' h => d1has 3 (by unfold inI; decide) h)
  have LN := Lib.hid (show ∀ v w', D1 w v [1, 3] w' → Calls Try.prog 15 #[v] w' fun e w2 => e = .returned (.int .i64 2) ∧ w' = w2 from fun v w' h => d1len h)
  have DR := Lib.hid (show ∀ v w', D1 w v [1, 3] w' → _ from fun v w' h => d1drain (by simp) h)
  have DN := Lib.hid (show ∀ v w', D1 w v [] w' → _ from fun v w' h => d1drain (by simp) h)
  have CL := Lib.hid (show ∀ v w', D1 w v [] w' → Calls Try.prog 11 #[v, .int .i64 1] w' fun e w2 => e = .returned (.bool false) ∧ D1 w v [] w2 from fun v w' h => d1clean 1 (by unfold inI; decide) h)
  go_enter Try.func5, Try.ntmps5
  go_wp2_with fail
  refine NW.out.mono ?_; rintro e w1 ⟨rfl, hp, hb⟩
  have HI := Lib.hid (show D1 w (.pointer (some ⟨w.heap.size, 0, none⟩)) [] w1 from ⟨_, hp, fun k hk => Nat.le_of_eq hk.symm, hb⟩)
  clear hp hb NW
  go_wp2_with fail
  refine (MK.out _ _ HI.out).mono ?_; rintro e w2 ⟨rfl, hI⟩
  have HI2 := Lib.hid hI
  clear hI HI MK
  go_wp2_with fail
  refine (HS.out _ _ HI2.out).mono ?_; rintro e w3 ⟨rfl, rfl⟩
  go_wp2_with fail
  refine (LN.out _ _ HI2.out).mono ?_; rintro e w3 ⟨rfl, rfl⟩
  go_wp2_with fail
  refine (DR.out _ _ HI2.out).mono ?_; rintro e w3 ⟨u, rfl, hr, hI⟩
  have HI3 := Lib.hid hI
  have hb3 : Below w3.heap.size w3 (w3.alloc (.cells #[.int .i64 1, .int .i64 3] 3)) := (Below.refl _ _).alloc (Nat.le_refl _) _
  have SM := Lib.hid (isame_bel u _ [1, 3] _ _ _ (by simp) (hr.below hb3) (rdI_lit w3 [1, 3] #[.int .i64 1, .int .i64 3] 3 rfl (by simp)))
  have HB3 := Lib.hid hb3
  clear hI hr hb3 HI2 DR LN HS
  go_wp2_with fail
  refine SM.out.mono ?_; rintro e w4 ⟨rfl, hb4⟩
  have HI4 := Lib.hid ((HI3.out.below HB3.out).below hb4)
  clear hb4 HI3 HB3 SM
  go_wp2_with fail
  refine (DN.out _ _ HI4.out).mono ?_; rintro e w5 ⟨u5, rfl, hr5, hI⟩
  obtain ⟨A5, c5, rfl, _, _⟩ := hr5.form
  have HI5 := Lib.hid hI
  clear hI hr5 HI4 DN
  simp only [List.length_nil]
  go_wp2_with fail
  refine (CL.out _ _ HI5.out).mono ?_; rintro e w6 ⟨rfl, hI⟩
  have HF := Lib.hid hI.bel
  clear hI HI5 CL
  go_wp2_with fail
  go_ret
  exact ⟨rfl, HF.out⟩
end Go.Proofs.Ytjncccongbfoiaa
