/- What package heap comes to: all of it; what must come of it, whatever the arguments are. Conditions: numbers that an int holds; at most 100,000 things. -/
import Derived.Test.YtfknmokidjgeiaaHpqL
namespace Go.Proofs.Ytfknmokidjgeiaa
open Go.ChangeShapes Go.WideShapes Go.ChangeAt Go.RowKit
set_option linter.unusedVariables false
set_option maxRecDepth 100000
set_option linter.unusedSimpArgs false

/-- A heap that was made behind a world. -/
def Mine (w0 : World) (v : Value) (l : List Thg) (w : World) : Prop := ∃ F, HP F v l w ∧ (∀ k, F k → w0.heap.size ≤ k) ∧ Below w0.heap.size w0 w
section
variable {w0 w w' : World} {v : Value} {l l' : List Thg}
theorem Mine.below (h : Mine w0 v l w) (hb : Below w.heap.size w w') : Mine w0 v l w' := by
  obtain ⟨F, h1, h2, h3⟩ := h
  exact ⟨F, hp_keep h1 (fun k hk => hb.block k (hp_lt h1 k hk)) hb.size, h2, h3.trans (hb.mono h3.size)⟩
theorem mine_post {F : Nat → Prop} (h2 : ∀ k, F k → w0.heap.size ≤ k) (h3 : Below w0.heap.size w0 w) (hp : HPost F v l' w w') : Mine w0 v l' w' := by
  obtain ⟨F', p1, p2, p3⟩ := hp
  exact ⟨F', p1, fun k hk => by
    rcases p3 k hk with e | e
    · exact h2 k e
    · exact Nat.le_trans h3.size e, h3.trans (p2.below h2 h3.size)⟩
theorem aput (x : Thg) (hx : x.ok) (hn : l.length ≤ 100000) (h : Mine w0 v l w) :
    Calls Try.prog 11 #[v, .int .i64 x.id, x.key.val] w fun e w' => e = .returned (.bool (findT l x.id).isNone) ∧ Mine w0 v (putT l x) w' := by
  obtain ⟨F, h1, h2, h3⟩ := h
  exact (hput_any F v l x w hx hn h1).mono fun e w' ⟨he, hp⟩ => ⟨he, mine_post h2 h3 hp⟩
theorem adrop (id : Int) (hid : inI id) (hn : l.length ≤ 100000) (h : Mine w0 v l w) :
    Calls Try.prog 13 #[v, .int .i64 id] w fun e w' => e = .returned (.bool (findT l id).isSome) ∧ Mine w0 v (dropT l id) w' := by
  obtain ⟨F, h1, h2, h3⟩ := h
  exact (hdrop_any F v l id w hid hn h1).mono fun e w' ⟨he, hp⟩ => ⟨he, mine_post h2 h3 hp⟩
theorem atop (hn : l.length ≤ 100000) (h : Mine w0 v l w) :
    Calls Try.prog 15 #[v] w fun e w' => e = .returned (topT l) ∧ Mine w0 v l w' := by
  have h0 := h
  obtain ⟨F, h1, h2, h3⟩ := h
  exact (htop_any F v l w hn h1).mono fun e w' ⟨he, hb⟩ => ⟨he, h0.below hb⟩
theorem alen (hn : l.length ≤ 100000) (h : Mine w0 v l w) :
    Calls Try.prog 18 #[v] w fun e w' => e = .returned (.int .i64 l.length) ∧ Mine w0 v l w' := by
  have h0 := h
  obtain ⟨F, h1, h2, h3⟩ := h
  exact (hlen_any F v l w hn h1).mono fun e w' ⟨he, hb⟩ => ⟨he, h0.below hb⟩
theorem aall (hn : l.length ≤ 100000) (h : Mine w0 v l w) :
    Calls Try.prog 20 #[v] w fun e w' => ∃ u, e = .returned u ∧ Rd w' w'.heap.size u (ints (idsT l)) ∧ Mine w0 v l w' := by
  have h0 := h
  obtain ⟨F, h1, h2, h3⟩ := h
  exact (hall_any F v l w hn h1).mono fun e w' ⟨u, he, hr, hb⟩ => ⟨u, he, hr, h0.below hb⟩
end
set_option maxHeartbeats 4000000 in
theorem heap_awake (w : World) : Calls Try.prog 8 #[] w fun e w' => e = .returned (.bool true) ∧ Below w.heap.size w w' := by
  have NW := Lib.hid (hnew_any w)
  have P1 := fun v w' (h : Mine w v [] w') => aput ⟨5, ⟨2, 0, 0⟩⟩ (by unfold Thg.ok V3.ok inI; decide) (by simp) h
  have P2 := fun v w' (h : Mine w v [⟨5, ⟨2, 0, 0⟩⟩] w') => aput ⟨6, ⟨1, 0, 0⟩⟩ (by unfold Thg.ok V3.ok inI; decide) (by simp) h
  have P3 := fun v w' (h : Mine w v [⟨6, ⟨1, 0, 0⟩⟩, ⟨5, ⟨2, 0, 0⟩⟩] w') => aput ⟨5, ⟨0, 0, 0⟩⟩ (by unfold Thg.ok V3.ok inI; decide) (by simp) h
  have T1 := fun v w' (h : Mine w v [⟨5, ⟨0, 0, 0⟩⟩, ⟨6, ⟨1, 0, 0⟩⟩] w') => atop (by simp) h
  have A1 := fun v w' (h : Mine w v [⟨5, ⟨0, 0, 0⟩⟩, ⟨6, ⟨1, 0, 0⟩⟩] w') => aall (by simp) h
  have D1 := fun v w' (h : Mine w v [⟨5, ⟨0, 0, 0⟩⟩, ⟨6, ⟨1, 0, 0⟩⟩] w') => adrop 6 (by unfold inI; decide) (by simp) h
  have D2 := fun v w' (h : Mine w v [⟨5, ⟨0, 0, 0⟩⟩] w') => adrop 6 (by unfold inI; decide) (by simp) h
  have L1 := fun v w' (h : Mine w v [⟨5, ⟨0, 0, 0⟩⟩] w') => alen (by simp) h
  rw [show putT [] ⟨5, ⟨2, 0, 0⟩⟩ = [⟨5, ⟨2, 0, 0⟩⟩] from rfl, show (findT [] 5).isNone = true from rfl] at P1
  rw [show putT [⟨5, ⟨2, 0, 0⟩⟩] ⟨6, ⟨1, 0, 0⟩⟩ = [⟨6, ⟨1, 0, 0⟩⟩, ⟨5, ⟨2, 0, 0⟩⟩] from rfl, show (findT [⟨5, ⟨2, 0, 0⟩⟩] 6).isNone = true from rfl] at P2
  rw [show putT [⟨6, ⟨1, 0, 0⟩⟩, ⟨5, ⟨2, 0, 0⟩⟩] ⟨5, ⟨0, 0, 0⟩⟩ = [⟨5, ⟨0, 0, 0⟩⟩, ⟨6, ⟨1, 0, 0⟩⟩] from rfl, show (findT [⟨6, ⟨1, 0, 0⟩⟩, ⟨5, ⟨2, 0, 0⟩⟩] 5).isNone = false from rfl] at P3
  rw [show dropT [⟨5, ⟨0, 0, 0⟩⟩, ⟨6, ⟨1, 0, 0⟩⟩] 6 = [⟨5, ⟨0, 0, 0⟩⟩] from rfl, show (findT [⟨5, ⟨0, 0, 0⟩⟩, ⟨6, ⟨1, 0, 0⟩⟩] 6).isSome = true from rfl] at D1
  rw [show dropT [⟨5, ⟨0, 0, 0⟩⟩] 6 = [⟨5, ⟨0, 0, 0⟩⟩] from rfl, show (findT [⟨5, ⟨0, 0, 0⟩⟩] 6).isSome = false from rfl] at D2
  rw [show idsT [⟨5, ⟨0, 0, 0⟩⟩, ⟨6, ⟨1, 0, 0⟩⟩] = [5, 6] from rfl] at A1
  unfold topT V3.val at T1
  unfold V3.val at P1 P2 P3
  dsimp only at P1 P2 P3 T1
  have LS := hless_any ⟨0, 1, 0⟩ ⟨0, 2, 0⟩
  rw [show lessB ⟨0, 1, 0⟩ ⟨0, 2, 0⟩ = true from rfl] at LS
  unfold V3.val at LS
  have LS := Lib.hid fun w => LS w (by unfold V3.ok inI; decide) (by unfold V3.ok inI; decide)
  have SM := Lib.hid fun v1 v2 B w => isame_true v1 v2 [5, 6] B w (by simp)
  have P1 := Lib.hid P1
  have P2 := Lib.hid P2
  have P3 := Lib.hid P3
  have T1 := Lib.hid T1
  have A1 := Lib.hid A1
  have D1 := Lib.hid D1
  have D2 := Lib.hid D2
  have L1 := Lib.hid L1
  go_enter Try.func8, Try.ntmps8
  go_wp2_with fail
  refine NW.out.mono ?_; rintro e w1 ⟨v, F, rfl, hp, hF, hb⟩
  have HM := Lib.hid (show Mine w v [] w1 from ⟨F, hp, hF, hb⟩)
  obtain ⟨b, rfl⟩ := hp_ptr hp
  clear hp hF hb
  go_wp2_with fail
  refine (P1.out _ _ HM.out).mono ?_; rintro e w2 ⟨rfl, h2⟩
  have HM2 := Lib.hid h2
  clear h2 HM
  go_wp2_with fail
  refine (P2.out _ _ HM2.out).mono ?_; rintro e w3 ⟨rfl, h3⟩
  have HM3 := Lib.hid h3
  clear h3 HM2
  go_wp2_with fail
  refine (P3.out _ _ HM3.out).mono ?_; rintro e w4 ⟨rfl, h4⟩
  have HM4 := Lib.hid h4
  clear h4 HM3
  go_wp2_with fail
  refine (T1.out _ _ HM4.out).mono ?_; rintro e w5 ⟨rfl, h5⟩
  have HM5 := Lib.hid (h5.below ((Below.refl w5.heap.size w5).alloc (Nat.le_refl _) (.cells #[.int .i64 0, .int .i64 0, .int .i64 0] 24)))
  clear h5 HM4
  go_wp2_with fail
  refine (A1.out _ _ HM5.out).mono ?_; rintro e w6 ⟨u, rfl, hr, h6⟩
  have HM6 := Lib.hid (h6.below ((Below.refl w6.heap.size w6).alloc (Nat.le_refl _) (.cells #[.int .i64 5, .int .i64 6] 3)))
  have HR := Lib.hid (hr.below ((Below.refl w6.heap.size w6).alloc (Nat.le_refl _) (.cells #[.int .i64 5, .int .i64 6] 3)) |>.more (show w6.heap.size ≤ w6.heap.size + 1 by omega))
  have HL := Lib.hid (rd_liti w6 [5, 6] #[.int .i64 5, .int .i64 6] rfl (by simp))
  clear h6 hr HM5
  go_wp2_with fail
  refine (SM.out _ _ (w6.heap.size + 1) _ HR.out HL.out).mono ?_; rintro e w7 ⟨rfl, n, rfl⟩
  have HM7 := Lib.hid (show Mine w (.pointer (some ⟨b, 0, none⟩)) [⟨5, ⟨0, 0, 0⟩⟩, ⟨6, ⟨1, 0, 0⟩⟩] ((w6.alloc (.cells #[.int .i64 5, .int .i64 6] 3)).drewN n) from HM6.out.below ⟨rfl, rfl, rfl, Nat.le_refl _, fun _ _ => rfl⟩)
  clear HM6 HR HL
  go_wp2_with fail
  refine (D1.out _ _ HM7.out).mono ?_; rintro e w8 ⟨rfl, h8⟩
  have HM8 := Lib.hid h8
  clear h8 HM7
  go_wp2_with fail
  refine (D2.out _ _ HM8.out).mono ?_; rintro e w9 ⟨rfl, h9⟩
  have HM9 := Lib.hid h9
  clear h9 HM8
  go_wp2_with fail
  refine (L1.out _ _ HM9.out).mono ?_; rintro e w10 ⟨rfl, h10⟩
  have HM10 := Lib.hid h10
  clear h10 HM9
  go_wp2_with fail
  refine (LS.out _).mono ?_; rintro e w11 ⟨rfl, b11⟩
  have HF := Lib.hid (show Below w.heap.size w w11 from by
    obtain ⟨F', _, _, hb⟩ := HM10.out.below b11
    exact hb)
  clear b11 HM10
  go_wp2_with fail
  go_ret
  exact ⟨rfl, HF.out⟩
end Go.Proofs.Ytfknmokidjgeiaa
