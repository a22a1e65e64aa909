/- What must come of package queue, whatever the arguments are. Conditions: none. -/
import Derived.Test.YtalpocgajecjbaaQueI
import Derived.Test.YtalpocgajecjbaaHolds
import Derived.Test.YtalpocgajecjbaaJbZ
namespace Go.Proofs.Ytalpocgajecjbaa
open Go.ChangeShapes Go.WideShapes Go.ChangeAt Go.RowKit
set_option linter.unusedVariables false
set_option maxRecDepth 100000
set_option linter.unusedSimpArgs false

def aqA : Jb := ⟨1, 1, 1, 0, 0, zero3⟩
def aqB : Jb := ⟨2, 5, 2, 0, 0, zero3⟩
def aqC : Jb := ⟨3, 5, 3, 0, 0, zero3⟩
def aqN : Jb := ⟨0, -1, 0, 0, 0, zero3⟩
def aqW (w : World) : World := ((w.alloc (.cells aqA.row.toArray 37)).alloc (.cells aqB.row.toArray 37)).alloc (.cells aqC.row.toArray 37)
theorem aqW_blk (w : World) : BJob w.heap.size aqA (aqW w) ∧ BJob (w.heap.size + 1) aqB (aqW w) ∧ BJob (w.heap.size + 1 + 1) aqC (aqW w) ∧ Below w.heap.size w (aqW w) ∧ (aqW w).heap.size = w.heap.size + 1 + 1 + 1 := by
  refine ⟨blk_old _ (blk_old _ (blk_new w _)), blk_old _ ?_, ?_, (((Below.refl w.heap.size w).alloc (Nat.le_refl _) _).alloc (by simp) _).alloc (by simp; omega) _, by unfold aqW; simp⟩
  · have := blk_new (w.alloc (.cells aqA.row.toArray 37)) (.cells aqB.row.toArray 37)
    rw [show (w.alloc (.cells aqA.row.toArray 37)).heap.size = w.heap.size + 1 by simp] at this
    exact this
  · have := blk_new ((w.alloc (.cells aqA.row.toArray 37)).alloc (.cells aqB.row.toArray 37)) (.cells aqC.row.toArray 37)
    rw [show ((w.alloc (.cells aqA.row.toArray 37)).alloc (.cells aqB.row.toArray 37)).heap.size = w.heap.size + 1 + 1 by simp] at this
    exact this
/-- The three jobs' blocks. -/
def aqG (n : Nat) (k : Nat) : Prop := n ≤ k ∧ k < n + 3
theorem aq_put : putJ [] aqA = [aqA] ∧ putJ [aqA] aqB = [aqB, aqA] ∧ putJ [aqB, aqA] aqC = [aqB, aqC, aqA] ∧ putJ [aqB, aqC, aqA] aqN = [aqB, aqC, aqA] := ⟨by rfl, by rfl, by rfl, by rfl⟩
theorem aq_drop : (getJ [aqB, aqC, aqA] 2).isSome = true ∧ dropJ [aqB, aqC, aqA] 2 = [aqC, aqA] ∧ (getJ [aqC, aqA] 2).isSome = false ∧ dropJ [aqC, aqA] 2 = [aqC, aqA] := ⟨by rfl, by rfl, by rfl, by rfl⟩
theorem aq_ok : aqA.ok ∧ aqB.ok ∧ aqC.ok ∧ aqN.ok := by unfold Jb.ok V3.ok inI; decide
/-- What is known of the slices written out. -/
def aqL (_ : Nat) (v : Value) (w : World) : Prop := RdJ [aqB, aqC, aqA] v w
theorem kept_aqL (i : Nat) (v : Value) : Kept (aqL i v) := kept_rdj _ v
set_option maxHeartbeats 8000000 in
theorem queue_awake (w : World) : Calls Try.prog 5 #[] w fun e w' => e = .returned (.bool true) ∧ Below w.heap.size w w' := by
  have NW := Lib.hid (qnew_any w)
  obtain ⟨p1, p2, p3, p4⟩ := aq_put
  obtain ⟨d1, d2, d3, d4⟩ := aq_drop
  have P1 := fun G v w' (h : QInv1 w G v [] w') => oqput aqA aq_ok.1 (by simp) h
  have P2 := fun G v w' (h : QInv1 w G v [aqA] w') => oqput aqB aq_ok.2.1 (by simp) h
  have P3 := fun G v w' (h : QInv1 w G v [aqB, aqA] w') => oqput aqC aq_ok.2.2.1 (by simp) h
  have P4 := fun G v w' (h : QInv1 w G v [aqB, aqC, aqA] w') => oqput aqN aq_ok.2.2.2 (by simp) h
  have NX := fun G v w' (h : QInv1 w G v [aqB, aqC, aqA] w') => oqnext (by simp) h
  have AL := fun G v w' (h : QInv1 w G v [aqB, aqC, aqA] w') => oqall (by simp) h
  have D1 := fun G v w' (h : QInv1 w G v [aqB, aqC, aqA] w') => oqdrop 2 (by unfold inI; decide) (by simp) h
  have D2 := fun G v w' (h : QInv1 w G v [aqC, aqA] w') => oqdrop 2 (by unfold inI; decide) (by simp) h
  have LN := fun G v w' (h : QInv1 w G v [aqC, aqA] w') => oqlen (by simp) h
  rw [p1, show decide (0 ≤ aqA.prio) = true by decide] at P1
  rw [p2, show decide (0 ≤ aqB.prio) = true by decide] at P2
  rw [p3, show decide (0 ≤ aqC.prio) = true by decide] at P3
  rw [p4, show decide (0 ≤ aqN.prio) = false by decide] at P4
  rw [show headJ [aqB, aqC, aqA] = aqB from rfl, show someJ [aqB, aqC, aqA] = true from rfl] at NX
  rw [d1, d2] at D1
  rw [d3, d4] at D2
  simp only [List.length_cons, List.length_nil] at LN
  have S2 := Lib.hid (show ∀ v u (w : World), RdJ [aqB, aqC, aqA] v w → RdJ [aqB, aqC, aqA] u w → Calls Try.prog 16 #[v, u] w fun e w' => e = .returned (.bool true) ∧ Below w.heap.size w w' from fun v u w h1 h2 => ksame_any v u [aqB, aqC, aqA] _ _ w (by decide) h1 h2)
  have E1 := fun w => jeq_same aqB w
  have HC := Lib.hid (show ∀ b1 w', BJob b1 aqA w' → (w'.cell? ⟨b1, 0, none⟩ = some (.int .i64 1) ∧ w'.cell? ⟨b1, 1, none⟩ = some (.int .i64 1) ∧ w'.cell? ⟨b1, 2, none⟩ = some (.int .i64 1) ∧ w'.cell? ⟨b1, 3, none⟩ = some (.int .i64 0) ∧ w'.cell? ⟨b1, 4, none⟩ = some (.int .i64 0) ∧ w'.cell? ⟨b1, 5, none⟩ = some (.int .i64 0) ∧ w'.cell? ⟨b1, 6, none⟩ = some (.int .i64 0) ∧ w'.cell? ⟨b1, 7, none⟩ = some (.int .i64 0)) from fun b1 w' h => h.cells)
  have HCB := Lib.hid (show ∀ b1 w', BJob b1 aqB w' → (w'.cell? ⟨b1, 0, none⟩ = some (.int .i64 2) ∧ w'.cell? ⟨b1, 1, none⟩ = some (.int .i64 5) ∧ w'.cell? ⟨b1, 2, none⟩ = some (.int .i64 2) ∧ w'.cell? ⟨b1, 3, none⟩ = some (.int .i64 0) ∧ w'.cell? ⟨b1, 4, none⟩ = some (.int .i64 0) ∧ w'.cell? ⟨b1, 5, none⟩ = some (.int .i64 0) ∧ w'.cell? ⟨b1, 6, none⟩ = some (.int .i64 0) ∧ w'.cell? ⟨b1, 7, none⟩ = some (.int .i64 0)) from fun b1 w' h => h.cells)
  have HCC := Lib.hid (show ∀ b1 w', BJob b1 aqC w' → (w'.cell? ⟨b1, 0, none⟩ = some (.int .i64 3) ∧ w'.cell? ⟨b1, 1, none⟩ = some (.int .i64 5) ∧ w'.cell? ⟨b1, 2, none⟩ = some (.int .i64 3) ∧ w'.cell? ⟨b1, 3, none⟩ = some (.int .i64 0) ∧ w'.cell? ⟨b1, 4, none⟩ = some (.int .i64 0) ∧ w'.cell? ⟨b1, 5, none⟩ = some (.int .i64 0) ∧ w'.cell? ⟨b1, 6, none⟩ = some (.int .i64 0) ∧ w'.cell? ⟨b1, 7, none⟩ = some (.int .i64 0)) from fun b1 w' h => h.cells)
  unfold Jb.val at P1 P2 P3 P4 NX
  simp only [aqA, aqB, aqC, aqN, zero3] at E1
  replace P1 := Lib.hid (show ∀ G v w', QInv1 w G v [] w' → Calls Try.prog 8 #[v, .agg #[.int .i64 1, .int .i64 1, .int .i64 1, .int .i64 0, .int .i64 0, .int .i64 0, .int .i64 0, .int .i64 0]] w' fun e w2 => e = .returned (.bool true) ∧ QInv1 w G v [aqA] w2 ∧ StayQ G w' w2 from P1)
  replace P2 := Lib.hid (show ∀ G v w', QInv1 w G v [aqA] w' → Calls Try.prog 8 #[v, .agg #[.int .i64 2, .int .i64 5, .int .i64 2, .int .i64 0, .int .i64 0, .int .i64 0, .int .i64 0, .int .i64 0]] w' fun e w2 => e = .returned (.bool true) ∧ QInv1 w G v [aqB, aqA] w2 ∧ StayQ G w' w2 from P2)
  replace P3 := Lib.hid (show ∀ G v w', QInv1 w G v [aqB, aqA] w' → Calls Try.prog 8 #[v, .agg #[.int .i64 3, .int .i64 5, .int .i64 3, .int .i64 0, .int .i64 0, .int .i64 0, .int .i64 0, .int .i64 0]] w' fun e w2 => e = .returned (.bool true) ∧ QInv1 w G v [aqB, aqC, aqA] w2 ∧ StayQ G w' w2 from P3)
  replace P4 := Lib.hid (show ∀ G v w', QInv1 w G v [aqB, aqC, aqA] w' → Calls Try.prog 8 #[v, .agg #[.int .i64 0, .int .i64 (-1), .int .i64 0, .int .i64 0, .int .i64 0, .int .i64 0, .int .i64 0, .int .i64 0]] w' fun e w2 => e = .returned (.bool false) ∧ QInv1 w G v [aqB, aqC, aqA] w2 ∧ StayQ G w' w2 from P4)
  replace NX := Lib.hid (show ∀ G v w', QInv1 w G v [aqB, aqC, aqA] w' → Calls Try.prog 12 #[v] w' fun e w2 => e = .returned (.tuple #[.agg #[.int .i64 2, .int .i64 5, .int .i64 2, .int .i64 0, .int .i64 0, .int .i64 0, .int .i64 0, .int .i64 0], .bool true]) ∧ Below w'.heap.size w' w2 from NX)
  replace AL := Lib.hid AL
  replace D1 := Lib.hid D1
  replace D2 := Lib.hid D2
  replace LN := Lib.hid LN
  clear p1 p2 p3 p4 d1 d2 d3 d4
  go_enter Try.func5, Try.ntmps5
  go_wp2_with fail
  refine NW.out.mono ?_; rintro e w1 ⟨v, F, rfl, hp, hF, hb⟩
  have hq0 := qone_start hp hF hb
  obtain ⟨b, rfl⟩ := qp_ptr hp
  have hw := aqW_blk w1
  have HI := Lib.hid (show QInv1 w (aqG w1.heap.size) (.pointer (some ⟨b, 0, none⟩)) [] (aqW w1) from hq0.more hw.2.2.2.1 fun k hk => .inr (by unfold aqG at hk; rw [hw.2.2.2.2]; exact ⟨hk.1, by omega⟩))
  have HA := Lib.hid hw.1
  have HB := Lib.hid hw.2.1
  have HCJ := Lib.hid hw.2.2.1
  clear hp hF hb hq0 hw NW
  go_upto_region 3 with (fail)
  change Code.wp _ _ _ _ (aqW w1)
  generalize aqW w1 = W at *
  obtain ⟨x0, x1, x2, x3, x4, x5, x6, x7⟩ := HC.out _ _ HA.out
  go_wp2_with fail
  refine (P1.out _ _ _ HI.out).mono ?_; rintro e w2 ⟨rfl, hI, hs⟩
  have HI2 := Lib.hid hI
  have HA2 := Lib.hid (show BJob w1.heap.size aqA w2 from (hs _ ⟨Nat.le_refl _, by omega⟩).trans HA.out)
  have HB2 := Lib.hid (show BJob (w1.heap.size + 1) aqB w2 from (hs _ ⟨by omega, by omega⟩).trans HB.out)
  have HC2 := Lib.hid (show BJob (w1.heap.size + 1 + 1) aqC w2 from (hs _ ⟨by omega, by omega⟩).trans HCJ.out)
  clear hI hs HI HA HB HCJ x0 x1 x2 x3 x4 x5 x6 x7 P1
  obtain ⟨x0, x1, x2, x3, x4, x5, x6, x7⟩ := HCB.out _ _ HB2.out
  go_wp2_with fail
  refine (P2.out _ _ _ HI2.out).mono ?_; rintro e w3 ⟨rfl, hI, hs⟩
  have HI3 := Lib.hid hI
  have HA3 := Lib.hid (show BJob w1.heap.size aqA w3 from (hs _ ⟨Nat.le_refl _, by omega⟩).trans HA2.out)
  have HB3 := Lib.hid (show BJob (w1.heap.size + 1) aqB w3 from (hs _ ⟨by omega, by omega⟩).trans HB2.out)
  have HC3 := Lib.hid (show BJob (w1.heap.size + 1 + 1) aqC w3 from (hs _ ⟨by omega, by omega⟩).trans HC2.out)
  clear hI hs HI2 HA2 HB2 HC2 x0 x1 x2 x3 x4 x5 x6 x7 P2
  obtain ⟨x0, x1, x2, x3, x4, x5, x6, x7⟩ := HCC.out _ _ HC3.out
  go_wp2_with fail
  refine (P3.out _ _ _ HI3.out).mono ?_; rintro e w4 ⟨rfl, hI, hs⟩
  have HI4 := Lib.hid hI
  have HA4 := Lib.hid (show BJob w1.heap.size aqA w4 from (hs _ ⟨Nat.le_refl _, by omega⟩).trans HA3.out)
  have HB4 := Lib.hid (show BJob (w1.heap.size + 1) aqB w4 from (hs _ ⟨by omega, by omega⟩).trans HB3.out)
  have HC4 := Lib.hid (show BJob (w1.heap.size + 1 + 1) aqC w4 from (hs _ ⟨by omega, by omega⟩).trans HC3.out)
  clear hI hs HI3 HA3 HB3 HC3 x0 x1 x2 x3 x4 x5 x6 x7 P3
  go_wp2_with fail
  refine (P4.out _ _ _ HI4.out).mono ?_; rintro e w5 ⟨rfl, hI, hs⟩
  have HI5 := Lib.hid hI
  have HA5 := Lib.hid (show BJob w1.heap.size aqA w5 from (hs _ ⟨Nat.le_refl _, by omega⟩).trans HA4.out)
  have HB5 := Lib.hid (show BJob (w1.heap.size + 1) aqB w5 from (hs _ ⟨by omega, by omega⟩).trans HB4.out)
  have HC5 := Lib.hid (show BJob (w1.heap.size + 1 + 1) aqC w5 from (hs _ ⟨by omega, by omega⟩).trans HC4.out)
  clear hI hs HI4 HA4 HB4 HC4 P4
  go_wp2_with fail
  refine (NX.out _ _ _ HI5.out).mono ?_; rintro e w6 ⟨rfl, b6⟩
  have HI6 := Lib.hid (HI5.out.below b6)
  have HA6 := Lib.hid (HA5.out.below b6 HA5.out.lt)
  have HB6 := Lib.hid (HB5.out.below b6 HB5.out.lt)
  have HC6 := Lib.hid (HC5.out.below b6 HC5.out.lt)
  have hz := jz_blk w6
  obtain ⟨z0, z1, z2, z3, z4, z5, z6, z7⟩ := z8_of hz
  obtain ⟨f0, f1, f2, f3, f4, f5, f6, f7⟩ := hz.free
  clear b6 HI5 HA5 HB5 HC5 NX hz
  go_upto_region 6 with (fail)
  change Code.wp _ _ _ _ (jv w6 aqB)
  have hbl := jv_below w6 aqB
  have HI7 := Lib.hid (HI6.out.below hbl)
  have HA7 := Lib.hid (HA6.out.below hbl HA6.out.lt)
  have HB7 := Lib.hid (HB6.out.below hbl HB6.out.lt)
  have HC7 := Lib.hid (HC6.out.below hbl HC6.out.lt)
  have HX7 := Lib.hid (jv_blk w6 aqB)
  clear z0 z1 z2 z3 z4 z5 z6 z7 f0 f1 f2 f3 f4 f5 f6 f7 HI6 HA6 HB6 HC6 hbl
  generalize w6.heap.size = b5 at *
  generalize jv w6 aqB = W7 at *
  have HL := Lib.hid (show ∀ w', Below W7.heap.size W7 w' → _ ∧ _ ∧ _ ∧ _ from fun w' hb => ⟨HCB.out _ _ (HX7.out.below hb HX7.out.lt), HC.out _ _ (HA7.out.below hb HA7.out.lt), HCB.out _ _ (HB7.out.below hb HB7.out.lt), HCC.out _ _ (HC7.out.below hb HC7.out.lt)⟩)
  have AQ := Lib.hid (show ∀ w', Below W7.heap.size W7 w' → Calls Try.prog 17 #[.pointer (some ⟨b, 0, none⟩)] w' fun e w2 => ∃ u, e = .returned u ∧ RdJ [aqB, aqC, aqA] u w2 ∧ Below w'.heap.size w' w2 from fun w' hb => (AL.out _ _ _ (HI7.out.below hb)).mono fun e w2 ⟨u, he, hr, hb⟩ => ⟨u, he, hr.imp (fun _ _ _ => trivial), hb⟩)
  clear AL HC HCB HCC HX7 HA7 HB7 HC7
  refine wp_region_holdWT 14 aqL kept_aqL (fun w' => Below W7.heap.size W7 w') (by kernel_rfl) (by kernel_rfl) (kept_bel W7) ⟨rfl, rfl, rfl, Nat.le_refl _, fun _ _ => rfl⟩ (fun hK => ?_)
  simp only [List.take_succ_cons, List.take_zero]
  repeat
    first
    | (refine holdW_val (v := ?_) (by rfl) hK (by rfl) (by rfl) ?_ ?_
       rotate_left
       · (intro w' hS
          obtain ⟨⟨_, _, _, _, _, _, _, _⟩, ⟨_, _, _, _, _, _, _, _⟩, ⟨_, _, _, _, _, _, _, _⟩, ⟨_, _, _, _, _, _, _, _⟩⟩ := HL.out w' hS
          go_simp
          try with_reducible rfl)
       simp only [Act.put, List.setIfInBounds_toArray, List.set_cons_zero, List.set_cons_succ])
    | (refine holdW_some _ (fun v => kept_rdj [aqB, aqC, aqA] v) (by rfl) hK (by rfl) (by rfl) ?_ (fun w' hS => AQ.out w' hS) ?_
       · (intro w' hS; go_simp; done)
       clear hK
       intro va hK
       simp only [Act.put, List.setIfInBounds_toArray, List.set_cons_zero, List.set_cons_succ])
    | (refine holdW_make (kept_aqL _) (by rfl) hK (by rfl) (by rfl) (fun w' hS => ?_) ?_
       · (refine ⟨.slice (some ⟨w'.heap.size, 0, none⟩) 3 3, w'.alloc (.cells #[.int .i64 2, .int .i64 5, .int .i64 2, .int .i64 0, .int .i64 0, .int .i64 0, .int .i64 0, .int .i64 0, .int .i64 3, .int .i64 5, .int .i64 3, .int .i64 0, .int .i64 0, .int .i64 0, .int .i64 0, .int .i64 0, .int .i64 1, .int .i64 1, .int .i64 1, .int .i64 0, .int .i64 0, .int .i64 0, .int .i64 0, .int .i64 0] 37), ?_, (Below.refl _ _).alloc (Nat.le_refl _) _, ?_⟩
          · (obtain ⟨⟨_, _, _, _, _, _, _, _⟩, ⟨_, _, _, _, _, _, _, _⟩, ⟨_, _, _, _, _, _, _, _⟩, ⟨_, _, _, _, _, _, _, _⟩⟩ := HL.out w' hS
             go_simp; done)
          · exact rdj_lit w' [aqB, aqC, aqA] _ rfl (by unfold maxLen; decide))
       clear hK
       intro vx hK
       simp only [Act.put, List.setIfInBounds_toArray, List.set_cons_zero, List.set_cons_succ])
    | (refine holdW_call2 12 8 _ _ rfl (List.mem_cons_self ..) (List.mem_cons_of_mem _ (List.mem_cons_self ..)) (by kernel_rfl) (by kernel_rfl) (by rfl) hK (by rfl) (by rfl) ?_ (fun w' hS h1 h2 => S2.out _ _ w' h2 h1) ?_
       · (intro w' hS; go_simp; done)
       simp only [Act.put, List.setIfInBounds_toArray, List.set_cons_zero, List.set_cons_succ])
  refine holdW_nil (fun w8 hS _ => ?_)
  simp only [List.drop_succ_cons, List.drop_zero]
  have HI8 := Lib.hid (HI7.out.below hS)
  clear hS hK HL AQ HI7 S2 E1
  go_wp2_with fail
  refine (D1.out _ _ _ HI8.out).mono ?_; rintro e w9 ⟨rfl, hI, hs⟩
  have HI9 := Lib.hid hI
  clear hI hs HI8 D1
  go_wp2_with fail
  refine (D2.out _ _ _ HI9.out).mono ?_; rintro e w10 ⟨rfl, hI, hs⟩
  have HI10 := Lib.hid hI
  clear hI hs HI9 D2
  go_wp2_with fail
  refine (LN.out _ _ _ HI10.out).mono ?_; rintro e w11 ⟨rfl, b11⟩
  have HF := Lib.hid (HI10.out.below b11).bel
  clear b11 HI10 LN
  go_wp2_with fail
  go_ret
  exact ⟨rfl, HF.out⟩
end Go.Proofs.Ytalpocgajecjbaa
