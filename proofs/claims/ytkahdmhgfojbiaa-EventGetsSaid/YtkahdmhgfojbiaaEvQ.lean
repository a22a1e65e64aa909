/- What Pure, of package event, comes to. Conditions: the event's numbers fit. -/
import Derived.Test.YtkahdmhgfojbiaaEvP
namespace Go.Proofs.Ytkahdmhgfojbiaa
open Go.ChangeShapes Go.WideShapes Go.ChangeAt Go.RowKit
set_option linter.unusedVariables false
set_option maxRecDepth 100000
set_option linter.unusedSimpArgs false

theorem FnOk.lt {K : Nat → Prop} {b j : Nat} {F : Value} {w : World} (h : FnOk K b j F w) : FnOk (fun a => K a ∧ a < w.heap.size) b j F w := by
  rcases h with ⟨a, l, m, lo, hi, k1, k2, k3, e, h1, h2, h3, h4⟩ | ⟨a, k1, e, h1, h2⟩
  · exact .inl ⟨a, l, m, lo, hi, ⟨k1, lt_of_block h1⟩, ⟨k2, lt_of_block h2⟩, ⟨k3, lt_of_block h3⟩, e, h1, h2, h3, h4⟩
  · exact .inr ⟨a, ⟨k1, lt_of_block h1⟩, e, h1, h2⟩
theorem NB.lt {K : Nat → Prop} {b : Nat} {ks : List Nat} {u : Value} {w : World} (h : NB K b ks u w) : NB (fun a => K a ∧ a < w.heap.size) b ks u w := by
  obtain ⟨rb, o, cap, R, t, e, h1, h2, h3, h4, h5⟩ := h
  exact ⟨rb, o, cap, R, t, e, h1, h2, ⟨h3, lt_of_block h4⟩, h4, fun i j hij => by
    obtain ⟨F, g1, g2, g3⟩ := h5 i j hij
    exact ⟨F, g1, g2, g3.lt⟩⟩
/-- The numbers of v laid so far into a bare event. -/
def partE (v : Evt) (m : Nat) : Evt := layE ((idxE v.k).take m) (((idxE v.k).map fun j => (intsE v).getD j 0).take m) ⟨v.k, 0, 0, 0, 0, zero3⟩
theorem partE_zero (v : Evt) : partE v 0 = ⟨v.k, 0, 0, 0, 0, zero3⟩ := by unfold partE; rw [List.take_zero]; rfl
theorem partE_succ (v : Evt) (m : Nat) (j : Nat) (h : (idxE v.k)[m]? = some j) : partE v (m + 1) = setE (partE v m) j ((intsE v).getD j 0) := by
  obtain ⟨hm, hj⟩ := List.getElem?_eq_some_iff.1 h
  unfold partE
  rw [List.take_succ_eq_append_getElem hm, List.take_succ_eq_append_getElem (by simpa using hm), hj, List.getElem_map, hj, layE_snoc v j _ _ _ _ (by simp)]
theorem partE_all (v : Evt) (h : idxE v.k ≠ []) : partE v (idxE v.k).length = pureE v := by
  unfold partE pureE
  rw [if_neg (fun e => h ((idx_none _).2 e)), List.take_length, ← idx_made _ _ (by rw [idx_nums]; simp), idx_nums]
  rw [List.take_of_length_le (by simp)]
set_option maxHeartbeats 4000000 in
theorem evpure_any (v : Evt) (w : World) (hok : v.ok) : Calls Try.prog 10 #[v.val] w fun e w' => e = .returned (pureE v).val ∧ Below w.heap.size w w' := by
  have hb0 : Below w.heap.size w ((w.alloc (.cells v.cells 25)).alloc (.cells zeroE.cells 25)) := ((Below.refl _ _).alloc (Nat.le_refl _) _).alloc (by simp) _
  have hz0 : ((w.alloc (.cells v.cells 25)).alloc (.cells zeroE.cells 25)).heap.size = w.heap.size + 1 + 1 := by simp
  have hx0 : ((w.alloc (.cells v.cells 25)).alloc (.cells zeroE.cells 25)).heap[w.heap.size]? = some (.cells v.cells 25 (0, 0)) := blk_old _ (evt_new w v _)
  have hr0 : ((w.alloc (.cells v.cells 25)).alloc (.cells zeroE.cells 25)).heap[w.heap.size + 1]? = some (.cells zeroE.cells 25 (0, 0)) := blk_at _ _ _ (by simp)
  have HN := Lib.hid fun b k W hx => numbers_any b k W hx
  unfold Evt.val Evt.cells zeroE zero3 at *
  have HB0 := Lib.hid hb0
  have HX0 := Lib.hid hx0
  have HR0 := Lib.hid hr0
  clear hb0 hx0 hr0
  go_enter Try.func10, Try.ntmps10
  go_wp2_with fail
  generalize (w.alloc (Obj.cells #[.int .i64 v.k, .int .i64 v.n, .int .i64 v.j, .int .i64 v.i, .int .i64 v.p, .int .i64 v.r.a, .int .i64 v.r.b, .int .i64 v.r.c] 25)).alloc (Obj.cells #[.int .i64 0, .int .i64 0, .int .i64 0, .int .i64 0, .int .i64 0, .int .i64 0, .int .i64 0, .int .i64 0] 25) = w1 at *
  refine (HN.out w.heap.size v.k w1 (evt_cells (v := v) HX0.out).1).mono ?_
  rintro e w2 ⟨u, rfl, hnb, hb2⟩
  rw [hz0] at hnb hb2
  obtain ⟨ks, hks⟩ : ∃ ks, idxE v.k = ks := ⟨_, rfl⟩
  rw [hks] at hnb
  obtain ⟨rb, o, cap, rfl, hl5⟩ := hnb.form
  have HX2 := Lib.hid (blk_below hb2 HX0.out (by omega))
  have HR2 := Lib.hid (blk_below hb2 HR0.out (by omega))
  have HB2 := Lib.hid (HB0.out.trans (hb2.mono (by omega)))
  have HNB2 := Lib.hid hnb.lt
  have hsz2 : w.heap.size + 1 + 1 ≤ w2.heap.size := by have := hb2.size; omega
  clear hnb hb2 HX0 HR0 HB0
  by_cases h0 : ks.length = 0
  · have dk : decide ((ks.length : Int) = 0) = true := decide_eq_true (by omega)
    have dk0 : ((ks.length : Int) == 0) = true := beq_iff_eq.2 (by omega)
    have HE := Lib.hid (show pureE v = zeroE by
      unfold pureE
      rw [if_pos ((idx_none _).1 (by rw [hks]; exact List.eq_nil_of_length_eq_zero h0))])
    obtain ⟨e0, e1, e2, e3, e4, e5, e6, e7⟩ := evt_cells (v := ⟨0, 0, 0, 0, 0, ⟨0, 0, 0⟩⟩) HR2.out
    have fz := fun o => blk_free HR2.out o
    go_wp2_with fail
    exact bodyPost_ret (results_ce rfl rfl (evt_set (v := zeroE) (u := zeroE) HR2.out) Try.underlying25 rfl (by kernel_rfl)) rfl ⟨by rw [HE.out]; rfl, HB2.out.trans ((evt_only w2 (w.heap.size + 1) zeroE).below (by omega) (by omega))⟩
  · have dk : decide ((ks.length : Int) = 0) = false := decide_eq_false (by omega)
    have dk0 : ((ks.length : Int) == 0) = false := beq_eq_false_iff_ne.2 (by omega)
    obtain ⟨y0, y1, y2, y3, y4, y5, y6, y7⟩ := evt_cells (v := v) HX2.out
    have hbp : Below w2.heap.size w2 (w2.alloc (.cells #[.int .i64 v.k, .int .i64 0, .int .i64 0, .int .i64 0, .int .i64 0, .int .i64 0, .int .i64 0, .int .i64 0] 25)) := (Below.refl _ _).alloc (Nat.le_refl _) _
    have HP3 := Lib.hid (show (w2.alloc (.cells #[.int .i64 v.k, .int .i64 0, .int .i64 0, .int .i64 0, .int .i64 0, .int .i64 0, .int .i64 0, .int .i64 0] 25)).heap[w2.heap.size]? = some (.cells #[.int .i64 v.k, .int .i64 0, .int .i64 0, .int .i64 0, .int .i64 0, .int .i64 0, .int .i64 0, .int .i64 0] 25 (0, 0)) from blk_new w2 _)
    have HX3 := Lib.hid (blk_below hbp HX2.out (lt_of_block HX2.out))
    have HR3 := Lib.hid (blk_below hbp HR2.out (lt_of_block HR2.out))
    have HB3 := Lib.hid (HB2.out.trans (hbp.mono HB2.out.size))
    have HNB3 := Lib.hid (HNB2.out.below hbp)
    have hsz3 : w2.heap.size < (w2.alloc (.cells #[.int .i64 v.k, .int .i64 0, .int .i64 0, .int .i64 0, .int .i64 0, .int .i64 0, .int .i64 0, .int .i64 0] 25)).heap.size := by simp
    clear hbp HX2 HR2 HB2 HNB2
    go_wp2_with fail
    generalize w2.alloc (Obj.cells #[.int .i64 v.k, .int .i64 0, .int .i64 0, .int .i64 0, .int .i64 0, .int .i64 0, .int .i64 0, .int .i64 0] 25) = w3 at *
    refine (HN.out w2.heap.size v.k w3 (evt_cells (v := ⟨v.k, 0, 0, 0, 0, ⟨0, 0, 0⟩⟩) HP3.out).1).mono ?_
    rintro e w4 ⟨u2, rfl, hnb, hb4⟩
    rw [hks] at hnb
    obtain ⟨rb2, o2, cap2, rfl, _⟩ := hnb.form
    have HX4 := Lib.hid (blk_below hb4 HX3.out (lt_of_block HX3.out))
    have HR4 := Lib.hid (blk_below hb4 HR3.out (lt_of_block HR3.out))
    have HP4 := Lib.hid (blk_below hb4 HP3.out (lt_of_block HP3.out))
    have HB4 := Lib.hid (HB3.out.trans (hb4.mono HB3.out.size))
    have HNB4 := Lib.hid (HNB3.out.below hb4)
    have HNC4 := Lib.hid hnb
    clear hnb hb4 HX3 HR3 HP3 HB3 HNB3 HN y0 y1 y2 y3 y4 y5 y6 y7
    go_wp2_with fail
    go_loopw [17] (fun i wr => ∃ m : Nat, m ≤ ks.length ∧ i = .int .i64 m ∧ wr.heap[w.heap.size]? = some (.cells v.cells 25 (0, 0)) ∧ wr.heap[w.heap.size + 1]? = some (.cells zeroE.cells 25 (0, 0)) ∧ wr.heap[w2.heap.size]? = some (.cells (partE v m).cells 25 (0, 0)) ∧
      NB (fun a => w.heap.size + 1 + 1 ≤ a ∧ a < w2.heap.size) w.heap.size ks (.slice (some ⟨rb, o, none⟩) ks.length cap) wr ∧ NB (fun a => w3.heap.size ≤ a) w2.heap.size ks (.slice (some ⟨rb2, o2, none⟩) ks.length cap2) wr ∧ Below w.heap.size w wr) (fun i _ => ks.length - (intOf i).toNat)
    case atStart => exact ⟨0, by omega, rfl, HX4.out, HR4.out, by rw [partE_zero]; exact HP4.out, HNB4.out, HNC4.out, HB4.out⟩
    case round =>
      clear HX4 HR4 HP4 HNB4 HNC4 HB4
      obtain ⟨m, hm, rfl, hx, hr, hp, hnb, hnc, hb⟩ := hrel
      by_cases hlt : m < ks.length
      · have dk3 : decide ((m : Int) < ks.length) = true := decide_eq_true (by omega)
        have dk4 : (0 : Int) ≤ (m : Int) := by omega
        have dk5 : (m : Int) < (ks.length : Int) := by omega
        have q3 : IntKind.i64.wrap ((m : Int) + 1) = ((m + 1 : Nat) : Int) := by rw [IntWalk.i64_in _ (by omega)]; omega
        obtain ⟨j, hj⟩ : ∃ j, ks[m]? = some j := ⟨_, List.getElem?_eq_getElem hlt⟩
        have hj8 := idx_lt v.k j (by rw [hks]; exact List.mem_of_getElem? hj)
        obtain ⟨F, c1, c2, hF⟩ := hnc.at m j hj
        have hone := hF.one
        have ho1 : ∀ a w m, (store a F m).run Try.prog w = stored Try.prog w a F m := fun a w m => run_store _ w a _ m hone
        have hbl := (Below.refl wr.heap.size wr).alloc (Nat.le_refl _) (.cells #[pt w2.heap.size j, F] 44)
        have HX5 := Lib.hid (blk_below hbl hx (lt_of_block hx))
        have HR5 := Lib.hid (blk_below hbl hr (lt_of_block hr))
        have HP5 := Lib.hid (blk_below hbl hp (lt_of_block hp))
        have HNB5 := Lib.hid (hnb.below hbl)
        have HNC5 := Lib.hid (hnc.below hbl)
        have HB5 := Lib.hid (hb.trans (hbl.mono hb.size))
        have HL5 := Lib.hid (blk_new wr (.cells #[pt w2.heap.size j, F] 44))
        have hz5 : (wr.alloc (.cells #[pt w2.heap.size j, F] 44)).heap.size = wr.heap.size + 1 := by simp
        clear hx hr hp hnb hnc hb hF hbl
        go_wp2_with fail
        generalize wr.alloc (Obj.cells #[pt w2.heap.size j, F] 44) = w5 at *
        have e1 := blk_cell HL5.out 0
        obtain ⟨G, d1, d2, hG⟩ := HNB5.out.at m j hj
        obtain ⟨x, hx⟩ : ∃ x, (intsE v).getD j 0 = x := ⟨_, rfl⟩
        have xv := evt_at HX5.out j hj8.2
        rw [hx] at xv
        have xp := evt_at HP5.out j hj8.2
        have fz := blk_free HP5.out j
        go_still_tail 10, (by kernel_rfl)
        change wpList _ _ _ _ _ w5.drew
        have HX6 := Lib.hid (show w5.drew.heap[w.heap.size]? = some (.cells v.cells 25 (0, 0)) from HX5.out)
        have HR6 := Lib.hid (show w5.drew.heap[w.heap.size + 1]? = some (.cells zeroE.cells 25 (0, 0)) from HR5.out)
        have HP6 := Lib.hid (show w5.drew.heap[w2.heap.size]? = some (.cells (partE v m).cells 25 (0, 0)) from HP5.out)
        have HNB6 := Lib.hid (HNB5.out.keep (w' := w5.drew) fun a ob _ ho => ho)
        have HNC6 := Lib.hid (HNC5.out.keep (w' := w5.drew) fun a ob _ ho => ho)
        have HB6 := Lib.hid (HB5.out.drew)
        have hz6 : w5.drew.heap.size = wr.heap.size + 1 := hz5
        clear HX5 HR5 HP5 HNB5 HNC5 HB5 HL5 hG e1 c1 c2 d1 d2 xp fz hz5 xv
        generalize w5.drew = w6 at *
        have xp := evt_at HP6.out j hj8.2
        have fz := blk_free HP6.out j
        have HWX := Lib.hid (show ∀ x, ((w6.setCell ⟨w2.heap.size, j, none⟩ (.int .i64 x)).heap[w.heap.size]? = some (.cells v.cells 25 (0, 0)) ∧ (w6.setCell ⟨w2.heap.size, j, none⟩ (.int .i64 x)).heap[w.heap.size + 1]? = some (.cells zeroE.cells 25 (0, 0))) from fun x => ⟨blk_far _ HX6.out (by simp; omega), blk_far _ HR6.out (by simp; omega)⟩)
        have HWP := Lib.hid (show (w6.setCell ⟨w2.heap.size, j, none⟩ (.int .i64 x)).heap[w2.heap.size]? = some (.cells (partE v (m + 1)).cells 25 (0, 0)) by
          have h := blk_set HP6.out j (.int .i64 x)
          rwa [setE_cells _ _ _ hj8, ← hx, ← partE_succ v m j (by rw [hks]; exact hj), hx] at h)
        have HWN := Lib.hid (show ∀ x, NB (fun a => w.heap.size + 1 + 1 ≤ a ∧ a < w2.heap.size) w.heap.size ks (.slice (some ⟨rb, o, none⟩) ks.length cap) (w6.setCell ⟨w2.heap.size, j, none⟩ (.int .i64 x)) ∧ NB (fun a => w3.heap.size ≤ a) w2.heap.size ks (.slice (some ⟨rb2, o2, none⟩) ks.length cap2) (w6.setCell ⟨w2.heap.size, j, none⟩ (.int .i64 x)) from
          fun x => ⟨HNB6.out.keep fun a ob ha ho => blk_far _ ho (by simp; omega), HNC6.out.keep fun a ob ha ho => blk_far _ ho (by simp; omega)⟩)
        have HWB := Lib.hid (show ∀ x, Below w.heap.size w (w6.setCell ⟨w2.heap.size, j, none⟩ (.int .i64 x)) from fun x => HB6.out.setCell (p := ⟨w2.heap.size, j, none⟩) (by simp; omega) (.int .i64 x))
        clear hx
        generalize (intsE (partE v m)).getD j 0 = x' at *
        clear HX6 HR6 HP6 HNB6 HNC6 HB6 hj
        go_wp2_with fail
        go_roundw
        case rel => exact ⟨m + 1, by omega, rfl, (HWX.out _).1, (HWX.out _).2, HWP.out, (HWN.out _).1, (HWN.out _).2, HWB.out _⟩
        case measure => simp [intOf]; omega
      · obtain rfl : m = ks.length := by omega
        have dk3 : decide ((ks.length : Int) < ks.length) = false := decide_eq_false (by omega)
        have HPA := Lib.hid (partE_all v (by rw [hks]; intro e; exact h0 (by rw [e]; rfl)))
        rw [hks] at HPA
        rw [HPA.out] at hp
        have HRF := Lib.hid hr
        have HBF := Lib.hid hb
        obtain ⟨e0, e1, e2, e3, e4, e5, e6, e7⟩ := evt_cells hr
        obtain ⟨g0, g1, g2, g3, g4, g5, g6, g7⟩ := evt_cells hp
        have fz := fun o => blk_free hr o
        clear hx hr hp hnb hnc hb
        go_wp2_with fail
        exact bodyPost_ret (results_ce rfl rfl (evt_set (v := pureE v) HRF.out) Try.underlying25 rfl (by kernel_rfl)) rfl ⟨rfl, HBF.out.trans ((evt_only wr (w.heap.size + 1) (pureE v)).below (by omega) HBF.out.size)⟩
end Go.Proofs.Ytkahdmhgfojbiaa
