/- What Check, of package event, comes to. Conditions: the event's numbers fit. -/
import Derived.Test.YtkahdmhgfojbiaaEvF
namespace Go.Proofs.Ytkahdmhgfojbiaa
open Go.ChangeShapes Go.WideShapes Go.ChangeAt Go.RowKit
set_option linter.unusedVariables false
set_option maxRecDepth 100000
set_option linter.unusedSimpArgs false

theorem NB.form {K : Nat → Prop} {b : Nat} {ks : List Nat} {u : Value} {w : World} (h : NB K b ks u w) : ∃ rb o cap, u = .slice (some ⟨rb, o, none⟩) ks.length cap ∧ ks.length ≤ 5 := by
  obtain ⟨rb, o, cap, R, t, e, h1, h2, h3, h4, h5⟩ := h
  exact ⟨rb, o, cap, e, h1⟩
/-- A number of the list. -/
theorem NB.at {K : Nat → Prop} {b rb o n cap : Nat} {ks : List Nat} {w : World} (h : NB K b ks (.slice (some ⟨rb, o, none⟩) n cap) w) (i j : Nat) (hi : ks[i]? = some j) :
    ∃ F, w.cell? ⟨rb, o + i * 2, none⟩ = some (pt b j) ∧ w.cell? ⟨rb, o + i * 2 + 1, none⟩ = some F ∧ FnOk K b j F w := by
  obtain ⟨rb', o', cap', R, t, e, h1, h2, h3, h4, h5⟩ := h
  injection e with e1 e2 e3
  injection e1 with e1
  injection e1 with e1 e4
  subst e1 e4
  obtain ⟨F, g1, g2, g3⟩ := h5 i j hi
  exact ⟨F, (blk_cell h4 _).trans (by rw [Nat.mul_comm]; exact g1), (blk_cell h4 _).trans (by rw [Nat.mul_comm]; exact g2), g3⟩
theorem evt_new (w : World) (v : Evt) (t : TypeId) : (w.alloc (.cells v.cells t)).heap[w.heap.size]? = some (.cells v.cells t (0, 0)) := blk_new w _
set_option maxHeartbeats 4000000 in
theorem evcheck_any (v : Evt) (w : World) (hok : v.ok) : Calls Try.prog 8 #[v.val] w fun e w' => e = .returned (.int .i64 (checkE v)) ∧ Below w.heap.size w w' := by
  have hb0 : Below w.heap.size w (w.alloc (.cells v.cells 25)) := (Below.refl _ _).alloc (Nat.le_refl _) _
  have hz0 : (w.alloc (.cells v.cells 25)).heap.size = w.heap.size + 1 := by simp
  have hx0 := evt_new w v 25
  have HN := Lib.hid (numbers_any w.heap.size v.k (w.alloc (.cells v.cells 25)) (evt_cells hx0).1)
  rw [hz0] at HN
  have HNE := Lib.hid fun (w : World) (a b : Evt) => neE_run w a b
  have HNG := Lib.hid fun (w : World) (a b : Evt) (x y : Operand) => neE_guard w a b x y
  unfold Evt.val Evt.cells at *
  have HB0 := Lib.hid hb0
  have HX0 := Lib.hid hx0
  clear hb0 hx0
  obtain ⟨ks, hks⟩ : ∃ ks, idxE v.k = ks := ⟨_, rfl⟩
  rw [hks] at HN
  go_enter Try.func8, Try.ntmps8
  go_wp2_with fail
  generalize w.alloc (Obj.cells #[.int .i64 v.k, .int .i64 v.n, .int .i64 v.j, .int .i64 v.i, .int .i64 v.p, .int .i64 v.r.a, .int .i64 v.r.b, .int .i64 v.r.c] 25) = w1 at *
  refine HN.out.mono ?_
  rintro e w2 ⟨u, rfl, hnb, hb2⟩
  obtain ⟨rb, o, cap, rfl, hl5⟩ := hnb.form
  have HNB2 := Lib.hid hnb
  have HX2 := Lib.hid (blk_below hb2 HX0.out (by omega))
  have HB2 := Lib.hid (HB0.out.trans (hb2.mono (by omega)))
  clear hnb hb2
  by_cases h0 : ks.length = 0
  · have dk : decide ((ks.length : Int) = 0) = true := decide_eq_true (by omega)
    have HE := Lib.hid (show checkE v = 5 by
      unfold checkE
      rw [if_pos ((idx_none _).1 (by rw [hks]; exact List.eq_nil_of_length_eq_zero h0))])
    go_wp2_with fail
    go_ret
    exact ⟨by rw [HE.out]; rfl, HB2.out⟩
  · have dk : decide ((ks.length : Int) = 0) = false := decide_eq_false (by omega)
    have dk0 : ((ks.length : Int) == 0) = false := beq_eq_false_iff_ne.2 (by omega)
    have HL := Lib.hid (show lettersE v.k ≠ [] from fun e => h0 (by rw [← hks, (idx_none _).2 e]; rfl))
    go_wp2_with fail
    go_loopw [14] (fun i wr => ∃ m : Nat, m ≤ ks.length ∧ i = .int .i64 m ∧ (ks.take m).all (okAt v) = true ∧ wr.heap[w.heap.size]? = some (.cells #[.int .i64 v.k, .int .i64 v.n, .int .i64 v.j, .int .i64 v.i, .int .i64 v.p, .int .i64 v.r.a, .int .i64 v.r.b, .int .i64 v.r.c] 25 (0, 0)) ∧ NB (fun a => w.heap.size + 1 ≤ a) w.heap.size ks (.slice (some ⟨rb, o, none⟩) ks.length cap) wr ∧ Below w.heap.size w wr) (fun i _ => ks.length - (intOf i).toNat)
    case atStart => exact ⟨0, by omega, rfl, rfl, HX2.out, HNB2.out, HB2.out⟩
    case round =>
      clear HNB2 HX2 HB2 HN
      obtain ⟨m, hm, rfl, hall, hx, hnb, hb⟩ := hrel
      by_cases hlt : m < ks.length
      · have dk1 : decide ((m : Int) < ks.length) = true := decide_eq_true (by omega)
        have dk2 : (0 : Int) ≤ (m : Int) := by omega
        have dk3 : (m : Int) < (ks.length : Int) := by omega
        have q3 : IntKind.i64.wrap ((m : Int) + 1) = ((m + 1 : Nat) : Int) := by rw [IntWalk.i64_in _ (by omega)]; omega
        obtain ⟨j, hj⟩ : ∃ j, ks[m]? = some j := ⟨_, List.getElem?_eq_getElem hlt⟩
        obtain ⟨F, c1, c2, hF⟩ := hnb.at m j hj
        have hbl := (Below.refl wr.heap.size wr).alloc (Nat.le_refl _) (.cells #[pt w.heap.size j, F] 44)
        have hx' := blk_below hbl hx (lt_of_block hx)
        obtain ⟨f, cs, rfl, hcf, hC⟩ := fn_valid (v := v) (hF.below hbl) hx' hok
        have HC := Lib.hid hC
        have HX3 := Lib.hid hx'
        have HNB3 := Lib.hid (hnb.below hbl)
        have HB3 := Lib.hid (hb.trans (hbl.mono hb.size))
        have HA := Lib.hid (show (ks.take (m + 1)).all (okAt v) = okAt v j by
          obtain ⟨_, hj'⟩ := List.getElem?_eq_some_iff.1 hj
          rw [List.take_succ_eq_append_getElem hlt, List.all_append, hall, hj']; simp)
        have HAF := Lib.hid (show okAt v j = false → checkE v = 1 from fun h => by
          unfold checkE
          rw [if_neg HL.out, if_pos]
          rw [idx_all, hks]
          exact Bool.eq_false_iff.2 fun hh => by
            have := List.all_eq_true.1 hh j (List.mem_of_getElem? hj)
            rw [h] at this; cases this)
        clear hall hx hnb hb hF hbl hx' hC hj
        go_wp2_with fail
        refine HC.out.mono ?_
        rintro e w3 ⟨rfl, hb3⟩
        have HX4 := Lib.hid (blk_below hb3 HX3.out (lt_of_block HX3.out))
        have HNB4 := Lib.hid (HNB3.out.below hb3)
        have HB4 := Lib.hid (HB3.out.trans (hb3.mono HB3.out.size))
        clear hb3 HC HX3 HNB3 HB3
        cases hv : okAt v j with
        | true =>
          have HA1 := Lib.hid (HA.out.trans hv)
          clear HA HAF hv
          go_wp2_with fail
          go_roundw
          case rel => exact ⟨m + 1, by omega, rfl, HA1.out, HX4.out, HNB4.out, HB4.out⟩
          case measure => simp [intOf]; omega
        | false =>
          have HE := Lib.hid (HAF.out hv)
          clear HA HAF hv
          go_wp2_with fail
          go_ret
          exact ⟨by rw [HE.out]; rfl, HB4.out⟩
      · obtain rfl : m = ks.length := by omega
        have dk1 : decide ((ks.length : Int) < ks.length) = false := decide_eq_false (by omega)
        have HALL := Lib.hid (show (lettersE v.k).all (okFv v) = true by rw [idx_all, hks, ← hall, List.take_length])
        have HX0' := Lib.hid hx
        have HNB0 := Lib.hid hnb
        have HBB := Lib.hid hb
        clear hall hx hnb hb
        go_wp2_with fail
        go_loopw [25] (fun i wr => ∃ m : Nat, m ≤ ks.length ∧ i = .int .i64 m ∧ wr.heap[w.heap.size]? = some (.cells (bareE v m).cells 25 (0, 0)) ∧ NB (fun a => w.heap.size + 1 ≤ a) w.heap.size ks (.slice (some ⟨rb, o, none⟩) ks.length cap) wr ∧ Below w.heap.size w wr) (fun i _ => ks.length - (intOf i).toNat)
        case atStart => exact ⟨0, by omega, rfl, by rw [bareE_zero]; exact HX0'.out, HNB0.out, HBB.out⟩
        case round =>
          clear HX0' HNB0 HBB
          obtain ⟨m, hm, rfl, hx, hnb, hb⟩ := hrel
          by_cases hlt : m < ks.length
          · have dk3 : decide ((m : Int) < ks.length) = true := decide_eq_true (by omega)
            have dk4 : (0 : Int) ≤ (m : Int) := by omega
            have dk5 : (m : Int) < (ks.length : Int) := by omega
            have q3 : IntKind.i64.wrap ((m : Int) + 1) = ((m + 1 : Nat) : Int) := by rw [IntWalk.i64_in _ (by omega)]; omega
            obtain ⟨j, hj⟩ : ∃ j, ks[m]? = some j := ⟨_, List.getElem?_eq_getElem hlt⟩
            obtain ⟨F, c1, c2, hF⟩ := hnb.at m j hj
            have hone := hF.one
            have ho1 : ∀ a w m, (store a F m).run Try.prog w = stored Try.prog w a F m := fun a w m => run_store _ w a _ m hone
            have hj8 := idx_lt v.k j (by rw [hks]; exact List.mem_of_getElem? hj)
            have hbl := (Below.refl wr.heap.size wr).alloc (Nat.le_refl _) (.cells #[pt w.heap.size j, F] 44)
            have hx' := blk_below hbl hx (lt_of_block hx)
            have fz := blk_free hx' j
            obtain ⟨x, hxc⟩ : ∃ x, (wr.alloc (.cells #[pt w.heap.size j, F] 44)).cell? ⟨w.heap.size, j, none⟩ = some (.int .i64 x) := ⟨_, evt_at hx' j hj8.2⟩
            have hx2 := blk_set hx' j (.int .i64 0)
            rw [setE_cells _ _ _ hj8, ← bareE_succ v m j (by rw [hks]; exact hj)] at hx2
            have HX5 := Lib.hid hx2
            have HNB5 := Lib.hid ((hnb.below hbl).keep (w' := (wr.alloc (.cells #[pt w.heap.size j, F] 44)).setCell ⟨w.heap.size, j, none⟩ (.int .i64 0)) fun a ob ha ho => blk_far _ ho (by simp; omega))
            have HB5 := Lib.hid ((hb.trans (hbl.mono hb.size)).setCell (p := ⟨w.heap.size, j, none⟩) (Nat.le_refl _) (.int .i64 0))
            clear hx hnb hb hF hone hbl hx' hx2 hj
            go_wp2_with fail
            go_roundw
            case rel => exact ⟨m + 1, by omega, rfl, HX5.out, HNB5.out, HB5.out⟩
            case measure => simp [intOf]; omega
          · obtain rfl : m = ks.length := by omega
            have dk3 : decide ((ks.length : Int) < ks.length) = false := decide_eq_false (by omega)
            have HP := Lib.hid (bare_pure v (by rw [hks]; intro e; exact h0 (by rw [e]; rfl)))
            rw [hks] at HP
            have HK := Lib.hid (bareE_k v ks.length)
            obtain ⟨y0, y1, y2, y3, y4, y5, y6, y7⟩ := evt_cells hx
            have HB6 := Lib.hid hb
            have hnc : ∀ w', (binOp .neq 25 (.agg (bareE v ks.length).cells) (.agg #[.int .i64 v.k, .int .i64 0, .int .i64 0, .int .i64 0, .int .i64 0, .int .i64 0, .int .i64 0, .int .i64 0])).run Try.prog w' = .ok (.bool (!eqE (pureE v) v)) w' := fun w' => by
              have := neE_run w' (bareE v ks.length) ⟨v.k, 0, 0, 0, 0, zero3⟩
              rw [HP.out] at this
              exact this
            have hng : ∀ w' x y, (eqGuard .neq 25 x y (.agg (bareE v ks.length).cells) (.agg #[.int .i64 v.k, .int .i64 0, .int .i64 0, .int .i64 0, .int .i64 0, .int .i64 0, .int .i64 0, .int .i64 0])).run Try.prog w' = .ok () w' := fun w' x y =>
              neE_guard w' (bareE v ks.length) ⟨v.k, 0, 0, 0, 0, zero3⟩ x y
            have HC1 := Lib.hid (show eqE (pureE v) v = true → checkE v = 0 from fun h => by
              unfold checkE; rw [if_neg HL.out, if_neg (by rw [HALL.out]; simp), if_neg (by rw [h]; simp)])
            have HC2 := Lib.hid (show eqE (pureE v) v = false → checkE v = 1 from fun h => by
              unfold checkE; rw [if_neg HL.out, if_neg (by rw [HALL.out]; simp), if_pos h])
            rw [HK.out] at y0
            unfold Evt.cells at hnc hng
            rw [HK.out] at hnc hng
            generalize eqE (pureE v) v = q at *
            generalize (bareE v ks.length).n = z1, (bareE v ks.length).j = z2, (bareE v ks.length).i = z3, (bareE v ks.length).p = z4, (bareE v ks.length).r.a = z5, (bareE v ks.length).r.b = z6, (bareE v ks.length).r.c = z7 at *
            clear hx hnb hb HP HK
            cases q with
            | true =>
              have HE := Lib.hid (HC1.out rfl)
              clear HC1 HC2
              go_wp2_with fail
              go_ret
              exact ⟨by rw [HE.out]; rfl, HB6.out⟩
            | false =>
              have HE := Lib.hid (HC2.out rfl)
              clear HC1 HC2
              go_wp2_with fail
              go_ret
              exact ⟨by rw [HE.out]; rfl, HB6.out⟩
end Go.Proofs.Ytkahdmhgfojbiaa
