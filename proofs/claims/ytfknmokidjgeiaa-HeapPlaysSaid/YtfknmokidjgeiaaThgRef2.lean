/- What the document's own answers for things with keys come to: Ids, Put. Conditions: lists of at most 100,000 things. -/
import Derived.Test.YtfknmokidjgeiaaThgRef
import Derived.Laws.AppendOwnNone
namespace Go.Proofs.Ytfknmokidjgeiaa
open Go.ChangeShapes Go.WideShapes Go.ChangeAt Go.RowKit
set_option linter.unusedVariables false
set_option maxRecDepth 100000
set_option linter.unusedSimpArgs false

theorem rows_one (l : List Thg) : ∀ u ∈ (rowsT l).flatten, u.oneCell' = true := by
  intro u hu
  obtain ⟨r, hr, hu⟩ := List.mem_flatten.1 hu
  obtain ⟨t, _, rfl⟩ := List.mem_map.1 hr
  exact row_four t u hu
/-- A result that is a slice of numbers. -/
def IntsN (l : List Int) (w : World) (e : Ending) (w' : World) : Prop :=
  ∃ v, e = .returned v ∧ Rd w' w'.heap.size v (ints l) ∧ Below w.heap.size w w'
set_option maxHeartbeats 2000000 in
theorem k9ids_any (v : Value) (l : List Thg) (K : Nat → Prop) (w : World) (hn : l.length ≤ 100000) (h : RdK 4 w K v (rowsT l)) :
    Calls Try.prog 21 #[v] w (IntsN (idsT l) w) := by
  obtain ⟨i0, hi, hz0, hz1, hz2⟩ := info_parts infoI64
  obtain ⟨A, c, rfl, hc, _⟩ := h.form
  have H := Lib.hid fun k (hk : k < l.length) => h.at_ (k := k) (by rw [rowsT_len]; exact hk)
  rw [rowsT_len]
  clear h hc
  go_enter Try.func21, Try.ntmps21
  go_wp2_with fail
  go_loopw [3, 4] (fun v i wr => ∃ k : Nat, k ≤ l.length ∧ i = .int .i64 k ∧ wr.ownsRow w.heap.size 3 1 v k (ints (idsT (l.take k))) ∧ Below w.heap.size w wr) (fun _ i _ => l.length - (intOf i).toNat)
  case atStart => exact ⟨0, by omega, rfl, World.ownsRow_nil _ _ _ _, Below.refl _ _⟩
  case round =>
    obtain ⟨k, hk, rfl, hown, hb⟩ := hrel
    have HO := Lib.hid hown
    have HB := Lib.hid hb
    have hw3 : w.heap.size ≤ wr.heap.size := hb.size
    clear hown hb
    by_cases hlt : k < l.length
    · obtain ⟨b, o, rfl, hbl, _, hx⟩ := H.out k hlt
      have g0 : wr.cell? ⟨b, o + k * 4, none⟩ = some (.int .i64 l[k].id) := (HB.out.cell (p := ⟨b, o + k * 4, none⟩) hbl).trans (hx k _ (rowsT_get l k hlt) 0 _ rfl)
      have dk : decide (k < l.length) = true := decide_eq_true hlt
      have HT := Lib.hid (idsT_take l k hlt)
      clear hx
      generalize l[k].id = T at *
      go_wp2_with (at_builtin; refine wpList_append_own _ rfl _ _ 50 rfl w.heap.size 3 i0 (.int .i64 0) 1 8 Try.underlying50 hi hz0 hz1 hz2 rfl (by decide) _ _ _ rfl (HO.out.alloc _) ⟨wr.heap.size, 0, none⟩ 1 1 [.int .i64 T] rfl rfl (cell_one_new _ _ _) ?c2 ?c3 ?c4 ?c5 ?_)
      case c2 => intro u hu; simp at hu; subst hu; rfl
      case c3 => unfold maxLen; omega
      case c4 => omega
      case c5 => simp; omega
      intro v' w4 hown4 hgrow _
      have HB4 := Lib.hid (grown_below (HB.out.alloc (HB.out.size) _) hgrow (fun g hg => owns_row HO.out hg) (by simp; omega))
      have hown4' : w4.ownsRow w.heap.size 3 1 v' (k + 1) (ints (idsT (l.take (k + 1)))) := by
        rw [HT.out]
        simpa [ints] using hown4
      have HO4 := Lib.hid hown4'
      clear hown4 hown4' hgrow
      go_wp2_with fail
      go_roundw
      case rel => exact ⟨k + 1, by omega, by go_num, HO4.out, HB4.out⟩
      case measure => simp [intOf]; omega
    · obtain rfl : k = l.length := by omega
      have dk : decide (l.length < l.length) = false := decide_eq_false hlt
      rw [List.take_length] at HO
      have HR := Lib.hid (Rd.own HO.out)
      obtain ⟨A2, c2, rfl, _, _⟩ := HR.out.form
      go_wp2_with fail
      go_ret
      exact ⟨_, rfl, HR.out, HB.out⟩
set_option maxHeartbeats 4000000 in
theorem k9put_any (v : Value) (l : List Thg) (x : Thg) (K : Nat → Prop) (w : World) (hn : l.length ≤ 100000) (h : RdK 4 w K v (rowsT l)) :
    Calls Try.prog 12 #[v, x.val] w (ThgsR (putT l x) w) := by
  obtain ⟨i0, hi, hz0, hz1, hz2⟩ := info_parts infoT
  have HX := Lib.hid fun (k : Nat) h1 h2 h3 => putT_at l x k h1 h2 h3
  have hdl := dropT_len l x.id
  have D1 := k9drop_any v l x.id K (w.alloc (.cells #[.int .i64 x.id, .int .i64 x.key.a, .int .i64 x.key.b, .int .i64 x.key.c] 41)) hn (h.below ((Below.refl _ _).alloc (Nat.le_refl _) _))
  unfold ThgsR at D1
  have D1 := Lib.hid D1
  obtain ⟨A, c, rfl, hc, _⟩ := h.form
  have hbx : (w.alloc (.cells #[.int .i64 x.id, .int .i64 x.key.a, .int .i64 x.key.b, .int .i64 x.key.c] 41)).heap[w.heap.size]? = some (.cells #[.int .i64 x.id, .int .i64 x.key.a, .int .i64 x.key.b, .int .i64 x.key.c] 41 (0, 0)) := blk_new _ _
  have HBX := Lib.hid hbx
  clear h hc hbx
  generalize dropT l x.id = D at *
  unfold Thg.val
  obtain ⟨c0, c1, c2, c3⟩ := thg_cells _ x x _ HBX.out
  go_enter Try.func12, Try.ntmps12
  go_wp2_with fail
  clear c0 c1 c2 c3
  refine D1.out.mono ?_; rintro e w1 ⟨vD, rfl, hrd, hb1, hform⟩
  have HRD := Lib.hid hrd
  have HBX1 := Lib.hid ((hb1.block _ (lt_of_block HBX.out)).trans HBX.out)
  have HB1 := Lib.hid (((Below.refl w.heap.size w).alloc (Nat.le_refl _) (.cells #[.int .i64 x.id, .int .i64 x.key.a, .int .i64 x.key.b, .int .i64 x.key.c] 41)).trans (hb1.mono (by simp)))
  have HFM := Lib.hid hform
  obtain ⟨AD, cD, rfl, hcD, _⟩ := hrd.form
  rw [rowsT_len] at hcD HRD HFM ⊢
  clear hrd hb1 hform D1 HBX
  go_wp2_with fail
  go_loopw [5, 6] (fun v i wr => ∃ k : Nat, k ≤ D.length ∧ i = .int .i64 k ∧ wr.ownsRow w1.heap.size 41 4 v k (rowsT (D.take k)).flatten ∧ Below w1.heap.size w1 wr ∧ (∀ i (hi : i < D.length), i < k → aheadT D[i] x = true)) (fun _ i _ => D.length - (intOf i).toNat)
  case atStart => exact ⟨0, by omega, rfl, World.ownsRow_nil _ _ _ _, Below.refl _ _, fun i _ h => absurd h (by omega)⟩
  case round =>
    obtain ⟨k, hk, rfl, hown, hb, hall⟩ := hrel
    have hw3 : w1.heap.size ≤ wr.heap.size := hb.size
    have HXC := Lib.hid (show ∀ w', Below wr.heap.size wr w' → (w'.cell? ⟨w.heap.size, 0, none⟩ = some (.int .i64 x.id) ∧ w'.cell? ⟨w.heap.size, 1, none⟩ = some (.int .i64 x.key.a) ∧ w'.cell? ⟨w.heap.size, 2, none⟩ = some (.int .i64 x.key.b) ∧ w'.cell? ⟨w.heap.size, 3, none⟩ = some (.int .i64 x.key.c)) from fun w' hb' => thg_cells w' x x _ ((hb'.block _ (by have := lt_of_block HBX1.out; omega)).trans ((hb.block _ (lt_of_block HBX1.out)).trans HBX1.out)))
    have HO := Lib.hid hown
    have HB := Lib.hid hb
    have HALL := Lib.hid hall
    clear hown hb hall
    by_cases hgo : ∃ h : k < D.length, aheadT (D[k]'h) x = true
    · obtain ⟨hlt, ha⟩ := hgo
      obtain ⟨b, o, rfl, hbl, _, hx⟩ := HRD.out.at_ (k := k) (by rw [rowsT_len]; exact hlt)
      have HL := Lib.hid (show ∀ w', Below wr.heap.size wr w' → (w'.cell? ⟨b, o + k * 4, none⟩ = some (.int .i64 D[k].id) ∧ w'.cell? ⟨b, o + k * 4 + 1, none⟩ = some (.int .i64 D[k].key.a) ∧ w'.cell? ⟨b, o + k * 4 + 2, none⟩ = some (.int .i64 D[k].key.b) ∧ w'.cell? ⟨b, o + k * 4 + 3, none⟩ = some (.int .i64 D[k].key.c)) from fun w' hb' => by
        have hq := HB.out.trans (hb'.mono hw3)
        exact ⟨(hq.cell (p := ⟨b, o + k * 4, none⟩) hbl).trans (hx k _ (rowsT_get D k hlt) 0 _ rfl), (hq.cell (p := ⟨b, o + k * 4 + 1, none⟩) hbl).trans (hx k _ (rowsT_get D k hlt) 1 _ rfl), (hq.cell (p := ⟨b, o + k * 4 + 2, none⟩) hbl).trans (hx k _ (rowsT_get D k hlt) 2 _ rfl), (hq.cell (p := ⟨b, o + k * 4 + 3, none⟩) hbl).trans (hx k _ (rowsT_get D k hlt) 3 _ rfl)⟩)
      have dk : decide (k < D.length) = true := decide_eq_true hlt
      have AH := fun w => k9ahead_any D[k] x w
      rw [ha] at AH
      unfold Thg.val at AH
      have HTK := Lib.hid (show (rowsT (D.take (k + 1))).flatten = (rowsT (D.take k)).flatten ++ [.int .i64 D[k].id, .int .i64 D[k].key.a, .int .i64 D[k].key.b, .int .i64 D[k].key.c] by
        rw [List.take_succ_eq_append_getElem hlt, rowsT_append, List.flatten_append]; simp [rowsT, Thg.row])
      have HA2 := Lib.hid (show ∀ i (hi : i < D.length), i < k + 1 → aheadT D[i] x = true from fun i hi hik => by
        by_cases e : i = k
        · subst e; exact ha
        · exact HALL.out i hi (by omega))
      have HR4 := Lib.hid (row_four D[k])
      unfold Thg.row at HR4
      replace AH := Lib.hid AH
      clear hx ha
      generalize hE : D[k] = E at *
      clear hE
      go_wp2_with fail
      refine wp_region_hold (fun w' => Below wr.heap.size wr w') (by kernel_rfl) (by kernel_rfl) ⟨rfl, rfl, rfl, Nat.le_refl _, fun _ _ => rfl⟩ ?_
      repeat
        first
        | (refine hold_val (v := ?_) (by rfl) ?_ ?_
           rotate_left
           · (intro w' hS
              obtain ⟨⟨_, _, _, _⟩, ⟨_, _, _, _⟩⟩ := And.intro (HL.out w' hS) (HXC.out w' hS)
              go_simp
              try with_reducible rfl)
           simp only [Act.put, List.setIfInBounds_toArray, List.set_cons_zero, List.set_cons_succ])
        | (refine hold_skip (by rfl) ?_
           simp only [Act.put, List.setIfInBounds_toArray, List.set_cons_zero, List.set_cons_succ])
        | (refine hold_call (by rfl) ?_ (fun w' hS => made_call hS (Nat.le_refl _) (AH.out w')) ?_; focus (intro w' hS; go_simp; done)
           simp only [Act.put, List.setIfInBounds_toArray, List.set_cons_zero, List.set_cons_succ])
      refine hold_nil (fun wx hS => ?_)
      have HO2 := Lib.hid (owns_below HO.out hS)
      have HB2 := Lib.hid (HB.out.trans (hS.mono hw3))
      obtain ⟨d0, d1, d2, d3⟩ := HL.out wx hS
      have hw4 : w1.heap.size ≤ wx.heap.size := HB2.out.size
      clear hS HO HB
      go_wp2_with (at_builtin; refine wpList_append_own _ rfl _ _ 34 rfl w1.heap.size 41 i0 (.agg #[.int .i64 0, .int .i64 0, .int .i64 0, .int .i64 0]) 4 32 Try.underlying34 hi hz0 hz1 hz2 rfl (by decide) _ _ _ rfl (HO2.out.alloc _) ⟨wx.heap.size, 0, none⟩ 1 1 [.int .i64 E.id, .int .i64 E.key.a, .int .i64 E.key.b, .int .i64 E.key.c] rfl rfl (cells_new _ _ _) ?c2 ?c3 ?c4 ?c5 ?_)
      case c2 => exact HR4.out
      case c3 => unfold maxLen; omega
      case c4 => omega
      case c5 => simp; omega
      intro v' w4 hown4 hgrow _
      have HB4 := Lib.hid (grown_below (HB2.out.alloc (HB2.out.size) _) hgrow (fun g hg => owns_row HO2.out hg) (by simp; omega))
      rw [← HTK.out] at hown4
      have HO4 := Lib.hid hown4
      clear hown4 hgrow d0 d1 d2 d3
      go_wp2_with fail
      go_roundw
      case rel => exact ⟨k + 1, by omega, by go_num, HO4.out, HB4.out, HA2.out⟩
      case measure => simp [intOf]; omega
    · have hcs : (∃ h : k < D.length, aheadT (D[k]'h) x = false) ∨ k = D.length := by
        by_cases h : k < D.length
        · refine Or.inl ⟨h, ?_⟩
          cases hq : aheadT (D[k]'h) x
          · rfl
          · exact absurd ⟨h, hq⟩ hgo
        · exact Or.inr (by omega)
      have HE := Lib.hid (HX.out k hk HALL.out (fun h => by
        cases hq : aheadT (D[k]'h) x
        · rfl
        · exact absurd ⟨h, hq⟩ hgo))
      clear hgo
      have HEND : ∀ wx, Below wr.heap.size wr wx → True := fun _ _ => trivial
      go_wp2_with fail
      rcases hcs with ⟨hlt, ha⟩ | rfl
      · obtain ⟨b, o, rfl, hbl, _, hx⟩ := HRD.out.at_ (k := k) (by rw [rowsT_len]; exact hlt)
        have HL := Lib.hid (show ∀ w', Below wr.heap.size wr w' → (w'.cell? ⟨b, o + k * 4, none⟩ = some (.int .i64 D[k].id) ∧ w'.cell? ⟨b, o + k * 4 + 1, none⟩ = some (.int .i64 D[k].key.a) ∧ w'.cell? ⟨b, o + k * 4 + 2, none⟩ = some (.int .i64 D[k].key.b) ∧ w'.cell? ⟨b, o + k * 4 + 3, none⟩ = some (.int .i64 D[k].key.c)) from fun w' hb' => by
          have hq := HB.out.trans (hb'.mono hw3)
          exact ⟨(hq.cell (p := ⟨b, o + k * 4, none⟩) hbl).trans (hx k _ (rowsT_get D k hlt) 0 _ rfl), (hq.cell (p := ⟨b, o + k * 4 + 1, none⟩) hbl).trans (hx k _ (rowsT_get D k hlt) 1 _ rfl), (hq.cell (p := ⟨b, o + k * 4 + 2, none⟩) hbl).trans (hx k _ (rowsT_get D k hlt) 2 _ rfl), (hq.cell (p := ⟨b, o + k * 4 + 3, none⟩) hbl).trans (hx k _ (rowsT_get D k hlt) 3 _ rfl)⟩)
        have dk : decide (k < D.length) = true := decide_eq_true hlt
        have AH := fun w => k9ahead_any D[k] x w
        rw [ha] at AH
        unfold Thg.val at AH
        replace AH := Lib.hid AH
        clear hx ha
        generalize hE : D[k] = E at *
        clear hE
        refine wp_region_hold (fun w' => Below wr.heap.size wr w') (by kernel_rfl) (by kernel_rfl) ⟨rfl, rfl, rfl, Nat.le_refl _, fun _ _ => rfl⟩ ?_
        repeat
          first
          | (refine hold_val (v := ?_) (by rfl) ?_ ?_
             rotate_left
             · (intro w' hS
                obtain ⟨⟨_, _, _, _⟩, ⟨_, _, _, _⟩⟩ := And.intro (HL.out w' hS) (HXC.out w' hS)
                go_simp
                try with_reducible rfl)
             simp only [Act.put, List.setIfInBounds_toArray, List.set_cons_zero, List.set_cons_succ])
          | (refine hold_skip (by rfl) ?_
             simp only [Act.put, List.setIfInBounds_toArray, List.set_cons_zero, List.set_cons_succ])
          | (refine hold_call (by rfl) ?_ (fun w' hS => made_call hS (Nat.le_refl _) (AH.out w')) ?_; focus (intro w' hS; go_simp; done)
             simp only [Act.put, List.setIfInBounds_toArray, List.set_cons_zero, List.set_cons_succ])
        refine hold_nil (fun wx hS => ?_)
        clear AH HL
        have HO2 := Lib.hid (owns_below HO.out hS)
        have HB2 := Lib.hid (HB.out.trans (hS.mono hw3))
        obtain ⟨d0, d1, d2, d3⟩ := HXC.out wx hS
        have hw4 : w1.heap.size ≤ wx.heap.size := HB2.out.size
        have HR4 := Lib.hid (row_four x)
        unfold Thg.row at HR4
        clear hS HO HB
        go_wp2_with (at_builtin; refine wpList_append_own _ rfl _ _ 34 rfl w1.heap.size 41 i0 (.agg #[.int .i64 0, .int .i64 0, .int .i64 0, .int .i64 0]) 4 32 Try.underlying34 hi hz0 hz1 hz2 rfl (by decide) _ _ _ rfl (HO2.out.alloc _) ⟨wx.heap.size, 0, none⟩ 1 1 [.int .i64 x.id, .int .i64 x.key.a, .int .i64 x.key.b, .int .i64 x.key.c] rfl rfl (cells_new _ _ _) ?e2 ?e3 ?e4 ?e5 ?_)
        case e2 => exact HR4.out
        case e3 => unfold maxLen; omega
        case e4 => omega
        case e5 => simp; omega
        intro v' w4 hown4 hgrow _
        have HB4 := Lib.hid (grown_below (HB2.out.alloc (HB2.out.size) _) hgrow (fun g hg => owns_row HO2.out hg) (by simp; omega))
        have HO4 := Lib.hid hown4
        have hw5 : w1.heap.size ≤ w4.heap.size := HB4.out.size
        clear hown4 hgrow d0 d1 d2 d3
        have hck : ¬ cD = k := by omega
        have i0k : (0 : Int) ≤ (k : Int) := by omega
        have i1k : (k : Int) ≤ (D.length : Int) := by omega
        have HN := Lib.hid (((HRD.out.drop k (by rw [rowsT_len]; omega)).below HB4.out))
        rw [rowsT_drop] at HN
        have HCL := Lib.hid (show ∀ j u, (rowsT (D.drop k)).flatten[j]? = some u → w4.cell? ((⟨b, o + k * 4, none⟩ : Addr).add j) = some u from by
            have := HN.out
            unfold sliced at this
            rw [if_neg hck] at this
            have h2 := RdK.cells this (by omega) (rowsT_four _)
            intro j u hj
            rw [← h2 j u hj]
            congr 2
            unfold Addr.add; simp)
        have HLN := Lib.hid (show (rowsT (D.drop k)).flatten.length = (D.length - k) * 4 by rw [flat_len 4 _ (rowsT_four _), rowsT_len, List.length_drop])
        have HON := Lib.hid (show ∀ u ∈ (rowsT (D.drop k)).flatten, u.oneCell' = true from rows_one _)
        go_wp2_with (at_builtin; refine wpList_append_own _ rfl _ _ 34 rfl w1.heap.size 41 i0 (.agg #[.int .i64 0, .int .i64 0, .int .i64 0, .int .i64 0]) 4 32 Try.underlying34 hi hz0 hz1 hz2 rfl (by decide) _ _ _ rfl HO4.out ⟨b, o + k * 4, none⟩ (D.length - k) (cD - k) ((rowsT (D.drop k)).flatten) rfl HLN.out HCL.out HON.out ?f3 ?f4 ?f5 ?_)
        case f3 => unfold maxLen; omega
        case f4 => omega
        case f5 => omega
        intro v5 w5 hown5 hgrow5 _
        have HB5 := Lib.hid (grown_below HB4.out hgrow5 (fun g hg => owns_row HO4.out hg) hw5)
        have HO5 := Lib.hid hown5
        clear hown5 hgrow5
        have hrows : (rowsT (D.take k ++ x :: D.drop k)).flatten = (rowsT (D.take k)).flatten ++ (.int .i64 x.id :: .int .i64 x.key.a :: .int .i64 x.key.b :: .int .i64 x.key.c :: (rowsT (D.drop k)).flatten) := by simp [rowsT, Thg.row]
        have HR := Lib.hid (RdK.own (rs := rowsT (D.take k ++ x :: D.drop k)) (by rw [hrows]; exact HO5.out) (by rw [rowsT_len]; first | (simp; done) | (simp; omega)) (rowsT_four _))
        have HF := Lib.hid (own_form HO5.out)
        clear hrows
        obtain ⟨A2, c2, rfl, _, _⟩ := HR.out.form
        go_wp2_with fail
        go_ret
        refine ⟨_, rfl, ?_, HB1.out.trans (HB5.out.mono HB1.out.size), HF.out⟩
        rw [HE.out]
        exact HR.out.imp fun b hb _ => Nat.le_trans HB1.out.size hb
      · have dk : decide (D.length < D.length) = false := decide_eq_false (by omega)
        have AH := Lib.hid fun w => k9ahead_any x x w
        refine wp_region_hold (fun w' => Below wr.heap.size wr w') (by kernel_rfl) (by kernel_rfl) ⟨rfl, rfl, rfl, Nat.le_refl _, fun _ _ => rfl⟩ ?_
        repeat
          first
          | (refine hold_val (v := ?_) (by rfl) ?_ ?_
             rotate_left
             · (intro w' hS
                skip
                go_simp
                try with_reducible rfl)
             simp only [Act.put, List.setIfInBounds_toArray, List.set_cons_zero, List.set_cons_succ])
          | (refine hold_skip (by rfl) ?_
             simp only [Act.put, List.setIfInBounds_toArray, List.set_cons_zero, List.set_cons_succ])
          | (refine hold_call (by rfl) ?_ (fun w' hS => made_call hS (Nat.le_refl _) (AH.out w')) ?_; focus (intro w' hS; go_simp; done)
             simp only [Act.put, List.setIfInBounds_toArray, List.set_cons_zero, List.set_cons_succ])
        refine hold_nil (fun wx hS => ?_)
        clear AH
        have HO2 := Lib.hid (owns_below HO.out hS)
        have HB2 := Lib.hid (HB.out.trans (hS.mono hw3))
        obtain ⟨d0, d1, d2, d3⟩ := HXC.out wx hS
        have hw4 : w1.heap.size ≤ wx.heap.size := HB2.out.size
        have HR4 := Lib.hid (row_four x)
        unfold Thg.row at HR4
        clear hS HO HB
        go_wp2_with (at_builtin; refine wpList_append_own _ rfl _ _ 34 rfl w1.heap.size 41 i0 (.agg #[.int .i64 0, .int .i64 0, .int .i64 0, .int .i64 0]) 4 32 Try.underlying34 hi hz0 hz1 hz2 rfl (by decide) _ _ _ rfl (HO2.out.alloc _) ⟨wx.heap.size, 0, none⟩ 1 1 [.int .i64 x.id, .int .i64 x.key.a, .int .i64 x.key.b, .int .i64 x.key.c] rfl rfl (cells_new _ _ _) ?e2 ?e3 ?e4 ?e5 ?_)
        case e2 => exact HR4.out
        case e3 => unfold maxLen; omega
        case e4 => omega
        case e5 => simp; omega
        intro v' w4 hown4 hgrow _
        have HB4 := Lib.hid (grown_below (HB2.out.alloc (HB2.out.size) _) hgrow (fun g hg => owns_row HO2.out hg) (by simp; omega))
        have HO4 := Lib.hid hown4
        have hw5 : w1.heap.size ≤ w4.heap.size := HB4.out.size
        clear hown4 hgrow d0 d1 d2 d3
        have hnil : (rowsT (D.drop D.length)).flatten = [] := by simp [rowsT]
        have HNIL := Lib.hid hnil
        clear hnil
        have i0k : (0 : Int) ≤ (D.length : Int) := by omega
        rcases HFM.out with hf | ⟨b, o, n9, c9, hf⟩
        · simp only [Value.slice.injEq] at hf
          obtain ⟨rfl, hd0, rfl⟩ := hf
          obtain rfl : D = [] := List.eq_nil_of_length_eq_zero hd0
          clear hd0
          go_wp2_with (at_builtin; refine wpList_append_own_none rfl _ _ 34 rfl w1.heap.size 41 i0 4 Try.underlying34 hi _ _ _ rfl HO4.out rfl ?_)
          have HB5 := HB4
          have HO5 := Lib.hid HO4.out
          have hrows : (rowsT (([] : List Thg) ++ x :: ([] : List Thg))).flatten = (rowsT (([] : List Thg))).flatten ++ (.int .i64 x.id :: .int .i64 x.key.a :: .int .i64 x.key.b :: .int .i64 x.key.c :: []) := by simp [rowsT, Thg.row]
          have HR := Lib.hid (RdK.own (rs := rowsT (([] : List Thg) ++ x :: ([] : List Thg))) (by rw [hrows]; exact HO5.out) (by rw [rowsT_len]; first | (simp; done) | (simp; omega)) (rowsT_four _))
          have HF := Lib.hid (own_form HO5.out)
          clear hrows
          obtain ⟨A2, c2, rfl, _, _⟩ := HR.out.form
          go_wp2_with fail
          go_ret
          refine ⟨_, rfl, ?_, HB1.out.trans (HB5.out.mono HB1.out.size), HF.out⟩
          rw [HE.out]
          exact HR.out.imp fun b hb _ => Nat.le_trans HB1.out.size hb
        · simp only [Value.slice.injEq] at hf
          obtain ⟨rfl, h9, h8⟩ := hf
          clear h9 h8
          have HB5x := HB4
          by_cases hck : cD = D.length
          · subst hck
            go_wp2_with (at_builtin; refine wpList_append_own _ rfl _ _ 34 rfl w1.heap.size 41 i0 (.agg #[.int .i64 0, .int .i64 0, .int .i64 0, .int .i64 0]) 4 32 Try.underlying34 hi hz0 hz1 hz2 rfl (by decide) _ _ _ rfl HO4.out ⟨b, o, none⟩ 0 _ [] rfl rfl (fun j u h => by simp at h) (fun u h => by cases h) ?g03 ?g04 ?g05 ?_)
            case g03 => unfold maxLen; omega
            case g04 => omega
            case g05 => omega
            intro v5 w5 hown5 hgrow5 _
            have HB5 := Lib.hid (grown_below HB4.out hgrow5 (fun g hg => owns_row HO4.out hg) hw5)
            try rw [List.append_nil] at hown5
            have HO5 := Lib.hid hown5
            clear hown5 hgrow5
            have hrows : (rowsT (D.take D.length ++ x :: D.drop D.length)).flatten = (rowsT D).flatten ++ (.int .i64 x.id :: .int .i64 x.key.a :: .int .i64 x.key.b :: .int .i64 x.key.c :: []) := by simp [rowsT, Thg.row]
            have HR := Lib.hid (RdK.own (rs := rowsT (D.take D.length ++ x :: D.drop D.length)) (by rw [hrows]; exact HO5.out) (by rw [rowsT_len]; first | (simp; done) | (simp; omega)) (rowsT_four _))
            have HF := Lib.hid (own_form HO5.out)
            clear hrows
            obtain ⟨A2, c2, rfl, _, _⟩ := HR.out.form
            go_wp2_with fail
            go_ret
            refine ⟨_, rfl, ?_, HB1.out.trans (HB5.out.mono HB1.out.size), HF.out⟩
            rw [HE.out]
            exact HR.out.imp fun b hb _ => Nat.le_trans HB1.out.size hb
          · go_wp2_with (at_builtin; refine wpList_append_own _ rfl _ _ 34 rfl w1.heap.size 41 i0 (.agg #[.int .i64 0, .int .i64 0, .int .i64 0, .int .i64 0]) 4 32 Try.underlying34 hi hz0 hz1 hz2 rfl (by decide) _ _ _ rfl HO4.out ⟨b, o + D.length * 4, none⟩ 0 _ [] rfl rfl (fun j u h => by simp at h) (fun u h => by cases h) ?g13 ?g14 ?g15 ?_)
            case g13 => unfold maxLen; omega
            case g14 => omega
            case g15 => omega
            intro v5 w5 hown5 hgrow5 _
            have HB5 := Lib.hid (grown_below HB4.out hgrow5 (fun g hg => owns_row HO4.out hg) hw5)
            try rw [List.append_nil] at hown5
            have HO5 := Lib.hid hown5
            clear hown5 hgrow5
            have hrows : (rowsT (D.take D.length ++ x :: D.drop D.length)).flatten = (rowsT D).flatten ++ (.int .i64 x.id :: .int .i64 x.key.a :: .int .i64 x.key.b :: .int .i64 x.key.c :: []) := by simp [rowsT, Thg.row]
            have HR := Lib.hid (RdK.own (rs := rowsT (D.take D.length ++ x :: D.drop D.length)) (by rw [hrows]; exact HO5.out) (by rw [rowsT_len]; first | (simp; done) | (simp; omega)) (rowsT_four _))
            have HF := Lib.hid (own_form HO5.out)
            clear hrows
            obtain ⟨A2, c2, rfl, _, _⟩ := HR.out.form
            go_wp2_with fail
            go_ret
            refine ⟨_, rfl, ?_, HB1.out.trans (HB5.out.mono HB1.out.size), HF.out⟩
            rw [HE.out]
            exact HR.out.imp fun b hb _ => Nat.le_trans HB1.out.size hb
end Go.Proofs.Ytfknmokidjgeiaa
