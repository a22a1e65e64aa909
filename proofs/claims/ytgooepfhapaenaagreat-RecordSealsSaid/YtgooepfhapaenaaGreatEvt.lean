/- What Put, of package event, comes to. Conditions: the event's numbers fit. -/
import Derived.Test.YtgooepfhapaenaaGreatEvNum
import Derived.Test.YtgooepfhapaenaaGreatOctJ
import Derived.Test.YtgooepfhapaenaaGreatEvtV
namespace Go.Proofs.YtgooepfhapaenaaGreat
open Go.ChangeShapes Go.WideShapes Go.ChangeAt Go.RowKit
set_option linter.unusedVariables false
set_option maxRecDepth 100000
set_option linter.unusedSimpArgs false

theorem fix_one (n : Nat) : fixS n 1 = bs [UInt8.ofNat n] := by unfold fixS; rw [if_pos (by omega)]; simp [fixL]
theorem bytesN_snoc (l : List Int) (x : Int) : bs (bytesN (l ++ [x])) = bs (bytesN l) ++ varS x := by
  unfold bytesN varS
  rw [List.flatMap_append]
  split <;> rw [bs_append] <;> simp [*]
theorem evt_int (v : Evt) (hv : v.ok) (j : Nat) : inI ((intsE v).getD j 0) := by
  obtain ⟨h1, h2, h3, h4, h5, h6, h7, h8⟩ := hv
  match j with
  | 0 => exact h1
  | 1 => exact h2
  | 2 => exact h3
  | 3 => exact h4
  | 4 => exact h5
  | 5 => exact h6
  | 6 => exact h7
  | 7 => exact h8
  | n + 8 => exact ⟨by simp [intsE], by simp [intsE]⟩
theorem idx_k (k : Int) (h : idxE k ≠ []) : 1 ≤ k ∧ k ≤ 7 := by
  rcases idx_cases k with ⟨e, h1, h2⟩ | ⟨e, h1, h2⟩ | ⟨e, h1, h2⟩ | ⟨e, h1, h2⟩ | ⟨e, h1, h2⟩ | ⟨e, h1, h2⟩ | ⟨e, h1, h2⟩ | ⟨h1, h2⟩
  all_goals first
    | omega
    | exact absurd h1 h
set_option maxHeartbeats 4000000 in
theorem evput_any (v : Evt) (w : World) (hok : v.ok) : Calls Tryz.prog 14 #[v.val] w fun e w' => e = .returned (.tuple #[.string (bs (putE v).1), .int .i64 (putE v).2]) ∧ Below w.heap.size w w' := by
  have hb0 : Below w.heap.size w (w.alloc (.cells v.cells 25)) := (Below.refl _ _).alloc (Nat.le_refl _) _
  have hz0 : (w.alloc (.cells v.cells 25)).heap.size = w.heap.size + 1 := by simp
  have hx0 := evt_new w v 25
  have HCK := Lib.hid fun W => evcheck_any v W hok
  have HINT := Lib.hid (evt_int v hok)
  unfold Evt.val Evt.cells at *
  have HB0 := Lib.hid hb0
  have HX0 := Lib.hid hx0
  clear hb0 hx0
  go_enter Tryz.func14, Tryz.ntmps14
  obtain ⟨y0, y1, y2, y3, y4, y5, y6, y7⟩ := evt_cells (v := v) HX0.out
  go_wp2_with fail
  generalize w.alloc (Obj.cells #[.int .i64 v.k, .int .i64 v.n, .int .i64 v.j, .int .i64 v.i, .int .i64 v.p, .int .i64 v.r.a, .int .i64 v.r.b, .int .i64 v.r.c] 25) = w1 at *
  refine (HCK.out w1).mono ?_
  rintro e w2 ⟨rfl, hb2⟩
  have HX2 := Lib.hid (blk_below hb2 HX0.out (by omega))
  have HB2 := Lib.hid (HB0.out.trans (hb2.mono (by omega)))
  clear hb2 HX0 HB0 y0 y1 y2 y3 y4 y5 y6 y7
  by_cases hc : checkE v = 0
  · have HP := Lib.hid (show putE v = (bytesE v, 0) by unfold putE; rw [if_pos hc])
    rw [hc]
    obtain ⟨hl, hall, hpure⟩ := check_ok hc
    have hne : idxE v.k ≠ [] := fun e => hl ((idx_none _).1 e)
    obtain ⟨hk1, hk7⟩ := idx_k _ hne
    have hbytes : bytesE v = UInt8.ofNat v.k.toNat :: bytesN ((idxE v.k).map fun j => (intsE v).getD j 0) := by unfold bytesE; rw [idx_nums]
    have HN := Lib.hid fun W hx => numbers_any w.heap.size v.k W hx
    have HFX := Lib.hid fun W => fixed_any v.k 1 W (by omega) (by omega)
    rw [fix_one] at HFX
    have qk : IntKind.u64.wrap v.k = v.k := by rw [IntKind.wrap_u64]; omega
    obtain ⟨ks, hks⟩ : ∃ ks, idxE v.k = ks := ⟨_, rfl⟩
    rw [hks] at HN hbytes
    have HBY := Lib.hid hbytes
    have hall' := hall
    clear hbytes hall hpure hl
    obtain ⟨y0, y1, y2, y3, y4, y5, y6, y7⟩ := evt_cells (v := v) HX2.out
    obtain ⟨T, hT⟩ : ∃ T : Nat → ByteArray, ∀ m, T m = bs (UInt8.ofNat v.k.toNat :: bytesN ((ks.take m).map fun j => (intsE v).getD j 0)) := ⟨_, fun _ => rfl⟩
    have HST := Lib.hid (show ∀ m j, ks[m]? = some j → T (m + 1) = T m ++ varS ((intsE v).getD j 0) from fun m j hj => by
      obtain ⟨hm, hj'⟩ := List.getElem?_eq_some_iff.1 hj
      rw [hT, hT]
      have e : ∀ l, bs (UInt8.ofNat v.k.toNat :: l) = bs [UInt8.ofNat v.k.toNat] ++ bs l := fun l => by rw [bs_append]; rfl
      rw [List.take_succ_eq_append_getElem hm, List.map_append, hj', e (bytesN ((ks.take m).map fun j => (intsE v).getD j 0)), ByteArray.append_assoc, ← bytesN_snoc]
      exact e _)
    have HSZ := Lib.hid (show ∀ m j, ks[m]? = some j → (T m).size + (varS ((intsE v).getD j 0)).size ≤ 1000 from fun m j hj => by
      have hok := nums_ok hall'
      rw [idx_nums, hks] at hok
      have h1 := bytesN_len ((ks.take m).map fun j => (intsE v).getD j 0) (fun n hn => hok n (by
        obtain ⟨q, hq, e⟩ := List.mem_map.1 hn
        exact List.mem_map.2 ⟨q, List.mem_of_mem_take hq, e⟩))
      obtain ⟨o1, o2⟩ := hok _ (List.mem_map.2 ⟨j, List.mem_of_getElem? hj, rfl⟩)
      have h2 := varS_len o1 o2
      have h3 : ks.length ≤ 5 := by
        rw [← hks]
        rcases idx_cases v.k with ⟨_, h1, _⟩ | ⟨_, h1, _⟩ | ⟨_, h1, _⟩ | ⟨_, h1, _⟩ | ⟨_, h1, _⟩ | ⟨_, h1, _⟩ | ⟨_, h1, _⟩ | ⟨h1, _⟩ <;> rw [h1] <;> decide
      rw [hT, bs_size]
      rw [List.length_map, List.length_take] at h1
      simp only [List.length_cons] at h1 ⊢
      omega)
    have HT0 := Lib.hid (show T 0 = bs [UInt8.ofNat v.k.toNat] from hT 0)
    have HTN := Lib.hid (show T ks.length = bs (bytesE v) by rw [hT, List.take_length, HBY.out])
    clear hT
    clear hall'
    go_wp2_with fail
    refine (HFX.out w2).mono ?_
    rintro e w3 ⟨rfl, hb3⟩
    have HX3 := Lib.hid (blk_below hb3 HX2.out (lt_of_block HX2.out))
    have HB3 := Lib.hid (HB2.out.trans (hb3.mono HB2.out.size))
    have hlt3 := lt_of_block HX3.out
    clear hb3 HX2 HB2 y0 y1 y2 y3 y4 y5 y6 y7
    go_wp2_with fail
    refine (HN.out w3 (evt_cells (v := v) HX3.out).1).mono ?_
    rintro e w4 ⟨u, rfl, hnb, hb4⟩
    obtain ⟨rb, o, cap, rfl, hl5⟩ := hnb.form
    have HX4 := Lib.hid (blk_below hb4 HX3.out hlt3)
    have HB4 := Lib.hid (HB3.out.trans (hb4.mono HB3.out.size))
    have HNB4 := Lib.hid hnb
    clear hnb hb4
    go_wp2_with fail
    go_loopw [5, 19] (fun s i wr => ∃ m : Nat, m ≤ ks.length ∧ i = .int .i64 m ∧ s = .string (T m) ∧ wr.heap[w.heap.size]? = some (.cells v.cells 25 (0, 0)) ∧ NB (fun a => w3.heap.size ≤ a) w.heap.size ks (.slice (some ⟨rb, o, none⟩) ks.length cap) wr ∧ Below w.heap.size w wr) (fun _ i _ => ks.length - (intOf i).toNat)
    case atStart => exact ⟨0, by omega, rfl, by rw [HT0.out], HX4.out, HNB4.out, HB4.out⟩
    case round =>
      clear HX4 HNB4 HB4
      obtain ⟨m, hm, rfl, rfl, hx, hnb, hb⟩ := hrel
      by_cases hlt : m < ks.length
      · have dk3 : decide ((m : Int) < ks.length) = true := decide_eq_true (by omega)
        have dk4 : (0 : Int) ≤ (m : Int) := by omega
        have dk5 : (m : Int) < (ks.length : Int) := by omega
        have q3 : IntKind.i64.wrap ((m : Int) + 1) = ((m + 1 : Nat) : Int) := by rw [IntWalk.i64_in _ (by omega)]; omega
        obtain ⟨j, hj⟩ : ∃ j, ks[m]? = some j := ⟨_, List.getElem?_eq_getElem hlt⟩
        obtain ⟨F, c1, c2, hF⟩ := hnb.at m j hj
        have hone := hF.one
        have ho1 : ∀ a w m, (store a F m).run Tryz.prog w = stored Tryz.prog w a F m := fun a w m => run_store _ w a _ m hone
        have hj8 := idx_lt v.k j (by rw [hks]; exact List.mem_of_getElem? hj)
        have hbl := (Below.refl wr.heap.size wr).alloc (Nat.le_refl _) (.cells #[pt w.heap.size j, F] 63)
        have hx' := blk_below hbl hx (lt_of_block hx)
        have hxc := evt_at (v := v) hx' j hj8.2
        have HV := Lib.hid fun W => var_any ((intsE v).getD j 0) W (HINT.out j).2
        have HS := Lib.hid (HST.out m j hj)
        have hsz := HSZ.out m j hj
        have HX5 := Lib.hid hx'
        have HNB5 := Lib.hid (hnb.below hbl)
        have HB5 := Lib.hid (hb.trans (hbl.mono hb.size))
        generalize (intsE v).getD j 0 = x at *
        clear hx hnb hb hF hone hbl hx' hj
        go_wp2_with fail
        refine (HV.out _).mono ?_
        rintro e w5 ⟨rfl, hb5⟩
        have HX6 := Lib.hid (blk_below hb5 HX5.out (lt_of_block HX5.out))
        have HNB6 := Lib.hid (HNB5.out.below hb5)
        have HB6 := Lib.hid (HB5.out.trans (hb5.mono HB5.out.size))
        clear HX5 HNB5 HB5 hb5
        go_wp2_with fail
        go_roundw
        case rel => exact ⟨m + 1, by omega, rfl, by rw [HS.out], HX6.out, HNB6.out, HB6.out⟩
        case measure => simp [intOf]; omega
      · obtain rfl : m = ks.length := by omega
        have dk3 : decide ((ks.length : Int) < ks.length) = false := decide_eq_false (by omega)
        have HF := Lib.hid (show Ending.returned (.tuple #[.string (T ks.length), .int .i64 0]) = Ending.returned (.tuple #[.string (bs (putE v).1), .int .i64 (putE v).2]) by
          rw [HTN.out, HP.out])
        have HBF := Lib.hid hb
        clear hx hnb hb
        go_wp2_with fail
        go_ret2
        exact ⟨HF.out, HBF.out⟩
  · have HP := Lib.hid (show putE v = ([], checkE v) by unfold putE; rw [if_neg hc])
    have dk : decide (checkE v = 0) = false := decide_eq_false hc
    have dk0 : (checkE v == 0) = false := beq_eq_false_iff_ne.2 hc
    generalize checkE v = c at *
    clear HX2
    go_wp2_with fail
    go_ret2
    exact ⟨by rw [HP.out]; rfl, HB2.out⟩
end Go.Proofs.YtgooepfhapaenaaGreat
/- What read and Get, of package event, come to. Conditions: the text is no longer than any text. -/
namespace Go.Proofs.YtgooepfhapaenaaGreat
open Go.ChangeShapes Go.WideShapes Go.ChangeAt Go.RowKit
set_option linter.unusedVariables false
set_option maxRecDepth 100000
set_option linter.unusedSimpArgs false

/-! ### Plain -/
theorem takes_add (n : Nat) : ∀ (m : Nat) (t l : List UInt8) (xs : List Int), takesE m t = (xs, l, 0) → takesE (m + n) t = (xs ++ (takesE n l).1, (takesE n l).2)
  | 0, t, l, xs, h => by
    have h' : (([] : List Int), t, 0) = (xs, l, 0) := h
    obtain ⟨rfl, h2⟩ := Prod.mk.inj h'
    obtain ⟨rfl, _⟩ := Prod.mk.inj h2
    rw [Nat.zero_add]; rfl
  | m + 1, t, l, xs, h => by
    rw [takesE] at h
    by_cases h0 : tvE t = 0
    · rw [if_pos h0] at h
      obtain ⟨h1, h2⟩ := Prod.mk.inj h
      have ih := takes_add n m (t.drop (tvM t)) l (takesE m (t.drop (tvM t))).1 (Prod.ext rfl h2)
      rw [show m + 1 + n = (m + n) + 1 by omega, takesE, if_pos h0, ih, ← h1]
      rfl
    · rw [if_neg h0] at h
      obtain ⟨h1, h2⟩ := Prod.mk.inj h
      obtain ⟨_, h3⟩ := Prod.mk.inj h2
      exact absurd h3 h0
theorem takes_lenX : ∀ (m : Nat) (t l : List UInt8) (xs : List Int), takesE m t = (xs, l, 0) → xs.length = m
  | 0, t, l, xs, h => by
    have h' : (([] : List Int), t, 0) = (xs, l, 0) := h
    obtain ⟨rfl, _⟩ := Prod.mk.inj h'
    rfl
  | m + 1, t, l, xs, h => by
    rw [takesE] at h
    by_cases h0 : tvE t = 0
    · rw [if_pos h0] at h
      obtain ⟨h1, h2⟩ := Prod.mk.inj h
      have ih := takes_lenX m (t.drop (tvM t)) l (takesE m (t.drop (tvM t))).1 (Prod.ext rfl h2)
      rw [← h1, List.length_cons, ih]
    · rw [if_neg h0] at h
      obtain ⟨h1, h2⟩ := Prod.mk.inj h
      obtain ⟨_, h3⟩ := Prod.mk.inj h2
      exact absurd h3 h0
theorem takes_one {m : Nat} {t l : List UInt8} {xs : List Int} (h : takesE m t = (xs, l, 0)) (h0 : tvE l = 0) : takesE (m + 1) t = (xs ++ [((tvV l : Nat) : Int)], l.drop (tvM l), 0) := by
  rw [takes_add 1 m t l xs h, takesE, if_pos h0]; rfl
theorem takes_bad {m n : Nat} {t l : List UInt8} {xs : List Int} (h : takesE m t = (xs, l, 0)) (h0 : tvE l ≠ 0) (hn : m < n) : (takesE n t).2.2 = tvE l := by
  obtain ⟨q, rfl⟩ : ∃ q, n = m + (q + 1) := ⟨n - m - 1, by omega⟩
  rw [takes_add (q + 1) m t l xs h, takesE, if_neg h0]
/-- What read comes to. -/
def readE : List UInt8 → Evt × Int
  | [] => (zeroE, 3)
  | c :: t => if lettersE c.toNat = [] then (zeroE, 5) else if (takesE (manyE (lettersE c.toNat)) t).2.2 ≠ 0 then (zeroE, (takesE (manyE (lettersE c.toNat)) t).2.2) else if (takesE (manyE (lettersE c.toNat)) t).2.1 ≠ [] then (zeroE, 2)
    else (madeE c.toNat (takesE (manyE (lettersE c.toNat)) t).1, 0)
theorem get_read (l : List UInt8) : getE l = if (readE l).2 ≠ 0 then (zeroE, (readE l).2) else if checkE (readE l).1 = 0 then ((readE l).1, 0) else (zeroE, checkE (readE l).1) := by
  cases l with
  | nil => rfl
  | cons c t =>
    unfold getE readE
    dsimp only
    by_cases h1 : lettersE c.toNat = []
    · simp only [if_pos h1]; rfl
    · simp only [if_neg h1]
      by_cases h2 : (takesE (manyE (lettersE c.toNat)) t).2.2 ≠ 0
      · simp only [if_pos h2]
        rw [if_pos (by simpa using h2)]
      · simp only [if_neg h2]
        by_cases h3 : (takesE (manyE (lettersE c.toNat)) t).2.1 ≠ []
        · simp only [if_pos h3]; rfl
        · simp only [if_neg h3]; rfl
theorem layE_ok : ∀ (ks : List Nat) (xs : List Int) (v : Evt), v.ok → (∀ x ∈ xs, inI x) → (layE ks xs v).ok
  | [], _, _, hv, _ => by unfold layE; exact hv
  | _ :: _, [], _, hv, _ => by unfold layE; exact hv
  | j :: ks, x :: xs, v, hv, hx => by
    rw [layE]
    exact layE_ok ks xs _ (setE_ok v j x hv (hx x List.mem_cons_self)) fun y hy => hx y (List.mem_cons_of_mem _ hy)
theorem takes_in : ∀ (m : Nat) (t : List UInt8), ∀ x ∈ (takesE m t).1, inI x
  | 0, t, x, h => by cases h
  | m + 1, t, x, h => by
    rw [takesE] at h
    split at h
    · rcases List.mem_cons.1 h with rfl | h
      · have := tvV_lt t
        unfold inI; omega
      · exact takes_in m _ x h
    · cases h
theorem bare_ok (k : Int) (h : inI k) : (⟨k, 0, 0, 0, 0, zero3⟩ : Evt).ok := by
  have z : inI 0 := by unfold inI; omega
  exact ⟨h, z, z, z, z, z, z, z⟩
theorem read_ok (l : List UInt8) : (readE l).1.ok := by
  have z0 : zeroE.ok := bare_ok 0 (by unfold inI; omega)
  cases l with
  | nil => exact z0
  | cons c t =>
    unfold readE
    dsimp only
    by_cases h1 : lettersE c.toNat = []
    · rw [if_pos h1]; exact z0
    · rw [if_neg h1]
      by_cases h2 : (takesE (manyE (lettersE c.toNat)) t).2.2 ≠ 0
      · rw [if_pos h2]; exact z0
      · rw [if_neg h2]
        by_cases h3 : (takesE (manyE (lettersE c.toNat)) t).2.1 ≠ []
        · rw [if_pos h3]; exact z0
        · rw [if_neg h3]
          have hl : (takesE (manyE (lettersE c.toNat)) t).1.length = (idxE c.toNat).length := by
            rw [idx_len]
            exact takes_lenX _ t _ _ (Prod.ext rfl (Prod.ext rfl (by simpa using h2)))
          show (madeE _ _).ok
          rw [← idx_made _ _ hl]
          exact layE_ok _ _ _ (bare_ok _ (by unfold inI; have := c.toNat_lt; omega)) (takes_in _ t)
/-! ### The region that takes a number -/
/-- p: how much has been done: nothing, the number taken, the number laid. -/
def TakeC (cb pb q M : Nat) (s : ByteArray) (E0 E1 : Evt) (W : World) (p : Nat) (w : World) : Prop :=
  Cur w cb s (if p = 0 then q else q + M) ∧ w.heap[pb]? = some (.cells (if p ≤ 1 then E0 else E1).cells 25 (0, 0)) ∧ (∀ a o, a ≠ cb → a ≠ pb → W.heap[a]? = some o → w.heap[a]? = some o) ∧ Below cb W w
theorem take_call {cb pb q M : Nat} {s : ByteArray} {E0 E1 : Evt} {W w : World} (hs : s.size ≤ 9223372036854775000) (hne : pb ≠ cb) (hM : M = tvM (rest s q)) (h : TakeC cb pb q M s E0 E1 W 0 w) :
    Calls Tryz.prog 25 #[.pointer (some ⟨cb, 0, none⟩)] w fun e w' => e = .returned (.tuple #[.int .i64 (tvV (rest s q)), .int .i64 (tvE (rest s q))]) ∧ TakeC cb pb q M s E0 E1 W 1 w' := by
  obtain ⟨h1, h2, h3, h4⟩ := h
  refine (var_only cb s q w hs h1).mono ?_
  rintro e w' ⟨rfl, k1, k2⟩
  refine ⟨rfl, by rw [if_neg (by omega), hM]; exact k1, k2.old h2 hne, fun a o ha hb ho => k2.old (h3 a o ha hb ho) ha, h4.trans (k2.below (Nat.le_refl _) (Nat.le_of_lt (lt_of_block h1.1)))⟩
theorem take_store {cb pb q M j : Nat} {x : Int} {s : ByteArray} {E0 E1 : Evt} {W w : World} (hlt : cb < pb) (hj : 1 ≤ j ∧ j < 8) (hE : setE E0 j x = E1) (h : TakeC cb pb q M s E0 E1 W 1 w) : TakeC cb pb q M s E0 E1 W 2 (w.setCell ⟨pb, j, none⟩ (.int .i64 x)) := by
  obtain ⟨h1, h2, h3, h4⟩ := h
  refine ⟨⟨blk_far _ h1.1 (by simp; omega), h1.2⟩, ?_, fun a o ha hb ho => blk_far _ (h3 a o ha hb ho) hb, h4.setCell (p := ⟨pb, j, none⟩) (by simp; omega) _⟩
  have := blk_set h2 j (.int .i64 x)
  rw [if_pos (by omega), setE_cells _ _ _ hj, hE] at this
  rw [if_neg (by omega)]; exact this
set_option maxHeartbeats 4000000 in
theorem read_any (cb : Nat) (s : ByteArray) (w : World) (hs : s.size ≤ 9223372036854775000) (hc : Cur w cb s 0) :
    Calls Tryz.prog 54 #[pt cb 0] w fun e w' => e = .returned (.tuple #[(readE s.data.toList).1.val, .int .i64 (readE s.data.toList).2]) ∧ Below cb w w' := by
  have hcb : cb < w.heap.size := lt_of_block hc.1
  have hb0 : Below w.heap.size w (w.alloc (.cells zeroE.cells 25)) := (Below.refl _ _).alloc (Nat.le_refl _) _
  have HC1 := Lib.hid (cur_below hc hb0 hcb)
  have HR1 := Lib.hid (evt_new w zeroE 25)
  have hz1 : (w.alloc (.cells zeroE.cells 25)).heap.size = w.heap.size + 1 := by simp
  have HB1 := Lib.hid (hb0.mono (Nat.le_of_lt hcb))
  obtain ⟨R, hR0⟩ : ∃ R, readE s.data.toList = R := ⟨_, rfl⟩
  rw [hR0]
  have HR := Lib.hid hR0
  clear hR0
  have HFX := Lib.hid fun W h => fixed_only cb s 0 1 W hs h (by omega) (by omega)
  have hrest : rest s 0 = s.data.toList := by unfold rest; rw [List.drop_zero]
  have HN := Lib.hid fun b k W hx => numbers_any b k W hx
  have HLF := Lib.hid fun k (w : World) h => left_cur cb s k w.heap.size w hs h
  rw [hrest] at HFX
  clear hc hb0
  unfold zeroE Evt.cells zero3 at HC1 HR1 HB1 hz1
  go_enter Tryz.func54, Tryz.ntmps54
  go_wp2_with fail
  generalize w.alloc (Obj.cells #[.int .i64 0, .int .i64 0, .int .i64 0, .int .i64 0, .int .i64 0, .int .i64 0, .int .i64 0, .int .i64 0] 25) = w1 at *
  refine (HFX.out w1 HC1.out).mono ?_
  rintro e w2 ⟨rfl, hc2, ho2⟩
  have HC2 := Lib.hid hc2
  have HR2 := Lib.hid (ho2.old (c := w.heap.size) HR1.out (by omega))
  have HB2 := Lib.hid (HB1.out.trans (ho2.below (Nat.le_refl _) (by omega)))
  have hz2 : w.heap.size + 1 ≤ w2.heap.size := by have := ho2.size; omega
  clear hc2 ho2 HC1 HR1 HB1 HFX
  cases hL : s.data.toList with
  | nil =>
    have e1 : tfE [] ((1 : Nat) : Int) = 3 := rfl
    have e2 : tfV [] ((1 : Nat) : Int) = 0 := rfl
    rw [e1, e2]
    have HE := Lib.hid (show R = (zeroE, 3) by rw [← HR.out, hL]; rfl)
    clear hL hrest HN HLF HC2
    obtain ⟨x0, x1, x2, x3, x4, x5, x6, x7⟩ := evt_cells (v := ⟨0, 0, 0, 0, 0, ⟨0, 0, 0⟩⟩) HR2.out
    have fz := fun o => blk_free HR2.out o
    go_wp2_with fail
    exact bodyPost_ret (results_cv rfl rfl rfl (evt_set (v := zeroE) (u := zeroE) HR2.out) Tryz.underlying25 rfl (by kernel_rfl)) rfl ⟨by rw [HE.out]; rfl, HB2.out.trans ((evt_only w2 w.heap.size zeroE).below (by omega) (by omega))⟩
  | cons c t =>
    have e1 : tfE (c :: t) ((1 : Nat) : Int) = 0 := by
      unfold tfE
      rw [if_neg (by omega), if_neg (by simp only [List.length_cons]; omega)]
    have e2 : tfV (c :: t) ((1 : Nat) : Int) = c.toNat := by unfold tfV; rw [e1]; simp [bigV]
    have e3 : tfM (c :: t) ((1 : Nat) : Int) = 1 := by unfold tfM; rw [e1]; rfl
    have hc8 := c.toNat_lt
    have hr1 : rest s 1 = t := by unfold rest; rw [hL]; rfl
    rw [hL, e3, Nat.zero_add] at HC2
    rw [e1, e2]
    have HRD := Lib.hid (show R = if lettersE c.toNat = [] then (zeroE, 5) else if (takesE (manyE (lettersE c.toNat)) t).2.2 ≠ 0 then (zeroE, ((takesE (manyE (lettersE c.toNat)) t).2.2 : Int)) else if (takesE (manyE (lettersE c.toNat)) t).2.1 ≠ [] then (zeroE, 2)
      else (madeE c.toNat (takesE (manyE (lettersE c.toNat)) t).1, 0) by rw [← HR.out, hL]; rfl)
    have qk : IntKind.i64.wrap ((c.toNat : Nat) : Int) = ((c.toNat : Nat) : Int) := IntWalk.i64_in _ (by omega)
    obtain ⟨k, hk⟩ : ∃ k : Nat, c.toNat = k := ⟨_, rfl⟩
    rw [hk] at HRD qk hc8
    obtain ⟨ks, hks⟩ : ∃ ks, idxE (k : Int) = ks := ⟨_, rfl⟩
    rw [hk]
    have hbp : Below w2.heap.size w2 (w2.alloc (.cells #[.int .i64 (k : Int), .int .i64 0, .int .i64 0, .int .i64 0, .int .i64 0, .int .i64 0, .int .i64 0, .int .i64 0] 25)) := (Below.refl _ _).alloc (Nat.le_refl _) _
    have HP3 := Lib.hid (show (w2.alloc (.cells #[.int .i64 (k : Int), .int .i64 0, .int .i64 0, .int .i64 0, .int .i64 0, .int .i64 0, .int .i64 0, .int .i64 0] 25)).heap[w2.heap.size]? = some (.cells #[.int .i64 (k : Int), .int .i64 0, .int .i64 0, .int .i64 0, .int .i64 0, .int .i64 0, .int .i64 0, .int .i64 0] 25 (0, 0)) from blk_new w2 _)
    have HR3 := Lib.hid (blk_below hbp HR2.out (lt_of_block HR2.out))
    have HC3 := Lib.hid (cur_below HC2.out hbp (by omega))
    have HB3 := Lib.hid (HB2.out.trans (hbp.mono (by omega)))
    have hsz3 : w2.heap.size < (w2.alloc (.cells #[.int .i64 (k : Int), .int .i64 0, .int .i64 0, .int .i64 0, .int .i64 0, .int .i64 0, .int .i64 0, .int .i64 0] 25)).heap.size := by simp
    clear hbp HR2 HC2 HB2 hk hL e1 e2 e3 hrest
    go_wp2_with fail
    generalize w2.alloc (Obj.cells #[.int .i64 (k : Int), .int .i64 0, .int .i64 0, .int .i64 0, .int .i64 0, .int .i64 0, .int .i64 0, .int .i64 0] 25) = w3 at *
    refine (HN.out w2.heap.size (k : Int) w3 (evt_cells (v := ⟨k, 0, 0, 0, 0, ⟨0, 0, 0⟩⟩) HP3.out).1).mono ?_
    rintro e w4 ⟨u, rfl, hnb, hb4⟩
    rw [hks] at hnb
    obtain ⟨rb, o, cap, rfl, hl5⟩ := hnb.form
    have HR4 := Lib.hid (blk_below hb4 HR3.out (lt_of_block HR3.out))
    have HP4 := Lib.hid (blk_below hb4 HP3.out hsz3)
    have HC4 := Lib.hid (cur_below HC3.out hb4 (by omega))
    have HB4 := Lib.hid (HB3.out.trans (hb4.mono (by omega)))
    have HNB4 := Lib.hid hnb
    have hsz4 : w.heap.size + 1 ≤ w4.heap.size := by have := hb4.size; omega
    clear hnb hb4 HR3 HP3 HC3 HB3 HN
    by_cases h0 : ks.length = 0
    · have dk : decide ((ks.length : Int) = 0) = true := decide_eq_true (by omega)
      have dk0 : ((ks.length : Int) == 0) = true := beq_iff_eq.2 (by omega)
      have HE := Lib.hid (show R = (zeroE, 5) by
        rw [HRD.out, if_pos ((idx_none _).1 (by rw [hks]; exact List.eq_nil_of_length_eq_zero h0))])
      obtain ⟨x0, x1, x2, x3, x4, x5, x6, x7⟩ := evt_cells (v := ⟨0, 0, 0, 0, 0, ⟨0, 0, 0⟩⟩) HR4.out
      have fz := fun o => blk_free HR4.out o
      clear HC4 HP4 HNB4
      go_wp2_with fail
      exact bodyPost_ret (results_cv rfl rfl rfl (evt_set (v := zeroE) (u := zeroE) HR4.out) Tryz.underlying25 rfl (by kernel_rfl)) rfl ⟨by rw [HE.out]; rfl, HB4.out.trans ((evt_only w4 w.heap.size zeroE).below (by omega) (by omega))⟩
    · have dk : decide ((ks.length : Int) = 0) = false := decide_eq_false (by omega)
      have dk0 : ((ks.length : Int) == 0) = false := beq_eq_false_iff_ne.2 (by omega)
      have hl : lettersE (k : Int) ≠ [] := fun e => h0 (by rw [← hks, (idx_none _).2 e]; rfl)
      have hml : manyE (lettersE (k : Int)) = ks.length := by rw [← hks, idx_len]
      have HRR := Lib.hid (show R = if (takesE ks.length t).2.2 ≠ 0 then (zeroE, ((takesE ks.length t).2.2 : Int)) else if (takesE ks.length t).2.1 ≠ [] then (zeroE, 2) else (madeE k (takesE ks.length t).1, 0) by
        rw [HRD.out, if_neg hl, hml])
      clear HRD hl hml
      go_wp2_with fail
      go_loopw [5, 29] (fun e i wr => ∃ (m : Nat) (xs : List Int) (q : Nat), m ≤ ks.length ∧ i = .int .i64 m ∧ e = .int .i64 0 ∧ takesE m t = (xs, rest s q, 0) ∧ Cur wr cb s q ∧ wr.heap[w.heap.size]? = some (.cells zeroE.cells 25 (0, 0)) ∧
        wr.heap[w2.heap.size]? = some (.cells (layE (ks.take m) xs ⟨k, 0, 0, 0, 0, zero3⟩).cells 25 (0, 0)) ∧ NB (fun a => w3.heap.size ≤ a) w2.heap.size ks (.slice (some ⟨rb, o, none⟩) ks.length cap) wr ∧ Below cb w wr) (fun _ i _ => ks.length - (intOf i).toNat)
      case atStart => exact ⟨0, [], 1, by omega, rfl, rfl, by rw [hr1]; rfl, HC4.out, HR4.out, HP4.out, HNB4.out, HB4.out⟩
      case round =>
        clear HC4 HR4 HP4 HNB4 HB4
        obtain ⟨m, xs, q, hm, rfl, rfl, htk, hcr, hr, hp, hnb, hb⟩ := hrel
        by_cases hlt : m < ks.length
        · have dk3 : decide ((m : Int) < ks.length) = true := decide_eq_true (by omega)
          have dk4 : (0 : Int) ≤ (m : Int) := by omega
          have dk5 : (m : Int) < (ks.length : Int) := by omega
          have q3 : IntKind.i64.wrap ((m : Int) + 1) = ((m + 1 : Nat) : Int) := by rw [IntWalk.i64_in _ (by omega)]; omega
          obtain ⟨j, hj⟩ : ∃ j, ks[m]? = some j := ⟨_, List.getElem?_eq_getElem hlt⟩
          have hj8 := idx_lt k j (by rw [hks]; exact List.mem_of_getElem? hj)
          obtain ⟨F, c1, c2, hF⟩ := hnb.at m j hj
          have hone := hF.one
          have ho1 : ∀ a w m, (store a F m).run Tryz.prog w = stored Tryz.prog w a F m := fun a w m => run_store _ w a _ m hone
          have hbl := (Below.refl wr.heap.size wr).alloc (Nat.le_refl _) (.cells #[pt w2.heap.size j, F] 63)
          have HC5 := Lib.hid (cur_below hcr hbl (lt_of_block hcr.1))
          have HR5 := Lib.hid (blk_below hbl hr (lt_of_block hr))
          have HP5 := Lib.hid (blk_below hbl hp (lt_of_block hp))
          have HNB5 := Lib.hid (hnb.below hbl)
          have HB5 := Lib.hid (hb.trans (hbl.mono hb.size |>.mono (by have := lt_of_block hcr.1; omega)))
          have HL5 := Lib.hid (blk_new wr (.cells #[pt w2.heap.size j, F] 63))
          have hgt : w2.heap.size < wr.heap.size := lt_of_block hp
          have hlen := takes_lenX m t _ xs htk
          obtain ⟨E0, hE0⟩ : ∃ E0, layE (ks.take m) xs ⟨k, 0, 0, 0, 0, zero3⟩ = E0 := ⟨_, rfl⟩
          have HE1 := Lib.hid (show layE (ks.take (m + 1)) (xs ++ [((tvV (rest s q) : Nat) : Int)]) ⟨k, 0, 0, 0, 0, zero3⟩ = setE E0 j (tvV (rest s q)) by
            obtain ⟨hm', hj'⟩ := List.getElem?_eq_some_iff.1 hj
            rw [List.take_succ_eq_append_getElem hm', hj', layE_snoc E0 j _ _ _ _ (by simp; omega), hE0])
          rw [hE0] at HP5
          have HTK := Lib.hid htk
          clear hcr hr hp hnb hb hF hbl htk hE0 hone
          go_wp2_with fail
          generalize hw5 : wr.alloc (Obj.cells #[pt w2.heap.size j, F] 63) = w5 at *
          have HW5 := Lib.hid hw5
          clear hw5
          have CV := Lib.hid (show ∀ w', TakeC cb w2.heap.size q (tvM (rest s q)) s E0 (setE E0 j (tvV (rest s q))) w5 0 w' → Calls Tryz.prog 25 #[pt cb 0] w' fun e w'' => e = .returned (.tuple #[.int .i64 (tvV (rest s q)), .int .i64 (tvE (rest s q))]) ∧ TakeC cb w2.heap.size q (tvM (rest s q)) s E0 (setE E0 j (tvV (rest s q))) w5 1 w'' from
            fun w' h => take_call hs (by omega) rfl h)
          have CS := Lib.hid (show ∀ w', TakeC cb w2.heap.size q (tvM (rest s q)) s E0 (setE E0 j (tvV (rest s q))) w5 1 w' → TakeC cb w2.heap.size q (tvM (rest s q)) s E0 (setE E0 j (tvV (rest s q))) w5 2 (w'.setCell ⟨w2.heap.size, j, none⟩ (.int .i64 (tvV (rest s q)))) from
            fun w' h => take_store (by omega) hj8 rfl h)
          have hT0 : TakeC cb w2.heap.size q (tvM (rest s q)) s E0 (setE E0 j (tvV (rest s q))) w5 0 w5.drew := ⟨HC5.out, HP5.out, fun a o _ _ ho => ho, (Below.refl _ _).drew⟩
          have HFN := Lib.hid (show ∀ l, rest s q = l → tvE l = 0 → takesE (m + 1) t = (xs ++ [((tvV l : Nat) : Int)], rest s (q + tvM l), 0) from fun l hl h0 => by
            have := takes_one HTK.out (by rw [hl]; exact h0)
            rw [this, hl]
            congr 2
            rw [← hl]; unfold rest; rw [List.drop_drop])
          have HFB := Lib.hid (show tvE (rest s q) ≠ 0 → R = (zeroE, ((tvE (rest s q) : Nat) : Int)) from fun h0 => by
            rw [HRR.out, takes_bad HTK.out h0 hlt, if_pos h0])
          have HFN' := Lib.hid (HFN.out _ rfl)
          clear HFN HTK
          generalize tvE (rest s q) = te at *
          generalize tvV (rest s q) = x at *
          generalize tvM (rest s q) = M at *
          generalize hE1 : setE E0 j x = E1 at *
          have HF := Lib.hid (show ∀ p w', TakeC cb w2.heap.size q M s E0 E1 w5 p w' → w'.cell? ⟨wr.heap.size, 0, none⟩ = some (pt w2.heap.size j) from fun p w' h => blk_cell (h.2.2.1 _ _ (by omega) (by omega) HL5.out) 0)
          have HS := Lib.hid (show ∀ w', TakeC cb w2.heap.size q M s E0 E1 w5 1 w' → (∃ y, w'.cell? ⟨w2.heap.size, j, none⟩ = some (.int .i64 y)) ∧ w'.frozen? ⟨w2.heap.size, j, none⟩ = false from fun w' h => ⟨⟨_, evt_at h.2.1 j hj8.2⟩, blk_free h.2.1 j⟩)
          refine wp_region_holdP [3, 8] (TakeC cb w2.heap.size q M s E0 E1 w5) (by kernel_rfl) (by kernel_rfl) hT0 ?_
          clear hT0 hE1
          repeat
            first
            | (refine holdP_val (v := ?_) (by rfl) (by rfl) ?_ ?_
               rotate_left
               · (intro p w' hC
                  have hcf := HF.out p w' hC
                  go_simp
                  try with_reducible rfl)
               simp only [Act.put, List.setIfInBounds_toArray, List.set_cons_zero, List.set_cons_succ])
            | (refine holdP_call 0 rfl (by rfl) ?_ (fun w' hC => CV.out w' hC) ?_
               · (intro w' hC; go_simp; done)
               simp only [Act.put, List.setIfInBounds_toArray, List.set_cons_zero, List.set_cons_succ])
            | (refine holdP_store 1 rfl (by rfl) (fun w' hC => ⟨_, ?_, CS.out w' hC⟩) ?_
               · (obtain ⟨⟨y, hy⟩, hz⟩ := HS.out w' hC
                  go_simp; done)
               simp only [Act.put, List.setIfInBounds_toArray, List.set_cons_zero, List.set_cons_succ])
          refine holdP_nil (fun w6 hC => ?_)
          obtain ⟨hC1, hC2, hC3, hC4⟩ := hC
          have HC6 := Lib.hid (show Cur w6 cb s (q + M) from hC1)
          have HP6 := Lib.hid (show w6.heap[w2.heap.size]? = some (.cells E1.cells 25 (0, 0)) from hC2)
          have HR6 := Lib.hid (hC3 w.heap.size _ (by omega) (by omega) HR5.out)
          have HNB6 := Lib.hid (HNB5.out.keep fun a ob ha ho => hC3 a ob (by omega) (by omega) ho)
          have HB6 := Lib.hid (HB5.out.trans hC4)
          have hsz6 : w.heap.size < w6.heap.size := lt_of_block HR6.out
          clear hC1 hC2 hC3 hC4 HC5 HP5 HR5 HNB5 HB5 HL5 HF HS CV CS c1 c2
          by_cases h00 : te = 0
          · subst h00
            have HFT := Lib.hid (HFN'.out rfl)
            clear HFN' HFB
            go_wp2_with fail
            go_roundw
            case rel => exact ⟨m + 1, xs ++ [((x : Nat) : Int)], q + M, by omega, rfl, rfl, HFT.out, HC6.out, HR6.out, by rw [HE1.out]; exact HP6.out, HNB6.out, HB6.out⟩
            case measure => simp [intOf]; omega
          · have HE := Lib.hid (HFB.out h00)
            have k1 : ((te : Int) == 0) = false := beq_eq_false_iff_ne.2 (by omega)
            have k2 : decide ((te : Int) = 0) = false := decide_eq_false (by omega)
            have k3 : ((te : Int) != 0) = true := by simp; omega
            obtain ⟨x0, x1, x2, x3, x4, x5, x6, x7⟩ := evt_cells HR6.out
            have fz := fun o => blk_free HR6.out o
            clear HFN' HFB HC6 HP6 HNB6 h00
            go_wp2_with fail
            exact bodyPost_ret (results_cv rfl rfl rfl (evt_set (v := zeroE) HR6.out) Tryz.underlying25 rfl (by kernel_rfl)) rfl ⟨by rw [HE.out]; rfl, HB6.out.trans ((evt_only w6 w.heap.size zeroE).below (by omega) (by omega))⟩
        · obtain rfl : m = ks.length := by omega
          have dk3 : decide ((ks.length : Int) < ks.length) = false := decide_eq_false (by omega)
          have hLF := (HLF.out q wr hcr)
          have hqs := hcr.2
          have hlr := rest_len s q
          have hmade : madeE k xs = layE ks xs ⟨k, 0, 0, 0, 0, zero3⟩ := by
            rw [← hks]; exact (idx_made _ _ (by rw [takes_lenX _ _ _ _ htk, hks])).symm
          have HRF := Lib.hid (show R = if rest s q ≠ [] then (zeroE, 2) else (layE ks xs ⟨k, 0, 0, 0, 0, zero3⟩, 0) by
            rw [HRR.out, htk, if_neg (by simp), ← hmade])
          rw [List.take_length] at hp
          generalize layE ks xs ⟨k, 0, 0, 0, 0, zero3⟩ = E at *
          have HLC := Lib.hid hLF
          have HP5 := Lib.hid hp
          have HR5 := Lib.hid hr
          have HB5 := Lib.hid hb
          have hsz5 : w.heap.size < wr.heap.size := lt_of_block hr
          have hsz6 : w2.heap.size < wr.heap.size := lt_of_block hp
          clear hLF hcr hp hr hb hnb htk hmade
          go_wp2_with fail
          refine HLC.out.mono ?_
          rintro e w6 ⟨rfl, _, hb6⟩
          have HP6 := Lib.hid (blk_below hb6 HP5.out hsz6)
          have HR6 := Lib.hid (blk_below hb6 HR5.out hsz5)
          have HB6 := Lib.hid (HB5.out.trans (hb6.mono (by omega)))
          have hsz7 : w.heap.size < w6.heap.size := lt_of_block HR6.out
          clear hb6 HP5 HR5 HB5
          obtain ⟨x0, x1, x2, x3, x4, x5, x6, x7⟩ := evt_cells HR6.out
          obtain ⟨g0, g1, g2, g3, g4, g5, g6, g7⟩ := evt_cells HP6.out
          have fz := fun o => blk_free HR6.out o
          by_cases hq : rest s q = []
          · have hs0 : s.size - q = 0 := by rw [← hlr, hq]; rfl
            have HE := Lib.hid (show R = (E, 0) by rw [HRF.out, if_neg (by simpa using hq)])
            clear hlr hq HRF
            rw [hs0]
            go_wp2_with fail
            exact bodyPost_ret (results_cv rfl rfl rfl (evt_set (v := E) HR6.out) Tryz.underlying25 rfl (by kernel_rfl)) rfl ⟨by rw [HE.out]; rfl, HB6.out.trans ((evt_only w6 w.heap.size E).below (by omega) (by omega))⟩
          · have hs0 : 0 < s.size - q := by rw [← hlr]; exact List.length_pos_iff.2 hq
            have HE := Lib.hid (show R = (zeroE, 2) by rw [HRF.out, if_pos hq])
            have k1 : decide ((0 : Int) < ((s.size - q : Nat) : Int)) = true := decide_eq_true (by omega)
            clear hlr hq HRF g0 g1 g2 g3 g4 g5 g6 g7
            generalize s.size - q = N at *
            go_wp2_with fail
            exact bodyPost_ret (results_cv rfl rfl rfl (evt_set (v := zeroE) HR6.out) Tryz.underlying25 rfl (by kernel_rfl)) rfl ⟨by rw [HE.out]; rfl, HB6.out.trans ((evt_only w6 w.heap.size zeroE).below (by omega) (by omega))⟩
end Go.Proofs.YtgooepfhapaenaaGreat
/- What Get, of package event, comes to. Conditions: the text is no longer than the law's. -/
namespace Go.Proofs.YtgooepfhapaenaaGreat
open Go.ChangeShapes Go.WideShapes Go.ChangeAt Go.RowKit
set_option linter.unusedVariables false
set_option maxRecDepth 100000
set_option linter.unusedSimpArgs false

/-! ### Get -/
set_option maxHeartbeats 4000000 in
theorem evget_any (s : ByteArray) (w : World) (hs : s.size ≤ 100000) : Calls Tryz.prog 28 #[.string s] w fun e w' => e = .returned (.tuple #[(getE s.data.toList).1.val, .int .i64 (getE s.data.toList).2]) ∧ Below w.heap.size w w' := by
  have hb0 : Below w.heap.size w (w.alloc (.cells zeroE.cells 25)) := (Below.refl _ _).alloc (Nat.le_refl _) _
  have HR1 := Lib.hid (evt_new w zeroE 25)
  have hz1 : (w.alloc (.cells zeroE.cells 25)).heap.size = w.heap.size + 1 := by simp
  have HB1 := Lib.hid hb0
  have HG := Lib.hid (get_read s.data.toList)
  have hok := read_ok s.data.toList
  have HRD := Lib.hid fun cb W h => read_any cb s W (by omega) h
  obtain ⟨G, hG⟩ : ∃ G, getE s.data.toList = G := ⟨_, rfl⟩
  rw [hG] at HG ⊢
  clear hG hb0
  generalize readE s.data.toList = R at *
  obtain ⟨v, e⟩ := R
  dsimp only at HG hok HRD
  have HCK := Lib.hid fun W => evcheck_any v W hok
  unfold zeroE Evt.cells zero3 at HR1 HB1 hz1
  unfold Evt.val at HRD HCK
  go_enter Tryz.func28, Tryz.ntmps28
  go_wp2_with fail
  generalize w.alloc (Obj.cells #[.int .i64 0, .int .i64 0, .int .i64 0, .int .i64 0, .int .i64 0, .int .i64 0, .int .i64 0, .int .i64 0] 25) = w1 at *
  refine (curnew_any s w1).mono ?_
  rintro e' w2 ⟨rfl, hc2, hb2⟩
  rw [hz1] at hc2 hb2
  have HC2 := Lib.hid hc2
  have HR2 := Lib.hid (blk_below hb2 HR1.out (by omega))
  have HB2 := Lib.hid (HB1.out.trans (hb2.mono (by omega)))
  clear hc2 hb2 HR1 HB1
  go_wp2_with fail
  refine (HRD.out (w.heap.size + 1) w2 HC2.out).mono ?_
  rintro e' w3 ⟨rfl, hb3⟩
  have HR3 := Lib.hid (blk_below hb3 HR2.out (by omega))
  have HB3 := Lib.hid (HB2.out.trans (hb3.mono (by omega)))
  clear HC2 hb3 HR2 HB2 HRD
  have hsz3 : w.heap.size < w3.heap.size := lt_of_block HR3.out
  have hb4 : Below w3.heap.size w3 (w3.alloc (.cells v.cells 25)) := (Below.refl _ _).alloc (Nat.le_refl _) _
  have HR4 := Lib.hid (blk_below hb4 HR3.out hsz3)
  have HB4 := Lib.hid (HB3.out.trans (hb4.mono (by omega)))
  have HX4 := Lib.hid (evt_new w3 v 25)
  have hsz4 : w3.heap.size < (w3.alloc (.cells v.cells 25)).heap.size := by simp
  unfold Evt.cells at HR4 HB4 HX4 hsz4
  clear hb4 HR3 HB3
  obtain ⟨w4, hW⟩ : ∃ w4, w3.alloc (Obj.cells #[.int .i64 v.k, .int .i64 v.n, .int .i64 v.j, .int .i64 v.i, .int .i64 v.p, .int .i64 v.r.a, .int .i64 v.r.b, .int .i64 v.r.c] 25) = w4 := ⟨_, rfl⟩
  rw [hW] at HR4 HB4 HX4 hsz4
  by_cases he : e = 0
  · subst he
    obtain ⟨x0, x1, x2, x3, x4, x5, x6, x7⟩ := evt_cells (v := v) HX4.out
    go_wp2_with fail
    refine (HCK.out w4).mono ?_
    rintro e' w5 ⟨rfl, hb5⟩
    have HR5 := Lib.hid (blk_below hb5 HR4.out (by omega))
    have HB5 := Lib.hid (HB4.out.trans (hb5.mono (by omega)))
    have HX5 := Lib.hid (blk_below hb5 HX4.out hsz4)
    have hsz5 : w.heap.size < w5.heap.size := lt_of_block HR5.out
    clear hb5 HR4 HB4 HX4 x0 x1 x2 x3 x4 x5 x6 x7 HCK
    obtain ⟨x0, x1, x2, x3, x4, x5, x6, x7⟩ := evt_cells (v := ⟨0, 0, 0, 0, 0, ⟨0, 0, 0⟩⟩) HR5.out
    obtain ⟨g0, g1, g2, g3, g4, g5, g6, g7⟩ := evt_cells (v := v) HX5.out
    have fz := fun o => blk_free HR5.out o
    by_cases hc : checkE v = 0
    · have HE := Lib.hid (show G = (v, 0) by rw [HG.out, if_neg (by simp), if_pos hc])
      rw [hc]
      clear HG hc
      go_wp2_with fail
      exact bodyPost_ret (results_cv rfl rfl rfl (evt_set (v := v) (u := zeroE) HR5.out) Tryz.underlying25 rfl (by kernel_rfl)) rfl ⟨by rw [HE.out]; rfl, HB5.out.trans ((evt_only w5 w.heap.size v).below (by omega) (by omega))⟩
    · have HE := Lib.hid (show G = (zeroE, checkE v) by rw [HG.out, if_neg (by simp), if_neg hc])
      have k1 : (checkE v == 0) = false := beq_eq_false_iff_ne.2 hc
      have k2 : decide (checkE v = 0) = false := decide_eq_false hc
      have k3 : (checkE v != 0) = true := by simpa using hc
      clear HG
      generalize checkE v = c at *
      go_wp2_with fail
      exact bodyPost_ret (results_cv rfl rfl rfl (evt_set (v := zeroE) (u := zeroE) HR5.out) Tryz.underlying25 rfl (by kernel_rfl)) rfl ⟨by rw [HE.out]; rfl, HB5.out.trans ((evt_only w5 w.heap.size zeroE).below (by omega) (by omega))⟩
  · have k1 : (e == 0) = false := beq_eq_false_iff_ne.2 he
    have k2 : decide (e = 0) = false := decide_eq_false he
    have k3 : (e != 0) = true := by simpa using he
    have HE := Lib.hid (show G = (zeroE, e) by rw [HG.out, if_pos he])
    obtain ⟨x0, x1, x2, x3, x4, x5, x6, x7⟩ := evt_cells (v := ⟨0, 0, 0, 0, 0, ⟨0, 0, 0⟩⟩) HR4.out
    have fz := fun o => blk_free HR4.out o
    go_wp2_with fail
    exact bodyPost_ret (results_cv rfl rfl rfl (evt_set (v := zeroE) (u := zeroE) HR4.out) Tryz.underlying25 rfl (by kernel_rfl)) rfl ⟨by rw [HE.out]; rfl, HB4.out.trans ((evt_only w4 w.heap.size zeroE).below (by omega) (by omega))⟩
end Go.Proofs.YtgooepfhapaenaaGreat
/- What Check, Put, Get, Pure of package event come to: evcheck_any (EvG), evput_any (EvP), evpure_any (EvQ), evget_any (EvY). No axioms any more. -/
namespace Go.Proofs.YtgooepfhapaenaaGreat
end Go.Proofs.YtgooepfhapaenaaGreat
