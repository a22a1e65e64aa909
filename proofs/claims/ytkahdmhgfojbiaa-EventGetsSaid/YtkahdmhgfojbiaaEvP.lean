/- What Put, of package event, comes to. Conditions: the event's numbers fit. -/
import Derived.Test.YtkahdmhgfojbiaaEvG
import Derived.Test.YtkahdmhgfojbiaaOctJ
import Derived.Test.YtkahdmhgfojbiaaEvtU
namespace Go.Proofs.Ytkahdmhgfojbiaa
open Go.ChangeShapes Go.WideShapes Go.ChangeAt Go.RowKit
set_option linter.unusedVariables false
set_option maxRecDepth 100000
set_option linter.unusedSimpArgs false

theorem fix_one (n : Nat) : fixS n 1 = bs [UInt8.ofNat n] := by unfold fixS; rw [if_pos (by omega)]; simp [fixL]
theorem bytesN_snoc (l : List Int) (x : Int) : bs (bytesN (l ++ [x])) = bs (bytesN l) ++ varS x := by
  unfold bytesN varS
  rw [List.flatMap_append]
  split <;> rw [bs_append] <;> simp [*]
theorem evt_int (v : Evt) (hv : v.ok) (j : Nat) : inI ((intsE v).getD j 0) := by
  obtain ⟨h1, h2, h3, h4, h5, h6, h7, h8⟩ := hv
  match j with
  | 0 => exact h1
  | 1 => exact h2
  | 2 => exact h3
  | 3 => exact h4
  | 4 => exact h5
  | 5 => exact h6
  | 6 => exact h7
  | 7 => exact h8
  | n + 8 => exact ⟨by simp [intsE], by simp [intsE]⟩
theorem idx_k (k : Int) (h : idxE k ≠ []) : 1 ≤ k ∧ k ≤ 7 := by
  rcases idx_cases k with ⟨e, h1, h2⟩ | ⟨e, h1, h2⟩ | ⟨e, h1, h2⟩ | ⟨e, h1, h2⟩ | ⟨e, h1, h2⟩ | ⟨e, h1, h2⟩ | ⟨e, h1, h2⟩ | ⟨h1, h2⟩
  all_goals first
    | omega
    | exact absurd h1 h
set_option maxHeartbeats 4000000 in
theorem evput_any (v : Evt) (w : World) (hok : v.ok) : Calls Try.prog 6 #[v.val] w fun e w' => e = .returned (.tuple #[.string (bs (putE v).1), .int .i64 (putE v).2]) ∧ Below w.heap.size w w' := by
  have hb0 : Below w.heap.size w (w.alloc (.cells v.cells 25)) := (Below.refl _ _).alloc (Nat.le_refl _) _
  have hz0 : (w.alloc (.cells v.cells 25)).heap.size = w.heap.size + 1 := by simp
  have hx0 := evt_new w v 25
  have HCK := Lib.hid fun W => evcheck_any v W hok
  have HINT := Lib.hid (evt_int v hok)
  unfold Evt.val Evt.cells at *
  have HB0 := Lib.hid hb0
  have HX0 := Lib.hid hx0
  clear hb0 hx0
  go_enter Try.func6, Try.ntmps6
  obtain ⟨y0, y1, y2, y3, y4, y5, y6, y7⟩ := evt_cells (v := v) HX0.out
  go_wp2_with fail
  generalize w.alloc (Obj.cells #[.int .i64 v.k, .int .i64 v.n, .int .i64 v.j, .int .i64 v.i, .int .i64 v.p, .int .i64 v.r.a, .int .i64 v.r.b, .int .i64 v.r.c] 25) = w1 at *
  refine (HCK.out w1).mono ?_
  rintro e w2 ⟨rfl, hb2⟩
  have HX2 := Lib.hid (blk_below hb2 HX0.out (by omega))
  have HB2 := Lib.hid (HB0.out.trans (hb2.mono (by omega)))
  clear hb2 HX0 HB0 y0 y1 y2 y3 y4 y5 y6 y7
  by_cases hc : checkE v = 0
  · have HP := Lib.hid (show putE v = (bytesE v, 0) by unfold putE; rw [if_pos hc])
    rw [hc]
    obtain ⟨hl, hall, hpure⟩ := check_ok hc
    have hne : idxE v.k ≠ [] := fun e => hl ((idx_none _).1 e)
    obtain ⟨hk1, hk7⟩ := idx_k _ hne
    have hbytes : bytesE v = UInt8.ofNat v.k.toNat :: bytesN ((idxE v.k).map fun j => (intsE v).getD j 0) := by unfold bytesE; rw [idx_nums]
    have HN := Lib.hid fun W hx => numbers_any w.heap.size v.k W hx
    have HFX := Lib.hid fun W => fixed_any v.k 1 W (by omega) (by omega)
    rw [fix_one] at HFX
    have qk : IntKind.u64.wrap v.k = v.k := by rw [IntKind.wrap_u64]; omega
    obtain ⟨ks, hks⟩ : ∃ ks, idxE v.k = ks := ⟨_, rfl⟩
    rw [hks] at HN hbytes
    have HBY := Lib.hid hbytes
    have hall' := hall
    clear hbytes hall hpure hl
    obtain ⟨y0, y1, y2, y3, y4, y5, y6, y7⟩ := evt_cells (v := v) HX2.out
    obtain ⟨T, hT⟩ : ∃ T : Nat → ByteArray, ∀ m, T m = bs (UInt8.ofNat v.k.toNat :: bytesN ((ks.take m).map fun j => (intsE v).getD j 0)) := ⟨_, fun _ => rfl⟩
    have HST := Lib.hid (show ∀ m j, ks[m]? = some j → T (m + 1) = T m ++ varS ((intsE v).getD j 0) from fun m j hj => by
      obtain ⟨hm, hj'⟩ := List.getElem?_eq_some_iff.1 hj
      rw [hT, hT]
      have e : ∀ l, bs (UInt8.ofNat v.k.toNat :: l) = bs [UInt8.ofNat v.k.toNat] ++ bs l := fun l => by rw [bs_append]; rfl
      rw [List.take_succ_eq_append_getElem hm, List.map_append, hj', e (bytesN ((ks.take m).map fun j => (intsE v).getD j 0)), ByteArray.append_assoc, ← bytesN_snoc]
      exact e _)
    have HSZ := Lib.hid (show ∀ m j, ks[m]? = some j → (T m).size + (varS ((intsE v).getD j 0)).size ≤ 1000 from fun m j hj => by
      have hok := nums_ok hall'
      rw [idx_nums, hks] at hok
      have h1 := bytesN_len ((ks.take m).map fun j => (intsE v).getD j 0) (fun n hn => hok n (by
        obtain ⟨q, hq, e⟩ := List.mem_map.1 hn
        exact List.mem_map.2 ⟨q, List.mem_of_mem_take hq, e⟩))
      obtain ⟨o1, o2⟩ := hok _ (List.mem_map.2 ⟨j, List.mem_of_getElem? hj, rfl⟩)
      have h2 := varS_len o1 o2
      have h3 : ks.length ≤ 5 := by
        rw [← hks]
        rcases idx_cases v.k with ⟨_, h1, _⟩ | ⟨_, h1, _⟩ | ⟨_, h1, _⟩ | ⟨_, h1, _⟩ | ⟨_, h1, _⟩ | ⟨_, h1, _⟩ | ⟨_, h1, _⟩ | ⟨h1, _⟩ <;> rw [h1] <;> decide
      rw [hT, bs_size]
      rw [List.length_map, List.length_take] at h1
      simp only [List.length_cons] at h1 ⊢
      omega)
    have HT0 := Lib.hid (show T 0 = bs [UInt8.ofNat v.k.toNat] from hT 0)
    have HTN := Lib.hid (show T ks.length = bs (bytesE v) by rw [hT, List.take_length, HBY.out])
    clear hT
    clear hall'
    go_wp2_with fail
    refine (HFX.out w2).mono ?_
    rintro e w3 ⟨rfl, hb3⟩
    have HX3 := Lib.hid (blk_below hb3 HX2.out (lt_of_block HX2.out))
    have HB3 := Lib.hid (HB2.out.trans (hb3.mono HB2.out.size))
    have hlt3 := lt_of_block HX3.out
    clear hb3 HX2 HB2 y0 y1 y2 y3 y4 y5 y6 y7
    go_wp2_with fail
    refine (HN.out w3 (evt_cells (v := v) HX3.out).1).mono ?_
    rintro e w4 ⟨u, rfl, hnb, hb4⟩
    obtain ⟨rb, o, cap, rfl, hl5⟩ := hnb.form
    have HX4 := Lib.hid (blk_below hb4 HX3.out hlt3)
    have HB4 := Lib.hid (HB3.out.trans (hb4.mono HB3.out.size))
    have HNB4 := Lib.hid hnb
    clear hnb hb4
    go_wp2_with fail
    go_loopw [5, 19] (fun s i wr => ∃ m : Nat, m ≤ ks.length ∧ i = .int .i64 m ∧ s = .string (T m) ∧ wr.heap[w.heap.size]? = some (.cells v.cells 25 (0, 0)) ∧ NB (fun a => w3.heap.size ≤ a) w.heap.size ks (.slice (some ⟨rb, o, none⟩) ks.length cap) wr ∧ Below w.heap.size w wr) (fun _ i _ => ks.length - (intOf i).toNat)
    case atStart => exact ⟨0, by omega, rfl, by rw [HT0.out], HX4.out, HNB4.out, HB4.out⟩
    case round =>
      clear HX4 HNB4 HB4
      obtain ⟨m, hm, rfl, rfl, hx, hnb, hb⟩ := hrel
      by_cases hlt : m < ks.length
      · have dk3 : decide ((m : Int) < ks.length) = true := decide_eq_true (by omega)
        have dk4 : (0 : Int) ≤ (m : Int) := by omega
        have dk5 : (m : Int) < (ks.length : Int) := by omega
        have q3 : IntKind.i64.wrap ((m : Int) + 1) = ((m + 1 : Nat) : Int) := by rw [IntWalk.i64_in _ (by omega)]; omega
        obtain ⟨j, hj⟩ : ∃ j, ks[m]? = some j := ⟨_, List.getElem?_eq_getElem hlt⟩
        obtain ⟨F, c1, c2, hF⟩ := hnb.at m j hj
        have hone := hF.one
        have ho1 : ∀ a w m, (store a F m).run Try.prog w = stored Try.prog w a F m := fun a w m => run_store _ w a _ m hone
        have hj8 := idx_lt v.k j (by rw [hks]; exact List.mem_of_getElem? hj)
        have hbl := (Below.refl wr.heap.size wr).alloc (Nat.le_refl _) (.cells #[pt w.heap.size j, F] 44)
        have hx' := blk_below hbl hx (lt_of_block hx)
        have hxc := evt_at (v := v) hx' j hj8.2
        have HV := Lib.hid fun W => var_any ((intsE v).getD j 0) W (HINT.out j).2
        have HS := Lib.hid (HST.out m j hj)
        have hsz := HSZ.out m j hj
        have HX5 := Lib.hid hx'
        have HNB5 := Lib.hid (hnb.below hbl)
        have HB5 := Lib.hid (hb.trans (hbl.mono hb.size))
        generalize (intsE v).getD j 0 = x at *
        clear hx hnb hb hF hone hbl hx' hj
        go_wp2_with fail
        refine (HV.out _).mono ?_
        rintro e w5 ⟨rfl, hb5⟩
        have HX6 := Lib.hid (blk_below hb5 HX5.out (lt_of_block HX5.out))
        have HNB6 := Lib.hid (HNB5.out.below hb5)
        have HB6 := Lib.hid (HB5.out.trans (hb5.mono HB5.out.size))
        clear HX5 HNB5 HB5 hb5
        go_wp2_with fail
        go_roundw
        case rel => exact ⟨m + 1, by omega, rfl, by rw [HS.out], HX6.out, HNB6.out, HB6.out⟩
        case measure => simp [intOf]; omega
      · obtain rfl : m = ks.length := by omega
        have dk3 : decide ((ks.length : Int) < ks.length) = false := decide_eq_false (by omega)
        have HF := Lib.hid (show Ending.returned (.tuple #[.string (T ks.length), .int .i64 0]) = Ending.returned (.tuple #[.string (bs (putE v).1), .int .i64 (putE v).2]) by
          rw [HTN.out, HP.out])
        have HBF := Lib.hid hb
        clear hx hnb hb
        go_wp2_with fail
        go_ret2
        exact ⟨HF.out, HBF.out⟩
  · have HP := Lib.hid (show putE v = ([], checkE v) by unfold putE; rw [if_neg hc])
    have dk : decide (checkE v = 0) = false := decide_eq_false hc
    have dk0 : (checkE v == 0) = false := beq_eq_false_iff_ne.2 hc
    generalize checkE v = c at *
    clear HX2
    go_wp2_with fail
    go_ret2
    exact ⟨by rw [HP.out]; rfl, HB2.out⟩
end Go.Proofs.Ytkahdmhgfojbiaa
