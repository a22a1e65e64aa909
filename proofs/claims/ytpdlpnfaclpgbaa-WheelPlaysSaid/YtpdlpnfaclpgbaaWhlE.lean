/- A wheel's Len and Next; a nil wheel's. Conditions: as stated. -/
import Derived.Test.YtpdlpnfaclpgbaaWhlB
namespace Go.Proofs.Ytpdlpnfaclpgbaa
open Go.ChangeShapes Go.WideShapes Go.ChangeAt Go.RowKit Go.Shelf
set_option linter.unusedVariables false
set_option maxRecDepth 100000
set_option linter.unusedSimpArgs false
set_option maxHeartbeats 2000000
attribute [local go_sem] Oper.semAt_some

theorem results_val {P : Program} {fn : Func} {t : Tmp} {tmps : Array Value} {w : World} {v : Value} (h : fn.results = #[.tmp t]) (hv : tmps.getD t undef = v) : (results fn tmps).run P w = .ok v w := hv ▸ results_tmp h tmps P w
theorem results_val2 {P : Program} {fn : Func} {t u : Tmp} {tmps : Array Value} {w : World} {v x : Value} (h : fn.results = #[.tmp t, .tmp u]) (hv : tmps.getD t undef = v) (hx : tmps.getD u undef = x) : (results fn tmps).run P w = .ok (.tuple #[v, x]) w := by
  rw [← hv, ← hx]; exact results_tmp2 h tmps P w
theorem below_drewK {B : Nat} {a w : World} (h : Below B a w) (n : Nat) : Below B a (w.drewN n) := ⟨h.os, h.tape, h.output, h.size, h.block⟩
theorem flatW_len_le (l : List Tm) (k : Nat) : (flatW l k).length ≤ l.length := by
  rw [(flatW_perm l k).length_eq]; exact List.length_filter_le _ _
theorem flatW_len_succ (l : List Tm) (k : Nat) : (flatW l (k + 1)).length = (flatW l k).length + (slotL l k).length := by
  show (flatW l k ++ slotL l k).length = _
  rw [List.length_append]
theorem slot_len {w : World} {mv : Value} {L : List Tm} (h : Slot w mv L) (ty : TypeId) : (Builtin.len_ #[26] ty #[mv]).run Try.prog w = .ok (.int .i64 L.length) w := by
  rcases h with ⟨rfl, rfl⟩ | ⟨m, rfl, h⟩
  · exact Maps.len_nil (P := Try.prog) (w := w) (k := 3) (t := 26) (e := 3) Try.underlying26 ty
  · exact MapF.len (t := 26) (e := 3) h Try.underlying26 ty
theorem wlen_some (b : Nat) (ms : Array Value) (l : List Tm) (w : World) (H : Whl b ms l w) (hl : l.length ≤ 1000000) :
    Calls Try.prog 17 #[.pointer (some ⟨b, 0, none⟩)] w fun e w' => e = .returned (.int .i64 l.length) ∧ Below w.heap.size w w' := by
  have hbw : b < w.heap.size := lt_of_block H.blk
  refine calls_of_wp_marks Try.func17 rfl ?_
  simp only [Try.ntmps17, List.size_toArray, List.length_cons, List.length_nil, Nat.reduceAdd, Nat.reduceSub, Array.replicate_succ, Array.replicate_zero, List.push_toArray, List.append_toArray, List.nil_append, List.cons_append]
  go_wp2_with fail
  obtain ⟨w3, hw3⟩ : ∃ w3, w.alloc (.cells #[.int .i64 0] 3) = w3 := ⟨_, rfl⟩
  rw [hw3]
  have hB3 : Below w.heap.size w w3 := by rw [← hw3]; exact ((Below.refl _ w).alloc (Nat.le_refl _) _)
  have hs3 : w3.heap.size = w.heap.size + 1 := by rw [← hw3]; simp
  have b0 : w3.heap[w.heap.size]? = some (.cells #[.int .i64 0] 3 (0, 0)) := by rw [← hw3]; exact blk_new w _
  have H3 : Whl b ms l w3 := whl_below H hB3
  clear hw3
  refine wp_rangeFunc_rounds (gf := 20) (bs := #[.pointer (some ⟨b, 0, none⟩)]) rfl (enters_of Try.func20 (by kernel_rfl) rfl) 16 (fun k => #[mAt ms k]) (fun _ => rfl) (each_some b ms w3 H3.blk H3.size)
    (fun k W => W.heap[w.heap.size]? = some (.cells #[.int .i64 ((flatW l k).length : Int)] 3 (0, 0)) ∧ Below w.heap.size w W)
    (fun W => False)
    (fun o1 o2 => ⟨blk_old _ (blk_old _ b0), hB3.trans ((below_two _ _ _).mono (by omega))⟩)
    (fun k W W' h hb => ⟨blk_books h.1 hb (by omega) (by omega), below_books' h.2 (by omega) hb⟩)
    (fun W W' h _ => h)
    ?round ?done ?ret
  case round =>
    rintro k l' W ⟨hc, hBW⟩ hk hl'
    gi_wp2
    refine ⟨trivial, ?_⟩
    rintro W2 ⟨hc2, hB2⟩ hl2
    have c0 := blk_cell hc2 0
    have f0 := blk_free hc2 0
    have hlen := fun ty => slot_len ((whl_below H hB2).slot k hk) ty
    have e1 := flatW_len_succ l k
    have e2 := flatW_len_le l (k + 1)
    obtain ⟨mv, hmv⟩ := ((whl_below H hB2).slot k hk).form
    rw [hmv] at hlen ⊢
    generalize hn0 : (flatW l k).length = n0 at *
    generalize hn1 : (slotL l k).length = n1 at *
    gi_wp2
    refine ⟨Below.heap_setCell _ _ _ _ (by simp only; omega), Below.heap_setCell _ _ _ _ (by simp only; omega), ?_, hB2.setCell (p := ⟨w.heap.size, 0, none⟩) (Nat.le_refl _) _⟩
    rw [e1, Int.natCast_add]
    exact blk_set hc2 0 (.int .i64 ((n0 : Int) + (n1 : Int)))
  case done =>
    rintro W ⟨hc, hB⟩ hl' hK
    have c0 := blk_cell hc 0
    go_wp2_with fail
    refine leaves_mark (v := .int .i64 l.length) hK ?_ ⟨rfl, below_put hB (by omega) _⟩
    refine results_val rfl ?_
    rw [← (flatW_all l).length_eq]
    rfl
  case ret =>
    rintro W h
    exact h.elim
theorem wlen_any (F : Nat → Prop) (v : Value) (l : List Tm) (w : World) (h : WP F v l w) (hl : l.length ≤ 1000000) :
    Calls Try.prog 17 #[v] w fun e w' => e = .returned (.int .i64 l.length) ∧ Below w.heap.size w w' := by
  obtain ⟨b, ms, rfl, H, hs, hF⟩ := h
  exact wlen_some b ms l w H hl
theorem nwlen_any (w : World) :
    Calls Try.prog 17 #[.pointer none] w fun e w' => e = .returned (.int .i64 0) ∧ Below w.heap.size w w' := by
  refine calls_of_wp_marks Try.func17 rfl ?_
  simp only [Try.ntmps17, List.size_toArray, List.length_cons, List.length_nil, Nat.reduceAdd, Nat.reduceSub, Array.replicate_succ, Array.replicate_zero, List.push_toArray, List.append_toArray, List.nil_append, List.cons_append]
  go_wp2_with fail
  obtain ⟨w3, hw3⟩ : ∃ w3, w.alloc (.cells #[.int .i64 0] 3) = w3 := ⟨_, rfl⟩
  rw [hw3]
  have hB3 : Below w.heap.size w w3 := by rw [← hw3]; exact ((Below.refl _ w).alloc (Nat.le_refl _) _)
  have hs3 : w3.heap.size = w.heap.size + 1 := by rw [← hw3]; simp
  have b0 : w3.heap[w.heap.size]? = some (.cells #[.int .i64 0] 3 (0, 0)) := by rw [← hw3]; exact blk_new w _
  clear hw3
  refine wp_rangeFunc_rounds (gf := 20) (bs := #[.pointer none]) rfl (enters_of Try.func20 (by kernel_rfl) rfl) 0 (fun k => #[undef]) (fun _ => rfl) (each_none w3)
    (fun k W => Below w3.heap.size w3 W) (fun W => False)
    (fun o1 o2 => below_two _ _ _)
    (fun k W W' h hb => below_books h hb)
    (fun W W' h _ => h)
    ?round ?done ?ret
  case round =>
    rintro k l' W hBW hk hl
    omega
  case done =>
    rintro W hB hl' hK
    have c0 := blk_cell (blk_below hB b0 (by omega)) 0
    have hBw : Below w.heap.size w W := hB3.trans (hB.mono (by omega))
    go_wp2_with fail
    refine leaves_mark (v := .int .i64 0) hK ?_ ⟨rfl, below_put hBw (by omega) _⟩
    exact results_val rfl rfl
  case ret =>
    rintro W h
    exact h.elim
/-! ### Next -/
theorem run_range_nil (w : World) : (Instr.range 26 (.map none)).run Try.prog w = .ok (.pointer (some ⟨w.heap.size, 0, none⟩)) (w.alloc (.mapIter none 0 #[] 0)) := by kernel_rfl
theorem wnext_some (b : Nat) (ms : Array Value) (l : List Tm) (w : World) (H : Whl b ms l w) (hs : SortedW l) :
    Calls Try.prog 16 #[.pointer (some ⟨b, 0, none⟩)] w fun e w' => e = .returned (.tuple #[.int .i64 (nextW l), .bool (!l.isEmpty)]) ∧ Below w.heap.size w w' := by
  have hbw : b < w.heap.size := lt_of_block H.blk
  refine calls_of_wp_marks Try.func16 rfl ?_
  simp only [Try.ntmps16, List.size_toArray, List.length_cons, List.length_nil, Nat.reduceAdd, Nat.reduceSub, Array.replicate_succ, Array.replicate_zero, List.push_toArray, List.append_toArray, List.nil_append, List.cons_append]
  go_wp2_with fail
  obtain ⟨w3, hw3⟩ : ∃ w3, (w.alloc (.cells #[.int .i64 0] 3)).alloc (.cells #[.bool false] 4) = w3 := ⟨_, rfl⟩
  rw [hw3]
  have hB3 : Below w.heap.size w w3 := by rw [← hw3]; exact below_two _ _ _
  have hs3 : w3.heap.size = w.heap.size + 2 := by rw [← hw3]; simp
  have b0 : w3.heap[w.heap.size]? = some (.cells #[.int .i64 0] 3 (0, 0)) := by rw [← hw3]; exact blk_old _ (blk_new w _)
  have b1 : w3.heap[w.heap.size + 1]? = some (.cells #[.bool false] 4 (0, 0)) := by rw [← hw3]; have := blk_new (w.alloc (.cells #[.int .i64 0] 3)) (.cells #[.bool false] 4); rw [World.size_alloc] at this; exact this
  have H3 : Whl b ms l w3 := whl_below H hB3
  clear hw3
  refine wp_rangeFunc_rounds (gf := 20) (bs := #[.pointer (some ⟨b, 0, none⟩)]) rfl (enters_of Try.func20 (by kernel_rfl) rfl) 16 (fun k => #[mAt ms k]) (fun _ => rfl) (each_some b ms w3 H3.blk H3.size)
    (fun k W => ∃ first found, W.heap[w.heap.size]? = some (.cells #[.int .i64 first] 3 (0, 0)) ∧ W.heap[w.heap.size + 1]? = some (.cells #[.bool found] 4 (0, 0)) ∧ MinW (flatW l k) first found ∧ Below w.heap.size w W)
    (fun W => False)
    (fun o1 o2 => ⟨0, false, blk_old _ (blk_old _ b0), blk_old _ (blk_old _ b1), .inl ⟨rfl, rfl, rfl⟩, hB3.trans ((below_two _ _ _).mono (by omega))⟩)
    (fun k W W' ⟨first, found, h1, h2, h3, h4⟩ hb => ⟨first, found, blk_books h1 hb (by omega) (by omega), blk_books h2 hb (by omega) (by omega), h3, below_books' h4 (by omega) hb⟩)
    (fun W W' h _ => h)
    ?round ?done ?ret
  case round =>
    rintro k l' W ⟨first, found, hc, hc1, hmin, hBW⟩ hk hl'
    gi_wp2
    refine ⟨trivial, ?_⟩
    rintro W2 ⟨first, found, d0, d1, hmin, hB2⟩ hl2
    have H2 := whl_below H hB2
    rcases H2.slot k hk with ⟨hx, hL⟩ | ⟨m, hx, hM⟩
    · rw [hx]
      have hr := run_range_nil W2
      gi_wp2
      gi_loopw [14] (fun _ wr => wr = W2.alloc (.mapIter none 0 #[] 0)) (fun _ _ => 0)
      case atStart => rfl
      case round =>
        subst hrel
        have hnx := fun ty => run_next_nilMap (P := Try.prog) W2 ty 0 0 #[]
        gi_wp2
        refine ⟨Below.heap_alloc _ _ _ (by omega), Below.heap_alloc _ _ _ (by omega), first, found, blk_old _ d0, blk_old _ d1, ?_, hB2.alloc hB2.size _⟩
        show MinW (flatW l k ++ slotL l k) first found
        rw [hL, List.append_nil]; exact hmin
    · rw [hx]
      have hml : m < W2.heap.size := hM.lt
      have hLs : IdsW (slotL l k) := idsW_filter hs.ids _
      have hLi : ∀ x ∈ slotL l k, inI x.id := fun x hx => (hs.ok x (mem_slotL.1 hx).1).1
      have hmf : ∀ q, w.heap.size ≤ q → m ≠ q → True := fun _ _ _ => trivial
      have hmw : m < w.heap.size := (H.slot k hk).lt hx
      gi_wp2_with (refine wpListIn_range_mapF rfl _ _ rfl 3 3 Try.underlying3 Try.underlying26 rfl hM ?_; intro w0 hrg0 hb0 hsz0)
      go_frame
      gi_loopw [14] (fun _ wr => ∃ cnt left d r first found, RgF Try.prog 3 (Value.int .i64) 0 wr m W2.heap.size (slotL l k).length (tickW (slotL l k)) left cnt ∧ (d ++ r).Perm (slotL l k) ∧ (∀ i, inI i → left i = (tickW r i).isSome) ∧
          wr.heap[w.heap.size]? = some (.cells #[.int .i64 first] 3 (0, 0)) ∧ wr.heap[w.heap.size + 1]? = some (.cells #[.bool found] 4 (0, 0)) ∧ MinW (flatW l k ++ d) first found ∧ Below w.heap.size w wr ∧
          wr.heap[w3.heap.size]? = W2.heap[w3.heap.size]? ∧ wr.heap[w3.heap.size + 1]? = W2.heap[w3.heap.size + 1]? ∧ wr.heap.size = W2.heap.size + 1) (fun _ wr => wr.rangeLeft m W2.heap.size)
      case atStart =>
        exact ⟨_, _, [], slotL l k, first, found, hrg0, List.Perm.refl _, fun i hi => rfl, blk_below hb0 d0 (by omega), blk_below hb0 d1 (by omega), by rw [List.append_nil]; exact hmin, hB2.trans (hb0.mono hB2.size), hb0.block _ (by omega), hb0.block _ (by omega), hsz0⟩
      case round =>
        obtain ⟨cnt, left, d, r, first, found, hrg, hp, hleft, d0, d1, hmin, hBw, k1, k2, hsz⟩ := hrel
        have hW2 : w.heap.size + 3 < W2.heap.size := by omega
        gi_wp2_with (refine wpListIn_next_mapF rfl _ rfl 3 intV_inj Try.underlying3 rfl hrg ?_ ?_)
        · intro hc0 hl0
          gi_wp2
          have he := done_end hp (fun x hx => by rw [← hleft x.id (hLi x hx)]; exact hl0 x.id (hLi x hx))
          refine ⟨k1, k2, first, found, d0, d1, ?_, hBw⟩
          exact hmin.perm (List.Perm.append_left _ he.2)
        · intro id c w1 cnt1 hid hlx hfx hrg1 hlt ho1 hsz1 hen
          have hst := done_step hp hLs hfx (by rw [← hleft id hid]; exact hlx)
          have hleft1 : ∀ i, inI i → leftB left id i = (tickW (dropW r id) i).isSome := fun i hi => by unfold leftB; rw [hst.2 i, hleft i hi]
          have e0 := ho1.old d0 (by omega)
          have e1 := ho1.old d1 (by omega)
          have c0 := blk_cell e0 0
          have c1 := blk_cell e1 0
          have f0 := blk_free e0 0
          have f1 := blk_free e1 0
          have hB1 : Below w.heap.size w w1 := hBw.trans (ho1.below (by omega) (by omega))
          have q1 := (ho1.block w3.heap.size (by omega) (by omega)).trans k1
          have q2 := (ho1.block (w3.heap.size + 1) (by omega) (by omega)).trans k2
          have hmeas : w1.rangeLeft m W2.heap.size < wr.rangeLeft m W2.heap.size := by rw [hrg1.left_eq, hrg.left_eq]; exact hlt
          have hstep := hmin.step ⟨id, c⟩
          rw [List.append_assoc] at hstep
          have far : ∀ v x j, j ≠ w.heap.size → j ≠ w.heap.size + 1 → ((w1.setCell ⟨w.heap.size, 0, none⟩ v).setCell ⟨w.heap.size + 1, 0, none⟩ x).heap[j]? = w1.heap[j]? := fun v x j h1 h2 => by
            rw [Below.heap_setCell _ _ _ _ (by simp only; omega), Below.heap_setCell _ _ _ _ (by simp only; omega)]
          have hrg2 : RgF Try.prog 3 (Value.int .i64) 0 ((w1.setCell ⟨w.heap.size, 0, none⟩ (.int .i64 c)).setCell ⟨w.heap.size + 1, 0, none⟩ (.bool true)) m W2.heap.size (slotL l k).length (tickW (slotL l k)) (leftB left id) cnt1 := hrg1.keep (far _ _ m (by omega) (by omega)) (far _ _ _ (by omega) (by omega))
          have hset : ∀ fst, (found = false ∨ (found = true ∧ c < fst ∧ fst = first)) → ∃ cnt left d r first found, RgF Try.prog 3 (Value.int .i64) 0 ((w1.setCell ⟨w.heap.size, 0, none⟩ (.int .i64 c)).setCell ⟨w.heap.size + 1, 0, none⟩ (.bool true)) m W2.heap.size (slotL l k).length (tickW (slotL l k)) left cnt ∧ (d ++ r).Perm (slotL l k) ∧ (∀ i, inI i → left i = (tickW r i).isSome) ∧
              ((w1.setCell ⟨w.heap.size, 0, none⟩ (.int .i64 c)).setCell ⟨w.heap.size + 1, 0, none⟩ (.bool true)).heap[w.heap.size]? = some (.cells #[.int .i64 first] 3 (0, 0)) ∧ ((w1.setCell ⟨w.heap.size, 0, none⟩ (.int .i64 c)).setCell ⟨w.heap.size + 1, 0, none⟩ (.bool true)).heap[w.heap.size + 1]? = some (.cells #[.bool found] 4 (0, 0)) ∧ MinW (flatW l k ++ d) first found ∧ Below w.heap.size w ((w1.setCell ⟨w.heap.size, 0, none⟩ (.int .i64 c)).setCell ⟨w.heap.size + 1, 0, none⟩ (.bool true)) ∧
              ((w1.setCell ⟨w.heap.size, 0, none⟩ (.int .i64 c)).setCell ⟨w.heap.size + 1, 0, none⟩ (.bool true)).heap[w3.heap.size]? = W2.heap[w3.heap.size]? ∧ ((w1.setCell ⟨w.heap.size, 0, none⟩ (.int .i64 c)).setCell ⟨w.heap.size + 1, 0, none⟩ (.bool true)).heap[w3.heap.size + 1]? = W2.heap[w3.heap.size + 1]? ∧ ((w1.setCell ⟨w.heap.size, 0, none⟩ (.int .i64 c)).setCell ⟨w.heap.size + 1, 0, none⟩ (.bool true)).heap.size = W2.heap.size + 1 := by
            intro fst hf
            refine ⟨cnt1, leftB left id, d ++ [⟨id, c⟩], dropW r id, c, true, hrg2, hst.1, hleft1, ?_, ?_, ?_, ?_, (far _ _ _ (by omega) (by omega)).trans q1, (far _ _ _ (by omega) (by omega)).trans q2, by rw [World.size_setCell, World.size_setCell]; omega⟩
            · exact blk_far (p := ⟨w.heap.size + 1, 0, none⟩) (.bool true) (blk_set e0 0 (.int .i64 c)) (by simp)
            · exact blk_set (blk_far (p := ⟨w.heap.size, 0, none⟩) (.int .i64 c) e1 (by simp)) 0 (.bool true)
            · rcases hf with hf | ⟨hf, hf2, hf3⟩
              · exact hstep.1 hf
              · exact hstep.2.1 hf (by rw [← hf3]; exact hf2)
            · exact (hB1.setCell (p := ⟨w.heap.size, 0, none⟩) (Nat.le_refl _) _).setCell (p := ⟨w.heap.size + 1, 0, none⟩) (by simp only; omega) _
          have hmeas2 : ((w1.setCell ⟨w.heap.size, 0, none⟩ (.int .i64 c)).setCell ⟨w.heap.size + 1, 0, none⟩ (.bool true)).rangeLeft m W2.heap.size < wr.rangeLeft m W2.heap.size := by rw [hrg2.left_eq, hrg.left_eq]; exact hlt
          have HS := Lib.hid hset
          have HM2 := Lib.hid hmeas2
          have HM := Lib.hid hmeas
          have HR := Lib.hid (show ¬ c < first → found = true → ∃ cnt left d r first found, RgF Try.prog 3 (Value.int .i64) 0 w1 m W2.heap.size (slotL l k).length (tickW (slotL l k)) left cnt ∧ (d ++ r).Perm (slotL l k) ∧ (∀ i, inI i → left i = (tickW r i).isSome) ∧
              w1.heap[w.heap.size]? = some (.cells #[.int .i64 first] 3 (0, 0)) ∧ w1.heap[w.heap.size + 1]? = some (.cells #[.bool found] 4 (0, 0)) ∧ MinW (flatW l k ++ d) first found ∧ Below w.heap.size w w1 ∧
              w1.heap[w3.heap.size]? = W2.heap[w3.heap.size]? ∧ w1.heap[w3.heap.size + 1]? = W2.heap[w3.heap.size + 1]? ∧ w1.heap.size = W2.heap.size + 1 from fun h1 h2 =>
            ⟨cnt1, leftB left id, d ++ [⟨id, c⟩], dropW r id, first, true, hrg1, hst.1, hleft1, e0, by rw [← h2]; exact e1, hstep.2.2 h2 h1, hB1, q1, q2, by omega⟩)
          clear hset hmeas2 hmeas hstep hrg2 far hst hleft1 hrg hp hleft d0 d1 hmin hBw k1 k2 hrg1 ho1 q1 q2 hlx hfx
          cases found with
          | false =>
            gi_wp2
            go_roundw
            case rel => exact HS.out c (.inl rfl)
            case measure => exact HM2.out
          | true =>
            by_cases hcf : c < first
            · have dcf : decide (c < first) = true := decide_eq_true hcf
              gi_wp2
              go_roundw
              case rel => exact HS.out first (.inr ⟨rfl, hcf, rfl⟩)
              case measure => exact HM2.out
            · have dcf : decide (c < first) = false := decide_eq_false hcf
              gi_wp2
              go_roundw
              case rel => exact HR.out hcf rfl
              case measure => exact HM.out
  case done =>
    rintro W ⟨first, found, d0, d1, hmin, hB⟩ hl' hK
    have c0 := blk_cell d0 0
    have c1 := blk_cell d1 0
    obtain ⟨n1, n2⟩ := (hmin.perm (flatW_all l)).next hs.ord
    go_wp2_with fail
    go_quiet (fail)
    go_wp2_with fail
    refine leaves_mark (w := W.drewN nq) (D := w3.heap.size) (v := .tuple #[.int .i64 (nextW l), .bool (!l.isEmpty)]) hK ?_ ⟨rfl, below_put (below_drewK hB nq) (by omega) _⟩
    exact results_val2 rfl rfl rfl
  case ret =>
    rintro W h
    exact h.elim
theorem wnext_any (F : Nat → Prop) (v : Value) (l : List Tm) (w : World) (h : WP F v l w) :
    Calls Try.prog 16 #[v] w fun e w' => e = .returned (.tuple #[.int .i64 (nextW l), .bool (!l.isEmpty)]) ∧ Below w.heap.size w w' := by
  obtain ⟨b, ms, rfl, H, hs, hF⟩ := h
  exact wnext_some b ms l w H hs
theorem nwnext_any (w : World) :
    Calls Try.prog 16 #[.pointer none] w fun e w' => e = .returned (.tuple #[.int .i64 0, .bool false]) ∧ Below w.heap.size w w' := by
  refine calls_of_wp_marks Try.func16 rfl ?_
  simp only [Try.ntmps16, List.size_toArray, List.length_cons, List.length_nil, Nat.reduceAdd, Nat.reduceSub, Array.replicate_succ, Array.replicate_zero, List.push_toArray, List.append_toArray, List.nil_append, List.cons_append]
  go_wp2_with fail
  obtain ⟨w3, hw3⟩ : ∃ w3, (w.alloc (.cells #[.int .i64 0] 3)).alloc (.cells #[.bool false] 4) = w3 := ⟨_, rfl⟩
  rw [hw3]
  have hB3 : Below w.heap.size w w3 := by rw [← hw3]; exact below_two _ _ _
  have hs3 : w3.heap.size = w.heap.size + 2 := by rw [← hw3]; simp
  have b0 : w3.heap[w.heap.size]? = some (.cells #[.int .i64 0] 3 (0, 0)) := by rw [← hw3]; exact blk_old _ (blk_new w _)
  have b1 : w3.heap[w.heap.size + 1]? = some (.cells #[.bool false] 4 (0, 0)) := by rw [← hw3]; have := blk_new (w.alloc (.cells #[.int .i64 0] 3)) (.cells #[.bool false] 4); rw [World.size_alloc] at this; exact this
  clear hw3
  refine wp_rangeFunc_rounds (gf := 20) (bs := #[.pointer none]) rfl (enters_of Try.func20 (by kernel_rfl) rfl) 0 (fun k => #[undef]) (fun _ => rfl) (each_none w3)
    (fun k W => Below w3.heap.size w3 W) (fun W => False)
    (fun o1 o2 => below_two _ _ _)
    (fun k W W' h hb => below_books h hb)
    (fun W W' h _ => h)
    ?round ?done ?ret
  case round =>
    rintro k l' W hBW hk hl
    omega
  case done =>
    rintro W hB hl' hK
    have c0 := blk_cell (blk_below hB b0 (by omega)) 0
    have c1 := blk_cell (blk_below hB b1 (by omega)) 0
    have hBw : Below w.heap.size w W := hB3.trans (hB.mono (by omega))
    go_wp2_with fail
    go_quiet (fail)
    go_wp2_with fail
    refine leaves_mark (w := W.drewN nq) (D := w3.heap.size) (v := .tuple #[.int .i64 0, .bool false]) hK ?_ ⟨rfl, below_put (below_drewK hBw nq) (by omega) _⟩
    exact results_val2 rfl rfl rfl
  case ret =>
    rintro W h
    exact h.elim
end Go.Proofs.Ytpdlpnfaclpgbaa
