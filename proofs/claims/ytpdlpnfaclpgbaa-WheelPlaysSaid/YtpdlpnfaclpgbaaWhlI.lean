/- What a wheel's Due comes to; a nil wheel's. Conditions: as stated. -/
import Derived.Test.YtpdlpnfaclpgbaaWhlH
import Derived.Test.YtpdlpnfaclpgbaaHoldN
import Derived.Test.YtpdlpnfaclpgbaaSame
namespace Go.Proofs.Ytpdlpnfaclpgbaa
open Go.ChangeShapes Go.WideShapes Go.ChangeAt Go.RowKit Go.Shelf
set_option linter.unusedVariables false
set_option maxRecDepth 100000
set_option linter.unusedSimpArgs false
set_option maxHeartbeats 2000000
attribute [local go_sem] Oper.semAt_some

/-- What holds in a round's region where p of its calls and stores have come up. -/
def DueC (b : Nat) (ms : Array Value) (l : List Tm) (now : Int) (F : Nat → Prop) (w : World) (k : Nat) (v : Value) (d : List Tm) (W2 : World) (p : Nat) (w' : World) : Prop :=
  match p with
  | 0 => w' = W2.drew
  | 1 => w'.cell? ⟨w.heap.size + 1, 0, none⟩ = some v
  | 2 => True
  | _ => w'.heap[w.heap.size + 2]? = W2.heap[w.heap.size + 2]? ∧ w'.heap[w.heap.size + 2 + 1]? = W2.heap[w.heap.size + 2 + 1]? ∧ (∃ v d, DueSt b ms l now F w (k + 1) v d w') ∧ w.heap.size + 4 ≤ w'.heap.size
def DueD1 (ms : Array Value) (l : List Tm) (now : Int) (k : Nat) (W2 : World) (v4 : Value) (p : Nat) (w4 : World) : Prop :=
  p = 1 → ∃ d4 : List Tm, d4.Perm (dueOf (slotL l k) now) ∧ w4.ownsRow W2.drew.heap.size 62 2 v4 d4.length (rowsW d4).flatten ∧ Slot w4 (mAt ms k) (restOf (slotL l k) now) ∧ Turned (fun j => mAt ms k = .map (some j)) W2.drew w4
def DueD2 (ms : Array Value) (l : List Tm) (now : Int) (w : World) (k : Nat) (v : Value) (d : List Tm) (W2 : World) (v5 : Value) (p : Nat) (w5 : World) : Prop :=
  p = 2 → ∃ (d4 : List Tm) (w4 : World), d4.Perm (dueOf (slotL l k) now) ∧ Slot w4 (mAt ms k) (restOf (slotL l k) now) ∧ Turned (fun j => mAt ms k = .map (some j)) W2.drew w4 ∧ w4.grownBy w5 v.ownBlock ∧
    w5.ownsRow (w.heap.size + 4) 62 2 v5 (d.length + (rowsW d4).length) ((rowsW d).flatten ++ (rowsW d4).flatten)
theorem dueC_zero {b : Nat} {ms : Array Value} {l : List Tm} {now : Int} {F : Nat → Prop} {w : World} {k : Nat} {v : Value} {d : List Tm} {W2 : World} {p : Nat} {w' : World} (hp : p ≤ 0) (h : DueC b ms l now F w k v d W2 p w') : w' = W2.drew := by
  obtain rfl : p = 0 := by omega
  exact h
theorem dueC_cell {b : Nat} {ms : Array Value} {l : List Tm} {now : Int} {F : Nat → Prop} {w : World} {k : Nat} {v : Value} {d : List Tm} {W2 : World} {p : Nat} {w' : World} (hc : W2.cell? ⟨w.heap.size + 1, 0, none⟩ = #[v][0]?) (hp : p ≤ 1) (h : DueC b ms l now F w k v d W2 p w') : w'.cell? ⟨w.heap.size + 1, 0, none⟩ = some v := by
  match p, hp, h with
  | 0, _, h => obtain rfl : w' = W2.drew := h; exact hc
  | 1, _, h => exact h
theorem wdue_any (F : Nat → Prop) (v : Value) (l : List Tm) (now : Int) (w : World) (h : WP F v l w) (hlen : l.length ≤ 1000000) :
    Calls Try.prog 14 #[v, .int .i64 now] w fun e w' => ∃ u, e = .returned u ∧ RdI w' (fun k => w.heap.size ≤ k) u (dueW l now) ∧ WP F v (leftW l now) w' ∧ Turned F w w' := by
  obtain ⟨b, ms, rfl, H, hs, hF⟩ := h
  have hbw : b < w.heap.size := lt_of_block H.blk
  have hlt : ∀ i g, i < 16 → mAt ms i = .map (some g) → g < w.heap.size := fun i g hi hg => (H.slot i hi).lt hg
  have hFm : ∀ i g, i < 16 → mAt ms i = .map (some g) → F g := fun i g hi hg => (hF g).2 (.inr ⟨i, hi, hg⟩)
  have hmx : Try.prog.follows .mixedOrders = true := by kernel_rfl
  refine calls_of_wp_marks Try.func14 rfl ?_
  simp only [Try.ntmps14, List.size_toArray, List.length_cons, List.length_nil, Nat.reduceAdd, Nat.reduceSub, Array.replicate_succ, Array.replicate_zero, List.push_toArray, List.append_toArray, List.nil_append, List.cons_append]
  go_wp2_with fail
  obtain ⟨w3, hw3⟩ : ∃ w3, (w.alloc (.cells #[.int .i64 now] 3)).alloc (.cells #[.slice none 0 0] 57) = w3 := ⟨_, rfl⟩
  rw [hw3]
  have hB3 : Below w.heap.size w w3 := by rw [← hw3]; exact below_two _ _ _
  have hs3 : w3.heap.size = w.heap.size + 2 := by rw [← hw3]; simp
  have b0 : w3.heap[w.heap.size]? = some (.cells #[.int .i64 now] 3 (0, 0)) := by rw [← hw3]; exact blk_old _ (blk_new w _)
  have b1 : w3.heap[w.heap.size + 1]? = some (.cells #[.slice none 0 0] 57 (0, 0)) := by rw [← hw3]; have := blk_new (w.alloc (.cells #[.int .i64 now] 3)) (.cells #[.slice none 0 0] 57); rw [World.size_alloc] at this; exact this
  have H3 : Whl b ms l w3 := whl_below H hB3
  clear hw3
  have hstart : ∀ o1 o2, DueSt b ms l now F w 0 (.slice none 0 0) [] ((w3.alloc o1).alloc o2) := fun o1 o2 => by
    have hb2 := below_two w3 o1 o2
    refine ⟨blk_old _ (blk_old _ b0), blk_old _ (blk_old _ b1), World.ownsRow_nil _ _ _ _, List.Perm.refl _, fun i hi => ?_, Turned.of (hB3.trans (hb2.mono hB3.size)), blk_below hb2 H3.blk (by omega)⟩
    rw [if_neg (by omega)]
    exact (H3.slot i hi).keep fun g hg => hb2.block g (by have := hlt i g hi hg; omega)
  refine wp_rangeFunc_rounds (gf := 20) (bs := #[.pointer (some ⟨b, 0, none⟩)]) rfl (enters_of Try.func20 (by kernel_rfl) rfl) 16 (fun k => #[mAt ms k]) (fun _ => rfl) (each_some b ms w3 H3.blk H3.size)
    (fun k W => (∃ v d, DueSt b ms l now F w k v d W) ∧ w.heap.size + 4 ≤ W.heap.size)
    (fun W => False)
    (fun o1 o2 => ⟨⟨_, _, hstart o1 o2⟩, by simp; omega⟩)
    (fun k W W' ⟨⟨v, d, h⟩, h2⟩ hb => ⟨⟨v, d, due_books h (by rw [hs3] at hb; exact hb) hlt hbw⟩, by rw [hb.size]; exact h2⟩)
    (fun W W' h _ => h)
    ?round ?done ?ret
  case round =>
    rintro k l' W ⟨⟨v, d, hst⟩, hW⟩ hk hl'
    gi_wp2
    refine ⟨trivial, ?_⟩
    rintro W2 ⟨⟨v, d, hst⟩, hW2⟩ hl2
    have hSlot := hst.slot k hk
    rw [if_neg (by omega)] at hSlot
    have HT := Lib.hid (fun W' (e : W' = W2.drew) => wtake_any (mAt ms k) (slotL l k) now W' (hSlot.keep fun g _ => by rw [e]; rfl) (idsW_filter hs.ids _) (fun x hx => (hs.ok x (mem_slotL.1 hx).1).1) (Nat.le_trans (slotL_len l k) hlen))
    have c0 := blk_cell hst.bnow 0
    have c1 := blk_cell hst.bdue 0
    have HS := Lib.hid hst
    have HLEN := Lib.hid (show ∀ d4 : List Tm, d4.Perm (dueOf (slotL l k) now) → d.length + (rowsW d4).length ≤ 1000000 from fun d4 h4 => by
      rw [rowsW_len, hst.perm.length_eq, h4.length_eq]
      have e1 := flatW_len_le l (k + 1)
      have e2 := flatW_len_succ l k
      have e3 := List.length_filter_le (fun x : Tm => decide (x.tick ≤ now)) (flatW l k)
      have e4 := List.length_filter_le (fun x : Tm => decide (x.tick ≤ now)) (slotL l k)
      unfold dueOf
      omega)
    have HOWN := Lib.hid (show ∀ w4, Turned (fun j => mAt ms k = .map (some j)) W2.drew w4 → w4.ownsRow (w.heap.size + 4) 62 2 v d.length (rowsW d).flatten ∧ w.heap.size + 4 ≤ w4.heap.size ∧ w4.cell? ⟨w.heap.size + 1, 0, none⟩ = some v ∧ ∀ w5, w4.grownBy w5 v.ownBlock → w5.heap[w.heap.size + 1]? = some (.cells #[v] 57 (0, 0)) from fun w4 hT => by
      have hs4 : W2.heap.size ≤ w4.heap.size := hT.size
      have hmk : ∀ j, w.heap.size ≤ j → ¬ mAt ms k = .map (some j) := fun j hj e => by have := hlt k j hk e; omega
      have e1 : w4.heap[w.heap.size + 1]? = some (.cells #[v] 57 (0, 0)) := (hT.block _ (by show _ < W2.heap.size; omega) (hmk _ (by omega))).trans hst.bdue
      exact ⟨owns_keep hst.own fun g hg hl => hT.block g hl (hmk g (by omega)), by omega, blk_cell e1 0, fun w5 hg => (hg.block _ (by omega) (fun e => by have := owns_row hst.own e.symm; omega)).trans e1⟩)
    clear hst hSlot
    gi_wp2
    refine wpIn_region_holdP (cl := [3, 4, 5]) hmx (by kernel_rfl) (by rintro ⟨_, _, h⟩; exact h) (DueC b ms l now F w k v d W2) (by kernel_rfl) rfl ?_
    refine holdP_valA (v := v) 1 4 _ rfl rfl (by kernel_rfl) (by rfl) (by rfl) (fun p w' hp hC => ?_) ?_
    · have z := dueC_cell c1 hp hC
      go_simp
    simp only [Act.put, List.setIfInBounds_toArray, List.set_cons_zero, List.set_cons_succ]
    refine holdP_val (v := mAt ms k) (by rfl) (by rfl) (fun p w' hC => ?_) ?_
    · go_simp
    simp only [Act.put, List.setIfInBounds_toArray, List.set_cons_zero, List.set_cons_succ]
    refine holdP_valA (v := .int .i64 now) 0 3 _ rfl rfl (by kernel_rfl) (by rfl) (by rfl) (fun p w' hp hC => ?_) ?_
    · obtain rfl := dueC_zero hp hC
      go_simp
    simp only [Act.put, List.setIfInBounds_toArray, List.set_cons_zero, List.set_cons_succ]
    refine holdP_some (f := 21) (args := #[mAt ms k, .int .i64 now]) 0 (DueD1 ms l now k W2) rfl (by rfl) (fun w' hC => ?_) (fun w' hC => ?_) (fun v4 => ?_)
    · go_simp
    · obtain rfl := hC
      refine (HT.out _ rfl).mono ?_
      rintro e w4 ⟨v4, d4, he, hd4, hr4, hs4, hT4⟩
      exact ⟨v4, he, (HOWN.out _ hT4).2.2.1, fun _ => ⟨d4, hd4, hr4, hs4, hT4⟩⟩
    simp only [Act.put, List.setIfInBounds_toArray, List.set_cons_zero, List.set_cons_succ]
    refine holdP_make 1 (DueD2 ms l now w k v d W2) rfl (by rfl) (fun w' hC => ?_) (fun v5 => ?_)
    · obtain ⟨d4, hd4, hr4, hs4, hT4⟩ := hC.2 (by omega) rfl
      obtain ⟨v5, w5, e5, h5, hg5⟩ := run_append_rdK (P := Try.prog) 57 57 (w.heap.size + 4) 62 (.agg #[.int .i64 0, .int .i64 0]) 2 16 infoTm rfl (by decide) (by decide) Try.underlying57 v d.length (rowsW d).flatten (HOWN.out _ hT4).1 _ v4 (rowsW d4) (RdK.own hr4 (rowsW_len d4) (rowsW_two d4)) (rowsW_two d4) (rowsW_one d4) (HLEN.out _ hd4) (HOWN.out _ hT4).2.1
      refine ⟨v5, w5, ?_, ⟨trivial, fun _ h => by cases h⟩, fun _ => ⟨d4, w', hd4, hs4, hT4, hg5, h5⟩⟩
      simp [execOp, resolve, invoke, builtin, Act.eval, e5, Result.andThen]
    simp only [Act.put, List.setIfInBounds_toArray, List.set_cons_zero, List.set_cons_succ]
    refine holdP_store 2 rfl (by rfl) (fun w' hC => ?_) ?_
    · obtain ⟨d4, w4, hd4, hs4, hT4, hg5, h5⟩ := hC.2 (by omega) rfl
      have hb5 := (HOWN.out _ hT4).2.2.2 _ hg5
      obtain ⟨A5, c5, rfl⟩ := owns_form h5
      have z0 := blk_cell hb5 0
      have zf := blk_free hb5 0
      refine ⟨w'.setCell ⟨w.heap.size + 1, 0, none⟩ (.slice A5 (d.length + (rowsW d4).length) c5), ?_, ⟨?_, fun _ h => by cases h⟩, fun _ h => by cases h⟩
      · go_simp
      · have st := due_step HS.out hk hW2 hbw hlt H.apart H.own hFm ⟨hT4.os, hT4.tape, hT4.output, hT4.size, hT4.block⟩ hs4 hg5 h5 hd4
        refine ⟨st.1, st.2.1, st.2.2, ?_⟩
        have e1 := hg5.size
        have e2 : W2.heap.size ≤ w4.heap.size := hT4.size
        rw [World.size_setCell]; omega
    simp only [Act.put, List.setIfInBounds_toArray, List.set_cons_zero, List.set_cons_succ]
    refine holdP_nil (fun w6 hC => ?_)
    obtain ⟨h1, h2, h3, h4⟩ := hC.1.1
    exact ⟨by rw [hs3]; exact h1, by rw [hs3]; exact h2, h3, h4⟩
  case done =>
    rintro W ⟨⟨v, d, hst⟩, hW⟩ hl' hK
    rw [hs3] at hK ⊢
    obtain ⟨q1, q2⟩ := leftW_filter hs.ord now
    have hdl : d.Perm (l.take (dueN l now)) := by
      rw [q1]
      exact hst.perm.trans ((flatW_all l).filter _)
    have hsd : (l.take (dueN l now)).Pairwise fun x y => tmB x y = true := hs.ord.sublist (List.take_sublist _ _)
    have hdn : (l.take (dueN l now)).length ≤ 1000000 := by rw [List.length_take]; omega
    have HW := Lib.hid (show ∀ W', (∀ j, j < w.heap.size + 4 → j ≠ w.heap.size + 2 → W'.heap[j]? = W.heap[j]?) → WP F (.pointer (some ⟨b, 0, none⟩)) (leftW l now) W' from fun W' hk => by
      refine ⟨b, ms, rfl, ⟨(hk b (by omega) (by omega)).trans hst.blk, H.size, fun i hi => ?_, H.apart, H.own⟩, sorted_leftW hs now, hF⟩
      have h1 := hst.slot i hi
      rw [if_pos hi, ← slotL_restOf] at h1
      rw [q2]
      exact h1.keep fun g hg => hk g (by have := hlt i g hi hg; omega) (by have := hlt i g hi hg; omega))
    have HT := Lib.hid (show ∀ W', Below (w.heap.size + 2) W W' → Turned F w W' from fun W' hb => hst.turn.trans (G := fun j => w.heap.size ≤ j) ⟨hb.os, hb.tape, hb.output, hb.size, fun j hj hn => hb.block j (by omega)⟩ (fun j hj => .inr hj))
    have HD := Lib.hid (show dueW l now = (l.take (dueN l now)).map Tm.id from rfl)
    have c1 := blk_cell hst.bdue 0
    have hown := hst.own
    have hbd := hst.bdue
    generalize hdd : l.take (dueN l now) = dl at *
    obtain ⟨i0, hif, hz0, hz1, hz2⟩ := info_parts infoI64
    rcases hown.2 with ⟨rfl, hd0⟩ | ⟨g, cap, cur, rfl, hgb, hgblk, hgl, _⟩
    · have hdl0 : dl = [] := by
        have := hdl.length_eq
        rw [hd0] at this
        exact List.eq_nil_of_length_eq_zero this.symm
      subst hdl0
      have HF := Lib.hid (show dueW l now = [] from HD.out)
      clear q1 q2 hdd hd0
      have hWP := HW.out (W.putObj (w.heap.size + 2) (.deferred none)) (fun j _ hne => World.putObj_heap_other hne)
      have hTT := HT.out (W.putObj (w.heap.size + 2) (.deferred none)) (below_put (Below.refl _ _) (Nat.le_refl _) _)
      clear hst hown HD HW HT
      go_wp2_with (go_at_call 22; refine (wsort_nil 0 W).mono ?_; rintro e W1 ⟨rfl, hW1⟩; obtain rfl : W = W1 := hW1.symm)
      go_loopw [7, 22] (fun u i wr => u = .slice none 0 0 ∧ i = .int .i64 0 ∧ wr = W) (fun _ _ _ => 0)
      case atStart => exact ⟨rfl, rfl, rfl⟩
      case round =>
        obtain ⟨rfl, rfl, rfl⟩ := hrel
        go_wp2_with fail
        refine leaves_mark (D := w.heap.size + 2) (v := .slice none 0 0) hK ?_ ⟨_, rfl, ?_, hWP, hTT⟩
        · exact results_val rfl rfl
        · rw [HF.out]; exact RdI.nil _ _
    · have hgW : g < W.heap.size := lt_of_block hgblk
      have HLL := Lib.hid hdl.length_eq
      have SR := Lib.hid (wsort_any (w.heap.size + 4) g cap d dl W (by rw [HLL.out]; exact hdn) hdl hsd hown)
      have HWK := Lib.hid hW
      clear hst hown hgblk hgl hdl hsd q1 q2 hdd
      go_wp2_with fail
      refine SR.out.mono ?_; rintro e W1 ⟨rfl, hc, ho⟩
      have HC := Lib.hid hc
      have hW1s := ho.size
      have hbd1 : W1.heap[w.heap.size + 1]? = some (.cells #[.slice (some ⟨g, 0, none⟩) d.length cap] 57 (0, 0)) := ho.old hbd (by omega)
      have c2 := blk_cell hbd1 0
      have hK1 : W1.heap[w.heap.size + 2]? = some (.deferred (some [])) := ho.old hK (by omega)
      have HO := Lib.hid ho
      clear hc ho SR hbd c1
      rw [HLL.out] at c2
      go_wp2_with fail
      go_loopw [7, 22] (fun u i wr => ∃ n : Nat, n ≤ dl.length ∧ i = .int .i64 (n : Int) ∧ wr.ownsRow W1.heap.size 3 1 u n (ints ((dl.take n).map Tm.id)) ∧ Below W1.heap.size W1 wr) (fun _ i _ => dl.length - (intOf i).toNat)
      case atStart => exact ⟨0, by omega, rfl, World.ownsRow_nil _ _ _ _, Below.refl _ _⟩
      case round =>
        obtain ⟨n, hn, rfl, hrow, hB⟩ := hrel
        have hBs := hB.size
        by_cases hlt2 : n < dl.length
        · have dk : decide (n < dl.length) = true := decide_eq_true hlt2
          have dk2 : decide ((n : Int) < (dl.length : Int)) = true := decide_eq_true (by omega)
          have i0k : (0 : Int) ≤ (n : Int) := by omega
          have i1k : (n : Int) < (dl.length : Int) := by omega
          have i2k : (dl.length : Int) ≤ 1000000 := by omega
          obtain ⟨r0, r1⟩ := HC.out n hlt2
          have hcc : ∀ o, wr.cell? ⟨g, o, none⟩ = W1.cell? ⟨g, o, none⟩ := fun o => hB.cell (p := ⟨g, o, none⟩) (by show g < W1.heap.size; omega)
          rw [← hcc] at r0 r1
          have HROW := Lib.hid hrow
          have HNX := Lib.hid (show (dl.take (n + 1)).map Tm.id = (dl.take n).map Tm.id ++ [(nthW dl n).id] by rw [List.take_succ_eq_append_getElem hlt2, List.map_append, nthW_eq dl n hlt2]; rfl)
          have HBB := Lib.hid hB
          have hW1r : W1.heap.size ≤ wr.heap.size := hBs
          generalize (nthW dl n).id = xi at *
          generalize (nthW dl n).tick = xt at *
          clear hrow hB hcc
          go_wp2_with (at_builtin; refine wpList_append_own _ rfl _ _ 40 rfl W1.heap.size 3 i0 (.int .i64 0) 1 8 Try.underlying40 hif hz0 hz1 hz2 rfl (by decide) _ _ _ rfl ((HROW.out.alloc _).alloc _) ⟨wr.heap.size + 1, 0, none⟩ 1 1 [.int .i64 xi] rfl rfl (by have h := cells_new (wr.alloc (.cells #[.int .i64 xi, .int .i64 xt] 62)) #[.int .i64 xi] 3; rw [World.size_alloc] at h; exact h) (by simp [Value.oneCell']) ?c3 ?c4 ?c5 ?_)
          case c3 => unfold maxLen; omega
          case c4 => omega
          case c5 => simp; omega
          intro v' w4 hown4 hgrow _
          go_wp2_with fail
          go_roundw
          case rel =>
            refine ⟨n + 1, by omega, by go_num, ?_, ?_⟩
            · rw [HNX.out, ints_append, List.map_take]; exact hown4
            · exact grown_below (((HBB.out).alloc hW1r _).alloc (by simp; omega) _) hgrow (fun g hg => owns_row HROW.out hg) (by simp; omega)
          case measure => simp [intOf]; omega
        · obtain rfl : n = dl.length := by omega
          have dk2 : decide ((dl.length : Int) < (dl.length : Int)) = false := decide_eq_false (by omega)
          rw [List.take_length] at hrow
          have hK2 : wr.heap[w.heap.size + 2]? = some (.deferred (some [])) := (hB.block _ (by omega)).trans hK1
          have hr2 : RdI (wr.putObj (w.heap.size + 2) (.deferred none)) (fun k => w.heap.size ≤ k) u7 (dueW l now) := by
            rw [HD.out]
            refine (RdI.own hrow (by rw [List.length_map])).keep (fun j hj hl => ?_) (by rw [World.putObj_size]; omega) |>.imp (fun j hj _ => by omega)
            exact World.putObj_heap_other (by omega)
          have hko : ∀ j, j < w.heap.size + 4 → j ≠ w.heap.size + 2 → (wr.putObj (w.heap.size + 2) (.deferred none)).heap[j]? = W.heap[j]? := fun j h1 h2 => by
            have := HWK.out
            rw [World.putObj_heap_other h2, hB.block j (by omega), HO.out.block j (by omega) (by omega)]
          have hBW : Below (w.heap.size + 2) W (wr.putObj (w.heap.size + 2) (.deferred none)) := by
            have := HWK.out
            exact below_put ((HO.out.below (by omega) (by omega)).trans (hB.mono (by omega))) (Nat.le_refl _) _
          have hWP := HW.out _ hko
          have hTT := HT.out _ hBW
          clear hrow HD HW HT
          go_wp2_with fail
          refine leaves_mark (D := w.heap.size + 2) (v := u7) hK2 ?_ ⟨_, rfl, hr2, hWP, hTT⟩
          exact results_val rfl rfl
  case ret =>
    rintro W h
    exact h.elim
theorem nwdue_any (now : Int) (w : World) :
    Calls Try.prog 14 #[.pointer none, .int .i64 now] w fun e w' => e = .returned (.slice none 0 0) ∧ Below w.heap.size w w' := by
  refine calls_of_wp_marks Try.func14 rfl ?_
  simp only [Try.ntmps14, List.size_toArray, List.length_cons, List.length_nil, Nat.reduceAdd, Nat.reduceSub, Array.replicate_succ, Array.replicate_zero, List.push_toArray, List.append_toArray, List.nil_append, List.cons_append]
  go_wp2_with fail
  obtain ⟨w3, hw3⟩ : ∃ w3, (w.alloc (.cells #[.int .i64 now] 3)).alloc (.cells #[.slice none 0 0] 57) = w3 := ⟨_, rfl⟩
  rw [hw3]
  have hB3 : Below w.heap.size w w3 := by rw [← hw3]; exact below_two _ _ _
  have hs3 : w3.heap.size = w.heap.size + 2 := by rw [← hw3]; simp
  have b1 : w3.heap[w.heap.size + 1]? = some (.cells #[.slice none 0 0] 57 (0, 0)) := by rw [← hw3]; have := blk_new (w.alloc (.cells #[.int .i64 now] 3)) (.cells #[.slice none 0 0] 57); rw [World.size_alloc] at this; exact this
  clear hw3
  refine wp_rangeFunc_rounds (gf := 20) (bs := #[.pointer none]) rfl (enters_of Try.func20 (by kernel_rfl) rfl) 0 (fun k => #[undef]) (fun _ => rfl) (each_none w3)
    (fun k W => Below w3.heap.size w3 W) (fun W => False)
    (fun o1 o2 => below_two _ _ _)
    (fun k W W' h hb => below_books h hb)
    (fun W W' h _ => h)
    ?round ?done ?ret
  case round =>
    rintro k l' W hBW hk hl
    omega
  case done =>
    rintro W hB hl' hK
    have c1 := blk_cell (blk_below hB b1 (by omega)) 0
    have hBw : Below w.heap.size w W := hB3.trans (hB.mono (by omega))
    go_wp2_with (go_at_call 22; refine (wsort_nil 0 W).mono ?_; rintro e W1 ⟨rfl, hW1⟩; obtain rfl : W = W1 := hW1.symm)
    go_loopw [7, 22] (fun u i wr => u = .slice none 0 0 ∧ i = .int .i64 0 ∧ wr = W) (fun _ _ _ => 0)
    case atStart => exact ⟨rfl, rfl, rfl⟩
    case round =>
      obtain ⟨rfl, rfl, rfl⟩ := hrel
      go_wp2_with fail
      refine leaves_mark (D := w.heap.size + 2) (v := .slice none 0 0) (by rw [← hs3]; exact hK) ?_ ⟨rfl, below_put hBw (by omega) _⟩
      exact results_val rfl rfl
  case ret =>
    rintro W h
    exact h.elim
end Go.Proofs.Ytpdlpnfaclpgbaa
