/- What a queue's All comes to. Conditions: at most 100,000 jobs. -/
import Derived.Test.YtalpocgajecjbaaQueD
import Derived.Test.YtalpocgajecjbaaHpqL
import Derived.Deep.LoopGhost
namespace Go.Proofs.Ytalpocgajecjbaa
open Go.ChangeShapes Go.WideShapes Go.ChangeAt Go.RowKit
set_option linter.unusedVariables false
set_option maxRecDepth 100000
set_option linter.unusedSimpArgs false

theorem madeJ (n : Nat) : (madeCells #[Value.int .i64 0, Value.int .i64 0, Value.int .i64 0, Value.int .i64 0, Value.int .i64 0, Value.int .i64 0, Value.int .i64 0, Value.int .i64 0] (n * 8)).toList = (rowsJ (List.replicate n zeroJ)).flatten := by
  have h1 : (madeCells #[Value.int .i64 0, Value.int .i64 0, Value.int .i64 0, Value.int .i64 0, Value.int .i64 0, Value.int .i64 0, Value.int .i64 0, Value.int .i64 0] (n * 8)).toList = List.replicate (n * 8) (Value.int .i64 0) := by
    refine List.eq_replicate_iff.2 ⟨by simp [madeCells], fun u hu => ?_⟩
    unfold madeCells at hu
    simp only [Array.toList_map, List.mem_map] at hu
    obtain ⟨i, _, rfl⟩ := hu
    have hi : i % 8 < 8 := Nat.mod_lt _ (by omega)
    show #[Value.int .i64 0, Value.int .i64 0, Value.int .i64 0, Value.int .i64 0, Value.int .i64 0, Value.int .i64 0, Value.int .i64 0, Value.int .i64 0][i % 8]! = _
    generalize i % 8 = j at hi
    rcases j with _ | _ | _ | _ | _ | _ | _ | _ | j
    all_goals first | rfl | omega
  have h2 : (rowsJ (List.replicate n zeroJ)).flatten = List.replicate (n * 8) (Value.int .i64 0) := by
    refine List.eq_replicate_iff.2 ⟨by rw [rowsJ_flat]; simp, fun u hu => ?_⟩
    obtain ⟨r, hr, hu⟩ := List.mem_flatten.1 hu
    obtain ⟨t, ht, rfl⟩ := List.mem_map.1 hr
    obtain rfl := (List.mem_replicate.1 ht).2
    simp [Jb.row, zeroJ, zero3] at hu
    exact hu
  rw [h1, h2]
/-- Jobs of which the first k are in place. -/
def upToJ (ns : List Jb) (k : Nat) : List Jb := ns.take k ++ List.replicate (ns.length - k) zeroJ
theorem upToJ_len (ns : List Jb) (k : Nat) (h : k ≤ ns.length) : (upToJ ns k).length = ns.length := by unfold upToJ; simp; omega
theorem upToJ_set (ns : List Jb) (k : Nat) (h : k < ns.length) : (upToJ ns k).set k ns[k] = upToJ ns (k + 1) := by
  unfold upToJ
  rw [List.set_append_right _ _ (by rw [List.length_take]; omega), List.length_take, show k - min k ns.length = 0 by omega, show ns.length - k = (ns.length - (k + 1)) + 1 by omega, List.replicate_succ, List.set_cons_zero, List.take_succ_eq_append_getElem h, List.append_assoc]
  rfl
theorem upToJ_end (ns : List Jb) : upToJ ns ns.length = ns := by unfold upToJ; simp
/-- The eight cells of a job, from an offset on. -/
def setJo (w : World) (b o : Nat) (x : Jb) : World := (((((((w.setCell ⟨b, o, none⟩ (.int .i64 x.id)).setCell ⟨b, o + 1, none⟩ (.int .i64 x.prio)).setCell ⟨b, o + 2, none⟩ (.int .i64 x.seq)).setCell ⟨b, o + 3, none⟩ (.int .i64 x.phase)).setCell ⟨b, o + 4, none⟩ (.int .i64 x.node)).setCell ⟨b, o + 5, none⟩ (.int .i64 x.need.a)).setCell ⟨b, o + 6, none⟩ (.int .i64 x.need.b)).setCell ⟨b, o + 7, none⟩ (.int .i64 x.need.c)
theorem setJo_only (w : World) (b o : Nat) (x : Jb) : Only b w (setJo w b o x) := ((((((((Only.refl b w).setCell _ _).setCell _ _).setCell _ _).setCell _ _).setCell _ _).setCell _ _).setCell _ _).setCell _ _
theorem rowsJ_set (l : List Jb) (k : Nat) (x : Jb) (hk : k < l.length) : (rowsJ (l.set k x)).flatten = ((((((((rowsJ l).flatten.set (k * 8) (.int .i64 x.id)).set (k * 8 + 1) (.int .i64 x.prio)).set (k * 8 + 2) (.int .i64 x.seq)).set (k * 8 + 3) (.int .i64 x.phase)).set (k * 8 + 4) (.int .i64 x.node)).set (k * 8 + 5) (.int .i64 x.need.a)).set (k * 8 + 6) (.int .i64 x.need.b)).set (k * 8 + 7) (.int .i64 x.need.c) := by
  induction l generalizing k with
  | nil => simp at hk
  | cons a l ih =>
    cases k with
    | zero => simp [rowsJ, Jb.row]
    | succ k =>
      have := ih k (by simpa using hk)
      have e : ∀ q, (k + 1) * 8 + q = k * 8 + q + 1 + 1 + 1 + 1 + 1 + 1 + 1 + 1 := fun q => by omega
      have e0 : (k + 1) * 8 = k * 8 + 1 + 1 + 1 + 1 + 1 + 1 + 1 + 1 := by omega
      unfold rowsJ at this ⊢
      rw [List.set_cons_succ, List.map_cons, List.flatten_cons, this, List.map_cons, List.flatten_cons]
      unfold Jb.row
      rw [e 1, e 2, e 3, e 4, e 5, e 6, e 7, e0]
      simp only [List.cons_append, List.nil_append, List.set_cons_succ]
theorem row_setJ {w : World} {base g n : Nat} {l : List Jb} {k : Nat} (x : Jb) (h : w.ownsRow base 37 8 (.slice (some ⟨g, 0, none⟩) n n) n (rowsJ l).flatten) (hl : l.length = n) (hk : k < n) : (setJo w g (k * 8) x).ownsRow base 37 8 (.slice (some ⟨g, 0, none⟩) n n) n (rowsJ (l.set k x)).flatten := by
  have h1 := h.1
  rcases h.2 with ⟨h, _⟩ | ⟨g', c, cur, hv, h0, hg, hc, hm, hs, ht⟩
  · cases h
  · cases hv
    have q0 : (w.setCell ⟨g, k * 8, none⟩ (.int .i64 x.id)).heap[g]? = some (.cells (cur.setIfInBounds (k * 8) (.int .i64 x.id)) 37 (0, 0)) := blk_set hg _ _
    have q1 : ((w.setCell ⟨g, k * 8, none⟩ (.int .i64 x.id)).setCell ⟨g, k * 8 + 1, none⟩ (.int .i64 x.prio)).heap[g]? = some (.cells ((cur.setIfInBounds (k * 8) (.int .i64 x.id)).setIfInBounds (k * 8 + 1) (.int .i64 x.prio)) 37 (0, 0)) := blk_set q0 _ _
    have q2 : (((w.setCell ⟨g, k * 8, none⟩ (.int .i64 x.id)).setCell ⟨g, k * 8 + 1, none⟩ (.int .i64 x.prio)).setCell ⟨g, k * 8 + 2, none⟩ (.int .i64 x.seq)).heap[g]? = some (.cells (((cur.setIfInBounds (k * 8) (.int .i64 x.id)).setIfInBounds (k * 8 + 1) (.int .i64 x.prio)).setIfInBounds (k * 8 + 2) (.int .i64 x.seq)) 37 (0, 0)) := blk_set q1 _ _
    have q3 : ((((w.setCell ⟨g, k * 8, none⟩ (.int .i64 x.id)).setCell ⟨g, k * 8 + 1, none⟩ (.int .i64 x.prio)).setCell ⟨g, k * 8 + 2, none⟩ (.int .i64 x.seq)).setCell ⟨g, k * 8 + 3, none⟩ (.int .i64 x.phase)).heap[g]? = some (.cells ((((cur.setIfInBounds (k * 8) (.int .i64 x.id)).setIfInBounds (k * 8 + 1) (.int .i64 x.prio)).setIfInBounds (k * 8 + 2) (.int .i64 x.seq)).setIfInBounds (k * 8 + 3) (.int .i64 x.phase)) 37 (0, 0)) := blk_set q2 _ _
    have q4 : (((((w.setCell ⟨g, k * 8, none⟩ (.int .i64 x.id)).setCell ⟨g, k * 8 + 1, none⟩ (.int .i64 x.prio)).setCell ⟨g, k * 8 + 2, none⟩ (.int .i64 x.seq)).setCell ⟨g, k * 8 + 3, none⟩ (.int .i64 x.phase)).setCell ⟨g, k * 8 + 4, none⟩ (.int .i64 x.node)).heap[g]? = some (.cells (((((cur.setIfInBounds (k * 8) (.int .i64 x.id)).setIfInBounds (k * 8 + 1) (.int .i64 x.prio)).setIfInBounds (k * 8 + 2) (.int .i64 x.seq)).setIfInBounds (k * 8 + 3) (.int .i64 x.phase)).setIfInBounds (k * 8 + 4) (.int .i64 x.node)) 37 (0, 0)) := blk_set q3 _ _
    have q5 : ((((((w.setCell ⟨g, k * 8, none⟩ (.int .i64 x.id)).setCell ⟨g, k * 8 + 1, none⟩ (.int .i64 x.prio)).setCell ⟨g, k * 8 + 2, none⟩ (.int .i64 x.seq)).setCell ⟨g, k * 8 + 3, none⟩ (.int .i64 x.phase)).setCell ⟨g, k * 8 + 4, none⟩ (.int .i64 x.node)).setCell ⟨g, k * 8 + 5, none⟩ (.int .i64 x.need.a)).heap[g]? = some (.cells ((((((cur.setIfInBounds (k * 8) (.int .i64 x.id)).setIfInBounds (k * 8 + 1) (.int .i64 x.prio)).setIfInBounds (k * 8 + 2) (.int .i64 x.seq)).setIfInBounds (k * 8 + 3) (.int .i64 x.phase)).setIfInBounds (k * 8 + 4) (.int .i64 x.node)).setIfInBounds (k * 8 + 5) (.int .i64 x.need.a)) 37 (0, 0)) := blk_set q4 _ _
    have q6 : (((((((w.setCell ⟨g, k * 8, none⟩ (.int .i64 x.id)).setCell ⟨g, k * 8 + 1, none⟩ (.int .i64 x.prio)).setCell ⟨g, k * 8 + 2, none⟩ (.int .i64 x.seq)).setCell ⟨g, k * 8 + 3, none⟩ (.int .i64 x.phase)).setCell ⟨g, k * 8 + 4, none⟩ (.int .i64 x.node)).setCell ⟨g, k * 8 + 5, none⟩ (.int .i64 x.need.a)).setCell ⟨g, k * 8 + 6, none⟩ (.int .i64 x.need.b)).heap[g]? = some (.cells (((((((cur.setIfInBounds (k * 8) (.int .i64 x.id)).setIfInBounds (k * 8 + 1) (.int .i64 x.prio)).setIfInBounds (k * 8 + 2) (.int .i64 x.seq)).setIfInBounds (k * 8 + 3) (.int .i64 x.phase)).setIfInBounds (k * 8 + 4) (.int .i64 x.node)).setIfInBounds (k * 8 + 5) (.int .i64 x.need.a)).setIfInBounds (k * 8 + 6) (.int .i64 x.need.b)) 37 (0, 0)) := blk_set q5 _ _
    have q7 : ((((((((w.setCell ⟨g, k * 8, none⟩ (.int .i64 x.id)).setCell ⟨g, k * 8 + 1, none⟩ (.int .i64 x.prio)).setCell ⟨g, k * 8 + 2, none⟩ (.int .i64 x.seq)).setCell ⟨g, k * 8 + 3, none⟩ (.int .i64 x.phase)).setCell ⟨g, k * 8 + 4, none⟩ (.int .i64 x.node)).setCell ⟨g, k * 8 + 5, none⟩ (.int .i64 x.need.a)).setCell ⟨g, k * 8 + 6, none⟩ (.int .i64 x.need.b)).setCell ⟨g, k * 8 + 7, none⟩ (.int .i64 x.need.c)).heap[g]? = some (.cells ((((((((cur.setIfInBounds (k * 8) (.int .i64 x.id)).setIfInBounds (k * 8 + 1) (.int .i64 x.prio)).setIfInBounds (k * 8 + 2) (.int .i64 x.seq)).setIfInBounds (k * 8 + 3) (.int .i64 x.phase)).setIfInBounds (k * 8 + 4) (.int .i64 x.node)).setIfInBounds (k * 8 + 5) (.int .i64 x.need.a)).setIfInBounds (k * 8 + 6) (.int .i64 x.need.b)).setIfInBounds (k * 8 + 7) (.int .i64 x.need.c)) 37 (0, 0)) := blk_set q6 _ _
    refine ⟨?_, .inr ⟨g, n, _, rfl, h0, q7, hc, hm, by simpa using hs, ?_⟩⟩
    · rw [rowsJ_set l k x (by omega)]; simpa using h1
    · rw [rowsJ_set l k x (by omega), ← ht]
      simp only [Array.toList_setIfInBounds, List.take_set]
/-- The cells that a job in a row of the call's own is written over. -/
theorem row_over {w : World} {base g n : Nat} {xs : List Value} {k : Nat} (h : w.ownsRow base 37 8 (.slice (some ⟨g, 0, none⟩) n n) n xs) (hk : k < n) :
    ∃ u0 u1 u2 u3 u4 u5 u6 u7, w.cell? ⟨g, k * 8, none⟩ = some u0 ∧ w.cell? ⟨g, k * 8 + 1, none⟩ = some u1 ∧ w.cell? ⟨g, k * 8 + 2, none⟩ = some u2 ∧ w.cell? ⟨g, k * 8 + 3, none⟩ = some u3 ∧ w.cell? ⟨g, k * 8 + 4, none⟩ = some u4 ∧ w.cell? ⟨g, k * 8 + 5, none⟩ = some u5 ∧ w.cell? ⟨g, k * 8 + 6, none⟩ = some u6 ∧ w.cell? ⟨g, k * 8 + 7, none⟩ = some u7 ∧ ∀ o, w.frozen? ⟨g, o, none⟩ = false := by
  rcases h.2 with ⟨h, _⟩ | ⟨g', c, cur, hv, h0, hg, hc, hm, hs, ht⟩
  · cases h
  · cases hv
    have hx : ∀ j, j < 8 → ∃ u, w.cell? ⟨g, k * 8 + j, none⟩ = some u := fun j hj => by
      rw [blk_cell hg]
      exact ⟨_, Array.getElem?_eq_getElem (by omega)⟩
    obtain ⟨u0, e0⟩ := hx 0 (by omega)
    obtain ⟨u1, e1⟩ := hx 1 (by omega)
    obtain ⟨u2, e2⟩ := hx 2 (by omega)
    obtain ⟨u3, e3⟩ := hx 3 (by omega)
    obtain ⟨u4, e4⟩ := hx 4 (by omega)
    obtain ⟨u5, e5⟩ := hx 5 (by omega)
    obtain ⟨u6, e6⟩ := hx 6 (by omega)
    obtain ⟨u7, e7⟩ := hx 7 (by omega)
    exact ⟨u0, u1, u2, u3, u4, u5, u6, u7, e0, e1, e2, e3, e4, e5, e6, e7, fun o => blk_free hg o⟩
theorem ids_thgs (l : List Jb) (k : Nat) (h : k < l.length) (h2 : k < (idsT (thgs l)).length) : (idsT (thgs l))[k] = l[k].id := by simp [idsT, thgs, thgJ]
theorem get_at_ {l : List Jb} (hu : l.Pairwise (fun x y => x.id ≠ y.id)) (k : Nat) (h : k < l.length) : getJ l l[k].id = some l[k] := (get_iff hu _ _).2 ⟨List.getElem_mem h, rfl⟩
set_option maxHeartbeats 2000000 in
theorem qall_any (F : Nat → Prop) (v : Value) (l : List Jb) (w : World) (hn : l.length ≤ 100000) (h : QP F v l w) :
    Calls Try.prog 17 #[v] w (JobsR l w) := by
  obtain ⟨b, mv, F1, rfl, h2, h3, h4, h5, h6⟩ := h
  obtain ⟨i0, hi, hz0, hz1, hz2⟩ := info_parts infoJ
  have AL := Lib.hid (hall_any F1 _ (thgs l) w (by rw [thgs_len]; exact hn) h2)
  have HQ := Lib.hid (show ∀ w', Below w.heap.size w w' → w'.cell? ⟨b, 2, none⟩ = some mv ∧ ∀ k (hk : k < l.length), (Instr.lookup 30 mv (.int .i64 l[k].id) false).run Try.prog w' = .ok l[k].val w' from fun w' hb' => by
    refine ⟨(hpx_third (hp_keep h2 (fun k hk => hb'.block k (hp_lt h2 k hk)) hb'.size)).1, fun k hk => ?_⟩
    have := (jmap_look (h3.keep fun g hg => hb'.block g (h3.lt hg)) (h5.2.1 l[k] (List.getElem_mem hk)).1.1).1
    rw [get_at_ h5.2.2 k hk] at this
    exact this)
  have HIL := Lib.hid (show (idsT (thgs l)).length = l.length by simp [idsT, thgs])
  have HIX := Lib.hid (ids_thgs l)
  clear h2 h3 h4 h5 h6
  go_enter Try.func17, Try.ntmps17
  go_wp2_with fail
  refine AL.out.mono ?_; rintro e w2 ⟨vi, rfl, hrd, hb⟩
  obtain ⟨Ai, ci, rfl, hci, _⟩ := hrd.form
  have hil : (ints (idsT (thgs l))).length = l.length := by rw [ints_len]; exact HIL.out
  rw [hil]
  rw [hil] at hci hrd
  have HR := Lib.hid (show ∀ k (hk : k < l.length), ∃ bi oi, Ai = some ⟨bi, oi, none⟩ ∧ ∀ w', Below w2.heap.size w2 w' → w'.cell? ⟨bi, oi + k, none⟩ = some (.int .i64 l[k].id) from fun k hk => by
    have hk2 : k < (ints (idsT (thgs l))).length := by rw [hil]; exact hk
    obtain ⟨bi, oi, e, hlt, hx⟩ := hrd.at_ hk2
    refine ⟨bi, oi, e, fun w' hb' => ?_⟩
    rw [hb'.cell (p := ⟨bi, oi + k, none⟩) hlt, hx k hk2]
    have := HIX.out k hk (by rw [HIL.out]; exact hk)
    simp only [ints, List.getElem_map]
    rw [this])
  have HB2 := Lib.hid hb
  clear hrd hb hci hil AL
  have hsz0 := hn
  go_wp2_with (at_make; refine wpList_make_full _ rfl _ _ 33 rfl w2.heap.size 37 i0 (.agg #[.int .i64 0, .int .i64 0, .int .i64 0, .int .i64 0, .int .i64 0, .int .i64 0, .int .i64 0, .int .i64 0]) 8 Try.underlying33 hi hz0 hz1 .i64 .i64 _ _ l.length rfl rfl rfl rfl ?m1 ?m2 (Nat.le_refl _) ?_)
  case m1 => rw [hz2]; omega
  case m2 => unfold maxLen; omega
  intro w3 hown3 hgr3
  have hown3 : w3.ownsRow w2.heap.size 37 8 (.slice (some ⟨w2.heap.size, 0, none⟩) l.length l.length) l.length (madeCells #[Value.int .i64 0, Value.int .i64 0, Value.int .i64 0, Value.int .i64 0, Value.int .i64 0, Value.int .i64 0, Value.int .i64 0, Value.int .i64 0] (l.length * 8)).toList := hown3
  rw [madeJ] at hown3
  have HO3 := Lib.hid (show w3.ownsRow w2.heap.size 37 8 (.slice (some ⟨w2.heap.size, 0, none⟩) l.length l.length) l.length (rowsJ (upToJ l 0)).flatten by
    unfold upToJ; simpa using hown3)
  have HB3 := Lib.hid (show Below w2.heap.size w2 w3 from ⟨hgr3.os, hgr3.tape, hgr3.output, hgr3.size, fun k hk => hgr3.block k hk (by simp)⟩)
  clear hown3 hgr3
  go_wp2_with fail
  go_loopw [18] (fun i wr => ∃ k : Nat, k ≤ l.length ∧ i = .int .i64 (k : Int) ∧ wr.ownsRow w2.heap.size 37 8 (.slice (some ⟨w2.heap.size, 0, none⟩) l.length l.length) l.length (rowsJ (upToJ l k)).flatten ∧ Below w2.heap.size w2 wr) (fun i _ => l.length - (intOf i).toNat)
  case atStart => exact ⟨0, by omega, rfl, HO3.out, HB3.out⟩
  case round =>
    clear HO3 HB3
    obtain ⟨k, hk, rfl, hown, hb⟩ := hrel
    by_cases hlt : k < l.length
    · have dk : decide (k < l.length) = true := decide_eq_true hlt
      have dk2 : decide ((k : Int) < (l.length : Int)) = true := decide_eq_true (by omega)
      have i0k : (0 : Int) ≤ (k : Int) := by omega
      have i1k : (k : Int) < (l.length : Int) := by omega
      have i2k : (l.length : Int) ≤ 100000 := by omega
      obtain ⟨bi, oi, rfl, hx⟩ := HR.out k hlt
      have y := hx wr hb
      obtain ⟨c2, hlk'⟩ := HQ.out wr (HB2.out.trans (hb.mono HB2.out.size))
      have hlk := hlk' k hlt
      obtain ⟨u0, u1, u2, u3, u4, u5, u6, u7, v0, v1, v2, v3, v4, v5, v6, v7, hf⟩ := row_over hown hlt
      have f0 := hf (k * 8)
      have f1 := hf (k * 8 + 1)
      have f2 := hf (k * 8 + 2)
      have f3 := hf (k * 8 + 3)
      have f4 := hf (k * 8 + 4)
      have f5 := hf (k * 8 + 5)
      have f6 := hf (k * 8 + 6)
      have f7 := hf (k * 8 + 7)
      have hn1 := row_setJ l[k] hown (upToJ_len l k hk) hlt
      rw [upToJ_set l k hlt] at hn1
      have HN := Lib.hid hn1
      have HNB := Lib.hid (show Below w2.heap.size w2 (setJo wr w2.heap.size (k * 8) l[k]) from hb.trans ((setJo_only wr w2.heap.size (k * 8) l[k]).below (Nat.le_refl _) hb.size))
      unfold Jb.val at hlk
      unfold setJo at HN HNB
      clear hown hb hx hlk' hf hn1
      generalize l[k] = x at *
      go_wp2_with fail
      go_roundw
      case rel => exact ⟨k + 1, by omega, by go_num, HN.out, HNB.out⟩
      case measure => simp [intOf]; omega
    · obtain rfl : k = l.length := by omega
      have dk : decide (l.length < l.length) = false := decide_eq_false (by omega)
      have HF := Lib.hid (show JobsR l w (.returned (.slice (some ⟨w2.heap.size, 0, none⟩) l.length l.length)) wr from by
        rw [upToJ_end] at hown
        exact ⟨_, rfl, (RdK.own hown (rowsJ_len _) (rowsJ_eight _)).imp (fun q hq _ => Nat.le_trans HB2.out.size hq), HB2.out.trans (hb.mono HB2.out.size)⟩)
      clear hown hb
      go_wp2_with fail
      go_ret
      exact HF.out
end Go.Proofs.Ytalpocgajecjbaa
