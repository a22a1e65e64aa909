/- A wheel's Len and Next; a nil wheel's. Conditions: as stated. -/
import Derived.Test.YtdlkpkigpnlanaaWhlA
import Derived.Test.YtdlkpkigpnlanaaHpqA
import Derived.Test.YtdlkpkigpnlanaaHpqB
import Derived.Test.YtdlkpkigpnlanaaWhlPlain
import Derived.Test.YtdlkpkigpnlanaaHolds
import Derived.Test.YtdlkpkigpnlanaaShelfG
import Derived.Test.YtdlkpkigpnlanaaRdA
import Derived.Test.YtdlkpkigpnlanaaHoldN
import Derived.Test.YtdlkpkigpnlanaaSame
namespace Go.Proofs.Ytdlkpkigpnlanaa
open Go.ChangeShapes Go.WideShapes Go.ChangeAt Go.RowKit Go.Shelf
set_option linter.unusedVariables false
set_option maxRecDepth 100000
set_option linter.unusedSimpArgs false
set_option maxHeartbeats 2000000
attribute [local go_sem] Oper.semAt_some
variable {X : WhX}

theorem results_val {P : Program} {fn : Func} {t : Tmp} {tmps : Array Value} {w : World} {v : Value} (h : fn.results = #[.tmp t]) (hv : tmps.getD t undef = v) : (results fn tmps).run P w = .ok v w := hv ▸ results_tmp h tmps P w
theorem results_val2 {P : Program} {fn : Func} {t u : Tmp} {tmps : Array Value} {w : World} {v x : Value} (h : fn.results = #[.tmp t, .tmp u]) (hv : tmps.getD t undef = v) (hx : tmps.getD u undef = x) : (results fn tmps).run P w = .ok (.tuple #[v, x]) w := by
  rw [← hv, ← hx]; exact results_tmp2 h tmps P w
theorem below_drewK {B : Nat} {a w : World} (h : Below B a w) (n : Nat) : Below B a (w.drewN n) := ⟨h.os, h.tape, h.output, h.size, h.block⟩
theorem flatW_len_le (l : List Tm) (k : Nat) : (flatW l k).length ≤ l.length := by
  rw [(flatW_perm l k).length_eq]; exact List.length_filter_le _ _
theorem flatW_len_succ (l : List Tm) (k : Nat) : (flatW l (k + 1)).length = (flatW l k).length + (slotL l k).length := by
  show (flatW l k ++ slotL l k).length = _
  rw [List.length_append]
theorem slot_len {w : World} {mv : Value} {L : List Tm} (h : Slot w mv L) (ty : TypeId) : (Builtin.len_ #[31] ty #[mv]).run Try.prog w = .ok (.int .i64 L.length) w := by
  rcases h with ⟨rfl, rfl⟩ | ⟨m, rfl, h⟩
  · exact Maps.len_nil (P := Try.prog) (w := w) (k := 3) (t := 31) (e := 3) Try.underlying31 ty
  · exact MapF.len (t := 31) (e := 3) h Try.underlying31 ty
/-! ### Next -/
theorem run_range_nil (w : World) : (Instr.range 31 (.map none)).run Try.prog w = .ok (.pointer (some ⟨w.heap.size, 0, none⟩)) (w.alloc (.mapIter none 0 #[] 0)) := by kernel_rfl
theorem wnext_some (b : Nat) (ms : Array Value) (l : List Tm) (w : World) (H : Whl X b ms l w) (hs : SortedW l) :
    Calls Try.prog 26 #[.pointer (some ⟨b, 0, none⟩)] w fun e w' => e = .returned (.tuple #[.int .i64 (nextW l), .bool (!l.isEmpty)]) ∧ Below w.heap.size w w' := by
  have hbw : b < w.heap.size := lt_of_block H.blk
  refine calls_of_wp_marks Try.func26 rfl ?_
  simp only [Try.ntmps26, List.size_toArray, List.length_cons, List.length_nil, Nat.reduceAdd, Nat.reduceSub, Array.replicate_succ, Array.replicate_zero, List.push_toArray, List.append_toArray, List.nil_append, List.cons_append]
  go_wp2_with fail
  obtain ⟨w3, hw3⟩ : ∃ w3, (w.alloc (.cells #[.int .i64 0] 3)).alloc (.cells #[.bool false] 4) = w3 := ⟨_, rfl⟩
  rw [hw3]
  have hB3 : Below w.heap.size w w3 := by rw [← hw3]; exact below_two _ _ _
  have hs3 : w3.heap.size = w.heap.size + 2 := by rw [← hw3]; simp
  have b0 : w3.heap[w.heap.size]? = some (.cells #[.int .i64 0] 3 (0, 0)) := by rw [← hw3]; exact blk_old _ (blk_new w _)
  have b1 : w3.heap[w.heap.size + 1]? = some (.cells #[.bool false] 4 (0, 0)) := by rw [← hw3]; have := blk_new (w.alloc (.cells #[.int .i64 0] 3)) (.cells #[.bool false] 4); rw [World.size_alloc] at this; exact this
  have H3 : Whl X b ms l w3 := whl_below H hB3
  clear hw3
  refine wp_rangeFunc_rounds (gf := 33) (bs := #[.pointer (some ⟨b, 0, none⟩)]) rfl (enters_of Try.func33 (by kernel_rfl) rfl) 16 (fun k => #[mAt ms k]) (fun _ => rfl) (each_some b ms w3 H3.blk H3.size)
    (fun k W => ∃ first found, W.heap[w.heap.size]? = some (.cells #[.int .i64 first] 3 (0, 0)) ∧ W.heap[w.heap.size + 1]? = some (.cells #[.bool found] 4 (0, 0)) ∧ MinW (flatW l k) first found ∧ Below w.heap.size w W)
    (fun W => False)
    (fun o1 o2 => ⟨0, false, blk_old _ (blk_old _ b0), blk_old _ (blk_old _ b1), .inl ⟨rfl, rfl, rfl⟩, hB3.trans ((below_two _ _ _).mono (by omega))⟩)
    (fun k W W' ⟨first, found, h1, h2, h3, h4⟩ hb => ⟨first, found, blk_books h1 hb (by omega) (by omega), blk_books h2 hb (by omega) (by omega), h3, below_books' h4 (by omega) hb⟩)
    (fun W W' h _ => h)
    ?round ?done ?ret
  case round =>
    rintro k l' W ⟨first, found, hc, hc1, hmin, hBW⟩ hk hl'
    gi_wp2
    refine ⟨trivial, ?_⟩
    rintro W2 ⟨first, found, d0, d1, hmin, hB2⟩ hl2
    have H2 := whl_below H hB2
    rcases H2.slot k hk with ⟨hx, hL⟩ | ⟨m, hx, hM⟩
    · rw [hx]
      have hr := run_range_nil W2
      gi_wp2
      gi_loopw [14] (fun _ wr => wr = W2.alloc (.mapIter none 0 #[] 0)) (fun _ _ => 0)
      case atStart => rfl
      case round =>
        subst hrel
        have hnx := fun ty => run_next_nilMap (P := Try.prog) W2 ty 0 0 #[]
        gi_wp2
        refine ⟨Below.heap_alloc _ _ _ (by omega), Below.heap_alloc _ _ _ (by omega), first, found, blk_old _ d0, blk_old _ d1, ?_, hB2.alloc hB2.size _⟩
        show MinW (flatW l k ++ slotL l k) first found
        rw [hL, List.append_nil]; exact hmin
    · rw [hx]
      have hml : m < W2.heap.size := hM.lt
      have hLs : IdsW (slotL l k) := idsW_filter hs.ids _
      have hLi : ∀ x ∈ slotL l k, inI x.id := fun x hx => (hs.ok x (mem_slotL.1 hx).1).1
      have hmf : ∀ q, w.heap.size ≤ q → m ≠ q → True := fun _ _ _ => trivial
      have hmw : m < w.heap.size := (H.slot k hk).lt hx
      gi_wp2_with (refine wpListIn_range_mapF rfl _ _ rfl 3 3 Try.underlying3 Try.underlying31 rfl hM ?_; intro w0 hrg0 hb0 hsz0)
      go_frame
      gi_loopw [14] (fun _ wr => ∃ cnt left d r first found, RgF Try.prog 3 (Value.int .i64) 0 wr m W2.heap.size (slotL l k).length (tickW (slotL l k)) left cnt ∧ (d ++ r).Perm (slotL l k) ∧ (∀ i, inI i → left i = (tickW r i).isSome) ∧
          wr.heap[w.heap.size]? = some (.cells #[.int .i64 first] 3 (0, 0)) ∧ wr.heap[w.heap.size + 1]? = some (.cells #[.bool found] 4 (0, 0)) ∧ MinW (flatW l k ++ d) first found ∧ Below w.heap.size w wr ∧
          wr.heap[w3.heap.size]? = W2.heap[w3.heap.size]? ∧ wr.heap[w3.heap.size + 1]? = W2.heap[w3.heap.size + 1]? ∧ wr.heap.size = W2.heap.size + 1) (fun _ wr => wr.rangeLeft m W2.heap.size)
      case atStart =>
        exact ⟨_, _, [], slotL l k, first, found, hrg0, List.Perm.refl _, fun i hi => rfl, blk_below hb0 d0 (by omega), blk_below hb0 d1 (by omega), by rw [List.append_nil]; exact hmin, hB2.trans (hb0.mono hB2.size), hb0.block _ (by omega), hb0.block _ (by omega), hsz0⟩
      case round =>
        obtain ⟨cnt, left, d, r, first, found, hrg, hp, hleft, d0, d1, hmin, hBw, k1, k2, hsz⟩ := hrel
        have hW2 : w.heap.size + 3 < W2.heap.size := by omega
        gi_wp2_with (refine wpListIn_next_mapF rfl _ rfl 3 intV_inj Try.underlying3 rfl hrg ?_ ?_)
        · intro hc0 hl0
          gi_wp2
          have he := done_end hp (fun x hx => by rw [← hleft x.id (hLi x hx)]; exact hl0 x.id (hLi x hx))
          refine ⟨k1, k2, first, found, d0, d1, ?_, hBw⟩
          exact hmin.perm (List.Perm.append_left _ he.2)
        · intro id c w1 cnt1 hid hlx hfx hrg1 hlt ho1 hsz1 hen
          have hst := done_step hp hLs hfx (by rw [← hleft id hid]; exact hlx)
          have hleft1 : ∀ i, inI i → leftB left id i = (tickW (dropW r id) i).isSome := fun i hi => by unfold leftB; rw [hst.2 i, hleft i hi]
          have e0 := ho1.old d0 (by omega)
          have e1 := ho1.old d1 (by omega)
          have c0 := blk_cell e0 0
          have c1 := blk_cell e1 0
          have f0 := blk_free e0 0
          have f1 := blk_free e1 0
          have hB1 : Below w.heap.size w w1 := hBw.trans (ho1.below (by omega) (by omega))
          have q1 := (ho1.block w3.heap.size (by omega) (by omega)).trans k1
          have q2 := (ho1.block (w3.heap.size + 1) (by omega) (by omega)).trans k2
          have hmeas : w1.rangeLeft m W2.heap.size < wr.rangeLeft m W2.heap.size := by rw [hrg1.left_eq, hrg.left_eq]; exact hlt
          have hstep := hmin.step ⟨id, c⟩
          rw [List.append_assoc] at hstep
          have far : ∀ v x j, j ≠ w.heap.size → j ≠ w.heap.size + 1 → ((w1.setCell ⟨w.heap.size, 0, none⟩ v).setCell ⟨w.heap.size + 1, 0, none⟩ x).heap[j]? = w1.heap[j]? := fun v x j h1 h2 => by
            rw [Below.heap_setCell _ _ _ _ (by simp only; omega), Below.heap_setCell _ _ _ _ (by simp only; omega)]
          have hrg2 : RgF Try.prog 3 (Value.int .i64) 0 ((w1.setCell ⟨w.heap.size, 0, none⟩ (.int .i64 c)).setCell ⟨w.heap.size + 1, 0, none⟩ (.bool true)) m W2.heap.size (slotL l k).length (tickW (slotL l k)) (leftB left id) cnt1 := hrg1.keep (far _ _ m (by omega) (by omega)) (far _ _ _ (by omega) (by omega))
          have hset : ∀ fst, (found = false ∨ (found = true ∧ c < fst ∧ fst = first)) → ∃ cnt left d r first found, RgF Try.prog 3 (Value.int .i64) 0 ((w1.setCell ⟨w.heap.size, 0, none⟩ (.int .i64 c)).setCell ⟨w.heap.size + 1, 0, none⟩ (.bool true)) m W2.heap.size (slotL l k).length (tickW (slotL l k)) left cnt ∧ (d ++ r).Perm (slotL l k) ∧ (∀ i, inI i → left i = (tickW r i).isSome) ∧
              ((w1.setCell ⟨w.heap.size, 0, none⟩ (.int .i64 c)).setCell ⟨w.heap.size + 1, 0, none⟩ (.bool true)).heap[w.heap.size]? = some (.cells #[.int .i64 first] 3 (0, 0)) ∧ ((w1.setCell ⟨w.heap.size, 0, none⟩ (.int .i64 c)).setCell ⟨w.heap.size + 1, 0, none⟩ (.bool true)).heap[w.heap.size + 1]? = some (.cells #[.bool found] 4 (0, 0)) ∧ MinW (flatW l k ++ d) first found ∧ Below w.heap.size w ((w1.setCell ⟨w.heap.size, 0, none⟩ (.int .i64 c)).setCell ⟨w.heap.size + 1, 0, none⟩ (.bool true)) ∧
              ((w1.setCell ⟨w.heap.size, 0, none⟩ (.int .i64 c)).setCell ⟨w.heap.size + 1, 0, none⟩ (.bool true)).heap[w3.heap.size]? = W2.heap[w3.heap.size]? ∧ ((w1.setCell ⟨w.heap.size, 0, none⟩ (.int .i64 c)).setCell ⟨w.heap.size + 1, 0, none⟩ (.bool true)).heap[w3.heap.size + 1]? = W2.heap[w3.heap.size + 1]? ∧ ((w1.setCell ⟨w.heap.size, 0, none⟩ (.int .i64 c)).setCell ⟨w.heap.size + 1, 0, none⟩ (.bool true)).heap.size = W2.heap.size + 1 := by
            intro fst hf
            refine ⟨cnt1, leftB left id, d ++ [⟨id, c⟩], dropW r id, c, true, hrg2, hst.1, hleft1, ?_, ?_, ?_, ?_, (far _ _ _ (by omega) (by omega)).trans q1, (far _ _ _ (by omega) (by omega)).trans q2, by rw [World.size_setCell, World.size_setCell]; omega⟩
            · exact blk_far (p := ⟨w.heap.size + 1, 0, none⟩) (.bool true) (blk_set e0 0 (.int .i64 c)) (by simp)
            · exact blk_set (blk_far (p := ⟨w.heap.size, 0, none⟩) (.int .i64 c) e1 (by simp)) 0 (.bool true)
            · rcases hf with hf | ⟨hf, hf2, hf3⟩
              · exact hstep.1 hf
              · exact hstep.2.1 hf (by rw [← hf3]; exact hf2)
            · exact (hB1.setCell (p := ⟨w.heap.size, 0, none⟩) (Nat.le_refl _) _).setCell (p := ⟨w.heap.size + 1, 0, none⟩) (by simp only; omega) _
          have hmeas2 : ((w1.setCell ⟨w.heap.size, 0, none⟩ (.int .i64 c)).setCell ⟨w.heap.size + 1, 0, none⟩ (.bool true)).rangeLeft m W2.heap.size < wr.rangeLeft m W2.heap.size := by rw [hrg2.left_eq, hrg.left_eq]; exact hlt
          have HS := Lib.hid hset
          have HM2 := Lib.hid hmeas2
          have HM := Lib.hid hmeas
          have HR := Lib.hid (show ¬ c < first → found = true → ∃ cnt left d r first found, RgF Try.prog 3 (Value.int .i64) 0 w1 m W2.heap.size (slotL l k).length (tickW (slotL l k)) left cnt ∧ (d ++ r).Perm (slotL l k) ∧ (∀ i, inI i → left i = (tickW r i).isSome) ∧
              w1.heap[w.heap.size]? = some (.cells #[.int .i64 first] 3 (0, 0)) ∧ w1.heap[w.heap.size + 1]? = some (.cells #[.bool found] 4 (0, 0)) ∧ MinW (flatW l k ++ d) first found ∧ Below w.heap.size w w1 ∧
              w1.heap[w3.heap.size]? = W2.heap[w3.heap.size]? ∧ w1.heap[w3.heap.size + 1]? = W2.heap[w3.heap.size + 1]? ∧ w1.heap.size = W2.heap.size + 1 from fun h1 h2 =>
            ⟨cnt1, leftB left id, d ++ [⟨id, c⟩], dropW r id, first, true, hrg1, hst.1, hleft1, e0, by rw [← h2]; exact e1, hstep.2.2 h2 h1, hB1, q1, q2, by omega⟩)
          clear hset hmeas2 hmeas hstep hrg2 far hst hleft1 hrg hp hleft d0 d1 hmin hBw k1 k2 hrg1 ho1 q1 q2 hlx hfx
          cases found with
          | false =>
            gi_wp2
            go_roundw
            case rel => exact HS.out c (.inl rfl)
            case measure => exact HM2.out
          | true =>
            by_cases hcf : c < first
            · have dcf : decide (c < first) = true := decide_eq_true hcf
              gi_wp2
              go_roundw
              case rel => exact HS.out first (.inr ⟨rfl, hcf, rfl⟩)
              case measure => exact HM2.out
            · have dcf : decide (c < first) = false := decide_eq_false hcf
              gi_wp2
              go_roundw
              case rel => exact HR.out hcf rfl
              case measure => exact HM.out
  case done =>
    rintro W ⟨first, found, d0, d1, hmin, hB⟩ hl' hK
    have c0 := blk_cell d0 0
    have c1 := blk_cell d1 0
    obtain ⟨n1, n2⟩ := (hmin.perm (flatW_all l)).next hs.ord
    go_wp2_with fail
    go_quiet (fail)
    go_wp2_with fail
    refine leaves_mark (w := W.drewN nq) (D := w3.heap.size) (v := .tuple #[.int .i64 (nextW l), .bool (!l.isEmpty)]) hK ?_ ⟨rfl, below_put (below_drewK hB nq) (by omega) _⟩
    exact results_val2 rfl rfl rfl
  case ret =>
    rintro W h
    exact h.elim
theorem wnext_any (F : Nat → Prop) (v : Value) (l : List Tm) (w : World) (h : WP X F v l w) :
    Calls Try.prog 26 #[v] w fun e w' => e = .returned (.tuple #[.int .i64 (nextW l), .bool (!l.isEmpty)]) ∧ Below w.heap.size w w' := by
  obtain ⟨b, ms, rfl, H, hs, hF⟩ := h
  exact wnext_some b ms l w H hs
theorem nwnext_any (w : World) :
    Calls Try.prog 26 #[.pointer none] w fun e w' => e = .returned (.tuple #[.int .i64 0, .bool false]) ∧ Below w.heap.size w w' := by
  refine calls_of_wp_marks Try.func26 rfl ?_
  simp only [Try.ntmps26, List.size_toArray, List.length_cons, List.length_nil, Nat.reduceAdd, Nat.reduceSub, Array.replicate_succ, Array.replicate_zero, List.push_toArray, List.append_toArray, List.nil_append, List.cons_append]
  go_wp2_with fail
  obtain ⟨w3, hw3⟩ : ∃ w3, (w.alloc (.cells #[.int .i64 0] 3)).alloc (.cells #[.bool false] 4) = w3 := ⟨_, rfl⟩
  rw [hw3]
  have hB3 : Below w.heap.size w w3 := by rw [← hw3]; exact below_two _ _ _
  have hs3 : w3.heap.size = w.heap.size + 2 := by rw [← hw3]; simp
  have b0 : w3.heap[w.heap.size]? = some (.cells #[.int .i64 0] 3 (0, 0)) := by rw [← hw3]; exact blk_old _ (blk_new w _)
  have b1 : w3.heap[w.heap.size + 1]? = some (.cells #[.bool false] 4 (0, 0)) := by rw [← hw3]; have := blk_new (w.alloc (.cells #[.int .i64 0] 3)) (.cells #[.bool false] 4); rw [World.size_alloc] at this; exact this
  clear hw3
  refine wp_rangeFunc_rounds (gf := 33) (bs := #[.pointer none]) rfl (enters_of Try.func33 (by kernel_rfl) rfl) 0 (fun k => #[undef]) (fun _ => rfl) (each_none w3)
    (fun k W => Below w3.heap.size w3 W) (fun W => False)
    (fun o1 o2 => below_two _ _ _)
    (fun k W W' h hb => below_books h hb)
    (fun W W' h _ => h)
    ?round ?done ?ret
  case round =>
    rintro k l' W hBW hk hl
    omega
  case done =>
    rintro W hB hl' hK
    have c0 := blk_cell (blk_below hB b0 (by omega)) 0
    have c1 := blk_cell (blk_below hB b1 (by omega)) 0
    have hBw : Below w.heap.size w W := hB3.trans (hB.mono (by omega))
    go_wp2_with fail
    go_quiet (fail)
    go_wp2_with fail
    refine leaves_mark (w := W.drewN nq) (D := w3.heap.size) (v := .tuple #[.int .i64 0, .bool false]) hK ?_ ⟨rfl, below_put (below_drewK hBw nq) (by omega) _⟩
    exact results_val2 rfl rfl rfl
  case ret =>
    rintro W h
    exact h.elim
end Go.Proofs.Ytdlkpkigpnlanaa
/- What a wheel's compare comes to, and its sort. Conditions: as stated. -/
namespace Go.Proofs.Ytdlkpkigpnlanaa
open Go.ChangeShapes Go.WideShapes Go.ChangeAt Go.RowKit
open Go.Sort (SWO HoldsK flatK Holds grow)
set_option linter.unusedVariables false
set_option maxRecDepth 100000
set_option linter.unusedSimpArgs false

def Tm.val (x : Tm) : Value := .agg #[.int .i64 x.id, .int .i64 x.tick]
def cmpW (x y : Tm) : Int := orI (ordI x.tick y.tick) (ordI x.id y.id)
theorem cmpW_lt (x y : Tm) : decide (cmpW x y < 0) = tmB x y := by
  rw [Bool.eq_iff_iff, decide_eq_true_iff]
  unfold cmpW orI tmB
  have h1 := ordI_eq x.tick y.tick
  have h2 := ordI_lt x.tick y.tick
  have h3 := ordI_lt x.id y.id
  simp only [Bool.or_eq_true, Bool.and_eq_true, decide_eq_true_eq, beq_iff_eq]
  split <;> omega
def twoW (w : World) (x y : Tm) : World := (w.alloc (.cells #[.int .i64 x.id, .int .i64 x.tick] 77)).alloc (.cells #[.int .i64 y.id, .int .i64 y.tick] 77)
def TwoC (w : World) (b : Nat) (x y : Tm) : Prop := w.cell? ⟨b, 0, none⟩ = some (.int .i64 x.id) ∧ w.cell? ⟨b, 1, none⟩ = some (.int .i64 x.tick) ∧ w.cell? ⟨b + 1, 0, none⟩ = some (.int .i64 y.id) ∧ w.cell? ⟨b + 1, 1, none⟩ = some (.int .i64 y.tick)
theorem twoW_cells (w : World) (x y : Tm) : TwoC (twoW w x y) w.heap.size x y := by
  obtain ⟨h1, h2⟩ := blk_pair w (.cells #[.int .i64 x.id, .int .i64 x.tick] 77) (.cells #[.int .i64 y.id, .int .i64 y.tick] 77)
  exact ⟨blk_cell h1 0, blk_cell h1 1, blk_cell h2 0, blk_cell h2 1⟩
set_option maxHeartbeats 2000000 in
theorem wcompare_any (x y : Tm) (w : World) : Calls Try.prog 36 #[x.val, y.val] w fun e w' => e = .returned (.int .i64 (cmpW x y)) ∧ Grw w w' := by
  have c0 := twoW_cells w x y
  have hs : (twoW w x y).heap.size = w.heap.size + 1 + 1 := by unfold twoW; simp
  have HG := Lib.hid (show ∀ o, Grw w ((twoW w x y).drew.alloc o) from fun o => ⟨1, #[_] ++ #[_] ++ #[o], by
    unfold twoW
    rw [Go.Sort.alloc_eq_grow, Go.Sort.alloc_eq_grow, Go.Sort.alloc_eq_grow, Go.Sort.drew_grow, Go.Sort.drew_grow, Go.Sort.grow_grow, Go.Sort.grow_grow]; rfl⟩)
  have HC := Lib.hid (show cmpW x y = orI (ordI x.tick y.tick) (ordI x.id y.id) from rfl)
  unfold Tm.val
  go_enter Try.func36, Try.ntmps36
  go_wp2_with fail
  show Code.wp _ _ _ _ (twoW w x y)
  generalize twoW w x y = W at *
  have hd1 : W.drew.heap.size = W.heap.size := rfl
  have e1 : ∀ w', w' = W.drew ∨ w' = W.drew.alloc (.cells #[.int .i64 (ordI x.tick y.tick), .int .i64 (ordI x.id y.id)] 3) → TwoC w' w.heap.size x y := by
    rintro w' (rfl | rfl)
    · exact c0
    · have hb := (Below.refl W.drew.heap.size W.drew).alloc (Nat.le_refl _) (.cells #[.int .i64 (ordI x.tick y.tick), .int .i64 (ordI x.id y.id)] 3)
      exact ⟨(hb.cell (p := ⟨w.heap.size, 0, none⟩) (by show w.heap.size < W.heap.size; omega)).trans c0.1, (hb.cell (p := ⟨w.heap.size, 1, none⟩) (by show w.heap.size < W.heap.size; omega)).trans c0.2.1, (hb.cell (p := ⟨w.heap.size + 1, 0, none⟩) (by show w.heap.size + 1 < W.heap.size; omega)).trans c0.2.2.1, (hb.cell (p := ⟨w.heap.size + 1, 1, none⟩) (by show w.heap.size + 1 < W.heap.size; omega)).trans c0.2.2.2⟩
  have E1 := Lib.hid e1
  have hz : W.drew.heap.size = w.heap.size + 1 + 1 := hs
  have HO := Lib.hid (show ∀ m w', m[0]? = some true → oneC W.drew (W.drew.alloc (.cells #[.int .i64 (ordI x.tick y.tick), .int .i64 (ordI x.id y.id)] 3)) m w' → w'.cell? ⟨w.heap.size + 1 + 1, 0, none⟩ = some (.int .i64 (ordI x.tick y.tick)) ∧ w'.cell? ⟨w.heap.size + 1 + 1, 1, none⟩ = some (.int .i64 (ordI x.id y.id)) from fun m w' hm hC => by
    obtain rfl := oneC_on hm hC
    have hb := blk_new W.drew (.cells #[.int .i64 (ordI x.tick y.tick), .int .i64 (ordI x.id y.id)] 3)
    rw [hz] at hb
    exact ⟨blk_cell hb 0, blk_cell hb 1⟩)
  clear e1 c0 hd1 hs
  refine wp_region_holdC [10] (oneC W.drew (W.drew.alloc (.cells #[.int .i64 (ordI x.tick y.tick), .int .i64 (ordI x.id y.id)] 3))) (by kernel_rfl) (by kernel_rfl) (by kernel_rfl) (oneC_start _ _) ?_
  repeat
    first
    | (refine holdC_val (v := ?_) (by rfl) (by rfl) ?_ ?_
       rotate_left
       · (intro m w' hC
          obtain ⟨_, _, _, _⟩ := E1.out w' (oneC_any hC)
          go_simp
          try with_reducible rfl)
       simp only [Act.put, List.setIfInBounds_toArray, List.set_cons_zero, List.set_cons_succ])
    | ((first
        | (refine holdC_call (by rfl) (by rfl) ?_ (fun m w' hC => (icmp_any x.tick y.tick w').mono fun e w2 h => ⟨h.1, by rw [← h.2]; exact hC⟩) ?_; focus (intro m w' hC; go_simp; done))
        | (refine holdC_call (by rfl) (by rfl) ?_ (fun m w' hC => (icmp_any x.id y.id w').mono fun e w2 h => ⟨h.1, by rw [← h.2]; exact hC⟩) ?_; focus (intro m w' hC; go_simp; done))
        | (refine holdC_callP [0] (by rfl) (by rfl) (by rfl) (by kernel_rfl) ?_ (fun m w' hm hC => (ior_any (ordI x.tick y.tick) (ordI x.id y.id) (w.heap.size + 1 + 1) w' (HO.out _ w' (hm 0 (by simp)) hC).1 (HO.out _ w' (hm 0 (by simp)) hC).2).mono fun e w2 h => ⟨h.1, by rw [← h.2]; exact hC⟩) ?_; focus (intro m w' hC; go_simp; done)))
       simp only [Act.put, List.setIfInBounds_toArray, List.set_cons_zero, List.set_cons_succ])
    | (refine holdC_make (v := .slice (some ⟨w.heap.size + 1 + 1, 0, none⟩) 2 2) 0 [] (by rfl) (by rfl) (by decide) (by rfl) (by rfl) (fun m w' hm _ hC => ?_) ?_
       · (obtain rfl := oneC_off hm hC
          refine ⟨_, ?_, oneC_set hm⟩
          go_simp
          try with_reducible rfl)
       simp only [Act.put, List.setIfInBounds_toArray, List.set_cons_zero, List.set_cons_succ])
  refine holdC_nil (fun w' hC => ?_)
  have hw := oneC_on rfl hC
  subst hw
  have HF := Lib.hid (HG.out (.cells #[.int .i64 (ordI x.tick y.tick), .int .i64 (ordI x.id y.id)] 3))
  clear hC
  go_wp2_with fail
  go_ret
  exact ⟨intq HC.out.symm, HF.out⟩
instance : Inhabited Tm := ⟨⟨0, 0⟩⟩
def rowsW (l : List Tm) : List (List Value) := l.map Tm.row
theorem rowsW_len (l : List Tm) : (rowsW l).length = l.length := List.length_map _
theorem rowsW_two (l : List Tm) : ∀ r ∈ rowsW l, r.length = 2 := by
  intro r hr
  obtain ⟨x, _, rfl⟩ := List.mem_map.1 hr
  rfl
theorem rowsW_get (l : List Tm) (k : Nat) (h : k < l.length) : (rowsW l)[k]? = some l[k].row := by unfold rowsW; rw [List.getElem?_map, List.getElem?_eq_getElem h]; rfl
theorem row_one (x : Tm) : ∀ u ∈ x.row, u.oneCell' = true := by
  intro u hu
  unfold Tm.row at hu
  simp only [List.mem_cons, List.not_mem_nil, or_false] at hu
  rcases hu with rfl | rfl <;> rfl
theorem rowsW_one (l : List Tm) : ∀ u ∈ (rowsW l).flatten, u.oneCell' = true := by
  intro u hu
  obtain ⟨r, hr, hu⟩ := List.mem_flatten.1 hu
  obtain ⟨x, _, rfl⟩ := List.mem_map.1 hr
  exact row_one x u hu
theorem ltW_ahead (x y : Tm) : ltOf cmpW x y = tmB x y := cmpW_lt x y
theorem tmB_self (x : Tm) : tmB x x = false := by unfold tmB; simp
theorem swoW : SWO (ltOf cmpW) where
  irrefl x := by rw [ltW_ahead]; exact tmB_self x
  trans x y z h1 h2 := by rw [ltW_ahead] at *; exact tmB_trans h1 h2
  ntrans x y z h1 h2 := by
    rw [ltW_ahead] at *
    unfold tmB at *
    simp only [Bool.or_eq_false_iff, Bool.and_eq_false_iff, decide_eq_false_iff_not, beq_eq_false_iff_ne, ne_eq] at *
    omega
def nthW (l : List Tm) (i : Nat) : Tm := l.getD i default
theorem getW_eq (d : List Tm) (i : Nat) : d.toArray[i]! = nthW d i := by
  unfold nthW
  rw [Array.getElem!_eq_getD, Array.getD_eq_getD_getElem?, List.getElem?_toArray, List.getD_eq_getElem?_getD]
theorem nthW_eq (l : List Tm) (k : Nat) (h : k < l.length) : nthW l k = l[k] := by unfold nthW; rw [List.getD_eq_getElem?_getD, List.getElem?_eq_getElem h]; rfl
theorem rowW_holds {w : World} {base g cap : Nat} {l : List Tm} (h : w.ownsRow base 77 2 (.slice (some ⟨g, 0, none⟩) l.length cap) l.length (rowsW l).flatten) : HoldsK Tm.row 2 w g 0 l.toArray := by
  intro j hj
  rw [Go.Sort.size_flatK, List.size_toArray] at hj
  rw [Go.Sort.get_flatK _ _ _ _ (by simpa using hj), getW_eq]
  have hq : j / 2 < l.length := by omega
  have hm : j % 2 < 2 := by omega
  have hfl := flat_get 2 (rowsW l) (rowsW_two l) (j / 2) _ (rowsW_get l _ hq) (j % 2) (l[j / 2].row[j % 2]'(by show j % 2 < 2; exact hm)) (List.getElem?_eq_getElem _)
  have hc := h.cells (g := g) rfl (j / 2 * 2 + j % 2) _ hfl
  rw [show j / 2 * 2 + j % 2 = j by omega] at hc
  rw [show ((⟨g, 0, none⟩ : Addr).add j) = ⟨g, 0 + j, none⟩ by unfold Addr.add; split <;> simp_all] at hc
  refine ⟨?_, ?_⟩
  · rw [hc, nthW_eq l _ hq]
    have : (l[j / 2].row)[j % 2]! = l[j / 2].row[j % 2]'(by show j % 2 < 2; exact hm) := getElem!_pos _ _ _
    rw [this]; rfl
  · rcases h.2 with ⟨h, _⟩ | ⟨g', c, cur, hv, h0, hg, _⟩
    · cases h
    · cases hv; exact blk_free hg _
theorem sortV_blk {w : World} {g n k : Nat} {os : Array Obj} (d : Array Tm) (hk : k < w.heap.size) (hne : k ≠ g) : (Go.Proofs.sortWorldK Tm.row 2 w g 0 n d os).heap[k]? = w.heap[k]? := by
  unfold Go.Proofs.sortWorldK
  rw [Go.Sort.heap_grow_old _ _ (by simpa [Go.Sort.putRowK, Go.Sort.putRow, Go.Sort.mapBlock, Go.Sort.ahead] using hk)]
  simp [Go.Sort.putRowK, Go.Sort.putRow, Go.Sort.mapBlock, Go.Sort.ahead, Array.getElem?_modify]
  exact fun e => absurd e.symm hne
theorem sortV_size {w : World} {g n : Nat} {os : Array Obj} (d : Array Tm) : w.heap.size ≤ (Go.Proofs.sortWorldK Tm.row 2 w g 0 n d os).heap.size := by
  unfold Go.Proofs.sortWorldK
  simp [Go.Sort.putRowK, Go.Sort.putRow, Go.Sort.mapBlock, Go.Sort.ahead]
theorem srtW_eq {its l : List Tm} (h : its.Perm l) (hs : l.Pairwise fun x y => tmB x y = true) : (its.mergeSort fun x y => !(tmB y x)) = l := by
  have hp : (its.mergeSort fun x y => !(tmB y x)).Perm l := (List.mergeSort_perm its _).trans h
  have h1 : (its.mergeSort fun x y => !(tmB y x)).Pairwise (fun x y => (!(tmB y x)) = true) := List.pairwise_mergeSort (le := fun x y => !(tmB y x))
    (fun a b c hab hbc => by
      unfold tmB at *
      simp only [Bool.not_eq_true', Bool.or_eq_false_iff, Bool.and_eq_false_iff, decide_eq_false_iff_not, beq_eq_false_iff_ne, ne_eq] at *
      omega)
    (fun a b => by
      unfold tmB
      simp only [Bool.or_eq_true, Bool.not_eq_true', Bool.or_eq_false_iff, Bool.and_eq_false_iff, decide_eq_false_iff_not, beq_eq_false_iff_ne, ne_eq]
      omega) its
  have hasym : ∀ {a b : Tm}, tmB a b = true → (!(tmB b a)) = true := fun {a b} e => by
    unfold tmB at *
    simp only [Bool.not_eq_true', Bool.or_eq_true, Bool.and_eq_true, decide_eq_true_eq, beq_iff_eq, Bool.or_eq_false_iff, Bool.and_eq_false_iff, decide_eq_false_iff_not, beq_eq_false_iff_ne, ne_eq] at *
    omega
  have h2 : l.Pairwise (fun x y => (!(tmB y x)) = true) := hs.imp hasym
  refine List.Perm.eq_of_pairwise (le := fun x y => (!(tmB y x)) = true) (fun a b _ _ hab hba => ?_) h1 h2 hp
  cases a; cases b
  unfold tmB at hab hba
  simp only [Bool.not_eq_true', Bool.or_eq_false_iff, Bool.and_eq_false_iff, decide_eq_false_iff_not, beq_eq_false_iff_ne, ne_eq] at hab hba
  simp only [Tm.mk.injEq]
  omega
theorem wsort_any (base g cap : Nat) (its l : List Tm) (w : World) (hn : its.length ≤ 1000000) (hp : its.Perm l) (hs : l.Pairwise fun x y => tmB x y = true) (h : w.ownsRow base 77 2 (.slice (some ⟨g, 0, none⟩) its.length cap) its.length (rowsW its).flatten) :
    Calls Try.prog 35 #[.slice (some ⟨g, 0, none⟩) its.length cap, .func (.func 36) #[] #[]] w fun e w' => e = .returned (.tuple #[]) ∧ (∀ i, i < l.length → w'.cell? ⟨g, i * 2, none⟩ = some (.int .i64 (nthW l i).id) ∧ w'.cell? ⟨g, i * 2 + 1, none⟩ = some (.int .i64 (nthW l i).tick)) ∧ Only g w w' := by
  have hg : g < w.heap.size := (h.lt g rfl).2
  have hH := rowW_holds h
  have hl : its.length = l.length := hp.length_eq
  have hcon := AnyQ.slices_SortFunc_total Try.sortItem 2 Try.isAgg77 Try.sizeOf77 Tm.row (fun _ => rfl) (fun x v hv => row_one x v hv) cmpW swoW 36 #[] g 0 cap its.toArray w
    (enters_of Try.func36 (by kernel_rfl) rfl) (fun m os dk _ x y => wcompare_any x y _) hH hg (by simp; omega) (fun x y h1 h2 => by
      rw [ltW_ahead] at h1 h2
      cases x; cases y
      unfold tmB at h1 h2
      simp only [Bool.or_eq_false_iff, Bool.and_eq_false_iff, decide_eq_false_iff_not, beq_eq_false_iff_ne, ne_eq] at h1 h2
      simp only [Tm.mk.injEq]
      omega)
  change Calls Try.prog 35 _ _ _ at hcon
  rw [show its.toArray.size = its.length from rfl] at hcon
  refine hcon.mono fun e w' hh => ?_
  obtain ⟨he, n, os, rfl⟩ := hh
  have e1 : (its.toArray.toList.mergeSort fun x y => !(ltOf cmpW) y x) = l := by
    have e2 : (fun x y : Tm => !(ltOf cmpW) y x) = fun x y => !(tmB y x) := by funext x y; rw [ltW_ahead]
    rw [e2]; exact srtW_eq hp hs
  rw [e1]
  refine ⟨he, fun i hi => ?_, ⟨rfl, rfl, rfl, sortV_size _, fun k hk hne => sortV_blk _ hk hne⟩⟩
  have hK := Go.Proofs.holdsK_sortWorldK_c Tm.row 2 w g 0 its.toArray l.toArray n os hH hg (by simp [hl])
  have hc : ∀ c, c < 2 → (Go.Proofs.sortWorldK Tm.row 2 w g 0 n l.toArray os).cell? ⟨g, i * 2 + c, none⟩ = some ((nthW l i).row[c]!) := fun c hc => by
    have := (hK.cell (i := i) (c := c) (by simpa using hi) hc).1
    rwa [getW_eq, Nat.zero_add] at this
  exact ⟨hc 0 (by omega), hc 1 (by omega)⟩
/-- Of a nil slice nothing is sorted. -/
theorem wsort_nil (c : Nat) (w : World) :
    Calls Try.prog 35 #[.slice none 0 c, .func (.func 36) #[] #[]] w fun e w' => e = .returned (.tuple #[]) ∧ w' = w :=
  AnyF.slices_SortFunc_none Try.sortItem none c _ w
end Go.Proofs.Ytdlkpkigpnlanaa
/- What take comes to: of one slot those that are due, in whatever order. Conditions: as stated. -/
namespace Go.Proofs.Ytdlkpkigpnlanaa
open Go.ChangeShapes Go.WideShapes Go.ChangeAt Go.RowKit
set_option linter.unusedVariables false
set_option maxRecDepth 100000
set_option linter.unusedSimpArgs false
set_option maxHeartbeats 2000000
variable {X : WhX}

theorem infoTm : (Try.prog.info? 77).map (fun i => (i.zero, i.size, i.bytes)) = some (some (.agg #[.int .i64 0, .int .i64 0]), 2, 16) := by kernel_rfl
theorem dueOf_snoc (d : List Tm) (x : Tm) (now : Int) : dueOf (d ++ [x]) now = if x.tick ≤ now then dueOf d now ++ [x] else dueOf d now := by
  unfold dueOf
  rw [List.filter_append]
  by_cases h : x.tick ≤ now <;> simp [h]
theorem restOf_snoc (d : List Tm) (x : Tm) (now : Int) : restOf (d ++ [x]) now = if x.tick ≤ now then restOf d now else restOf d now ++ [x] := by
  unfold restOf
  rw [List.filter_append]
  by_cases h : x.tick ≤ now <;> simp [h]
theorem mem_restOf {d : List Tm} {now : Int} {x : Tm} : x ∈ restOf d now ↔ x ∈ d ∧ now < x.tick := by unfold restOf; rw [List.mem_filter]; simp
theorem rowsW_snoc (d : List Tm) (x : Tm) : (rowsW (d ++ [x])).flatten = (rowsW d).flatten ++ [.int .i64 x.id, .int .i64 x.tick] := by
  unfold rowsW
  rw [List.map_append, List.flatten_append]
  simp [Tm.row]
/-- What the map says when d have come and r are to come. -/
def curT (d r : List Tm) (now : Int) : List Tm := restOf d now ++ r
theorem cur_sub {d r L : List Tm} (hp : (d ++ r).Perm L) (now : Int) : ∀ x ∈ curT d r now, x ∈ L := fun x hx => by
  rw [← hp.mem_iff]
  unfold curT at hx
  rw [List.mem_append] at hx ⊢
  rcases hx with h | h
  · exact .inl (mem_restOf.1 h).1
  · exact .inr h
theorem cur_ids {d r L : List Tm} (hp : (d ++ r).Perm L) (hL : IdsW L) (now : Int) : IdsW (curT d r now) := by
  have h := idsW_of_perm hL hp.symm
  unfold curT
  exact List.Pairwise.sublist (List.Sublist.append (List.filter_sublist) (List.Sublist.refl _)) h
theorem cur_len {d r L : List Tm} (hp : (d ++ r).Perm L) (now : Int) : (curT d r now).length ≤ L.length := by
  rw [← hp.length_eq]
  unfold curT restOf
  rw [List.length_append, List.length_append]
  have := List.length_filter_le (fun x : Tm => !decide (x.tick ≤ now)) d
  omega
/-- One that is due has come, and was taken off. -/
theorem cur_due {d r L : List Tm} (hp : (d ++ r).Perm L) (hL : IdsW L) {now id c : Int} (hc : tickW L id = some c) (hr : (tickW r id).isSome = true) (hn : c ≤ now) :
    curT (d ++ [⟨id, c⟩]) (dropW r id) now = dropW (curT d r now) id ∧ (tickW (curT d r now) id).isSome = true := by
  have hdr : IdsW (d ++ r) := idsW_of_perm hL hp.symm
  obtain ⟨y, hy, hid⟩ := tickW_isSome.1 hr
  have hno : ∀ x ∈ restOf d now, x.id ≠ id := fun x hx e => (List.pairwise_append.1 hdr).2.2 x (mem_restOf.1 hx).1 y hy (e.trans hid.symm)
  constructor
  · unfold curT
    rw [restOf_snoc, if_pos hn]
    unfold dropW
    rw [List.filter_append]
    congr 1
    symm
    rw [List.filter_eq_self]
    exact fun x hx => by simpa using hno x hx
  · exact tickW_isSome.2 ⟨y, by unfold curT; rw [List.mem_append]; exact .inr hy, hid⟩
/-- One that is not due has come. -/
theorem cur_stay {d r L : List Tm} (hp : (d ++ r).Perm L) (hL : IdsW L) {now id c : Int} (hc : tickW L id = some c) (hr : (tickW r id).isSome = true) (hn : ¬ c ≤ now) :
    (curT (d ++ [⟨id, c⟩]) (dropW r id) now).Perm (curT d r now) := by
  have hdr : IdsW (d ++ r) := idsW_of_perm hL hp.symm
  obtain ⟨y, hy, hid⟩ := tickW_isSome.1 hr
  have h1 : tickW L id = some y.tick := (tickW_some hL).2 ⟨y, hp.mem_iff.1 (List.mem_append_right _ hy), hid, rfl⟩
  rw [hc] at h1
  have hyc : y = ⟨id, c⟩ := by cases y; simp at h1 hid; simp [h1, hid]
  have h2 := dropW_perm (List.pairwise_append.1 hdr).2.1 hy
  rw [hid, hyc] at h2
  unfold curT
  rw [restOf_snoc, if_neg hn, List.append_assoc]
  exact List.Perm.append_left _ h2.symm
theorem cur_tick {d r L : List Tm} (hp : (d ++ r).Perm L) (hL : IdsW L) {now id c : Int} (h : tickW (curT d r now) id = some c) : tickW L id = some c := by
  rw [tickW_some (cur_ids hp hL now)] at h
  obtain ⟨x, hx, hh⟩ := h
  exact (tickW_some hL).2 ⟨x, cur_sub hp now x hx, hh⟩
theorem Only.fresh {b r : Nat} {x y z : World} (h : Only b x y) (k : Only r y z) (hr : x.heap.size ≤ r) : Only b x z :=
  ⟨k.os.trans h.os, k.tape.trans h.tape, k.output.trans h.output, Nat.le_trans h.size k.size, fun j hj hb => (k.block j (Nat.lt_of_lt_of_le hj h.size) (by omega)).trans (h.block j hj hb)⟩
theorem Only.grow {b : Nat} {row : Option Nat} {x y z : World} (h : Only b x y) (k : y.grownBy z row) (hr : ∀ g, row = some g → x.heap.size ≤ g) : Only b x z :=
  ⟨k.os.trans h.os, k.tape.trans h.tape, k.output.trans h.output, Nat.le_trans h.size k.size, fun j hj hb => (k.block j (Nat.lt_of_lt_of_le hj h.size) (fun e => by have := hr j e.symm; omega)).trans (h.block j hj hb)⟩
theorem owns_base {w : World} {base base' : Nat} {e : TypeId} {size n : Nat} {v : Value} {xs : List Value} (h : w.ownsRow base e size v n xs) (hb : base' ≤ base) : w.ownsRow base' e size v n xs := by
  refine ⟨h.1, ?_⟩
  rcases h.2 with h2 | ⟨g, cap, cur, h1, h2, h3⟩
  · exact .inl h2
  · exact .inr ⟨g, cap, cur, h1, Nat.le_trans hb h2, h3⟩
theorem wtake_some (m : Nat) (L : List Tm) (now : Int) (w : World) (hM : MapI w m L.length (tickW L)) (hL : IdsW L) (hi : ∀ x ∈ L, inI x.id) (hlen : L.length ≤ 1000000) :
    Calls Try.prog 34 #[.map (some m), .int .i64 now] w fun e w' => ∃ v d, e = .returned v ∧ d.Perm (dueOf L now) ∧ w'.ownsRow w.heap.size 77 2 v d.length (rowsW d).flatten ∧ MapI w' m (restOf L now).length (tickW (restOf L now)) ∧ Only m w w' := by
  have hml : m < w.heap.size := hM.lt
  obtain ⟨i0, hif, hz0, hz1, hz2⟩ := info_parts infoTm
  go_enter Try.func34, Try.ntmps34
  go_wp2_with (refine wpList_range_mapF rfl _ _ rfl 3 3 Try.underlying3 Try.underlying31 rfl hM ?_; intro w0 hrg0 hb0 hsz0)
  go_frame
  go_loopw [5] (fun v wr => ∃ cnt left d r, RgF Try.prog 3 (Value.int .i64) 0 wr m w.heap.size (curT d r now).length (tickW (curT d r now)) left cnt ∧ (d ++ r).Perm L ∧ (∀ i, inI i → left i = (tickW r i).isSome) ∧
      wr.ownsRow (w.heap.size + 1) 77 2 v (dueOf d now).length (rowsW (dueOf d now)).flatten ∧ Only m w wr ∧ w.heap.size + 1 ≤ wr.heap.size) (fun _ wr => wr.rangeLeft m w.heap.size)
  case atStart =>
    refine ⟨_, _, [], L, hrg0, List.Perm.refl _, fun i hi => rfl, ?_, Only.of m hb0, by omega⟩
    exact World.ownsRow_nil _ _ _ _
  case round =>
    obtain ⟨cnt, left, d, r, hrg, hp, hleft, hrow, ho, hsz⟩ := hrel
    go_wp2_with (refine wpList_next_mapF rfl _ rfl 3 intV_inj Try.underlying3 rfl hrg ?_ ?_)
    · intro hc0 hl0
      have he := done_end hp (fun x hx => by rw [← hleft x.id (hi x hx)]; exact hl0 x.id (hi x hx))
      have hM1 := hrg.map
      have hq : (curT d r now).Perm (restOf L now) := by
        rw [he.1]; unfold curT; rw [List.append_nil]
        exact he.2.filter _
      have hM2 : MapI wr m (restOf L now).length (tickW (restOf L now)) := hM1.same (fun i => tickW_perm (cur_ids hp hL now) hq i) hq.length_eq
      have hrow2 : wr.ownsRow w.heap.size 77 2 u5 (dueOf d now).length (rowsW (dueOf d now)).flatten := owns_base hrow (by omega)
      have hd := he.2.filter (fun x => decide (x.tick ≤ now))
      clear hrg hM1 hM hrg0 hrow
      go_wp2_with fail
      go_ret
      exact ⟨_, dueOf d now, rfl, hd, hrow2, hM2, ho⟩
    · intro id c w1 cnt1 hid hlx hfx hrg1 hlt ho1 hsz1 hen
      have hr : (tickW r id).isSome = true := by rw [← hleft id hid]; exact hlx
      have hc := cur_tick hp hL hfx
      have hst := done_step hp hL hc hr
      have hleft1 : ∀ i, inI i → leftB left id i = (tickW (dropW r id) i).isSome := fun i hi => by unfold leftB; rw [hst.2 i, hleft i hi]
      have hrow1 := owns_only hrow ho1 (by omega)
      have hcl := cur_len hp now
      have hdl : (dueOf d now).length ≤ L.length := by
        rw [← hp.length_eq, List.length_append]; have := List.length_filter_le (fun x : Tm => decide (x.tick ≤ now)) d; unfold dueOf; omega
      have hmeas : cnt1 < wr.rangeLeft m w.heap.size := by rw [hrg.left_eq]; exact hlt
      have HSZ := Lib.hid hsz1
      have HM := Lib.hid hmeas
      have ho2 : Only m w w1 := ho.fresh ho1 (Nat.le_refl _)
      have HO := Lib.hid ho2
      clear hsz1 hmeas hrow hlx hleft hfx
      by_cases hn : c ≤ now
      · have dn : decide (c ≤ now) = true := decide_eq_true hn
        have hcd := cur_due hp hL hc hr hn
        have hlr : ∀ W, Below w1.heap.size w1 W → True := fun _ _ => trivial
        have HR := Lib.hid hrow1
        have hl1 : w.heap.size + 1 ≤ w1.heap.size := by have := HSZ.out; omega
        clear hrg hM hrg0 ho ho1 ho2
        go_wp2_with (at_builtin; refine wpList_append_own _ rfl _ _ 73 rfl (w.heap.size + 1) 77 i0 (.agg #[.int .i64 0, .int .i64 0]) 2 16 Try.underlying73 hif hz0 hz1 hz2 rfl (by decide) _ _ _ rfl (HR.out.alloc _) ⟨w1.heap.size, 0, none⟩ 1 1 [.int .i64 id, .int .i64 c] rfl rfl (cells_new _ _ _) (row_one ⟨id, c⟩) ?c3 ?c4 ?c5 ?_)
        case c3 => unfold maxLen; omega
        case c4 => omega
        case c5 => simp; omega
        intro v' w4 hown4 hgrow _
        have hob : ∀ g, (u5 : Value).ownBlock = some g → w.heap.size + 1 ≤ g := fun g hg => owns_row HR.out hg
        have hk : ∀ j, j ≤ w.heap.size → w4.heap[j]? = w1.heap[j]? := fun j hj => (hgrow.block j (by simp; omega) (fun e => by have := hob j e.symm; omega)).trans (Below.heap_alloc _ _ _ (by omega))
        have hrg4 := hrg1.keep (hk m (by omega)) (hk w.heap.size (Nat.le_refl _))
        have ho4 : Only m w w4 := (HO.out.alloc _).grow hgrow (fun g hg => by have := hob g hg; omega)
        clear hgrow hrg1
        go_wp2_with (refine wpList_delete_rgF rfl _ _ _ _ rfl 3 Try.underlying3 Try.underlying31 rfl hrg4 id hid rfl ?_; intro w5 cnt5 hrg5 hle5 ho5)
        go_frame
        go_roundw
        case rel =>
          refine ⟨cnt5, leftB left id, d ++ [⟨id, c⟩], dropW r id, hrg5.same ?_ (fun i => ?_) (fun i _ => ?_), hst.1, hleft1, ?_, ho4.trans ho5, ?_⟩
          · rw [hcd.1, dropW_len_eq (cur_ids hp hL now)]
          · rw [hcd.1, tickW_dropW]; rfl
          · unfold leftB; cases left i <;> cases (i == id) <;> rfl
          · rw [dueOf_snoc, if_pos hn, List.length_append, rowsW_snoc]
            exact owns_only hown4 ho5 (by omega)
          · have := ho4.size; have := ho5.size; have := HO.out.size; have := hown4.1; have := hrg4.lt; omega
        case measure => rw [hrg5.left_eq]; have := HM.out; omega
      · have dn : decide (c ≤ now) = false := decide_eq_false hn
        have hcs := cur_stay hp hL hc hr hn
        have hrg2 := hrg1.same (n' := (curT (d ++ [⟨id, c⟩]) (dropW r id) now).length) (g := tickW (curT (d ++ [⟨id, c⟩]) (dropW r id) now)) (left' := leftB left id) hcs.length_eq.symm (fun i => tickW_perm (cur_ids hp hL now) hcs.symm i) (fun i _ => rfl)
        clear hrg hM hrg0 ho ho1
        go_wp2_with fail
        go_roundw
        case rel => exact ⟨cnt1, leftB left id, d ++ [⟨id, c⟩], dropW r id, hrg2, hst.1, hleft1, by rw [dueOf_snoc, if_neg hn]; exact hrow1, HO.out, by have := HSZ.out; omega⟩
        case measure => rw [hrg1.left_eq]; exact HM.out
end Go.Proofs.Ytdlkpkigpnlanaa
/- What a wheel's Due comes to: its rounds over the slots. Conditions: as stated. -/
namespace Go.Proofs.Ytdlkpkigpnlanaa
open Go.ChangeShapes Go.WideShapes Go.ChangeAt Go.RowKit Go.Shelf
set_option linter.unusedVariables false
set_option maxRecDepth 100000
set_option linter.unusedSimpArgs false
set_option maxHeartbeats 2000000
attribute [local go_sem] Oper.semAt_some
variable {X : WhX}

theorem owns_form {w : World} {base e size n : Nat} {v : Value} {xs : List Value} (h : w.ownsRow base e size v n xs) : ∃ A c, v = .slice A n c := by
  rcases h.2 with ⟨h1, h2⟩ | ⟨g, cap, cur, h1, _⟩
  · subst h2; exact ⟨none, 0, h1⟩
  · exact ⟨_, _, h1⟩
theorem wtake_any (mv : Value) (L : List Tm) (now : Int) (w : World) (h : Slot w mv L) (hL : IdsW L) (hi : ∀ x ∈ L, inI x.id) (hlen : L.length ≤ 1000000) :
    Calls Try.prog 34 #[mv, .int .i64 now] w fun e w' => ∃ v d, e = .returned v ∧ d.Perm (dueOf L now) ∧ w'.ownsRow w.heap.size 77 2 v d.length (rowsW d).flatten ∧ Slot w' mv (restOf L now) ∧ Turned (fun j => mv = .map (some j)) w w' := by
  rcases h with ⟨rfl, rfl⟩ | ⟨m, rfl, hM⟩
  · have hr := run_range_nil w
    go_enter Try.func34, Try.ntmps34
    go_wp2_with fail
    go_loopw [5] (fun v wr => v = .slice none 0 0 ∧ wr = w.alloc (.mapIter none 0 #[] 0)) (fun _ _ => 0)
    case atStart => exact ⟨rfl, rfl⟩
    case round =>
      obtain ⟨rfl, rfl⟩ := hrel
      have hnx := fun ty => run_next_nilMap (P := Try.prog) w ty 0 0 #[]
      go_wp2_with fail
      go_ret
      exact ⟨_, [], rfl, List.Perm.refl _, World.ownsRow_nil _ _ _ _, .inl ⟨rfl, rfl⟩, Turned.of ((Below.refl _ _).alloc (Nat.le_refl _) _)⟩
  · refine (wtake_some m L now w hM hL hi hlen).mono ?_
    rintro e w' ⟨v, d, h1, h2, h3, h4, h5⟩
    exact ⟨v, d, h1, h2, h3, .inr ⟨m, rfl, h4⟩, h5.os, h5.tape, h5.output, h5.size, fun k hk hne => h5.block k hk (fun e => hne (by rw [e]))⟩
/-- 'append(s, x...)' in a round: s of the call's own, x read, wherever it lies. -/
theorem wpListIn_append_rdK {P : Program} {w : World} {ops : Array Oper} {rest : List Oper} {o : Oper} {a : Act} {Q : Exit → Act → World → Prop} {F : Fence} {nF : Nat} (hgd : o.guard = none) (s x : Operand) (t : TypeId)
    (ho : o.op = .call { callee := .builtin .append, args := #[s, x], argTypes := #[t, t] }) (base : Nat) (e : TypeId) (z : Value) (size bytes : Nat) (hinfo : (P.info? e).map (fun i => (i.zero, i.size, i.bytes)) = some (some z, size, bytes)) (hzs : z.cells.size = size) (hsz : 0 < size) (hby : bytes ≤ 1000) (ht : P.underlying t = some (.slice e))
    (v : Value) (n : Nat) (xs : List Value) (hs : a.eval s = v) (hown : w.ownsRow base e size v n xs) (K : Nat → Prop) (sv : Value) (rs : List (List Value)) (hx : a.eval x = sv) (hr : RdK size w K sv rs) (hm : ∀ r ∈ rs, r.length = size) (h1 : ∀ u ∈ rs.flatten, u.oneCell' = true) (hn : n + rs.length ≤ 1000000) (hbase : base ≤ w.heap.size)
    (h : ∀ v' w', w'.ownsRow base e size v' (n + rs.length) (xs ++ rs.flatten) → w.grownBy w' v.ownBlock → wpListIn F nF P ops Q rest (a.put o.dst v') w') : wpListIn F nF P ops Q (o :: rest) a w := by
  obtain ⟨i0, hi, hz0, hz1, hz2⟩ := info_parts hinfo
  obtain ⟨A, c, rfl, h2, h3⟩ := hr.form
  cases A with
  | none =>
    obtain rfl : rs = [] := by
      cases rs with
      | nil => rfl
      | cons y r =>
        obtain ⟨b, o', e', _⟩ := hr.at_ (k := 0) (by simp)
        cases e'
    refine wpListIn_plain hgd fun K' hK' => ?_
    have hx' : a.eval x = .slice none 0 c := hx
    have hrun := run_append_none_c (P := P) (w := w) base t o.type e i0 size c ht hi v n xs hown
    unfold Oper.wpIn
    refine ⟨by simp [Oper.about, ho, resolve, Target.leads, Sem.run_pure], ?_⟩
    rw [Oper.semAt_plain F _ _ (by rw [ho]; intro c hc'; cases hc')]
    simp [execOp, ho, resolve, invoke, builtin, hs, hx', hrun, Result.andThen]
    exact hK' _ _ (h v w (by simpa using hown) ⟨rfl, rfl, rfl, Nat.le_refl _, fun _ _ _ => rfl⟩)
  | some ad =>
    refine wpListIn_append_own w hgd s x t ho base e i0 z size bytes ht hi hz0 hz1 hz2 hzs hsz v n xs hs hown ad rs.length c rs.flatten hx (flat_len size rs hm) ?_ h1 (by unfold maxLen; omega) ?_ hbase ?_
    · exact RdK.cells hr hsz hm
    · have : (n + rs.length) * bytes ≤ 1000000 * 1000 := Nat.mul_le_mul hn hby
      omega
    · intro v' w' h5 h6 _
      exact h v' w' h5 h6
/-- Behind k slots. -/
structure DueSt (X : WhX) (b : Nat) (ms : Array Value) (l : List Tm) (now : Int) (F : Nat → Prop) (w : World) (k : Nat) (v : Value) (d : List Tm) (W : World) : Prop where
  bnow : W.heap[w.heap.size]? = some (.cells #[.int .i64 now] 3 (0, 0))
  bdue : W.heap[w.heap.size + 1]? = some (.cells #[v] 73 (0, 0))
  own : W.ownsRow (w.heap.size + 4) 77 2 v d.length (rowsW d).flatten
  perm : d.Perm (dueOf (flatW l k) now)
  slot : ∀ i, i < 16 → Slot W (mAt ms i) (if i < k then restOf (slotL l i) now else slotL l i)
  turn : Turned F w W
  blk : W.heap[b]? = some (wX X ms)
section
variable {b : Nat} {ms : Array Value} {l : List Tm} {now : Int} {F : Nat → Prop} {w W W' : World} {k : Nat} {v : Value} {d : List Tm}
theorem turned_books {L : Nat} (h : Turned F w W) (hb : Books L W W') (hL : w.heap.size ≤ L) : Turned F w W' :=
  ⟨hb.os.trans h.os, hb.tape.trans h.tape, hb.output.trans h.output, by rw [hb.size]; exact h.size, fun j hj hf => (hb.block j (by omega) (by omega)).trans (h.block j hj hf)⟩
theorem due_books (h : DueSt X b ms l now F w k v d W) (hb : Books (w.heap.size + 2) W W') (hlt : ∀ i g, i < 16 → mAt ms i = .map (some g) → g < w.heap.size) (hbw : b < w.heap.size) : DueSt X b ms l now F w k v d W' :=
  ⟨blk_books h.bnow hb (by omega) (by omega), blk_books h.bdue hb (by omega) (by omega), owns_keep h.own fun g hg _ => hb.block g (by omega) (by omega), h.perm,
    fun i hi => (h.slot i hi).keep fun g hg => hb.block g (by have := hlt i g hi hg; omega) (by have := hlt i g hi hg; omega), turned_books h.turn hb (by omega), blk_books h.blk hb (by omega) (by omega)⟩
theorem due_step {w4 w5 : World} {v5 : Value} {d5 : List Tm} (h : DueSt X b ms l now F w k v d W) (hk : k < 16) (hW : w.heap.size + 4 ≤ W.heap.size) (hbw : b < w.heap.size)
    (hlt : ∀ i g, i < 16 → mAt ms i = .map (some g) → g < w.heap.size) (hap : ∀ i j g, i < 16 → j < 16 → mAt ms i = .map (some g) → mAt ms j = .map (some g) → i = j) (hbm : ∀ i, i < 16 → mAt ms i ≠ .map (some b))
    (hF : ∀ i g, i < 16 → mAt ms i = .map (some g) → F g)
    (hT : Turned (fun j => mAt ms k = .map (some j)) W w4) (hs4 : Slot w4 (mAt ms k) (restOf (slotL l k) now)) (hg : w4.grownBy w5 v.ownBlock)
    (h5 : w5.ownsRow (w.heap.size + 4) 77 2 v5 (d.length + (rowsW d5).length) ((rowsW d).flatten ++ (rowsW d5).flatten)) (hd : d5.Perm (dueOf (slotL l k) now)) :
    (w5.setCell ⟨w.heap.size + 1, 0, none⟩ v5).heap[w.heap.size + 2]? = W.heap[w.heap.size + 2]? ∧ (w5.setCell ⟨w.heap.size + 1, 0, none⟩ v5).heap[w.heap.size + 2 + 1]? = W.heap[w.heap.size + 2 + 1]? ∧ ∃ v d, DueSt X b ms l now F w (k + 1) v d (w5.setCell ⟨w.heap.size + 1, 0, none⟩ v5) := by
  have hob : ∀ g, v.ownBlock = some g → w.heap.size + 4 ≤ g := fun g hg => owns_row h.own hg
  have hmk : ∀ j, w.heap.size ≤ j → ¬ mAt ms k = .map (some j) := fun j hj e => by have := hlt k j hk e; omega
  have hs4' := hT.size
  have far : ∀ j, j < w.heap.size + 4 → j ≠ w.heap.size + 1 → (w5.setCell ⟨w.heap.size + 1, 0, none⟩ v5).heap[j]? = w4.heap[j]? := fun j hj hne => by
    rw [Below.heap_setCell _ _ _ _ hne]
    exact hg.block j (by omega) (fun e => by have := hob j e.symm; omega)
  have same : ∀ j, w.heap.size ≤ j → j < w.heap.size + 4 → j ≠ w.heap.size + 1 → (w5.setCell ⟨w.heap.size + 1, 0, none⟩ v5).heap[j]? = W.heap[j]? := fun j h1 h2 h3 =>
    (far j h2 h3).trans (hT.block j (by omega) (hmk j h1))
  refine ⟨same _ (by omega) (by omega) (by omega), same _ (by omega) (by omega) (by omega), v5, d ++ d5, ⟨(same _ (by omega) (by omega) (by omega)).trans h.bnow, ?_, ?_, ?_, fun i hi => ?_, ?_, ?_⟩⟩
  · have e1 : w5.heap[w.heap.size + 1]? = some (.cells #[v] 73 (0, 0)) := (hg.block _ (by omega) (fun e => by have := hob _ e.symm; omega)).trans ((hT.block _ (by omega) (hmk _ (by omega))).trans h.bdue)
    exact blk_set e1 0 v5
  · have e2 : (rowsW (d ++ d5)).flatten = (rowsW d).flatten ++ (rowsW d5).flatten := by unfold rowsW; rw [List.map_append, List.flatten_append]
    rw [e2, List.length_append, ← rowsW_len d5]
    exact owns_keep h5 fun g hg _ => Below.heap_setCell _ _ _ _ (by simp only; omega)
  · show (d ++ d5).Perm (dueOf (flatW l k ++ slotL l k) now)
    unfold dueOf
    rw [List.filter_append]
    exact h.perm.append hd
  · by_cases e : i = k
    · subst e
      rw [if_pos (by omega)]
      exact hs4.keep fun g hg => far g (by have := hlt i g hi hg; omega) (by have := hlt i g hi hg; omega)
    · have h1 := h.slot i hi
      have e2 : (if i < k + 1 then restOf (slotL l i) now else slotL l i) = if i < k then restOf (slotL l i) now else slotL l i := by
        by_cases e3 : i < k
        · rw [if_pos e3, if_pos (by omega)]
        · rw [if_neg e3, if_neg (by omega)]
      rw [e2]
      exact h1.keep fun g hg => (far g (by have := hlt i g hi hg; omega) (by have := hlt i g hi hg; omega)).trans (hT.block g (h1.lt hg) (fun e3 => e (hap i k g hi hk hg e3)))
  · refine ⟨hg.os.trans (hT.os.trans h.turn.os), hg.tape.trans (hT.tape.trans h.turn.tape), hg.output.trans (hT.output.trans h.turn.output), ?_, fun j hj hf => ?_⟩
    · have := hg.size; rw [World.size_setCell]; omega
    · exact (far j (by omega) (by omega)).trans ((hT.block j (by omega) (fun e => hf (hF k j hk e))).trans (h.turn.block j hj hf))
  · exact (far b (by omega) (by omega)).trans ((hT.block b (by omega) (hbm k hk)).trans h.blk)
end
end Go.Proofs.Ytdlkpkigpnlanaa
/- What a wheel's Due comes to; a nil wheel's. Conditions: as stated. -/
namespace Go.Proofs.Ytdlkpkigpnlanaa
open Go.ChangeShapes Go.WideShapes Go.ChangeAt Go.RowKit Go.Shelf
set_option linter.unusedVariables false
set_option maxRecDepth 100000
set_option linter.unusedSimpArgs false
set_option maxHeartbeats 2000000
attribute [local go_sem] Oper.semAt_some
variable {X : WhX}

/-- What holds in a round's region where p of its calls and stores have come up. -/
def DueC (X : WhX) (b : Nat) (ms : Array Value) (l : List Tm) (now : Int) (F : Nat → Prop) (w : World) (k : Nat) (v : Value) (d : List Tm) (W2 : World) (p : Nat) (w' : World) : Prop :=
  match p with
  | 0 => w' = W2.drew
  | 1 => w'.cell? ⟨w.heap.size + 1, 0, none⟩ = some v
  | 2 => True
  | _ => w'.heap[w.heap.size + 2]? = W2.heap[w.heap.size + 2]? ∧ w'.heap[w.heap.size + 2 + 1]? = W2.heap[w.heap.size + 2 + 1]? ∧ (∃ v d, DueSt X b ms l now F w (k + 1) v d w') ∧ w.heap.size + 4 ≤ w'.heap.size
def DueD1 (ms : Array Value) (l : List Tm) (now : Int) (k : Nat) (W2 : World) (v4 : Value) (p : Nat) (w4 : World) : Prop :=
  p = 1 → ∃ d4 : List Tm, d4.Perm (dueOf (slotL l k) now) ∧ w4.ownsRow W2.drew.heap.size 77 2 v4 d4.length (rowsW d4).flatten ∧ Slot w4 (mAt ms k) (restOf (slotL l k) now) ∧ Turned (fun j => mAt ms k = .map (some j)) W2.drew w4
def DueD2 (ms : Array Value) (l : List Tm) (now : Int) (w : World) (k : Nat) (v : Value) (d : List Tm) (W2 : World) (v5 : Value) (p : Nat) (w5 : World) : Prop :=
  p = 2 → ∃ (d4 : List Tm) (w4 : World), d4.Perm (dueOf (slotL l k) now) ∧ Slot w4 (mAt ms k) (restOf (slotL l k) now) ∧ Turned (fun j => mAt ms k = .map (some j)) W2.drew w4 ∧ w4.grownBy w5 v.ownBlock ∧
    w5.ownsRow (w.heap.size + 4) 77 2 v5 (d.length + (rowsW d4).length) ((rowsW d).flatten ++ (rowsW d4).flatten)
theorem dueC_zero {b : Nat} {ms : Array Value} {l : List Tm} {now : Int} {F : Nat → Prop} {w : World} {k : Nat} {v : Value} {d : List Tm} {W2 : World} {p : Nat} {w' : World} (hp : p ≤ 0) (h : DueC X b ms l now F w k v d W2 p w') : w' = W2.drew := by
  obtain rfl : p = 0 := by omega
  exact h
theorem dueC_cell {b : Nat} {ms : Array Value} {l : List Tm} {now : Int} {F : Nat → Prop} {w : World} {k : Nat} {v : Value} {d : List Tm} {W2 : World} {p : Nat} {w' : World} (hc : W2.cell? ⟨w.heap.size + 1, 0, none⟩ = #[v][0]?) (hp : p ≤ 1) (h : DueC X b ms l now F w k v d W2 p w') : w'.cell? ⟨w.heap.size + 1, 0, none⟩ = some v := by
  match p, hp, h with
  | 0, _, h => obtain rfl : w' = W2.drew := h; exact hc
  | 1, _, h => exact h
theorem wdue_any (F : Nat → Prop) (v : Value) (l : List Tm) (now : Int) (w : World) (h : WP X F v l w) (hlen : l.length ≤ 1000000) :
    Calls Try.prog 27 #[v, .int .i64 now] w fun e w' => ∃ u, e = .returned u ∧ RdI w' (fun k => w.heap.size ≤ k) u (dueW l now) ∧ WP X F v (leftW l now) w' ∧ Turned F w w' := by
  obtain ⟨b, ms, rfl, H, hs, hF⟩ := h
  have hbw : b < w.heap.size := lt_of_block H.blk
  have hlt : ∀ i g, i < 16 → mAt ms i = .map (some g) → g < w.heap.size := fun i g hi hg => (H.slot i hi).lt hg
  have hFm : ∀ i g, i < 16 → mAt ms i = .map (some g) → F g := fun i g hi hg => (hF g).2 (.inr ⟨i, hi, hg⟩)
  have hmx : Try.prog.follows .mixedOrders = true := by kernel_rfl
  refine calls_of_wp_marks Try.func27 rfl ?_
  simp only [Try.ntmps27, List.size_toArray, List.length_cons, List.length_nil, Nat.reduceAdd, Nat.reduceSub, Array.replicate_succ, Array.replicate_zero, List.push_toArray, List.append_toArray, List.nil_append, List.cons_append]
  go_wp2_with fail
  obtain ⟨w3, hw3⟩ : ∃ w3, (w.alloc (.cells #[.int .i64 now] 3)).alloc (.cells #[.slice none 0 0] 73) = w3 := ⟨_, rfl⟩
  rw [hw3]
  have hB3 : Below w.heap.size w w3 := by rw [← hw3]; exact below_two _ _ _
  have hs3 : w3.heap.size = w.heap.size + 2 := by rw [← hw3]; simp
  have b0 : w3.heap[w.heap.size]? = some (.cells #[.int .i64 now] 3 (0, 0)) := by rw [← hw3]; exact blk_old _ (blk_new w _)
  have b1 : w3.heap[w.heap.size + 1]? = some (.cells #[.slice none 0 0] 73 (0, 0)) := by rw [← hw3]; have := blk_new (w.alloc (.cells #[.int .i64 now] 3)) (.cells #[.slice none 0 0] 73); rw [World.size_alloc] at this; exact this
  have H3 : Whl X b ms l w3 := whl_below H hB3
  clear hw3
  have hstart : ∀ o1 o2, DueSt X b ms l now F w 0 (.slice none 0 0) [] ((w3.alloc o1).alloc o2) := fun o1 o2 => by
    have hb2 := below_two w3 o1 o2
    refine ⟨blk_old _ (blk_old _ b0), blk_old _ (blk_old _ b1), World.ownsRow_nil _ _ _ _, List.Perm.refl _, fun i hi => ?_, Turned.of (hB3.trans (hb2.mono hB3.size)), blk_below hb2 H3.blk (by omega)⟩
    rw [if_neg (by omega)]
    exact (H3.slot i hi).keep fun g hg => hb2.block g (by have := hlt i g hi hg; omega)
  refine wp_rangeFunc_rounds (gf := 33) (bs := #[.pointer (some ⟨b, 0, none⟩)]) rfl (enters_of Try.func33 (by kernel_rfl) rfl) 16 (fun k => #[mAt ms k]) (fun _ => rfl) (each_some b ms w3 H3.blk H3.size)
    (fun k W => (∃ v d, DueSt X b ms l now F w k v d W) ∧ w.heap.size + 4 ≤ W.heap.size)
    (fun W => False)
    (fun o1 o2 => ⟨⟨_, _, hstart o1 o2⟩, by simp; omega⟩)
    (fun k W W' ⟨⟨v, d, h⟩, h2⟩ hb => ⟨⟨v, d, due_books h (by rw [hs3] at hb; exact hb) hlt hbw⟩, by rw [hb.size]; exact h2⟩)
    (fun W W' h _ => h)
    ?round ?done ?ret
  case round =>
    rintro k l' W ⟨⟨v, d, hst⟩, hW⟩ hk hl'
    gi_wp2
    refine ⟨trivial, ?_⟩
    rintro W2 ⟨⟨v, d, hst⟩, hW2⟩ hl2
    have hSlot := hst.slot k hk
    rw [if_neg (by omega)] at hSlot
    have HT := Lib.hid (fun W' (e : W' = W2.drew) => wtake_any (mAt ms k) (slotL l k) now W' (hSlot.keep fun g _ => by rw [e]; rfl) (idsW_filter hs.ids _) (fun x hx => (hs.ok x (mem_slotL.1 hx).1).1) (Nat.le_trans (slotL_len l k) hlen))
    have c0 := blk_cell hst.bnow 0
    have c1 := blk_cell hst.bdue 0
    have HS := Lib.hid hst
    have HLEN := Lib.hid (show ∀ d4 : List Tm, d4.Perm (dueOf (slotL l k) now) → d.length + (rowsW d4).length ≤ 1000000 from fun d4 h4 => by
      rw [rowsW_len, hst.perm.length_eq, h4.length_eq]
      have e1 := flatW_len_le l (k + 1)
      have e2 := flatW_len_succ l k
      have e3 := List.length_filter_le (fun x : Tm => decide (x.tick ≤ now)) (flatW l k)
      have e4 := List.length_filter_le (fun x : Tm => decide (x.tick ≤ now)) (slotL l k)
      unfold dueOf
      omega)
    have HOWN := Lib.hid (show ∀ w4, Turned (fun j => mAt ms k = .map (some j)) W2.drew w4 → w4.ownsRow (w.heap.size + 4) 77 2 v d.length (rowsW d).flatten ∧ w.heap.size + 4 ≤ w4.heap.size ∧ w4.cell? ⟨w.heap.size + 1, 0, none⟩ = some v ∧ ∀ w5, w4.grownBy w5 v.ownBlock → w5.heap[w.heap.size + 1]? = some (.cells #[v] 73 (0, 0)) from fun w4 hT => by
      have hs4 : W2.heap.size ≤ w4.heap.size := hT.size
      have hmk : ∀ j, w.heap.size ≤ j → ¬ mAt ms k = .map (some j) := fun j hj e => by have := hlt k j hk e; omega
      have e1 : w4.heap[w.heap.size + 1]? = some (.cells #[v] 73 (0, 0)) := (hT.block _ (by show _ < W2.heap.size; omega) (hmk _ (by omega))).trans hst.bdue
      exact ⟨owns_keep hst.own fun g hg hl => hT.block g hl (hmk g (by omega)), by omega, blk_cell e1 0, fun w5 hg => (hg.block _ (by omega) (fun e => by have := owns_row hst.own e.symm; omega)).trans e1⟩)
    clear hst hSlot
    gi_wp2
    refine wpIn_region_holdP (cl := [3, 4, 5]) hmx (by kernel_rfl) (by rintro ⟨_, _, h⟩; exact h) (DueC X b ms l now F w k v d W2) (by kernel_rfl) rfl ?_
    refine holdP_valA (v := v) 1 4 _ rfl rfl (by kernel_rfl) (by rfl) (by rfl) (fun p w' hp hC => ?_) ?_
    · have z := dueC_cell c1 hp hC
      go_simp
    simp only [Act.put, List.setIfInBounds_toArray, List.set_cons_zero, List.set_cons_succ]
    refine holdP_val (v := mAt ms k) (by rfl) (by rfl) (fun p w' hC => ?_) ?_
    · go_simp
    simp only [Act.put, List.setIfInBounds_toArray, List.set_cons_zero, List.set_cons_succ]
    refine holdP_valA (v := .int .i64 now) 0 3 _ rfl rfl (by kernel_rfl) (by rfl) (by rfl) (fun p w' hp hC => ?_) ?_
    · obtain rfl := dueC_zero hp hC
      go_simp
    simp only [Act.put, List.setIfInBounds_toArray, List.set_cons_zero, List.set_cons_succ]
    refine holdP_some (f := 34) (args := #[mAt ms k, .int .i64 now]) 0 (DueD1 ms l now k W2) rfl (by rfl) (fun w' hC => ?_) (fun w' hC => ?_) (fun v4 => ?_)
    · go_simp
    · obtain rfl := hC
      refine (HT.out _ rfl).mono ?_
      rintro e w4 ⟨v4, d4, he, hd4, hr4, hs4, hT4⟩
      exact ⟨v4, he, (HOWN.out _ hT4).2.2.1, fun _ => ⟨d4, hd4, hr4, hs4, hT4⟩⟩
    simp only [Act.put, List.setIfInBounds_toArray, List.set_cons_zero, List.set_cons_succ]
    refine holdP_make 1 (DueD2 ms l now w k v d W2) rfl (by rfl) (fun w' hC => ?_) (fun v5 => ?_)
    · obtain ⟨d4, hd4, hr4, hs4, hT4⟩ := hC.2 (by omega) rfl
      obtain ⟨v5, w5, e5, h5, hg5⟩ := run_append_rdK (P := Try.prog) 73 73 (w.heap.size + 4) 77 (.agg #[.int .i64 0, .int .i64 0]) 2 16 infoTm rfl (by decide) (by decide) Try.underlying73 v d.length (rowsW d).flatten (HOWN.out _ hT4).1 _ v4 (rowsW d4) (RdK.own hr4 (rowsW_len d4) (rowsW_two d4)) (rowsW_two d4) (rowsW_one d4) (HLEN.out _ hd4) (HOWN.out _ hT4).2.1
      refine ⟨v5, w5, ?_, ⟨trivial, fun _ h => by cases h⟩, fun _ => ⟨d4, w', hd4, hs4, hT4, hg5, h5⟩⟩
      simp [execOp, resolve, invoke, builtin, Act.eval, e5, Result.andThen]
    simp only [Act.put, List.setIfInBounds_toArray, List.set_cons_zero, List.set_cons_succ]
    refine holdP_store 2 rfl (by rfl) (fun w' hC => ?_) ?_
    · obtain ⟨d4, w4, hd4, hs4, hT4, hg5, h5⟩ := hC.2 (by omega) rfl
      have hb5 := (HOWN.out _ hT4).2.2.2 _ hg5
      obtain ⟨A5, c5, rfl⟩ := owns_form h5
      have z0 := blk_cell hb5 0
      have zf := blk_free hb5 0
      refine ⟨w'.setCell ⟨w.heap.size + 1, 0, none⟩ (.slice A5 (d.length + (rowsW d4).length) c5), ?_, ⟨?_, fun _ h => by cases h⟩, fun _ h => by cases h⟩
      · go_simp
      · have st := due_step HS.out hk hW2 hbw hlt H.apart H.own hFm ⟨hT4.os, hT4.tape, hT4.output, hT4.size, hT4.block⟩ hs4 hg5 h5 hd4
        refine ⟨st.1, st.2.1, st.2.2, ?_⟩
        have e1 := hg5.size
        have e2 : W2.heap.size ≤ w4.heap.size := hT4.size
        rw [World.size_setCell]; omega
    simp only [Act.put, List.setIfInBounds_toArray, List.set_cons_zero, List.set_cons_succ]
    refine holdP_nil (fun w6 hC => ?_)
    obtain ⟨h1, h2, h3, h4⟩ := hC.1.1
    exact ⟨by rw [hs3]; exact h1, by rw [hs3]; exact h2, h3, h4⟩
  case done =>
    rintro W ⟨⟨v, d, hst⟩, hW⟩ hl' hK
    rw [hs3] at hK ⊢
    obtain ⟨q1, q2⟩ := leftW_filter hs.ord now
    have hdl : d.Perm (l.take (dueN l now)) := by
      rw [q1]
      exact hst.perm.trans ((flatW_all l).filter _)
    have hsd : (l.take (dueN l now)).Pairwise fun x y => tmB x y = true := hs.ord.sublist (List.take_sublist _ _)
    have hdn : (l.take (dueN l now)).length ≤ 1000000 := by rw [List.length_take]; omega
    have HW := Lib.hid (show ∀ W', (∀ j, j < w.heap.size + 4 → j ≠ w.heap.size + 2 → W'.heap[j]? = W.heap[j]?) → WP X F (.pointer (some ⟨b, 0, none⟩)) (leftW l now) W' from fun W' hk => by
      refine ⟨b, ms, rfl, ⟨(hk b (by omega) (by omega)).trans hst.blk, H.size, fun i hi => ?_, H.apart, H.own⟩, sorted_leftW hs now, hF⟩
      have h1 := hst.slot i hi
      rw [if_pos hi, ← slotL_restOf] at h1
      rw [q2]
      exact h1.keep fun g hg => hk g (by have := hlt i g hi hg; omega) (by have := hlt i g hi hg; omega))
    have HT := Lib.hid (show ∀ W', Below (w.heap.size + 2) W W' → Turned F w W' from fun W' hb => hst.turn.trans (G := fun j => w.heap.size ≤ j) ⟨hb.os, hb.tape, hb.output, hb.size, fun j hj hn => hb.block j (by omega)⟩ (fun j hj => .inr hj))
    have HD := Lib.hid (show dueW l now = (l.take (dueN l now)).map Tm.id from rfl)
    have c1 := blk_cell hst.bdue 0
    have hown := hst.own
    have hbd := hst.bdue
    generalize hdd : l.take (dueN l now) = dl at *
    obtain ⟨i0, hif, hz0, hz1, hz2⟩ := info_parts infoI64
    rcases hown.2 with ⟨rfl, hd0⟩ | ⟨g, cap, cur, rfl, hgb, hgblk, hgl, _⟩
    · have hdl0 : dl = [] := by
        have := hdl.length_eq
        rw [hd0] at this
        exact List.eq_nil_of_length_eq_zero this.symm
      subst hdl0
      have HF := Lib.hid (show dueW l now = [] from HD.out)
      clear q1 q2 hdd hd0
      have hWP := HW.out (W.putObj (w.heap.size + 2) (.deferred none)) (fun j _ hne => World.putObj_heap_other hne)
      have hTT := HT.out (W.putObj (w.heap.size + 2) (.deferred none)) (below_put (Below.refl _ _) (Nat.le_refl _) _)
      clear hst hown HD HW HT
      go_wp2_with (go_at_call 35; refine (wsort_nil 0 W).mono ?_; rintro e W1 ⟨rfl, hW1⟩; obtain rfl : W = W1 := hW1.symm)
      go_loopw [7, 22] (fun u i wr => u = .slice none 0 0 ∧ i = .int .i64 0 ∧ wr = W) (fun _ _ _ => 0)
      case atStart => exact ⟨rfl, rfl, rfl⟩
      case round =>
        obtain ⟨rfl, rfl, rfl⟩ := hrel
        go_wp2_with fail
        refine leaves_mark (D := w.heap.size + 2) (v := .slice none 0 0) hK ?_ ⟨_, rfl, ?_, hWP, hTT⟩
        · exact results_val rfl rfl
        · rw [HF.out]; exact RdI.nil _ _
    · have hgW : g < W.heap.size := lt_of_block hgblk
      have HLL := Lib.hid hdl.length_eq
      have SR := Lib.hid (wsort_any (w.heap.size + 4) g cap d dl W (by rw [HLL.out]; exact hdn) hdl hsd hown)
      have HWK := Lib.hid hW
      clear hst hown hgblk hgl hdl hsd q1 q2 hdd
      go_wp2_with fail
      refine SR.out.mono ?_; rintro e W1 ⟨rfl, hc, ho⟩
      have HC := Lib.hid hc
      have hW1s := ho.size
      have hbd1 : W1.heap[w.heap.size + 1]? = some (.cells #[.slice (some ⟨g, 0, none⟩) d.length cap] 73 (0, 0)) := ho.old hbd (by omega)
      have c2 := blk_cell hbd1 0
      have hK1 : W1.heap[w.heap.size + 2]? = some (.deferred (some [])) := ho.old hK (by omega)
      have HO := Lib.hid ho
      clear hc ho SR hbd c1
      rw [HLL.out] at c2
      go_wp2_with fail
      go_loopw [7, 22] (fun u i wr => ∃ n : Nat, n ≤ dl.length ∧ i = .int .i64 (n : Int) ∧ wr.ownsRow W1.heap.size 3 1 u n (ints ((dl.take n).map Tm.id)) ∧ Below W1.heap.size W1 wr) (fun _ i _ => dl.length - (intOf i).toNat)
      case atStart => exact ⟨0, by omega, rfl, World.ownsRow_nil _ _ _ _, Below.refl _ _⟩
      case round =>
        obtain ⟨n, hn, rfl, hrow, hB⟩ := hrel
        have hBs := hB.size
        by_cases hlt2 : n < dl.length
        · have dk : decide (n < dl.length) = true := decide_eq_true hlt2
          have dk2 : decide ((n : Int) < (dl.length : Int)) = true := decide_eq_true (by omega)
          have i0k : (0 : Int) ≤ (n : Int) := by omega
          have i1k : (n : Int) < (dl.length : Int) := by omega
          have i2k : (dl.length : Int) ≤ 1000000 := by omega
          obtain ⟨r0, r1⟩ := HC.out n hlt2
          have hcc : ∀ o, wr.cell? ⟨g, o, none⟩ = W1.cell? ⟨g, o, none⟩ := fun o => hB.cell (p := ⟨g, o, none⟩) (by show g < W1.heap.size; omega)
          rw [← hcc] at r0 r1
          have HROW := Lib.hid hrow
          have HNX := Lib.hid (show (dl.take (n + 1)).map Tm.id = (dl.take n).map Tm.id ++ [(nthW dl n).id] by rw [List.take_succ_eq_append_getElem hlt2, List.map_append, nthW_eq dl n hlt2]; rfl)
          have HBB := Lib.hid hB
          have hW1r : W1.heap.size ≤ wr.heap.size := hBs
          generalize (nthW dl n).id = xi at *
          generalize (nthW dl n).tick = xt at *
          clear hrow hB hcc
          go_wp2_with (at_builtin; refine wpList_append_own _ rfl _ _ 65 rfl W1.heap.size 3 i0 (.int .i64 0) 1 8 Try.underlying65 hif hz0 hz1 hz2 rfl (by decide) _ _ _ rfl ((HROW.out.alloc _).alloc _) ⟨wr.heap.size + 1, 0, none⟩ 1 1 [.int .i64 xi] rfl rfl (by have h := cells_new (wr.alloc (.cells #[.int .i64 xi, .int .i64 xt] 77)) #[.int .i64 xi] 3; rw [World.size_alloc] at h; exact h) (by simp [Value.oneCell']) ?c3 ?c4 ?c5 ?_)
          case c3 => unfold maxLen; omega
          case c4 => omega
          case c5 => simp; omega
          intro v' w4 hown4 hgrow _
          go_wp2_with fail
          go_roundw
          case rel =>
            refine ⟨n + 1, by omega, by go_num, ?_, ?_⟩
            · rw [HNX.out, ints_append, List.map_take]; exact hown4
            · exact grown_below (((HBB.out).alloc hW1r _).alloc (by simp; omega) _) hgrow (fun g hg => owns_row HROW.out hg) (by simp; omega)
          case measure => simp [intOf]; omega
        · obtain rfl : n = dl.length := by omega
          have dk2 : decide ((dl.length : Int) < (dl.length : Int)) = false := decide_eq_false (by omega)
          rw [List.take_length] at hrow
          have hK2 : wr.heap[w.heap.size + 2]? = some (.deferred (some [])) := (hB.block _ (by omega)).trans hK1
          have hr2 : RdI (wr.putObj (w.heap.size + 2) (.deferred none)) (fun k => w.heap.size ≤ k) u7 (dueW l now) := by
            rw [HD.out]
            refine (RdI.own hrow (by rw [List.length_map])).keep (fun j hj hl => ?_) (by rw [World.putObj_size]; omega) |>.imp (fun j hj _ => by omega)
            exact World.putObj_heap_other (by omega)
          have hko : ∀ j, j < w.heap.size + 4 → j ≠ w.heap.size + 2 → (wr.putObj (w.heap.size + 2) (.deferred none)).heap[j]? = W.heap[j]? := fun j h1 h2 => by
            have := HWK.out
            rw [World.putObj_heap_other h2, hB.block j (by omega), HO.out.block j (by omega) (by omega)]
          have hBW : Below (w.heap.size + 2) W (wr.putObj (w.heap.size + 2) (.deferred none)) := by
            have := HWK.out
            exact below_put ((HO.out.below (by omega) (by omega)).trans (hB.mono (by omega))) (Nat.le_refl _) _
          have hWP := HW.out _ hko
          have hTT := HT.out _ hBW
          clear hrow HD HW HT
          go_wp2_with fail
          refine leaves_mark (D := w.heap.size + 2) (v := u7) hK2 ?_ ⟨_, rfl, hr2, hWP, hTT⟩
          exact results_val rfl rfl
  case ret =>
    rintro W h
    exact h.elim
theorem nwdue_any (now : Int) (w : World) :
    Calls Try.prog 27 #[.pointer none, .int .i64 now] w fun e w' => e = .returned (.slice none 0 0) ∧ Below w.heap.size w w' := by
  refine calls_of_wp_marks Try.func27 rfl ?_
  simp only [Try.ntmps27, List.size_toArray, List.length_cons, List.length_nil, Nat.reduceAdd, Nat.reduceSub, Array.replicate_succ, Array.replicate_zero, List.push_toArray, List.append_toArray, List.nil_append, List.cons_append]
  go_wp2_with fail
  obtain ⟨w3, hw3⟩ : ∃ w3, (w.alloc (.cells #[.int .i64 now] 3)).alloc (.cells #[.slice none 0 0] 73) = w3 := ⟨_, rfl⟩
  rw [hw3]
  have hB3 : Below w.heap.size w w3 := by rw [← hw3]; exact below_two _ _ _
  have hs3 : w3.heap.size = w.heap.size + 2 := by rw [← hw3]; simp
  have b1 : w3.heap[w.heap.size + 1]? = some (.cells #[.slice none 0 0] 73 (0, 0)) := by rw [← hw3]; have := blk_new (w.alloc (.cells #[.int .i64 now] 3)) (.cells #[.slice none 0 0] 73); rw [World.size_alloc] at this; exact this
  clear hw3
  refine wp_rangeFunc_rounds (gf := 33) (bs := #[.pointer none]) rfl (enters_of Try.func33 (by kernel_rfl) rfl) 0 (fun k => #[undef]) (fun _ => rfl) (each_none w3)
    (fun k W => Below w3.heap.size w3 W) (fun W => False)
    (fun o1 o2 => below_two _ _ _)
    (fun k W W' h hb => below_books h hb)
    (fun W W' h _ => h)
    ?round ?done ?ret
  case round =>
    rintro k l' W hBW hk hl
    omega
  case done =>
    rintro W hB hl' hK
    have c1 := blk_cell (blk_below hB b1 (by omega)) 0
    have hBw : Below w.heap.size w W := hB3.trans (hB.mono (by omega))
    go_wp2_with (go_at_call 35; refine (wsort_nil 0 W).mono ?_; rintro e W1 ⟨rfl, hW1⟩; obtain rfl : W = W1 := hW1.symm)
    go_loopw [7, 22] (fun u i wr => u = .slice none 0 0 ∧ i = .int .i64 0 ∧ wr = W) (fun _ _ _ => 0)
    case atStart => exact ⟨rfl, rfl, rfl⟩
    case round =>
      obtain ⟨rfl, rfl, rfl⟩ := hrel
      go_wp2_with fail
      refine leaves_mark (D := w.heap.size + 2) (v := .slice none 0 0) (by rw [← hs3]; exact hK) ?_ ⟨rfl, below_put hBw (by omega) _⟩
      exact results_val rfl rfl
  case ret =>
    rintro W h
    exact h.elim
end Go.Proofs.Ytdlkpkigpnlanaa
