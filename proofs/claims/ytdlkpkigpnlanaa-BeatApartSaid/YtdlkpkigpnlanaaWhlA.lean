/- A wheel in memory: a block of sixteen maps; New; the iterator over its slots, of a wheel and of none. Conditions: as stated. -/
import Derived.Test.YtdlkpkigpnlanaaProg
import Derived.Test.YtdlkpkigpnlanaaRngF
import Derived.Test.YtdlkpkigpnlanaaRngM
import Derived.Test.YtdlkpkigpnlanaaWhlPlain
import Derived.Test.YtdlkpkigpnlanaaHolds
import Derived.Test.YtdlkpkigpnlanaaTurned
import Derived.Deep.MidRow
import Derived.Test.YtdlkpkigpnlanaaTwo
import Derived.Test.YtdlkpkigpnlanaaNumB
namespace Go.Proofs.Ytdlkpkigpnlanaa
open Go.ChangeShapes Go.WideShapes Go.ChangeAt Go.RowKit Go.Shelf
set_option linter.unusedVariables false
set_option maxRecDepth 100000
set_option linter.unusedSimpArgs false
attribute [local go_sem] Oper.semAt_some

theorem intV_inj : InjV (Value.int .i64) := fun x y h => by cases h; rfl
theorem zeroV_int (w : World) : (zeroValue 3).run Try.prog w = .ok (Value.int .i64 0) w := by kernel_rfl
abbrev MapI (w : World) (m n : Nat) (f : Int → Option Int) : Prop := MapF Try.prog 3 (Value.int .i64) 0 w m n f
/-- A slot with the timers L: none, or a map of them. -/
def Slot (w : World) (mv : Value) (L : List Tm) : Prop := (mv = .map none ∧ L = []) ∨ ∃ m, mv = .map (some m) ∧ MapI w m L.length (tickW L)
theorem Slot.keep {w w' : World} {mv : Value} {L : List Tm} (h : Slot w mv L) (hk : ∀ g, mv = .map (some g) → w'.heap[g]? = w.heap[g]?) : Slot w' mv L := by
  rcases h with h | ⟨m, e, h⟩
  · exact .inl h
  · exact .inr ⟨m, e, h.keep (hk m e)⟩
theorem Slot.lt {w : World} {mv : Value} {L : List Tm} {g : Nat} (h : Slot w mv L) (hg : mv = .map (some g)) : g < w.heap.size := by
  rcases h with ⟨h, _⟩ | ⟨m, e, h⟩
  · rw [h] at hg; cases hg
  · rw [e] at hg; cases hg; exact h.lt
theorem Slot.form {w : World} {mv : Value} {L : List Tm} (h : Slot w mv L) : ∃ m, mv = .map m := by
  rcases h with ⟨h, _⟩ | ⟨m, e, h⟩
  · exact ⟨_, h⟩
  · exact ⟨_, e⟩
theorem Slot.same {w : World} {mv : Value} {L L' : List Tm} (h : Slot w mv L) (hl : L.length = L'.length) (ht : ∀ i, tickW L i = tickW L' i) : Slot w mv L' := by
  rcases h with ⟨h, h2⟩ | ⟨m, e, h⟩
  · subst h2; exact .inl ⟨h, List.eq_nil_of_length_eq_zero hl.symm⟩
  · exact .inr ⟨m, e, h.same ht hl⟩
/-- What stands behind the sixteen maps in a wheel's block, and the block's type: a struct may begin with a wheel. -/
structure WhX where
  rest : List Value
  ty : TypeId
def whX0 : WhX := ⟨[], 34⟩
/-- A wheel's block. -/
def wX (X : WhX) (ms : Array Value) : Obj := .cells (ms.toList ++ X.rest).toArray X.ty (0, 0)
def mAt (ms : Array Value) (i : Nat) : Value := ms.getD i undef
theorem wx_cell {X : WhX} {w : World} {b : Nat} {ms : Array Value} (h : w.heap[b]? = some (wX X ms)) {k : Nat} (hk : k < ms.size) : w.cell? ⟨b, k, none⟩ = some (mAt ms k) := by
  rw [blk_cell h k]
  unfold mAt
  rw [List.getElem?_toArray, List.getElem?_append_left (by simpa using hk), Array.getElem?_toList, Array.getD_eq_getD_getElem?, Array.getElem?_eq_getElem hk]
  rfl
theorem wx_rest {X : WhX} {w : World} {b : Nat} {ms : Array Value} (h : w.heap[b]? = some (wX X ms)) (i : Nat) : w.cell? ⟨b, ms.size + i, none⟩ = X.rest[i]? := by
  rw [blk_cell h (ms.size + i), List.getElem?_toArray, List.getElem?_append_right (by simp)]
  simp
theorem wx_set {X : WhX} {w : World} {b : Nat} {ms : Array Value} (h : w.heap[b]? = some (wX X ms)) {k : Nat} (hk : k < ms.size) (v : Value) : (w.setCell ⟨b, k, none⟩ v).heap[b]? = some (wX X (ms.setIfInBounds k v)) := by
  rw [blk_set h k v]
  unfold wX
  congr 2
  apply Array.toList_inj.1
  simp [List.set_append_left _ _ (show k < ms.toList.length by simpa using hk)]
/-- What stands behind the maps is written. -/
theorem wx_setr {X : WhX} {w : World} {b : Nat} {ms : Array Value} (h : w.heap[b]? = some (wX X ms)) (i : Nat) (v : Value) : (w.setCell ⟨b, ms.size + i, none⟩ v).heap[b]? = some (wX ⟨X.rest.set i v, X.ty⟩ ms) := by
  rw [blk_set h (ms.size + i) v]
  unfold wX
  congr 2
  apply Array.toList_inj.1
  simp [List.set_append_right]
variable {X : WhX}
/-- The block b holds the maps ms of a wheel with the timers l. -/
structure Whl (X : WhX) (b : Nat) (ms : Array Value) (l : List Tm) (w : World) : Prop where
  blk : w.heap[b]? = some (wX X ms)
  size : ms.size = 16
  slot : ∀ i, i < 16 → Slot w (mAt ms i) (slotL l i)
  apart : ∀ i j g, i < 16 → j < 16 → mAt ms i = .map (some g) → mAt ms j = .map (some g) → i = j
  own : ∀ i, i < 16 → mAt ms i ≠ .map (some b)
/-- The value points to a wheel of the timers l; its blocks are those of F. -/
def WP (X : WhX) (F : Nat → Prop) (v : Value) (l : List Tm) (w : World) : Prop := ∃ b ms, v = .pointer (some ⟨b, 0, none⟩) ∧ Whl X b ms l w ∧ SortedW l ∧ ∀ k, F k ↔ (k = b ∨ ∃ i, i < 16 ∧ mAt ms i = .map (some k))
theorem whl_keep {b : Nat} {ms : Array Value} {l : List Tm} {w w' : World} (h : Whl X b ms l w) (hb : w'.heap[b]? = w.heap[b]?) (hk : ∀ i g, i < 16 → mAt ms i = .map (some g) → w'.heap[g]? = w.heap[g]?) : Whl X b ms l w' :=
  ⟨hb.trans h.blk, h.size, fun i hi => (h.slot i hi).keep fun g hg => hk i g hi hg, h.apart, h.own⟩
theorem wp_keep {F : Nat → Prop} {v : Value} {l : List Tm} {w w' : World} (h : WP X F v l w) (hk : ∀ k, F k → w'.heap[k]? = w.heap[k]?) : WP X F v l w' := by
  obtain ⟨b, ms, h1, h2, h3, h4⟩ := h
  exact ⟨b, ms, h1, whl_keep h2 (hk b ((h4 b).2 (.inl rfl))) fun i g hi hg => hk g ((h4 g).2 (.inr ⟨i, hi, hg⟩)), h3, h4⟩
theorem whl_lt {b : Nat} {ms : Array Value} {l : List Tm} {w : World} (h : Whl X b ms l w) {k : Nat} (hk : k = b ∨ ∃ i, i < 16 ∧ mAt ms i = .map (some k)) : k < w.heap.size := by
  rcases hk with rfl | ⟨i, hi, hk⟩
  · exact lt_of_block h.blk
  · exact (h.slot i hi).lt hk
theorem wp_lt {F : Nat → Prop} {v : Value} {l : List Tm} {w : World} (h : WP X F v l w) : ∀ k, F k → k < w.heap.size := by
  obtain ⟨b, ms, h1, h2, h3, h4⟩ := h
  exact fun k hk => whl_lt h2 ((h4 k).1 hk)
theorem wp_sorted {F : Nat → Prop} {v : Value} {l : List Tm} {w : World} (h : WP X F v l w) : SortedW l := by
  obtain ⟨b, ms, h1, h2, h3, h4⟩ := h
  exact h3
theorem wp_below {F : Nat → Prop} {v : Value} {l : List Tm} {w w' : World} (h : WP X F v l w) (hb : Below w.heap.size w w') : WP X F v l w' := wp_keep h fun k hk => hb.block k (wp_lt h k hk)
theorem whl_below {b : Nat} {ms : Array Value} {l : List Tm} {w w' : World} (h : Whl X b ms l w) (hb : Below w.heap.size w w') : Whl X b ms l w' :=
  whl_keep h (hb.block b (lt_of_block h.blk)) fun i g hi hg => hb.block g ((h.slot i hi).lt hg)
/-! ### New, the zero wheel -/
def ms0 : Array Value := #[.map none, .map none, .map none, .map none, .map none, .map none, .map none, .map none, .map none, .map none, .map none, .map none, .map none, .map none, .map none, .map none]
theorem ms0_at (i : Nat) (h : i < 16) : mAt ms0 i = .map none := by
  have : i = 0 ∨ i = 1 ∨ i = 2 ∨ i = 3 ∨ i = 4 ∨ i = 5 ∨ i = 6 ∨ i = 7 ∨ i = 8 ∨ i = 9 ∨ i = 10 ∨ i = 11 ∨ i = 12 ∨ i = 13 ∨ i = 14 ∨ i = 15 := by omega
  rcases this with rfl | rfl | rfl | rfl | rfl | rfl | rfl | rfl | rfl | rfl | rfl | rfl | rfl | rfl | rfl | rfl <;> rfl
theorem wp_zero {w : World} {b : Nat} (h : w.heap[b]? = some (wX X ms0)) : WP X (fun k => k = b) (.pointer (some ⟨b, 0, none⟩)) [] w :=
  ⟨b, ms0, rfl, ⟨h, rfl, fun i hi => .inl ⟨ms0_at i hi, rfl⟩, (fun i j g hi _ e => by rw [ms0_at i hi] at e; cases e), (fun i hi e => by rw [ms0_at i hi] at e; cases e)⟩, SortedW.nil, fun k => by
    constructor
    · exact .inl
    · rintro (h | ⟨i, hi, e⟩)
      · exact h
      · rw [ms0_at i hi] at e; cases e⟩
theorem wzero_any (w : World) : WP whX0 (fun k => k = w.heap.size) (.pointer (some ⟨w.heap.size, 0, none⟩)) [] (w.alloc (wX whX0 ms0)) := wp_zero (blk_new w _)
/-! ### The iterator -/
theorem wpListIn_load_ms {ops : Array Oper} {rest : List Oper} {o : Oper} {a : Act} {w : World} {Q : Exit → Act → World → Prop} {F : Fence} {nF : Nat} (hg : o.guard = none) (x : Operand) (hop : o.op = .load 32 x)
    (b : Nat) (ms : Array Value) (hs : ms.size = 16) (h : w.heap[b]? = some (wX X ms)) (hx : a.eval x = .pointer (some ⟨b, 0, none⟩))
    (hK : wpListIn F nF Try.prog ops Q rest (a.put o.dst (.agg ms)) w) : wpListIn F nF Try.prog ops Q (o :: rest) a w := by
  refine wpListIn_plain hg fun K' hK' => ?_
  have hrun := run_loadVar_mid (P := Try.prog) w b 0 32 ms.toList (.array 16 31) (fun j v hv => by
    have hj : j < ms.size := by have := (List.getElem?_eq_some_iff.1 hv).1; simpa using this
    rw [Nat.zero_add, wx_cell h hj]
    unfold mAt
    rw [Array.getD_eq_getD_getElem?, ← Array.getElem?_toList, hv]
    rfl) (by kernel_rfl) rfl (by rw [Array.length_toList, hs]; kernel_rfl)
  unfold Oper.wpIn
  refine ⟨by simp [Oper.about, hop], ?_⟩
  rw [Oper.semAt_plain F _ _ (by rw [hop]; intro c hc'; cases hc')]
  simp [execOp, hop, hx, Instr.loadAt, Instr.sureAddr, hrun, Result.andThen]
  exact hK' _ _ hK
theorem run_index_ms (ms : Array Value) (hs : ms.size = 16) (k : Nat) (hk : k < 16) (w : World) : (Instr.index 32 (.agg ms) (.int .i64 k)).run Try.prog w = .ok (mAt ms k) w := by
  have h1 : (isAgg 31).run Try.prog w = .ok false w := by kernel_rfl
  have h2 : (sizeOf 31).run Try.prog w = .ok 1 w := by kernel_rfl
  have h3 : Try.prog.underlying 32 = some (.array 16 31) := by kernel_rfl
  have h4 : ms[k]? = some (mAt ms k) := by
    unfold mAt
    rw [Array.getD_eq_getD_getElem?, Array.getElem?_eq_getElem (by omega)]; rfl
  have h5 : (0 : Int) ≤ (k : Int) ∧ (k : Int) < 16 := by omega
  simp [Instr.index, asIntOf, run_underlying h3, h2, Result.andThen, part, h1, h4]
  intro h6; omega
theorem each_some (b : Nat) (ms : Array Value) (w : World) (hb : w.heap[b]? = some (wX X ms)) (hs : ms.size = 16) :
    Rounds Try.prog 33 #[.pointer (some ⟨b, 0, none⟩)] 16 (fun k => #[mAt ms k]) w := by
  intro l J Jx W hW hY h0
  have hb' : W.heap[b]? = some (wX X ms) := blk_below hW hb (lt_of_block hb)
  have hix := fun k hk => run_index_ms ms hs k hk
  refine callsIn_of_wp Try.func33 rfl trivial ?_ rfl
  simp only [Try.ntmps33, List.size_toArray, List.length_cons, List.length_nil, Nat.reduceAdd, Nat.reduceSub, Array.replicate_succ, Array.replicate_zero, List.push_toArray, List.append_toArray, List.nil_append, List.cons_append]
  gi_wp2_with (refine wpListIn_load_ms rfl _ rfl b ms hs hb' rfl ?_)
  gi_loopw [12] (fun i wr => ∃ k : Nat, k ≤ 16 ∧ i = .int .i64 k ∧ J k wr)
    (fun i _ => 16 - (intOf i).toNat)
  case atStart => exact ⟨0, Nat.zero_le _, rfl, h0⟩
  case round =>
    obtain ⟨k, hk, rfl, hJs⟩ := hrel
    by_cases hlt : k < 16
    · obtain ⟨fn, tmps, assign, body, hy, hR⟩ := hY k wr hJs hlt
      have hix' := hix k hlt
      clear hix
      gi_wp2
      refine ⟨rfl, hR.mono ?_⟩
      rintro e W3 (⟨rfl, hJ3⟩ | ⟨rfl, hJx3⟩)
      · gi_wp2
        go_roundw
        case rel => exact ⟨k + 1, by omega, by simp, hJ3⟩
        case measure => simp [intOf]; omega
      · gi_wp2
        refine bodyPost_ret (results_none rfl _ _ _) rfl ?_
        exact ⟨⟨_, rfl⟩, .inr hJx3⟩
    · obtain rfl : k = 16 := by omega
      gi_wp2
      go_end0
      exact ⟨⟨_, rfl⟩, .inl hJs⟩
theorem each_none (w : World) : Rounds Try.prog 33 #[.pointer none] 0 (fun k => #[undef]) w := by
  intro l J Jx W hW hY h0
  refine callsIn_of_wp Try.func33 rfl trivial ?_ rfl
  simp only [Try.ntmps33, List.size_toArray, List.length_cons, List.length_nil, Nat.reduceAdd, Nat.reduceSub, Array.replicate_succ, Array.replicate_zero, List.push_toArray, List.append_toArray, List.nil_append, List.cons_append]
  gi_wp2
  refine bodyPost_ret (results_none rfl _ _ _) rfl ?_
  exact ⟨⟨_, rfl⟩, .inl h0⟩
end Go.Proofs.Ytdlkpkigpnlanaa
/- A wheel's find: the slot that has a number. Conditions: as stated. -/
namespace Go.Proofs.Ytdlkpkigpnlanaa
open Go.ChangeShapes Go.WideShapes Go.ChangeAt Go.RowKit Go.Shelf
set_option linter.unusedVariables false
set_option maxRecDepth 100000
set_option linter.unusedSimpArgs false
set_option maxHeartbeats 2000000
attribute [local go_sem] Oper.semAt_some
variable {X : WhX}

theorem below_books {a W W' : World} {L : Nat} (h : Below L a W) (hb : Books L W W') : Below L a W' :=
  ⟨hb.os.trans h.os, hb.tape.trans h.tape, hb.output.trans h.output, Nat.le_trans h.size (Nat.le_of_eq hb.size.symm), fun j hj => (hb.block j (by omega) (by omega)).trans (h.block j hj)⟩
theorem below_books' {a W W' : World} {B L : Nat} (h : Below B a W) (hL : B ≤ L) (hb : Books L W W') : Below B a W' :=
  ⟨hb.os.trans h.os, hb.tape.trans h.tape, hb.output.trans h.output, Nat.le_trans h.size (Nat.le_of_eq hb.size.symm), fun j hj => (hb.block j (by omega) (by omega)).trans (h.block j hj)⟩
theorem blk_books {W W' : World} {L b : Nat} {o : Obj} (h : W.heap[b]? = some o) (hb : Books L W W') (h1 : b ≠ L) (h2 : b ≠ L + 1) : W'.heap[b]? = some o := (hb.block b h1 h2).trans h
theorem below_two (w : World) (o1 o2 : Obj) : Below w.heap.size w ((w.alloc o1).alloc o2) := ((Below.refl _ w).alloc (Nat.le_refl _) _).alloc (by simp) _
/-- The function's way out: the loop's mark is taken up. -/
theorem leaves_mark {P : Program} {fn : Func} {tmps : Array Value} {R : Ending → World → Prop} {D : Nat} {v : Value} {w : World} (hK : w.heap[D]? = some (.deferred (some [])))
    (hr : (results fn tmps).run P (w.putObj D (.deferred none)) = .ok v (w.putObj D (.deferred none))) (h : R (.returned v) (w.putObj D (.deferred none))) :
    LeavesInM Fence.wide 0 P fn tmps R [{ target := .collected D, args := #[] }] .returning w :=
  ⟨by simp, .inl ⟨_, _, rfl, run_takeDeferred hK, ⟨_, hr, h⟩⟩⟩
theorem below_put {a W : World} {B D : Nat} (h : Below B a W) (hD : B ≤ D) (o : Obj) : Below B a (W.putObj D o) :=
  h.trans ⟨rfl, rfl, rfl, by simp, fun k hk => World.putObj_heap_other (by omega)⟩
theorem loadVar_one {P : Program} {t : TypeId} {d : TypeDesc} (hu : P.underlying t = some d) (hd : (match d with | .struct _ | .array _ _ => false | _ => true) = true) {w : World} {g : Nat} {v : Value} (h : w.cell? ⟨g, 0, none⟩ = some v) : (loadVar t ⟨g, 0, none⟩).run P w = .ok v w := by
  have hagg : (isAgg t).run P w = .ok false w := by
    unfold isAgg
    rw [Sem.run_bind, run_underlying hu w]
    cases d <;> simp_all
  simp [loadVar, Sem.run_bind, hagg, h]
theorem results_cells2 {P : Program} {fn : Func} {p q : Tmp} {t1 t2 : TypeId} (h : fn.results = #[.cell p t1, .cell q t2]) {tmps : Array Value} {w : World} {g1 g2 : Nat} {v1 v2 : Value} (hp : tmps.getD p undef = .pointer (some ⟨g1, 0, none⟩)) (hq : tmps.getD q undef = .pointer (some ⟨g2, 0, none⟩))
    (h1 : (loadVar t1 ⟨g1, 0, none⟩).run P w = .ok v1 w) (h2 : (loadVar t2 ⟨g2, 0, none⟩).run P w = .ok v2 w) : (results fn tmps).run P w = .ok (.tuple #[v1, v2]) w := by
  have hp' : tmps[p]?.getD undef = .pointer (some ⟨g1, 0, none⟩) := by simpa using hp
  have hq' : tmps[q]?.getD undef = .pointer (some ⟨g2, 0, none⟩) := by simpa using hq
  simp [results, h, hp', hq', asAddr, h1, h2]
theorem look_slot {w : World} {mv : Value} {L : List Tm} (h : Slot w mv L) {id : Int} (hid : inI id) :
    (Instr.lookup 31 mv (.int .i64 id) true).run Try.prog w = .ok (.tuple #[.int .i64 ((tickW L id).getD 0), .bool (tickW L id).isSome]) w := by
  rcases h with ⟨rfl, rfl⟩ | ⟨m, rfl, h⟩
  · exact nomap_look_ok (P := Try.prog) (val := Value.int .i64) (z := 0) (w := w) (k := 3) (t := 31) (e := 3) Try.underlying3 Try.underlying31 (zeroV_int w) hid
  · exact MapF.look_ok (t := 31) (e := 3) h intV_inj Try.underlying3 Try.underlying31 (zeroV_int w) hid
theorem wfind_some (b : Nat) (ms : Array Value) (l : List Tm) (id : Int) (w : World) (H : Whl X b ms l w) (hid : inI id) :
    Calls Try.prog 32 #[.pointer (some ⟨b, 0, none⟩), .int .i64 id] w fun e w' =>
      ((∃ i, i < 16 ∧ (tickW (slotL l i) id).isSome = true ∧ e = .returned (.tuple #[mAt ms i, .bool true])) ∨ ((∀ i, i < 16 → (tickW (slotL l i) id).isSome = false) ∧ e = .returned (.tuple #[.map none, .bool false]))) ∧ Below w.heap.size w w' := by
  have hbw : b < w.heap.size := lt_of_block H.blk
  refine calls_of_wp_marks Try.func32 rfl ?_
  simp only [Try.ntmps32, List.size_toArray, List.length_cons, List.length_nil, Nat.reduceAdd, Nat.reduceSub, Array.replicate_succ, Array.replicate_zero, List.push_toArray, List.append_toArray, List.nil_append, List.cons_append]
  go_wp2_with fail
  obtain ⟨w3, hw3⟩ : ∃ w3, ((w.alloc (.cells #[.int .i64 id] 3)).alloc (.cells #[.map none] 31)).alloc (.cells #[.bool false] 4) = w3 := ⟨_, rfl⟩
  rw [hw3]
  have hB3 : Below w.heap.size w w3 := by rw [← hw3]; exact (((Below.refl _ w).alloc (Nat.le_refl _) _).alloc (by simp) _).alloc (by simp; omega) _
  have hs3 : w3.heap.size = w.heap.size + 3 := by rw [← hw3]; simp
  have b0 : w3.heap[w.heap.size]? = some (.cells #[.int .i64 id] 3 (0, 0)) := by rw [← hw3]; exact blk_old _ (blk_old _ (blk_new w _))
  have b1 : w3.heap[w.heap.size + 1]? = some (.cells #[.map none] 31 (0, 0)) := by rw [← hw3]; have := blk_new (w.alloc (.cells #[.int .i64 id] 3)) (.cells #[.map none] 31); rw [World.size_alloc] at this; exact blk_old _ this
  have b2 : w3.heap[w.heap.size + 1 + 1]? = some (.cells #[.bool false] 4 (0, 0)) := by rw [← hw3]; have := blk_new ((w.alloc (.cells #[.int .i64 id] 3)).alloc (.cells #[.map none] 31)) (.cells #[.bool false] 4); simpa using this
  have H3 : Whl X b ms l w3 := whl_below H hB3
  clear hw3
  refine wp_rangeFunc_rounds (gf := 33) (bs := #[.pointer (some ⟨b, 0, none⟩)]) rfl (enters_of Try.func33 (by kernel_rfl) rfl) 16 (fun k => #[mAt ms k]) (fun _ => rfl) (each_some b ms w3 H3.blk H3.size)
    (fun k W => Below w3.heap.size w3 W ∧ ∀ i, i < k → (tickW (slotL l i) id).isSome = false)
    (fun W => ∃ i, i < 16 ∧ (tickW (slotL l i) id).isSome = true ∧ W.heap[w.heap.size + 1]? = some (.cells #[mAt ms i] 31 (0, 0)) ∧ W.heap[w.heap.size + 1 + 1]? = some (.cells #[.bool true] 4 (0, 0)) ∧ Below w.heap.size w W)
    (fun o1 o2 => ⟨below_two _ _ _, by omega⟩)
    (fun k W W' h hb => ⟨below_books h.1 hb, h.2⟩)
    (fun W W' ⟨i, h1, h2, h3, h4, h5⟩ hb => ⟨i, h1, h2, blk_books h3 hb (by omega) (by omega), blk_books h4 hb (by omega) (by omega), below_books' h5 (by omega) hb⟩)
    ?round ?done ?ret
  case round =>
    rintro k l' W ⟨hBW, hn⟩ hk hl
    gi_wp2
    refine ⟨trivial, ?_⟩
    rintro W2 ⟨hB2, hn2⟩ hl2
    have c0 : W2.cell? ⟨w.heap.size, 0, none⟩ = some (.int .i64 id) := blk_cell (blk_below hB2 b0 (by omega)) 0
    have d1 : W2.heap[w.heap.size + 1]? = some (.cells #[.map none] 31 (0, 0)) := blk_below hB2 b1 (by omega)
    have d2 : W2.heap[w.heap.size + 1 + 1]? = some (.cells #[.bool false] 4 (0, 0)) := blk_below hB2 b2 (by omega)
    have c1 := blk_cell d1 0
    have f1 := blk_free d1 0
    have c2 := blk_cell d2 0
    have f2 := blk_free d2 0
    have H2 : Whl X b ms l W2 := whl_below H3 hB2
    have hlk := look_slot (H2.slot k hk) hid
    obtain ⟨mv, hmv⟩ := (H2.slot k hk).form
    cases hh : (tickW (slotL l k) id).isSome with
    | false =>
      rw [hh] at hlk
      generalize (tickW (slotL l k) id).getD 0 = t0 at hlk
      generalize hx : mAt ms k = x at *
      clear hmv
      gi_wp2
      refine ⟨by first | trivial | rfl, by first | trivial | rfl, hB2, fun i hi => ?_⟩
      by_cases e : i = k
      · rw [e]; exact hh
      · exact hn2 i (by omega)
    | true =>
      rw [hh] at hlk
      generalize (tickW (slotL l k) id).getD 0 = t0 at hlk
      generalize hx : mAt ms k = x at *
      subst hmv
      gi_wp2
      have e1 := blk_far (p := ⟨w.heap.size + 1 + 1, 0, none⟩) (.bool true) (blk_set d1 0 (.map mv)) (by simp)
      have e2 := blk_set (blk_far (p := ⟨w.heap.size + 1, 0, none⟩) (.map mv) d2 (by simp)) 0 (.bool true)
      have hBw : Below w.heap.size w W2 := hB3.trans (hB2.mono (by omega))
      refine ⟨?_, ?_, k, hk, hh, ?_, e2, ?_⟩
      · rw [Below.heap_setCell _ _ _ _ (by simp only; omega), Below.heap_setCell _ _ _ _ (by simp only; omega)]
      · rw [Below.heap_setCell _ _ _ _ (by simp only; omega), Below.heap_setCell _ _ _ _ (by simp only; omega)]
      · rw [hx]; exact e1
      · exact (hBw.setCell (p := ⟨w.heap.size + 1, 0, none⟩) (by simp only; omega) _).setCell (p := ⟨w.heap.size + 1 + 1, 0, none⟩) (by simp only; omega) _
  case done =>
    rintro W ⟨hB, hn⟩ hl hK
    have d1 : W.heap[w.heap.size + 1]? = some (.cells #[.map none] 31 (0, 0)) := blk_below hB b1 (by omega)
    have d2 : W.heap[w.heap.size + 1 + 1]? = some (.cells #[.bool false] 4 (0, 0)) := blk_below hB b2 (by omega)
    have c1 := blk_cell d1 0
    have f1 := blk_free d1 0
    have c2 := blk_cell d2 0
    have f2 := blk_free d2 0
    have hBw : Below w.heap.size w W := hB3.trans (hB.mono (by omega))
    go_wp2_with fail
    have e1 := blk_far (p := ⟨w.heap.size + 1 + 1, 0, none⟩) (.bool false) (blk_set d1 0 (.map none)) (by simp)
    have e2 := blk_set (blk_far (p := ⟨w.heap.size + 1, 0, none⟩) (.map none) d2 (by simp)) 0 (.bool false)
    have hK' : ((W.setCell ⟨w.heap.size + 1, 0, none⟩ (.map none)).setCell ⟨w.heap.size + 1 + 1, 0, none⟩ (.bool false)).heap[w3.heap.size]? = some (.deferred (some [])) := by
      rw [Below.heap_setCell _ _ _ _ (by simp only; omega), Below.heap_setCell _ _ _ _ (by simp only; omega)]; exact hK
    refine leaves_mark (v := .tuple #[.map none, .bool false]) hK' ?_ ⟨.inr ⟨hn, rfl⟩, ?_⟩
    · refine results_cells2 rfl rfl rfl (loadVar_one Try.underlying31 rfl ?_) (loadVar_one Try.underlying4 rfl ?_)
      · exact blk_cell ((World.putObj_heap_other (by omega)).trans e1) 0
      · exact blk_cell ((World.putObj_heap_other (by omega)).trans e2) 0
    · exact below_put ((hBw.setCell (p := ⟨w.heap.size + 1, 0, none⟩) (by simp only; omega) _).setCell (p := ⟨w.heap.size + 1 + 1, 0, none⟩) (by simp only; omega) _) (by omega) _
  case ret =>
    rintro W ⟨i, h1, h2, h3, h4, h5⟩ hl hK
    have c1 := blk_cell h3 0
    have c2 := blk_cell h4 0
    go_wp2_with fail
    refine leaves_mark (v := .tuple #[mAt ms i, .bool true]) hK ?_ ⟨.inl ⟨i, h1, h2, rfl⟩, below_put h5 (by omega) _⟩
    refine results_cells2 rfl rfl rfl (loadVar_one Try.underlying31 rfl ?_) (loadVar_one Try.underlying4 rfl ?_)
    · exact blk_cell ((World.putObj_heap_other (by omega)).trans h3) 0
    · exact blk_cell ((World.putObj_heap_other (by omega)).trans h4) 0
end Go.Proofs.Ytdlkpkigpnlanaa
/- A wheel's At and Drop; a nil wheel's. Conditions: as stated. -/
namespace Go.Proofs.Ytdlkpkigpnlanaa
open Go.ChangeShapes Go.WideShapes Go.ChangeAt Go.RowKit Go.Shelf
set_option linter.unusedVariables false
set_option maxRecDepth 100000
set_option linter.unusedSimpArgs false
set_option maxHeartbeats 2000000
attribute [local go_sem] Oper.semAt_some
variable {X : WhX}

def whlOX (X : WhX) : Own (List Tm) := ⟨WP X, fun h hk _ => wp_keep h hk, fun h => wp_lt h⟩
abbrev whlO : Own (List Tm) := whlOX whX0
theorem wfind_nil (id : Int) (w : World) (hid : inI id) :
    Calls Try.prog 32 #[.pointer none, .int .i64 id] w fun e w' => e = .returned (.tuple #[.map none, .bool false]) ∧ Below w.heap.size w w' := by
  refine calls_of_wp_marks Try.func32 rfl ?_
  simp only [Try.ntmps32, List.size_toArray, List.length_cons, List.length_nil, Nat.reduceAdd, Nat.reduceSub, Array.replicate_succ, Array.replicate_zero, List.push_toArray, List.append_toArray, List.nil_append, List.cons_append]
  go_wp2_with fail
  obtain ⟨w3, hw3⟩ : ∃ w3, ((w.alloc (.cells #[.int .i64 id] 3)).alloc (.cells #[.map none] 31)).alloc (.cells #[.bool false] 4) = w3 := ⟨_, rfl⟩
  rw [hw3]
  have hB3 : Below w.heap.size w w3 := by rw [← hw3]; exact (((Below.refl _ w).alloc (Nat.le_refl _) _).alloc (by simp) _).alloc (by simp; omega) _
  have hs3 : w3.heap.size = w.heap.size + 3 := by rw [← hw3]; simp
  have b1 : w3.heap[w.heap.size + 1]? = some (.cells #[.map none] 31 (0, 0)) := by rw [← hw3]; have := blk_new (w.alloc (.cells #[.int .i64 id] 3)) (.cells #[.map none] 31); rw [World.size_alloc] at this; exact blk_old _ this
  have b2 : w3.heap[w.heap.size + 1 + 1]? = some (.cells #[.bool false] 4 (0, 0)) := by rw [← hw3]; have := blk_new ((w.alloc (.cells #[.int .i64 id] 3)).alloc (.cells #[.map none] 31)) (.cells #[.bool false] 4); simpa using this
  clear hw3
  refine wp_rangeFunc_rounds (gf := 33) (bs := #[.pointer none]) rfl (enters_of Try.func33 (by kernel_rfl) rfl) 0 (fun k => #[undef]) (fun _ => rfl) (each_none w3)
    (fun k W => Below w3.heap.size w3 W) (fun W => False)
    (fun o1 o2 => below_two _ _ _)
    (fun k W W' h hb => below_books h hb)
    (fun W W' h _ => h)
    ?round ?done ?ret
  case round =>
    rintro k l' W hBW hk hl
    omega
  case done =>
    rintro W hB hl hK
    have d1 : W.heap[w.heap.size + 1]? = some (.cells #[.map none] 31 (0, 0)) := blk_below hB b1 (by omega)
    have d2 : W.heap[w.heap.size + 1 + 1]? = some (.cells #[.bool false] 4 (0, 0)) := blk_below hB b2 (by omega)
    have c1 := blk_cell d1 0
    have f1 := blk_free d1 0
    have c2 := blk_cell d2 0
    have f2 := blk_free d2 0
    have hBw : Below w.heap.size w W := hB3.trans (hB.mono (by omega))
    go_wp2_with fail
    have e1 := blk_far (p := ⟨w.heap.size + 1 + 1, 0, none⟩) (.bool false) (blk_set d1 0 (.map none)) (by simp)
    have e2 := blk_set (blk_far (p := ⟨w.heap.size + 1, 0, none⟩) (.map none) d2 (by simp)) 0 (.bool false)
    have hK' : ((W.setCell ⟨w.heap.size + 1, 0, none⟩ (.map none)).setCell ⟨w.heap.size + 1 + 1, 0, none⟩ (.bool false)).heap[w3.heap.size]? = some (.deferred (some [])) := by
      rw [Below.heap_setCell _ _ _ _ (by simp only; omega), Below.heap_setCell _ _ _ _ (by simp only; omega)]; exact hK
    refine leaves_mark (v := .tuple #[.map none, .bool false]) hK' ?_ ⟨rfl, ?_⟩
    · refine results_cells2 rfl rfl rfl (loadVar_one Try.underlying31 rfl ?_) (loadVar_one Try.underlying4 rfl ?_)
      · exact blk_cell ((World.putObj_heap_other (by omega)).trans e1) 0
      · exact blk_cell ((World.putObj_heap_other (by omega)).trans e2) 0
    · exact below_put ((hBw.setCell (p := ⟨w.heap.size + 1, 0, none⟩) (by simp only; omega) _).setCell (p := ⟨w.heap.size + 1 + 1, 0, none⟩) (by simp only; omega) _) (by omega) _
  case ret =>
    rintro W h
    exact h.elim
/-! ### What find's slot says of the whole -/
theorem slot_has {l : List Tm} (h : IdsW l) {id : Int} {i : Nat} (hh : (tickW (slotL l i) id).isSome = true) : tickW (slotL l i) id = tickW l id ∧ (tickW l id).isSome = true ∧ (tickW l id).getD 0 % 16 = (i : Int) := by
  rw [tickW_slot h] at hh ⊢
  by_cases h1 : tickW l id = none
  · rw [if_pos h1] at hh; cases hh
  · rw [if_neg h1] at hh ⊢
    by_cases h2 : (tickW l id).getD 0 % 16 = (i : Int)
    · rw [if_pos h2] at hh ⊢
      exact ⟨rfl, hh, h2⟩
    · rw [if_neg h2] at hh; cases hh
theorem slot_hasnot {l : List Tm} (h : IdsW l) {id : Int} (hh : ∀ i, i < 16 → (tickW (slotL l i) id).isSome = false) : tickW l id = none := by
  cases h1 : tickW l id with
  | none => rfl
  | some t =>
    have h2 := hh (t % 16).toNat (by omega)
    rw [tickW_slot h, h1, if_neg (by simp), if_pos (by simp only [Option.getD_some]; omega)] at h2
    cases h2
theorem look_slot1 {w : World} {mv : Value} {L : List Tm} (h : Slot w mv L) {id : Int} (hid : inI id) :
    (Instr.lookup 31 mv (.int .i64 id) false).run Try.prog w = .ok (.int .i64 ((tickW L id).getD 0)) w := by
  rcases h with ⟨rfl, rfl⟩ | ⟨m, rfl, h⟩
  · exact nomap_look (P := Try.prog) (val := Value.int .i64) (z := 0) (w := w) (k := 3) (t := 31) (e := 3) Try.underlying3 Try.underlying31 (zeroV_int w) hid
  · exact MapF.look (t := 31) (e := 3) h intV_inj Try.underlying3 Try.underlying31 (zeroV_int w) hid
/-! ### At -/
theorem wat_any (F : Nat → Prop) (v : Value) (l : List Tm) (id : Int) (w : World) (h : WP X F v l w) (hid : inI id) :
    Calls Try.prog 29 #[v, .int .i64 id] w fun e w' => e = .returned (.tuple #[.int .i64 ((tickW l id).getD 0), .bool (tickW l id).isSome]) ∧ Below w.heap.size w w' := by
  obtain ⟨b, ms, rfl, H, hs, hF⟩ := h
  have C := Lib.hid (wfind_some b ms l id w H hid)
  go_enter Try.func29, Try.ntmps29
  go_wp2_with fail
  refine C.out.mono ?_
  rintro e w1 ⟨⟨i, hi, hh, rfl⟩ | ⟨hh, rfl⟩, hB⟩
  · obtain ⟨h1, h2, h3⟩ := slot_has hs.ids hh
    have hlk := look_slot1 ((whl_below H hB).slot i hi) hid
    rw [h1] at hlk
    generalize mAt ms i = x at *
    go_wp2_with fail
    go_ret2
    exact ⟨by rw [h2]; rfl, hB⟩
  · have h1 := slot_hasnot hs.ids hh
    have hlk := look_slot1 (w := w1) (mv := .map none) (L := []) (.inl ⟨rfl, rfl⟩) hid
    go_wp2_with fail
    go_ret2
    exact ⟨by rw [h1]; rfl, hB⟩
theorem nwat_any (id : Int) (w : World) (hid : inI id) :
    Calls Try.prog 29 #[.pointer none, .int .i64 id] w fun e w' => e = .returned (.tuple #[.int .i64 0, .bool false]) ∧ Below w.heap.size w w' := by
  have C := Lib.hid (wfind_nil id w hid)
  go_enter Try.func29, Try.ntmps29
  go_wp2_with fail
  refine C.out.mono ?_
  rintro e w1 ⟨rfl, hB⟩
  have hlk := look_slot1 (w := w1) (mv := .map none) (L := []) (.inl ⟨rfl, rfl⟩) hid
  go_wp2_with fail
  go_ret2
  exact ⟨rfl, hB⟩
/-! ### Drop -/
theorem slot_dropW_other {l : List Tm} (h : IdsW l) {id : Int} {i j : Nat} (hh : (tickW (slotL l i) id).isSome = true) (hj : j ≠ i) : slotL (dropW l id) j = slotL l j := by
  rw [dropW_slot]
  refine dropW_none ?_
  obtain ⟨h1, h2, h3⟩ := slot_has h hh
  cases hc : (tickW (slotL l j) id).isSome with
  | false => simpa using hc
  | true =>
    obtain ⟨_, _, h4⟩ := slot_has h hc
    rw [h3] at h4
    exact absurd (by omega) hj
theorem wdrop_any (F : Nat → Prop) (v : Value) (l : List Tm) (id : Int) (w : World) (h : WP X F v l w) (hid : inI id) :
    Calls Try.prog 25 #[v, .int .i64 id] w fun e w' => e = .returned (.bool (tickW l id).isSome) ∧ OPost (whlOX X) F v (dropW l id) w w' := by
  have h0 := h
  obtain ⟨b, ms, rfl, H, hs, hF⟩ := h
  have C := Lib.hid (wfind_some b ms l id w H hid)
  go_enter Try.func25, Try.ntmps25
  go_wp2_with fail
  refine C.out.mono ?_
  rintro e w1 ⟨⟨i, hi, hh, rfl⟩ | ⟨hh, rfl⟩, hB⟩
  · obtain ⟨h1, h2, h3⟩ := slot_has hs.ids hh
    have H1 := whl_below H hB
    rcases H1.slot i hi with ⟨_, hx⟩ | ⟨m, hm, hM⟩
    · rw [hx] at hh; cases hh
    · have HP := Lib.hid (show ∀ w2, MapI w2 m ((slotL l i).length - if (tickW (slotL l i) id).isSome = true then 1 else 0) (delF (tickW (slotL l i)) id) → Only m w1 w2 → OPost (whlOX X) F (.pointer (some ⟨b, 0, none⟩)) (dropW l id) w w2 from fun w2 hm2 ho => by
        have hne : ∀ j, j < 16 → j ≠ i → mAt ms j ≠ .map (some m) := fun j hj e hc => e (H.apart j i m hj hi hc hm)
        have hbm : b ≠ m := fun e => H.own i hi (by rw [hm, e])
        refine ⟨F, ⟨b, ms, rfl, ⟨ho.old H1.blk hbm, H.size, fun j hj => ?_, H.apart, H.own⟩, sorted_dropW hs id, hF⟩, ⟨ho.os.trans hB.os, ho.tape.trans hB.tape, ho.output.trans hB.output, Nat.le_trans hB.size ho.size, fun k hk hf => ?_⟩, fun k hk => .inl hk⟩
        · by_cases e : j = i
          · subst e
            rw [hm]
            refine .inr ⟨m, rfl, hm2.same (fun x => ?_) ?_⟩
            · rw [dropW_slot, tickW_dropW]; rfl
            · rw [dropW_slot, dropW_len_eq (l := slotL l j) (idsW_filter hs.ids _)]
          · rw [slot_dropW_other hs.ids hh e]
            exact (H1.slot j hj).keep fun g hg => ho.block g ((H1.slot j hj).lt hg) (fun e2 => hne j hj e (e2 ▸ hg))
        · have hkm : k ≠ m := fun e => hf ((hF k).2 (.inr ⟨i, hi, by rw [hm, e]⟩))
          exact (ho.block k (Nat.lt_of_lt_of_le hk hB.size) hkm).trans (hB.block k hk))
      clear hF
      generalize hx : mAt ms i = x at *
      subst hm
      generalize hn' : (slotL l i).length - (if (tickW (slotL l i) id).isSome = true then 1 else 0) = n' at *
      go_wp2_with (first | (refine wpList_delete_mapF rfl _ _ _ _ rfl 3 Try.underlying3 Try.underlying31 m _ rfl hM id hid rfl n' hn' ?_; intro w2 hm2 ho2))
      go_ret
      exact ⟨by rw [h2]; rfl, HP.out _ hm2 ho2⟩
  · have h1 := slot_hasnot hs.ids hh
    have HP := Lib.hid (show OPost (whlOX X) F (.pointer (some ⟨b, 0, none⟩)) (dropW l id) w w1 by rw [dropW_none h1]; exact opost_same (O := (whlOX X)) h0 hB)
    clear h0 hF H hs hh
    go_wp2_with (first | (refine wpList_delete_nomap rfl _ _ _ _ rfl 3 Try.underlying3 Try.underlying31 rfl id hid rfl ?_))
    go_ret
    exact ⟨by rw [h1]; rfl, HP.out⟩
theorem nwdrop_any (id : Int) (w : World) (hid : inI id) :
    Calls Try.prog 25 #[.pointer none, .int .i64 id] w fun e w' => e = .returned (.bool false) ∧ Below w.heap.size w w' := by
  have C := Lib.hid (wfind_nil id w hid)
  go_enter Try.func25, Try.ntmps25
  go_wp2_with fail
  refine C.out.mono ?_
  rintro e w1 ⟨rfl, hB⟩
  go_wp2_with (first | (refine wpList_delete_nomap rfl _ _ _ _ rfl 3 Try.underlying3 Try.underlying31 rfl id hid rfl ?_))
  go_ret
  exact ⟨rfl, hB⟩
end Go.Proofs.Ytdlkpkigpnlanaa
/- A wheel's Set; a nil wheel's. Conditions: as stated. -/
namespace Go.Proofs.Ytdlkpkigpnlanaa
open Go.ChangeShapes Go.WideShapes Go.ChangeAt Go.RowKit Go.Shelf
set_option linter.unusedVariables false
set_option maxRecDepth 100000
set_option linter.unusedSimpArgs false
set_option maxHeartbeats 2000000
variable {X : WhX}

theorem right_may (n : Int) : rightN n 0 1099511627776 = mayW n := by unfold rightN mayW; rw [Bool.decide_and]
theorem weql_some (m : Nat) (w : World) : (binOp .eql 31 (.map (some m)) (.map none)).run Try.prog w = .ok (.bool false) w := by kernel_rfl
theorem weql_nil (w : World) : (binOp .eql 31 (.map none) (.map none)).run Try.prog w = .ok (.bool true) w := by kernel_rfl
theorem mAt_set {ms : Array Value} {k i : Nat} {x : Value} (hk : k < ms.size) : mAt (ms.setIfInBounds k x) i = if i = k then x else mAt ms i := by
  unfold mAt
  rw [Array.getD_eq_getD_getElem?, Array.getD_eq_getD_getElem?, Array.getElem?_setIfInBounds]
  by_cases h : k = i
  · subst h; simp [hk]
  · rw [if_neg h, if_neg (fun e => h e.symm)]
/-- What a store into slot k leaves. -/
theorem whl_store {b : Nat} {ms : Array Value} {l : List Tm} {w w' : World} {id tick : Int} {k g : Nat} (hs : SortedW l) (hn : tickW l id = none) (hk : k < 16) (hkt : tick % 16 = (k : Int))
    (H : Whl X b ms l w) (hb : w'.heap[b]? = some (wX X (ms.setIfInBounds k (.map (some g)))))
    (hg : ∀ j, j < 16 → j ≠ k → mAt ms j ≠ .map (some g)) (hgb : g ≠ b)
    (hM : MapI w' g ((slotL l k).length + 1) (setF (tickW (slotL l k)) id tick))
    (hkeep : ∀ j, j < w.heap.size → j ≠ b → j ≠ g → w'.heap[j]? = w.heap[j]?) : Whl X b (ms.setIfInBounds k (.map (some g))) (insW l ⟨id, tick⟩) w' := by
  have hsz : k < ms.size := by rw [H.size]; exact hk
  refine ⟨hb, by rw [Array.size_setIfInBounds]; exact H.size, fun i hi => ?_, fun i j g' hi hj h1 h2 => ?_, fun i hi => ?_⟩
  · rw [mAt_set hsz]
    by_cases e : i = k
    · rw [if_pos e]
      subst e
      have hp : (slotL (insW l ⟨id, tick⟩) i).Perm (⟨id, tick⟩ :: slotL l i) := by
        have := slotL_insW l ⟨id, tick⟩ i
        rw [if_pos (by simp [slotOf, hkt])] at this
        exact this
      have hni : ∀ x ∈ slotL l i, x.id ≠ id := fun x hx => tickW_none.1 hn x (mem_slotL.1 hx).1
      refine .inr ⟨g, rfl, hM.same (fun j => ?_) (by rw [hp.length_eq]; rfl)⟩
      have hids : IdsW (⟨id, tick⟩ :: slotL l i) := List.pairwise_cons.2 ⟨fun x hx e => hni x hx e.symm, idsW_filter hs.ids _⟩
      rw [tickW_perm (idsW_of_perm hids hp.symm) hp]
      unfold setF
      by_cases e2 : j = id
      · subst e2
        rw [if_pos rfl]
        simp [tickW]
      · rw [if_neg e2]
        unfold tickW
        rw [List.find?_cons]
        have : (id == j) = false := by simpa using fun e => e2 e.symm
        simp only [this]
    · rw [if_neg e]
      have hp : (slotL (insW l ⟨id, tick⟩) i).Perm (slotL l i) := by
        have := slotL_insW l ⟨id, tick⟩ i
        rw [if_neg (by simp only [slotOf, hkt, beq_iff_eq]; omega)] at this
        exact this
      have h2 := (H.slot i hi).same hp.length_eq.symm (fun j => (tickW_perm (idsW_of_perm (idsW_filter hs.ids _) hp.symm) hp j).symm)
      refine h2.keep fun g' hg' => ?_
      have h3 : g' ≠ g := fun e3 => hg i hi e (e3 ▸ hg')
      have h4 : g' ≠ b := fun e4 => H.own i hi (e4 ▸ hg')
      exact hkeep g' ((H.slot i hi).lt hg') h4 h3
  · rw [mAt_set hsz] at h1 h2
    by_cases e1 : i = k
    · by_cases e2 : j = k
      · rw [e1, e2]
      · rw [if_pos e1] at h1
        rw [if_neg e2] at h2
        cases h1
        exact absurd h2 (hg j hj e2)
    · rw [if_neg e1] at h1
      by_cases e2 : j = k
      · rw [if_pos e2] at h2
        cases h2
        exact absurd h1 (hg i hi e1)
      · rw [if_neg e2] at h2
        exact H.apart i j g' hi hj h1 h2
  · rw [mAt_set hsz]
    by_cases e : i = k
    · rw [if_pos e]; intro e2; exact hgb (Option.some.inj (Value.map.inj e2))
    · rw [if_neg e]; exact H.own i hi
theorem nwset_any (id tick : Int) (w : World) :
    Calls Try.prog 24 #[.pointer none, .int .i64 id, .int .i64 tick] w fun e w' => e = .returned (.bool false) ∧ w = w' := by
  go_enter Try.func24, Try.ntmps24
  go_wp2_with fail
  go_ret
  exact ⟨rfl, rfl⟩
theorem wset_any (F : Nat → Prop) (v : Value) (l : List Tm) (id tick : Int) (w : World) (h : WP X F v l w) (hid : inI id) (hat : inI tick) (hlen : l.length ≤ 1000000) :
    Calls Try.prog 24 #[v, .int .i64 id, .int .i64 tick] w fun e w' => e = .returned (.bool (mayW tick)) ∧ OPost (whlOX X) F v (setW l ⟨id, tick⟩) w w' := by
  have C1 := Lib.hid (right_any tick 0 1099511627776 w)
  rw [right_may] at C1
  have h0 := h
  obtain ⟨b, ms, rfl, H, hs, hF⟩ := h
  cases hm : mayW tick with
  | false =>
    have HP := Lib.hid (show OPost (whlOX X) F (.pointer (some ⟨b, 0, none⟩)) (setW l ⟨id, tick⟩) w w by unfold setW; rw [if_neg (by rw [hm]; simp)]; exact opost_same (O := (whlOX X)) h0 (Below.refl _ _))
    clear h0 H hs hF
    rw [hm] at C1
    go_enter Try.func24, Try.ntmps24
    go_wp2_with (go_at_call 19; refine C1.out.mono ?_; rintro e w1 ⟨rfl, rfl⟩)
    go_ret
    exact ⟨rfl, HP.out⟩
  | true =>
    rw [hm] at C1
    have C2 := Lib.hid (wdrop_any F (.pointer (some ⟨b, 0, none⟩)) l id w h0 hid)
    have hge : 0 ≤ tick := by unfold mayW at hm; simp at hm; omega
    obtain ⟨k, hkt, hk⟩ : ∃ k : Nat, tick % 16 = (k : Int) ∧ k < 16 := ⟨(tick % 16).toNat, by omega, by omega⟩
    have hset : setW l ⟨id, tick⟩ = insW (dropW l id) ⟨id, tick⟩ := by unfold setW; rw [if_pos hm]
    have hdl := dropW_len l id
    have hdn : tickW (dropW l id) id = none := by rw [tickW_dropW, if_pos rfl]
    have hmt := hm
    clear hm h0 H hs hF
    go_enter Try.func24, Try.ntmps24
    go_wp2_with fail
    refine C1.out.mono ?_; rintro e w1 ⟨rfl, rfl⟩
    go_wp2_with fail
    refine C2.out.mono ?_; rintro e w1 ⟨rfl, F', ⟨b', ms, hb', H1, hs1, hF1⟩, hT, hF2⟩
    cases hb'
    have hsl := slotL_len (dropW l id) k
    have HS := Lib.hid hset
    clear hset
    generalize hl1 : dropW l id = l1 at *
    clear hl1
    have c0 : w1.cell? ⟨b, k, none⟩ = some (mAt ms k) := by
      exact wx_cell H1.blk (by rw [H1.size]; exact hk)
    have f0 := blk_free H1.blk k
    have hkn : tickW (slotL l1 k) id = none := tickW_none.2 fun x hx => tickW_none.1 hdn x (mem_slotL.1 hx).1
    have hins : SortedW (insW l1 ⟨id, tick⟩) := sorted_insW hs1 ⟨id, tick⟩ ⟨hid, hmt⟩ (fun z hz => tickW_none.1 hdn z hz)
    have hbl : b < w1.heap.size := lt_of_block H1.blk
    have hFb : F' b := (hF1 b).2 (.inl rfl)
    rcases H1.slot k hk with ⟨hx, hL⟩ | ⟨m, hx, hM⟩
    · rw [hx] at c0
      have hq := weql_nil w1
      have HP := Lib.hid (show ∀ w2, MapI w2 w1.heap.size 1 (setF (fun _ => none) id tick) → Only w1.heap.size ((w1.setCell ⟨b, k, none⟩ (.map (some w1.heap.size))).alloc (.map #[] 0)) w2 → OPost (whlOX X) F (.pointer (some ⟨b, 0, none⟩)) (insW l1 ⟨id, tick⟩) w w2 from fun w2 hm2 ho => by
        have e1 : w2.heap[b]? = some (wX X (ms.setIfInBounds k (.map (some w1.heap.size)))) := ho.old (blk_old _ (wx_set H1.blk (by rw [H1.size]; exact hk) _)) (by omega)
        have hkeep : ∀ j, j < w1.heap.size → j ≠ b → w2.heap[j]? = w1.heap[j]? := fun j hj hjb => by
          rw [ho.block j (by rw [World.size_alloc, World.size_setCell]; omega) (by omega), Below.heap_alloc _ _ _ (by rw [World.size_setCell]; exact hj), Below.heap_setCell _ _ _ _ hjb]
        have hfar : ∀ j, j < 16 → mAt ms j ≠ .map (some w1.heap.size) := fun j hj e => by have := (H1.slot j hj).lt e; omega
        have hsz2 : w1.heap.size < w2.heap.size := hm2.lt
        have HW := whl_store (g := w1.heap.size) hs1 hdn hk hkt H1 e1 (fun j hj _ => hfar j hj) (by omega) (by rw [hL]; exact hm2.same (fun i => rfl) rfl) (fun j hj hjb _ => hkeep j hj hjb)
        refine ⟨fun q => F' q ∨ q = w1.heap.size, ⟨b, _, rfl, HW, hins, fun q => ?_⟩, hT.trans (G := F') ⟨ho.os, ho.tape, ho.output, by omega, fun j hj hf => hkeep j hj (fun e => hf (e ▸ hFb))⟩ hF2, fun q hq => ?_⟩
        · constructor
          · rintro (hq | rfl)
            · rcases (hF1 q).1 hq with hq | ⟨i, hi, hq⟩
              · exact .inl hq
              · refine .inr ⟨i, hi, ?_⟩
                rw [mAt_set (by rw [H1.size]; exact hk), if_neg]
                · exact hq
                · intro e; rw [e, hx] at hq; cases hq
            · exact .inr ⟨k, hk, by rw [mAt_set (by rw [H1.size]; exact hk), if_pos rfl]⟩
          · rintro (hq | ⟨i, hi, hq⟩)
            · exact .inl ((hF1 q).2 (.inl hq))
            · rw [mAt_set (by rw [H1.size]; exact hk)] at hq
              by_cases e : i = k
              · rw [if_pos e] at hq; cases hq; exact .inr rfl
              · rw [if_neg e] at hq; exact .inl ((hF1 q).2 (.inr ⟨i, hi, hq⟩))
        · rcases hq with hq | hq
          · exact hF2 q hq
          · exact .inr (by have := hT.size; omega))
      have hM : MapI ((w1.setCell ⟨b, k, none⟩ (.map (some w1.heap.size))).alloc (.map #[] 0)) w1.heap.size 0 (fun _ => none) := by have := mapF_made (w1.setCell ⟨b, k, none⟩ (.map (some w1.heap.size))) Try.prog 3 (Value.int .i64) (0 : Int); rwa [World.size_setCell] at this
      have hmm := @run_makeMap Try.prog
      clear hT hF1 hF2 H1 hs1
      go_wp2_with (first | (refine wpList_store_mapF rfl _ _ _ _ rfl 3 3 intV_inj Try.underlying3 Try.underlying31 w1.heap.size 0 (by decide) rfl hM id hid rfl tick rfl 1 rfl ?_; intro w2 hm2 ho2))
      go_ret
      exact ⟨rfl, by rw [HS.out]; exact HP.out _ hm2 ho2⟩
    · rw [hx] at c0
      have hq := weql_some m w1
      have HP := Lib.hid (show ∀ w2, MapI w2 m ((slotL l1 k).length + 1) (setF (tickW (slotL l1 k)) id tick) → Only m w1 w2 → OPost (whlOX X) F (.pointer (some ⟨b, 0, none⟩)) (insW l1 ⟨id, tick⟩) w w2 from fun w2 hm2 ho => by
        have hbm : b ≠ m := fun e => H1.own k hk (by rw [hx, e])
        have e0 : ms.setIfInBounds k (.map (some m)) = ms := by
          apply Array.ext_getElem?
          intro i
          rw [Array.getElem?_setIfInBounds]
          by_cases e : k = i
          · subst e
            rw [if_pos rfl, if_pos (by rw [H1.size]; exact hk), ← hx]
            unfold mAt; rw [Array.getD_eq_getD_getElem?, Array.getElem?_eq_getElem (by rw [H1.size]; exact hk)]; rfl
          · rw [if_neg e]
        have e1 : w2.heap[b]? = some (wX X (ms.setIfInBounds k (.map (some m)))) := by rw [e0]; exact ho.old H1.blk hbm
        have HW := whl_store (g := m) hs1 hdn hk hkt H1 e1 (fun j hj hjk e => hjk (H1.apart j k m hj hk e hx)) (fun e => hbm e.symm) hm2 (fun j hj _ hjm => ho.block j hj hjm)
        rw [e0] at HW
        refine ⟨F', ⟨b, ms, rfl, HW, hins, hF1⟩, hT.trans (G := F') ⟨ho.os, ho.tape, ho.output, ho.size, fun j hj hf => ho.block j hj (fun e => hf ((hF1 j).2 (.inr ⟨k, hk, by rw [hx, e]⟩)))⟩ hF2, hF2⟩)
      have n' : (slotL l1 k).length + (if (tickW (slotL l1 k) id).isNone = true then 1 else 0) = (slotL l1 k).length + 1 := by rw [hkn]; rfl
      have hlt : (slotL l1 k).length < maxLen := by unfold maxLen; omega
      clear hT hF1 hF2 H1 hs1 hkn
      go_wp2_with (first | (refine wpList_store_mapF rfl _ _ _ _ rfl 3 3 intV_inj Try.underlying3 Try.underlying31 m _ hlt rfl hM id hid rfl tick rfl _ n' ?_; intro w2 hm2 ho2))
      go_ret
      exact ⟨rfl, by rw [HS.out]; exact HP.out _ hm2 ho2⟩
end Go.Proofs.Ytdlkpkigpnlanaa
