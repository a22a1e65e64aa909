/- A wheel in memory: a block of sixteen maps; New; the iterator over its slots, of a wheel and of none. Conditions: as stated. -/
import Derived.Test.YtpdlpnfaclpgbaaProg
import Derived.Test.YtpdlpnfaclpgbaaRngF
import Derived.Test.YtpdlpnfaclpgbaaRngM
import Derived.Test.YtpdlpnfaclpgbaaWhlPlain
import Derived.Test.YtpdlpnfaclpgbaaHolds
import Derived.Test.YtpdlpnfaclpgbaaTurned
namespace Go.Proofs.Ytpdlpnfaclpgbaa
open Go.ChangeShapes Go.WideShapes Go.ChangeAt Go.RowKit Go.Shelf
set_option linter.unusedVariables false
set_option maxRecDepth 100000
set_option linter.unusedSimpArgs false
attribute [local go_sem] Oper.semAt_some

theorem intV_inj : InjV (Value.int .i64) := fun x y h => by cases h; rfl
theorem zeroV_int (w : World) : (zeroValue 3).run Try.prog w = .ok (Value.int .i64 0) w := by kernel_rfl
abbrev MapI (w : World) (m n : Nat) (f : Int → Option Int) : Prop := MapF Try.prog 3 (Value.int .i64) 0 w m n f
/-- A slot with the timers L: none, or a map of them. -/
def Slot (w : World) (mv : Value) (L : List Tm) : Prop := (mv = .map none ∧ L = []) ∨ ∃ m, mv = .map (some m) ∧ MapI w m L.length (tickW L)
theorem Slot.keep {w w' : World} {mv : Value} {L : List Tm} (h : Slot w mv L) (hk : ∀ g, mv = .map (some g) → w'.heap[g]? = w.heap[g]?) : Slot w' mv L := by
  rcases h with h | ⟨m, e, h⟩
  · exact .inl h
  · exact .inr ⟨m, e, h.keep (hk m e)⟩
theorem Slot.lt {w : World} {mv : Value} {L : List Tm} {g : Nat} (h : Slot w mv L) (hg : mv = .map (some g)) : g < w.heap.size := by
  rcases h with ⟨h, _⟩ | ⟨m, e, h⟩
  · rw [h] at hg; cases hg
  · rw [e] at hg; cases hg; exact h.lt
theorem Slot.form {w : World} {mv : Value} {L : List Tm} (h : Slot w mv L) : ∃ m, mv = .map m := by
  rcases h with ⟨h, _⟩ | ⟨m, e, h⟩
  · exact ⟨_, h⟩
  · exact ⟨_, e⟩
theorem Slot.same {w : World} {mv : Value} {L L' : List Tm} (h : Slot w mv L) (hl : L.length = L'.length) (ht : ∀ i, tickW L i = tickW L' i) : Slot w mv L' := by
  rcases h with ⟨h, h2⟩ | ⟨m, e, h⟩
  · subst h2; exact .inl ⟨h, List.eq_nil_of_length_eq_zero hl.symm⟩
  · exact .inr ⟨m, e, h.same ht hl⟩
/-- A wheel's block. -/
def wX (ms : Array Value) : Obj := .cells ms 29 (0, 0)
def mAt (ms : Array Value) (i : Nat) : Value := ms.getD i undef
/-- The block b holds the maps ms of a wheel with the timers l. -/
structure Whl (b : Nat) (ms : Array Value) (l : List Tm) (w : World) : Prop where
  blk : w.heap[b]? = some (wX ms)
  size : ms.size = 16
  slot : ∀ i, i < 16 → Slot w (mAt ms i) (slotL l i)
  apart : ∀ i j g, i < 16 → j < 16 → mAt ms i = .map (some g) → mAt ms j = .map (some g) → i = j
  own : ∀ i, i < 16 → mAt ms i ≠ .map (some b)
/-- The value points to a wheel of the timers l; its blocks are those of F. -/
def WP (F : Nat → Prop) (v : Value) (l : List Tm) (w : World) : Prop := ∃ b ms, v = .pointer (some ⟨b, 0, none⟩) ∧ Whl b ms l w ∧ SortedW l ∧ ∀ k, F k ↔ (k = b ∨ ∃ i, i < 16 ∧ mAt ms i = .map (some k))
theorem whl_keep {b : Nat} {ms : Array Value} {l : List Tm} {w w' : World} (h : Whl b ms l w) (hb : w'.heap[b]? = w.heap[b]?) (hk : ∀ i g, i < 16 → mAt ms i = .map (some g) → w'.heap[g]? = w.heap[g]?) : Whl b ms l w' :=
  ⟨hb.trans h.blk, h.size, fun i hi => (h.slot i hi).keep fun g hg => hk i g hi hg, h.apart, h.own⟩
theorem wp_keep {F : Nat → Prop} {v : Value} {l : List Tm} {w w' : World} (h : WP F v l w) (hk : ∀ k, F k → w'.heap[k]? = w.heap[k]?) : WP F v l w' := by
  obtain ⟨b, ms, h1, h2, h3, h4⟩ := h
  exact ⟨b, ms, h1, whl_keep h2 (hk b ((h4 b).2 (.inl rfl))) fun i g hi hg => hk g ((h4 g).2 (.inr ⟨i, hi, hg⟩)), h3, h4⟩
theorem whl_lt {b : Nat} {ms : Array Value} {l : List Tm} {w : World} (h : Whl b ms l w) {k : Nat} (hk : k = b ∨ ∃ i, i < 16 ∧ mAt ms i = .map (some k)) : k < w.heap.size := by
  rcases hk with rfl | ⟨i, hi, hk⟩
  · exact lt_of_block h.blk
  · exact (h.slot i hi).lt hk
theorem wp_lt {F : Nat → Prop} {v : Value} {l : List Tm} {w : World} (h : WP F v l w) : ∀ k, F k → k < w.heap.size := by
  obtain ⟨b, ms, h1, h2, h3, h4⟩ := h
  exact fun k hk => whl_lt h2 ((h4 k).1 hk)
theorem wp_sorted {F : Nat → Prop} {v : Value} {l : List Tm} {w : World} (h : WP F v l w) : SortedW l := by
  obtain ⟨b, ms, h1, h2, h3, h4⟩ := h
  exact h3
theorem wp_below {F : Nat → Prop} {v : Value} {l : List Tm} {w w' : World} (h : WP F v l w) (hb : Below w.heap.size w w') : WP F v l w' := wp_keep h fun k hk => hb.block k (wp_lt h k hk)
theorem whl_below {b : Nat} {ms : Array Value} {l : List Tm} {w w' : World} (h : Whl b ms l w) (hb : Below w.heap.size w w') : Whl b ms l w' :=
  whl_keep h (hb.block b (lt_of_block h.blk)) fun i g hi hg => hb.block g ((h.slot i hi).lt hg)
/-! ### New, the zero wheel -/
def ms0 : Array Value := #[.map none, .map none, .map none, .map none, .map none, .map none, .map none, .map none, .map none, .map none, .map none, .map none, .map none, .map none, .map none, .map none]
theorem ms0_at (i : Nat) (h : i < 16) : mAt ms0 i = .map none := by
  have : i = 0 ∨ i = 1 ∨ i = 2 ∨ i = 3 ∨ i = 4 ∨ i = 5 ∨ i = 6 ∨ i = 7 ∨ i = 8 ∨ i = 9 ∨ i = 10 ∨ i = 11 ∨ i = 12 ∨ i = 13 ∨ i = 14 ∨ i = 15 := by omega
  rcases this with rfl | rfl | rfl | rfl | rfl | rfl | rfl | rfl | rfl | rfl | rfl | rfl | rfl | rfl | rfl | rfl <;> rfl
theorem wp_zero {w : World} {b : Nat} (h : w.heap[b]? = some (wX ms0)) : WP (fun k => k = b) (.pointer (some ⟨b, 0, none⟩)) [] w :=
  ⟨b, ms0, rfl, ⟨h, rfl, fun i hi => .inl ⟨ms0_at i hi, rfl⟩, (fun i j g hi _ e => by rw [ms0_at i hi] at e; cases e), (fun i hi e => by rw [ms0_at i hi] at e; cases e)⟩, SortedW.nil, fun k => by
    constructor
    · exact .inl
    · rintro (h | ⟨i, hi, e⟩)
      · exact h
      · rw [ms0_at i hi] at e; cases e⟩
theorem wzero_any (w : World) : WP (fun k => k = w.heap.size) (.pointer (some ⟨w.heap.size, 0, none⟩)) [] (w.alloc (wX ms0)) := wp_zero (blk_new w _)
theorem wnew_any (w : World) : Calls Try.prog 6 #[] w fun e w' => e = .returned (.pointer (some ⟨w.heap.size, 0, none⟩)) ∧ WP (fun k => k = w.heap.size) (.pointer (some ⟨w.heap.size, 0, none⟩)) [] w' ∧ Below w.heap.size w w' := by
  have h : Calls Try.prog 6 #[] w fun e w' => e = .returned (.pointer (some ⟨w.heap.size, 0, none⟩)) ∧ w.alloc (wX ms0) = w' := by
    go_enter Try.func6, Try.ntmps6
    go_wp2_with fail
    go_ret
    exact ⟨rfl, rfl⟩
  refine h.mono fun e w' hh => ?_
  obtain ⟨he, rfl⟩ := hh
  exact ⟨he, wzero_any w, (Below.refl _ _).alloc (Nat.le_refl _) _⟩
/-! ### The iterator -/
theorem wpListIn_load_ms {ops : Array Oper} {rest : List Oper} {o : Oper} {a : Act} {w : World} {Q : Exit → Act → World → Prop} {F : Fence} {nF : Nat} (hg : o.guard = none) (x : Operand) (hop : o.op = .load 27 x)
    (b : Nat) (ms : Array Value) (hs : ms.size = 16) (h : w.heap[b]? = some (wX ms)) (hx : a.eval x = .pointer (some ⟨b, 0, none⟩))
    (hK : wpListIn F nF Try.prog ops Q rest (a.put o.dst (.agg ms)) w) : wpListIn F nF Try.prog ops Q (o :: rest) a w := by
  refine wpListIn_plain hg fun K' hK' => ?_
  have hrun := run_loadVar_row (P := Try.prog) w b 29 27 ms (0, 0) (.array 16 26) h (by kernel_rfl) rfl (by rw [hs]; kernel_rfl)
  unfold Oper.wpIn
  refine ⟨by simp [Oper.about, hop], ?_⟩
  rw [Oper.semAt_plain F _ _ (by rw [hop]; intro c hc'; cases hc')]
  simp [execOp, hop, hx, Instr.loadAt, Instr.sureAddr, hrun, Result.andThen]
  exact hK' _ _ hK
theorem run_index_ms (ms : Array Value) (hs : ms.size = 16) (k : Nat) (hk : k < 16) (w : World) : (Instr.index 27 (.agg ms) (.int .i64 k)).run Try.prog w = .ok (mAt ms k) w := by
  have h1 : (isAgg 26).run Try.prog w = .ok false w := by kernel_rfl
  have h2 : (sizeOf 26).run Try.prog w = .ok 1 w := by kernel_rfl
  have h3 : Try.prog.underlying 27 = some (.array 16 26) := by kernel_rfl
  have h4 : ms[k]? = some (mAt ms k) := by
    unfold mAt
    rw [Array.getD_eq_getD_getElem?, Array.getElem?_eq_getElem (by omega)]; rfl
  have h5 : (0 : Int) ≤ (k : Int) ∧ (k : Int) < 16 := by omega
  simp [Instr.index, asIntOf, run_underlying h3, h2, Result.andThen, part, h1, h4]
  intro h6; omega
theorem each_some (b : Nat) (ms : Array Value) (w : World) (hb : w.heap[b]? = some (wX ms)) (hs : ms.size = 16) :
    Rounds Try.prog 20 #[.pointer (some ⟨b, 0, none⟩)] 16 (fun k => #[mAt ms k]) w := by
  intro l J Jx W hW hY h0
  have hb' : W.heap[b]? = some (wX ms) := blk_below hW hb (lt_of_block hb)
  have hix := fun k hk => run_index_ms ms hs k hk
  refine callsIn_of_wp Try.func20 rfl trivial ?_ rfl
  simp only [Try.ntmps20, List.size_toArray, List.length_cons, List.length_nil, Nat.reduceAdd, Nat.reduceSub, Array.replicate_succ, Array.replicate_zero, List.push_toArray, List.append_toArray, List.nil_append, List.cons_append]
  gi_wp2_with (refine wpListIn_load_ms rfl _ rfl b ms hs hb' rfl ?_)
  gi_loopw [12] (fun i wr => ∃ k : Nat, k ≤ 16 ∧ i = .int .i64 k ∧ J k wr)
    (fun i _ => 16 - (intOf i).toNat)
  case atStart => exact ⟨0, Nat.zero_le _, rfl, h0⟩
  case round =>
    obtain ⟨k, hk, rfl, hJs⟩ := hrel
    by_cases hlt : k < 16
    · obtain ⟨fn, tmps, assign, body, hy, hR⟩ := hY k wr hJs hlt
      have hix' := hix k hlt
      clear hix
      gi_wp2
      refine ⟨rfl, hR.mono ?_⟩
      rintro e W3 (⟨rfl, hJ3⟩ | ⟨rfl, hJx3⟩)
      · gi_wp2
        go_roundw
        case rel => exact ⟨k + 1, by omega, by simp, hJ3⟩
        case measure => simp [intOf]; omega
      · gi_wp2
        refine bodyPost_ret (results_none rfl _ _ _) rfl ?_
        exact ⟨⟨_, rfl⟩, .inr hJx3⟩
    · obtain rfl : k = 16 := by omega
      gi_wp2
      go_end0
      exact ⟨⟨_, rfl⟩, .inl hJs⟩
theorem each_none (w : World) : Rounds Try.prog 20 #[.pointer none] 0 (fun k => #[undef]) w := by
  intro l J Jx W hW hY h0
  refine callsIn_of_wp Try.func20 rfl trivial ?_ rfl
  simp only [Try.ntmps20, List.size_toArray, List.length_cons, List.length_nil, Nat.reduceAdd, Nat.reduceSub, Array.replicate_succ, Array.replicate_zero, List.push_toArray, List.append_toArray, List.nil_append, List.cons_append]
  gi_wp2
  refine bodyPost_ret (results_none rfl _ _ _) rfl ?_
  exact ⟨⟨_, rfl⟩, .inl h0⟩
end Go.Proofs.Ytpdlpnfaclpgbaa
