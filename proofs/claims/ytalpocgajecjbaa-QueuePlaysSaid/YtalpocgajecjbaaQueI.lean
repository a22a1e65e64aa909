/- One queue beside blocks of the law's own; two queues and a row of the answers: what each call leaves of them. Conditions: as stated. -/
import Derived.Test.YtalpocgajecjbaaQueE
import Derived.Test.YtalpocgajecjbaaQueS
namespace Go.Proofs.Ytalpocgajecjbaa
open Go.ChangeShapes Go.WideShapes Go.ChangeAt Go.RowKit
set_option linter.unusedVariables false
set_option maxRecDepth 100000
set_option linter.unusedSimpArgs false

/-- The law's own blocks stay. -/
def StayQ (G : Nat → Prop) (w w' : World) : Prop := ∀ k, G k → w'.heap[k]? = w.heap[k]?
/-- A queue made behind wL; the blocks G are the law's own. -/
def QInv1 (wL : World) (G : Nat → Prop) (v : Value) (l : List Jb) (w : World) : Prop :=
  ∃ F : Nat → Prop, QP F v l w ∧ (∀ k, F k → wL.heap.size ≤ k) ∧ Below wL.heap.size wL w ∧ (∀ k, G k → ¬ F k ∧ k < w.heap.size ∧ wL.heap.size ≤ k)
section
variable {wL : World} {G : Nat → Prop} {v : Value} {l : List Jb} {w w' : World}
theorem QInv1.bel (h : QInv1 wL G v l w) : Below wL.heap.size wL w := by obtain ⟨F, _, _, h, _⟩ := h; exact h
theorem QInv1.ptr (h : QInv1 wL G v l w) : ∃ b, v = .pointer (some ⟨b, 0, none⟩) := by obtain ⟨F, h, _⟩ := h; exact qp_ptr h
theorem QInv1.sorted (h : QInv1 wL G v l w) : SortedJ l := by obtain ⟨F, h, _⟩ := h; exact qp_sorted h
theorem QInv1.below (h : QInv1 wL G v l w) (hb : Below w.heap.size w w') : QInv1 wL G v l w' := by
  obtain ⟨F, h1, h2, h3, h4⟩ := h
  exact ⟨F, qp_below h1 hb, h2, h3.trans (hb.mono h3.size), fun k hk => ⟨(h4 k hk).1, Nat.lt_of_lt_of_le (h4 k hk).2.1 hb.size, (h4 k hk).2.2⟩⟩
theorem QInv1.stay (h : QInv1 wL G v l w) (hb : Below w.heap.size w w') : StayQ G w w' := by
  obtain ⟨F, h1, h2, h3, h4⟩ := h
  exact fun k hk => hb.block k (h4 k hk).2.1
theorem QInv1.less {G' : Nat → Prop} (h : QInv1 wL G v l w) (hG : ∀ k, G' k → G k) : QInv1 wL G' v l w := by
  obtain ⟨F, h1, h2, h3, h4⟩ := h
  exact ⟨F, h1, h2, h3, fun k hk => h4 k (hG k hk)⟩
/-- Blocks that were made since are the law's own. -/
theorem QInv1.more {G' : Nat → Prop} (h : QInv1 wL G v l w) (hb : Below w.heap.size w w') (hG : ∀ k, G' k → G k ∨ (w.heap.size ≤ k ∧ k < w'.heap.size)) : QInv1 wL G' v l w' := by
  obtain ⟨F, h1, h2, h3, h4⟩ := h
  refine ⟨F, qp_below h1 hb, h2, h3.trans (hb.mono h3.size), fun k hk => ?_⟩
  rcases hG k hk with hk | hk
  · exact ⟨(h4 k hk).1, Nat.lt_of_lt_of_le (h4 k hk).2.1 hb.size, (h4 k hk).2.2⟩
  · exact ⟨fun e => by have := qp_lt h1 k e; omega, hk.2, Nat.le_trans h3.size hk.1⟩
theorem QInv1.write {b : Nat} (h : QInv1 wL G v l w) (hb : G b) (ho : Only b w w') : QInv1 wL G v l w' := by
  obtain ⟨F, h1, h2, h3, h4⟩ := h
  refine ⟨F, qp_keep h1 (fun k hf => ho.block k (qp_lt h1 k hf) (fun e => (h4 b hb).1 (e ▸ hf))) ho.size, h2, h3.trans (ho.below (h4 b hb).2.2 h3.size), fun k hk => ⟨(h4 k hk).1, Nat.lt_of_lt_of_le (h4 k hk).2.1 ho.size, (h4 k hk).2.2⟩⟩
theorem qinv1_turn {F : Nat → Prop} {l' : List Jb} (h2 : ∀ k, F k → wL.heap.size ≤ k) (h3 : Below wL.heap.size wL w) (h4 : ∀ k, G k → ¬ F k ∧ k < w.heap.size ∧ wL.heap.size ≤ k) (hp : QPost F v l' w w') : QInv1 wL G v l' w' ∧ StayQ G w w' := by
  obtain ⟨F', p1, p2, p3⟩ := hp
  refine ⟨⟨F', p1, fun k hk => ?_, h3.trans (p2.below h2 h3.size), fun k hk => ⟨fun e => ?_, Nat.lt_of_lt_of_le (h4 k hk).2.1 p2.size, (h4 k hk).2.2⟩⟩, fun k hk => p2.block k (h4 k hk).2.1 (h4 k hk).1⟩
  · rcases p3 k hk with e | e
    · exact h2 k e
    · exact Nat.le_trans h3.size e
  · rcases p3 k e with e | e
    · exact (h4 k hk).1 e
    · have := (h4 k hk).2.1; omega
theorem oqput (x : Jb) (hx : x.ok) (hn : l.length ≤ 100000) (h : QInv1 wL G v l w) :
    Calls Try.prog 8 #[v, x.val] w fun e w' => e = .returned (.bool (decide (0 ≤ x.prio))) ∧ QInv1 wL G v (putJ l x) w' ∧ StayQ G w w' := by
  obtain ⟨F, h1, h2, h3, h4⟩ := h
  exact (qput_any F v l x w hx hn h1).mono fun e w' ⟨he, hp⟩ => ⟨he, qinv1_turn h2 h3 h4 hp⟩
theorem oqdrop (id : Int) (hid : inI id) (hn : l.length ≤ 100000) (h : QInv1 wL G v l w) :
    Calls Try.prog 10 #[v, .int .i64 id] w fun e w' => e = .returned (.bool (getJ l id).isSome) ∧ QInv1 wL G v (dropJ l id) w' ∧ StayQ G w w' := by
  obtain ⟨F, h1, h2, h3, h4⟩ := h
  exact (qdrop_any F v l id w hid hn h1).mono fun e w' ⟨he, hp⟩ => ⟨he, qinv1_turn h2 h3 h4 hp⟩
theorem oqtake (hn : l.length ≤ 100000) (h : QInv1 wL G v l w) :
    Calls Try.prog 13 #[v] w fun e w' => e = .returned (.tuple #[(headJ l).val, .bool (someJ l)]) ∧ QInv1 wL G v l.tail w' ∧ StayQ G w w' := by
  obtain ⟨F, h1, h2, h3, h4⟩ := h
  exact (qtake_any F v l w hn h1).mono fun e w' ⟨he, hp⟩ => ⟨he, qinv1_turn h2 h3 h4 hp⟩
theorem oqnext (hn : l.length ≤ 100000) (h : QInv1 wL G v l w) :
    Calls Try.prog 12 #[v] w fun e w' => e = .returned (.tuple #[(headJ l).val, .bool (someJ l)]) ∧ Below w.heap.size w w' := by
  obtain ⟨F, h1, h2, h3, h4⟩ := h
  exact qnext_any F v l w hn h1
theorem oqlen (hn : l.length ≤ 100000) (h : QInv1 wL G v l w) :
    Calls Try.prog 15 #[v] w fun e w' => e = .returned (.int .i64 l.length) ∧ Below w.heap.size w w' := by
  obtain ⟨F, h1, h2, h3, h4⟩ := h
  exact qlen_any F v l w hn h1
theorem oqall (hn : l.length ≤ 100000) (h : QInv1 wL G v l w) :
    Calls Try.prog 17 #[v] w (JobsR l w) := by
  obtain ⟨F, h1, h2, h3, h4⟩ := h
  exact qall_any F v l w hn h1
theorem qone_start {F : Nat → Prop} (h : QP F v [] w) (hF : ∀ k, F k → wL.heap.size ≤ k) (hb : Below wL.heap.size wL w) : QInv1 wL (fun _ => False) v [] w := ⟨F, h, hF, hb, fun _ h => h.elim⟩
end
/-- The block of a row. -/
def rowG (A : Option Addr) (l : List Jb) (q : Nat) : Prop := 0 < l.length ∧ ∃ o, A = some ⟨q, o, none⟩
theorem J8.stay {b o : Nat} {x : Jb} {w w' : World} (h : J8 b o x w) (e : w'.heap[b]? = w.heap[b]?) : J8 b o x w' := by
  have hc : ∀ p, w'.cell? ⟨b, p, none⟩ = w.cell? ⟨b, p, none⟩ := fun p => by unfold World.cell?; rw [e]
  obtain ⟨h0, h1, h2, h3, h4, h5, h6, h7⟩ := h
  exact ⟨(hc _).trans h0, (hc _).trans h1, (hc _).trans h2, (hc _).trans h3, (hc _).trans h4, (hc _).trans h5, (hc _).trans h6, (hc _).trans h7⟩
theorem qone_row {wL wr wA wB : World} {v : Value} {l : List Jb} {A : Option Addr} {c : Nat} (hI : QInv1 wL (fun _ => False) v l wr) (hr : RdK 8 wA (fun b => wr.heap.size ≤ b) (.slice A l.length c) (rowsJ l)) (hb : Below wr.heap.size wr wA) (hbB : Below wA.heap.size wA wB) :
    QInv1 wL (rowG A l) v l wB ∧ ∀ i (hi : i < l.length), ∃ b o, A = some ⟨b, o, none⟩ ∧ ∀ w', StayQ (rowG A l) wB w' → J8 b (o + i * 8) l[i] w' := by
  refine ⟨hI.more (hb.trans (hbB.mono hb.size)) fun q hq => ?_, fun i hi => ?_⟩
  · obtain ⟨h0, o, rfl⟩ := hq
    obtain ⟨b, o', e, hl, hK, _⟩ := hr.at_ (k := 0) (by rw [rowsJ_len]; exact h0)
    cases e
    exact .inr ⟨hK, Nat.lt_of_lt_of_le hl hbB.size⟩
  · obtain ⟨b, o, rfl, hl, hx⟩ := j8_of hr hi
    exact ⟨b, o, rfl, fun w' hs => ((hx i hi).below hbB hl).stay (hs b ⟨by omega, o, rfl⟩)⟩
theorem StayQ.trans {G : Nat → Prop} {a b c : World} (h : StayQ G a b) (k : StayQ G b c) : StayQ G a c := fun q hq => (k q hq).trans (h q hq)
theorem putJ_le (l : List Jb) (x : Jb) : (putJ l x).length ≤ l.length + 1 := by
  unfold putJ
  split
  · omega
  · rw [stb_len]
    have := List.length_filter_le (fun t : Jb => t.id != x.id) l
    unfold dropJ
    simp
    exact this
/-! ### Two queues and a row -/
def QInv3 (wL : World) (G : Nat → Prop) (vh : Value) (l1 : List Jb) (vz : Value) (l2 : List Jb) (row : Value) (l3 : List Jb) (w : World) : Prop :=
  ∃ F1 F2 : Nat → Prop, QP F1 vh l1 w ∧ QP F2 vz l2 w ∧ (∀ k, F1 k → wL.heap.size ≤ k) ∧ (∀ k, F2 k → wL.heap.size ≤ k) ∧ (∀ k, F1 k → ¬ F2 k) ∧
    RdK 8 w (fun b => ¬ F1 b ∧ ¬ F2 b ∧ ¬ G b) row (rowsJ l3) ∧ Below wL.heap.size wL w ∧ (∀ k, G k → ¬ F1 k ∧ ¬ F2 k ∧ k < w.heap.size ∧ wL.heap.size ≤ k)
section
variable {wL : World} {G : Nat → Prop} {vh vz row : Value} {l1 l2 l3 : List Jb} {w w' : World}
theorem QInv3.bel (h : QInv3 wL G vh l1 vz l2 row l3 w) : Below wL.heap.size wL w := by
  obtain ⟨F1, F2, _, _, _, _, _, _, h, _⟩ := h; exact h
theorem QInv3.sorted (h : QInv3 wL G vh l1 vz l2 row l3 w) : SortedJ l1 := by
  obtain ⟨F1, F2, h, _⟩ := h; exact qp_sorted h
theorem QInv3.below (h : QInv3 wL G vh l1 vz l2 row l3 w) (hb : Below w.heap.size w w') : QInv3 wL G vh l1 vz l2 row l3 w' := by
  obtain ⟨F1, F2, h1, h2, h3, h4, h5, h6, h7, h8⟩ := h
  exact ⟨F1, F2, qp_below h1 hb, qp_below h2 hb, h3, h4, h5, h6.below hb, h7.trans (hb.mono h7.size), fun k hk => ⟨(h8 k hk).1, (h8 k hk).2.1, Nat.lt_of_lt_of_le (h8 k hk).2.2.1 hb.size, (h8 k hk).2.2.2⟩⟩
theorem QInv3.stay (h : QInv3 wL G vh l1 vz l2 row l3 w) (hb : Below w.heap.size w w') : StayQ G w w' := by
  obtain ⟨F1, F2, h1, h2, h3, h4, h5, h6, h7, h8⟩ := h
  exact fun k hk => hb.block k (h8 k hk).2.2.1
theorem QInv3.own_lt (h : QInv3 wL G vh l1 vz l2 row l3 w) : ∀ k, G k → k < w.heap.size := by
  obtain ⟨F1, F2, h1, h2, h3, h4, h5, h6, h7, h8⟩ := h
  exact fun k hk => (h8 k hk).2.2.1
theorem QInv3.less {G' : Nat → Prop} (h : QInv3 wL G vh l1 vz l2 row l3 w) (hG : ∀ k, G' k → G k) : QInv3 wL G' vh l1 vz l2 row l3 w := by
  obtain ⟨F1, F2, h1, h2, h3, h4, h5, h6, h7, h8⟩ := h
  exact ⟨F1, F2, h1, h2, h3, h4, h5, h6.imp fun b hb _ => ⟨hb.1, hb.2.1, fun e => hb.2.2 (hG b e)⟩, h7, fun k hk => h8 k (hG k hk)⟩
/-- Blocks that were made since are the law's own. -/
theorem QInv3.more {G' : Nat → Prop} (h : QInv3 wL G vh l1 vz l2 row l3 w) (hb : Below w.heap.size w w') (hG : ∀ k, G' k → G k ∨ (w.heap.size ≤ k ∧ k < w'.heap.size)) : QInv3 wL G' vh l1 vz l2 row l3 w' := by
  obtain ⟨F1, F2, h1, h2, h3, h4, h5, h6, h7, h8⟩ := h
  have hs := hb.size
  refine ⟨F1, F2, qp_below h1 hb, qp_below h2 hb, h3, h4, h5, ?_, h7.trans (hb.mono h7.size), fun k hk => ?_⟩
  · refine (h6.imp (K' := fun b => (¬ F1 b ∧ ¬ F2 b ∧ ¬ G' b)) fun b hb' hl => ⟨hb'.1, hb'.2.1, fun e => ?_⟩).below hb
    rcases hG b e with q | q
    · exact hb'.2.2 q
    · omega
  · rcases hG k hk with hk | hk
    · exact ⟨(h8 k hk).1, (h8 k hk).2.1, Nat.lt_of_lt_of_le (h8 k hk).2.2.1 hs, (h8 k hk).2.2.2⟩
    · exact ⟨fun e => by have := qp_lt h1 k e; omega, fun e => by have := qp_lt h2 k e; omega, hk.2, Nat.le_trans h7.size hk.1⟩
theorem QInv3.write {b : Nat} (h : QInv3 wL G vh l1 vz l2 row l3 w) (hb : G b) (ho : Only b w w') : QInv3 wL G vh l1 vz l2 row l3 w' := by
  obtain ⟨F1, F2, h1, h2, h3, h4, h5, h6, h7, h8⟩ := h
  exact ⟨F1, F2, qp_keep h1 (fun k hf => ho.block k (qp_lt h1 k hf) (fun e => (h8 b hb).1 (e ▸ hf))) ho.size, qp_keep h2 (fun k hf => ho.block k (qp_lt h2 k hf) (fun e => (h8 b hb).2.1 (e ▸ hf))) ho.size, h3, h4, h5,
    h6.keep (fun k hf hl => ho.block k hl (fun e => hf.2.2 (e ▸ hb))) ho.size, h7.trans (ho.below (h8 b hb).2.2.2 h7.size), fun k hk => ⟨(h8 k hk).1, (h8 k hk).2.1, Nat.lt_of_lt_of_le (h8 k hk).2.2.1 ho.size, (h8 k hk).2.2.2⟩⟩
theorem qinv_turn1 {l : List Jb} {F1 F2 : Nat → Prop} (h2 : QP F2 vz l2 w) (h3 : ∀ k, F1 k → wL.heap.size ≤ k) (h4 : ∀ k, F2 k → wL.heap.size ≤ k) (h5 : ∀ k, F1 k → ¬ F2 k)
    (h6 : RdK 8 w (fun b => ¬ F1 b ∧ ¬ F2 b ∧ ¬ G b) row (rowsJ l3)) (h7 : Below wL.heap.size wL w) (h8 : ∀ k, G k → ¬ F1 k ∧ ¬ F2 k ∧ k < w.heap.size ∧ wL.heap.size ≤ k) (hp : QPost F1 vh l w w') : QInv3 wL G vh l vz l2 row l3 w' ∧ StayQ G w w' := by
  obtain ⟨F, p1, p2, p3⟩ := hp
  refine ⟨⟨F, F2, p1, qp_keep h2 (fun k hk => p2.block k (qp_lt h2 k hk) (fun e => h5 k e hk)) p2.size, fun k hk => ?_, h4, fun k hk hk2 => ?_, ?_, h7.trans (p2.below h3 h7.size), fun k hk => ⟨fun e => by rcases p3 k e with e | e; exact (h8 k hk).1 e; have := (h8 k hk).2.2.1; omega, (h8 k hk).2.1, Nat.lt_of_lt_of_le (h8 k hk).2.2.1 p2.size, (h8 k hk).2.2.2⟩⟩, fun k hk => p2.block k (h8 k hk).2.2.1 (h8 k hk).1⟩
  · rcases p3 k hk with e | e
    · exact h3 k e
    · exact Nat.le_trans h7.size e
  · rcases p3 k hk with e | e
    · exact h5 k e hk2
    · have := qp_lt h2 k hk2; omega
  · exact (h6.imp (K' := fun b => (¬ F b ∧ ¬ F2 b ∧ ¬ G b) ∧ ¬ F1 b) fun b hb hl => ⟨⟨fun e => by rcases p3 b e with e | e; exact hb.1 e; omega, hb.2⟩, hb.1⟩).keep (fun b hb hl => p2.block b hl hb.2) p2.size |>.imp fun b hb _ => hb.1
theorem qinv_turn2 {l : List Jb} {F1 F2 : Nat → Prop} (h1 : QP F1 vh l1 w) (h3 : ∀ k, F1 k → wL.heap.size ≤ k) (h4 : ∀ k, F2 k → wL.heap.size ≤ k) (h5 : ∀ k, F1 k → ¬ F2 k)
    (h6 : RdK 8 w (fun b => ¬ F1 b ∧ ¬ F2 b ∧ ¬ G b) row (rowsJ l3)) (h7 : Below wL.heap.size wL w) (h8 : ∀ k, G k → ¬ F1 k ∧ ¬ F2 k ∧ k < w.heap.size ∧ wL.heap.size ≤ k) (hp : QPost F2 vz l w w') : QInv3 wL G vh l1 vz l row l3 w' ∧ StayQ G w w' := by
  obtain ⟨F, p1, p2, p3⟩ := hp
  refine ⟨⟨F1, F, qp_keep h1 (fun k hk => p2.block k (qp_lt h1 k hk) (h5 k hk)) p2.size, p1, h3, fun k hk => ?_, fun k hk hk2 => ?_, ?_, h7.trans (p2.below h4 h7.size), fun k hk => ⟨(h8 k hk).1, fun e => by rcases p3 k e with e | e; exact (h8 k hk).2.1 e; have := (h8 k hk).2.2.1; omega, Nat.lt_of_lt_of_le (h8 k hk).2.2.1 p2.size, (h8 k hk).2.2.2⟩⟩, fun k hk => p2.block k (h8 k hk).2.2.1 (h8 k hk).2.1⟩
  · rcases p3 k hk with e | e
    · exact h4 k e
    · exact Nat.le_trans h7.size e
  · rcases p3 k hk2 with e | e
    · exact h5 k hk e
    · have := qp_lt h1 k hk; omega
  · exact (h6.imp (K' := fun b => (¬ F1 b ∧ ¬ F b ∧ ¬ G b) ∧ ¬ F2 b) fun b hb hl => ⟨⟨hb.1, fun e => by rcases p3 b e with e | e; exact hb.2.1 e; omega, hb.2.2⟩, hb.2.1⟩).keep (fun b hb hl => p2.block b hl hb.2) p2.size |>.imp fun b hb _ => hb.1
theorem iqput_h (x : Jb) (hx : x.ok) (hn : l1.length ≤ 100000) (h : QInv3 wL G vh l1 vz l2 row l3 w) :
    Calls Try.prog 8 #[vh, x.val] w fun e w' => e = .returned (.bool (decide (0 ≤ x.prio))) ∧ QInv3 wL G vh (putJ l1 x) vz l2 row l3 w' ∧ StayQ G w w' := by
  obtain ⟨F1, F2, h1, h2, h3, h4, h5, h6, h7, h8⟩ := h
  exact (qput_any F1 vh l1 x w hx hn h1).mono fun e w' ⟨he, hp⟩ => ⟨he, qinv_turn1 h2 h3 h4 h5 h6 h7 h8 hp⟩
theorem iqput_z (x : Jb) (hx : x.ok) (hn : l2.length ≤ 100000) (h : QInv3 wL G vh l1 vz l2 row l3 w) :
    Calls Try.prog 8 #[vz, x.val] w fun e w' => e = .returned (.bool (decide (0 ≤ x.prio))) ∧ QInv3 wL G vh l1 vz (putJ l2 x) row l3 w' ∧ StayQ G w w' := by
  obtain ⟨F1, F2, h1, h2, h3, h4, h5, h6, h7, h8⟩ := h
  exact (qput_any F2 vz l2 x w hx hn h2).mono fun e w' ⟨he, hp⟩ => ⟨he, qinv_turn2 h1 h3 h4 h5 h6 h7 h8 hp⟩
theorem iqdrop_h (id : Int) (hid : inI id) (hn : l1.length ≤ 100000) (h : QInv3 wL G vh l1 vz l2 row l3 w) :
    Calls Try.prog 10 #[vh, .int .i64 id] w fun e w' => e = .returned (.bool (getJ l1 id).isSome) ∧ QInv3 wL G vh (dropJ l1 id) vz l2 row l3 w' ∧ StayQ G w w' := by
  obtain ⟨F1, F2, h1, h2, h3, h4, h5, h6, h7, h8⟩ := h
  exact (qdrop_any F1 vh l1 id w hid hn h1).mono fun e w' ⟨he, hp⟩ => ⟨he, qinv_turn1 h2 h3 h4 h5 h6 h7 h8 hp⟩
theorem iqdrop_z (id : Int) (hid : inI id) (hn : l2.length ≤ 100000) (h : QInv3 wL G vh l1 vz l2 row l3 w) :
    Calls Try.prog 10 #[vz, .int .i64 id] w fun e w' => e = .returned (.bool (getJ l2 id).isSome) ∧ QInv3 wL G vh l1 vz (dropJ l2 id) row l3 w' ∧ StayQ G w w' := by
  obtain ⟨F1, F2, h1, h2, h3, h4, h5, h6, h7, h8⟩ := h
  exact (qdrop_any F2 vz l2 id w hid hn h2).mono fun e w' ⟨he, hp⟩ => ⟨he, qinv_turn2 h1 h3 h4 h5 h6 h7 h8 hp⟩
theorem iqtake_h (hn : l1.length ≤ 100000) (h : QInv3 wL G vh l1 vz l2 row l3 w) :
    Calls Try.prog 13 #[vh] w fun e w' => e = .returned (.tuple #[(headJ l1).val, .bool (someJ l1)]) ∧ QInv3 wL G vh l1.tail vz l2 row l3 w' ∧ StayQ G w w' := by
  obtain ⟨F1, F2, h1, h2, h3, h4, h5, h6, h7, h8⟩ := h
  exact (qtake_any F1 vh l1 w hn h1).mono fun e w' ⟨he, hp⟩ => ⟨he, qinv_turn1 h2 h3 h4 h5 h6 h7 h8 hp⟩
theorem iqtake_z (hn : l2.length ≤ 100000) (h : QInv3 wL G vh l1 vz l2 row l3 w) :
    Calls Try.prog 13 #[vz] w fun e w' => e = .returned (.tuple #[(headJ l2).val, .bool (someJ l2)]) ∧ QInv3 wL G vh l1 vz l2.tail row l3 w' ∧ StayQ G w w' := by
  obtain ⟨F1, F2, h1, h2, h3, h4, h5, h6, h7, h8⟩ := h
  exact (qtake_any F2 vz l2 w hn h2).mono fun e w' ⟨he, hp⟩ => ⟨he, qinv_turn2 h1 h3 h4 h5 h6 h7 h8 hp⟩
theorem iqnext_h (hn : l1.length ≤ 100000) (h : QInv3 wL G vh l1 vz l2 row l3 w) :
    Calls Try.prog 12 #[vh] w fun e w' => e = .returned (.tuple #[(headJ l1).val, .bool (someJ l1)]) ∧ Below w.heap.size w w' := by
  obtain ⟨F1, F2, h1, h2, h3, h4, h5, h6, h7, h8⟩ := h
  exact qnext_any F1 vh l1 w hn h1
theorem iqget_h (id : Int) (hid : inI id) (h : QInv3 wL G vh l1 vz l2 row l3 w) :
    Calls Try.prog 14 #[vh, .int .i64 id] w fun e w' => e = .returned (.tuple #[((getJ l1 id).getD zeroJ).val, .bool (getJ l1 id).isSome]) ∧ Below w.heap.size w w' := by
  obtain ⟨F1, F2, h1, h2, h3, h4, h5, h6, h7, h8⟩ := h
  exact qget_any F1 vh l1 id w hid h1
theorem iqlen_h (hn : l1.length ≤ 100000) (h : QInv3 wL G vh l1 vz l2 row l3 w) :
    Calls Try.prog 15 #[vh] w fun e w' => e = .returned (.int .i64 l1.length) ∧ Below w.heap.size w w' := by
  obtain ⟨F1, F2, h1, h2, h3, h4, h5, h6, h7, h8⟩ := h
  exact qlen_any F1 vh l1 w hn h1
theorem iqlen_z (hn : l2.length ≤ 100000) (h : QInv3 wL G vh l1 vz l2 row l3 w) :
    Calls Try.prog 15 #[vz] w fun e w' => e = .returned (.int .i64 l2.length) ∧ Below w.heap.size w w' := by
  obtain ⟨F1, F2, h1, h2, h3, h4, h5, h6, h7, h8⟩ := h
  exact qlen_any F2 vz l2 w hn h2
theorem iqall_h (hn : l1.length ≤ 100000) (h : QInv3 wL G vh l1 vz l2 row l3 w) :
    Calls Try.prog 17 #[vh] w (JobsR l1 w) := by
  obtain ⟨F1, F2, h1, h2, h3, h4, h5, h6, h7, h8⟩ := h
  exact qall_any F1 vh l1 w hn h1
theorem QInv3.rd (h : QInv3 wL G vh l1 vz l2 row l3 w) : ∃ K, RdK 8 w K row (rowsJ l3) := by
  obtain ⟨F1, F2, h1, h2, h3, h4, h5, h6, h7, h8⟩ := h
  exact ⟨_, h6⟩
theorem iqrget (id : Int) (hn : l3.length ≤ 100000) (h : QInv3 wL G vh l1 vz l2 row l3 w) :
    Calls Try.prog 7 #[row, .int .i64 id] w fun e w' => e = .returned (.tuple #[((getJ l3 id).getD zeroJ).val, .bool (getJ l3 id).isSome]) ∧ Below w.heap.size w w' := by
  obtain ⟨K, h⟩ := h.rd
  exact k11get_any row l3 id K w hn h
/-- Another row, made anew or of what the old one had. -/
theorem qinv_row {l : List Jb} {v : Value} {F1 F2 : Nat → Prop} (h1 : QP F1 vh l1 w) (h2 : QP F2 vz l2 w) (h3 : ∀ k, F1 k → wL.heap.size ≤ k) (h4 : ∀ k, F2 k → wL.heap.size ≤ k) (h5 : ∀ k, F1 k → ¬ F2 k) (h7 : Below wL.heap.size wL w) (h8 : ∀ k, G k → ¬ F1 k ∧ ¬ F2 k ∧ k < w.heap.size ∧ wL.heap.size ≤ k)
    (hr : RdK 8 w' (fun b => (¬ F1 b ∧ ¬ F2 b ∧ ¬ G b) ∨ w.heap.size ≤ b) v (rowsJ l)) (hb : Below w.heap.size w w') : QInv3 wL G vh l1 vz l2 v l w' := by
  exact ⟨F1, F2, qp_below h1 hb, qp_below h2 hb, h3, h4, h5,
    hr.imp fun b hb _ => by
      rcases hb with hb | hb
      · exact hb
      · exact ⟨fun e => by have := qp_lt h1 b e; omega, fun e => by have := qp_lt h2 b e; omega, fun e => by have := (h8 b e).2.2.1; omega⟩, h7.trans (hb.mono h7.size), fun k hk => ⟨(h8 k hk).1, (h8 k hk).2.1, Nat.lt_of_lt_of_le (h8 k hk).2.2.1 hb.size, (h8 k hk).2.2.2⟩⟩
theorem iqrput (x : Jb) (hn : l3.length ≤ 90000) (h : QInv3 wL G vh l1 vz l2 row l3 w) :
    Calls Try.prog 9 #[row, x.val] w fun e w' => ∃ v, e = .returned v ∧ QInv3 wL G vh l1 vz l2 v (putJ l3 x) w' ∧ StayQ G w w' := by
  have h0 := h
  obtain ⟨F1, F2, h1, h2, h3, h4, h5, h6, h7, h8⟩ := h
  exact (k11put_any row l3 x _ w hn h6).mono fun e w' ⟨v, he, hr, hb⟩ => ⟨v, he, qinv_row h1 h2 h3 h4 h5 h7 h8 hr hb, h0.stay hb⟩
theorem iqrdrop (id : Int) (hn : l3.length ≤ 100000) (h : QInv3 wL G vh l1 vz l2 row l3 w) :
    Calls Try.prog 11 #[row, .int .i64 id] w fun e w' => ∃ v, e = .returned v ∧ QInv3 wL G vh l1 vz l2 v (dropJ l3 id) w' ∧ StayQ G w w' := by
  have h0 := h
  obtain ⟨F1, F2, h1, h2, h3, h4, h5, h6, h7, h8⟩ := h
  exact (k11drop_any row l3 id _ w hn h6).mono fun e w' ⟨v, he, ho, hb⟩ => ⟨v, he, qinv_row h1 h2 h3 h4 h5 h7 h8 ((RdK.own ho (rowsJ_len _) (rowsJ_eight _)).imp fun b hb _ => .inr hb) hb, h0.stay hb⟩
theorem QInv3.form (h : QInv3 wL G vh l1 vz l2 row l3 w) : ∃ A c, row = .slice A l3.length c ∧ l3.length ≤ c ∧ c ≤ maxLen := by
  obtain ⟨K, h⟩ := h.rd
  have := h.form
  rw [rowsJ_len] at this
  exact this
theorem QInv3.ptrs (h : QInv3 wL G vh l1 vz l2 row l3 w) : (∃ b, vh = .pointer (some ⟨b, 0, none⟩)) ∧ ∃ b, vz = .pointer (some ⟨b, 0, none⟩) := by
  obtain ⟨F1, F2, h1, h2, h3, h4, h5, h6, h7, h8⟩ := h
  exact ⟨qp_ptr h1, qp_ptr h2⟩
/-- The row's jobs. -/
theorem QInv3.at_ {A : Option Addr} {n c k : Nat} (h : QInv3 wL G vh l1 vz l2 (.slice A n c) l3 w) (hk : k < l3.length) : ∃ b o, A = some ⟨b, o, none⟩ ∧ ∀ w', Below w.heap.size w w' → J8 b (o + k * 8) l3[k] w' := by
  obtain ⟨K, h⟩ := h.rd
  obtain ⟨b, o, hA, hb, hx⟩ := j8_of h hk
  exact ⟨b, o, hA, fun w' hw => (hx k hk).below hw hb⟩
/-- The row without its first job. -/
theorem qinv_tail {A : Option Addr} {n c : Nat} (h : QInv3 wL G vh l1 vz l2 (.slice A n c) l3 w) (h0 : 0 < l3.length) : QInv3 wL G vh l1 vz l2 (sliced A 1 n c 8) l3.tail w := by
  obtain ⟨F1, F2, h1, h2, h3, h4, h5, h6, h7, h8⟩ := h
  have := h6.drop 1 (by rw [rowsJ_len]; exact h0)
  rw [show (rowsJ l3).drop 1 = rowsJ l3.tail by simp [rowsJ]] at this
  exact ⟨F1, F2, h1, h2, h3, h4, h5, this, h7, h8⟩
end
theorem qinv_start {wL w1 : World} {v : Value} {F : Nat → Prop} (h : QP F v [] w1) (hF : ∀ k, F k → wL.heap.size ≤ k) (hb : Below wL.heap.size wL w1) :
    QInv3 wL (fun _ => False) v [] (.pointer (some ⟨w1.heap.size, 0, none⟩)) [] (.slice none 0 0) [] (w1.alloc (.cells zeroQ 32)) := by
  have ha : Below w1.heap.size w1 (w1.alloc (.cells zeroQ 32)) := (Below.refl _ _).alloc (Nat.le_refl _) _
  refine ⟨F, _, qp_below h ha, qzero_any w1, hF, fun k hk => ?_, fun k hk e => ?_, RdK.nil _ _ _, hb.trans (ha.mono hb.size), fun _ h => h.elim⟩
  · have hk : k = w1.heap.size := hk
    rw [hk]; exact hb.size
  · have e : k = w1.heap.size := e
    have := qp_lt h k hk; omega
end Go.Proofs.Ytalpocgajecjbaa
