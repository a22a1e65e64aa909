/- Two heaps and a row of the answers, in one memory: what each call leaves of them. Conditions: as stated. -/
import Derived.Test.YtfknmokidjgeiaaHeapArgs
namespace Go.Proofs.Ytfknmokidjgeiaa
open Go.ChangeShapes Go.WideShapes Go.ChangeAt Go.RowKit
set_option linter.unusedVariables false
set_option maxRecDepth 100000

/-- Two heaps and a row, all made behind wL; the blocks G are the law's own. -/
def Inv3 (wL : World) (G : Nat → Prop) (vh : Value) (l1 : List Thg) (vz : Value) (l2 : List Thg) (row : Value) (l3 : List Thg) (w : World) : Prop :=
  ∃ F1 F2 : Nat → Prop, HP F1 vh l1 w ∧ HP F2 vz l2 w ∧ (∀ k, F1 k → wL.heap.size ≤ k) ∧ (∀ k, F2 k → wL.heap.size ≤ k) ∧ (∀ k, F1 k → ¬ F2 k) ∧
    RdK 4 w (fun b => ¬ F1 b ∧ ¬ F2 b ∧ ¬ G b) row (rowsT l3) ∧ Below wL.heap.size wL w ∧ (∀ k, G k → ¬ F1 k ∧ ¬ F2 k ∧ k < w.heap.size ∧ wL.heap.size ≤ k)
section
variable {wL : World} {G : Nat → Prop} {vh vz row : Value} {l1 l2 l3 : List Thg} {w w' : World}
theorem Inv3.bel (h : Inv3 wL G vh l1 vz l2 row l3 w) : Below wL.heap.size wL w := by
  obtain ⟨F1, F2, _, _, _, _, _, _, h, _⟩ := h; exact h
theorem Inv3.below (h : Inv3 wL G vh l1 vz l2 row l3 w) (hb : Below w.heap.size w w') : Inv3 wL G vh l1 vz l2 row l3 w' := by
  obtain ⟨F1, F2, h1, h2, h3, h4, h5, h6, h7, h8⟩ := h
  exact ⟨F1, F2, hp_keep h1 (fun k hk => hb.block k (hp_lt h1 k hk)) hb.size, hp_keep h2 (fun k hk => hb.block k (hp_lt h2 k hk)) hb.size, h3, h4, h5, h6.below hb, h7.trans (hb.mono h7.size), fun k hk => ⟨(h8 k hk).1, (h8 k hk).2.1, Nat.lt_of_lt_of_le (h8 k hk).2.2.1 hb.size, (h8 k hk).2.2.2⟩⟩
/-- The law's own blocks: one more that was just made; fewer; what is written there. -/
theorem Inv3.box (h : Inv3 wL G vh l1 vz l2 row l3 w) (o : Obj) : Inv3 wL (fun k => G k ∨ k = w.heap.size) vh l1 vz l2 row l3 (w.alloc o) := by
  have ha : Below w.heap.size w (w.alloc o) := (Below.refl _ _).alloc (Nat.le_refl _) _
  obtain ⟨F1, F2, h1, h2, h3, h4, h5, h6, h7, h8⟩ := h.below ha
  obtain ⟨E1, E2, e1, e2, e3, e4, e5, e6, e7, e8⟩ := h
  refine ⟨E1, E2, hp_keep e1 (fun k hk => ha.block k (hp_lt e1 k hk)) ha.size, hp_keep e2 (fun k hk => ha.block k (hp_lt e2 k hk)) ha.size, e3, e4, e5, (e6.imp (K' := fun b => ¬ E1 b ∧ ¬ E2 b ∧ ¬ (G b ∨ b = w.heap.size)) fun b hb hl => ⟨hb.1, hb.2.1, fun e => by rcases e with e | e; exact hb.2.2 e; omega⟩).below ha, e7.trans (ha.mono e7.size), fun k hk => ?_⟩
  rcases hk with hk | rfl
  · exact ⟨(e8 k hk).1, (e8 k hk).2.1, Nat.lt_of_lt_of_le (e8 k hk).2.2.1 ha.size, (e8 k hk).2.2.2⟩
  · exact ⟨fun e => Nat.lt_irrefl _ (hp_lt e1 _ e), fun e => Nat.lt_irrefl _ (hp_lt e2 _ e), by simp, e7.size⟩
theorem Inv3.less {G' : Nat → Prop} (h : Inv3 wL G vh l1 vz l2 row l3 w) (hG : ∀ k, G' k → G k) : Inv3 wL G' vh l1 vz l2 row l3 w := by
  obtain ⟨F1, F2, h1, h2, h3, h4, h5, h6, h7, h8⟩ := h
  exact ⟨F1, F2, h1, h2, h3, h4, h5, h6.imp fun b hb _ => ⟨hb.1, hb.2.1, fun e => hb.2.2 (hG b e)⟩, h7, fun k hk => h8 k (hG k hk)⟩
theorem Inv3.write {b : Nat} (h : Inv3 wL G vh l1 vz l2 row l3 w) (hb : G b) (i : Nat) (v : Value) : Inv3 wL G vh l1 vz l2 row l3 (w.setCell ⟨b, i, none⟩ v) := by
  obtain ⟨F1, F2, h1, h2, h3, h4, h5, h6, h7, h8⟩ := h
  have hs : (w.setCell ⟨b, i, none⟩ v).heap.size = w.heap.size := by simp [World.setCell]
  have hk : ∀ k, k ≠ b → (w.setCell ⟨b, i, none⟩ v).heap[k]? = w.heap[k]? := fun k hk => Below.heap_setCell _ _ _ _ hk
  refine ⟨F1, F2, hp_keep h1 (fun k hf => hk k (fun e => (h8 b hb).1 (e ▸ hf))) (by rw [hs]; exact Nat.le_refl _), hp_keep h2 (fun k hf => hk k (fun e => (h8 b hb).2.1 (e ▸ hf))) (by rw [hs]; exact Nat.le_refl _), h3, h4, h5, h6.keep (fun k hf _ => hk k (fun e => hf.2.2 (e ▸ hb))) (by rw [hs]; exact Nat.le_refl _), h7.setCell (p := ⟨b, i, none⟩) (h8 b hb).2.2.2 v, fun k hk => by rw [hs]; exact h8 k hk⟩
theorem Inv3.drew (h : Inv3 wL G vh l1 vz l2 row l3 w) (n : Nat) : Inv3 wL G vh l1 vz l2 row l3 (w.drewN n) := h.below ⟨rfl, rfl, rfl, Nat.le_refl _, fun _ _ => rfl⟩
theorem inv_turn1 {l : List Thg} {F1 F2 : Nat → Prop} (h2 : HP F2 vz l2 w) (h3 : ∀ k, F1 k → wL.heap.size ≤ k) (h4 : ∀ k, F2 k → wL.heap.size ≤ k) (h5 : ∀ k, F1 k → ¬ F2 k)
    (h6 : RdK 4 w (fun b => ¬ F1 b ∧ ¬ F2 b ∧ ¬ G b) row (rowsT l3)) (h7 : Below wL.heap.size wL w) (h8 : ∀ k, G k → ¬ F1 k ∧ ¬ F2 k ∧ k < w.heap.size ∧ wL.heap.size ≤ k) (hp : HPost F1 vh l w w') : Inv3 wL G vh l vz l2 row l3 w' := by
  obtain ⟨F, p1, p2, p3⟩ := hp
  refine ⟨F, F2, p1, hp_keep h2 (fun k hk => p2.block k (hp_lt h2 k hk) (fun e => h5 k e hk)) p2.size, fun k hk => ?_, h4, fun k hk hk2 => ?_, ?_, h7.trans (p2.below h3 h7.size), fun k hk => ⟨fun e => by rcases p3 k e with e | e; exact (h8 k hk).1 e; have := (h8 k hk).2.2.1; omega, (h8 k hk).2.1, Nat.lt_of_lt_of_le (h8 k hk).2.2.1 p2.size, (h8 k hk).2.2.2⟩⟩
  · rcases p3 k hk with e | e
    · exact h3 k e
    · exact Nat.le_trans h7.size e
  · rcases p3 k hk with e | e
    · exact h5 k e hk2
    · have := hp_lt h2 k hk2; omega
  · exact (h6.imp (K' := fun b => (¬ F b ∧ ¬ F2 b ∧ ¬ G b) ∧ ¬ F1 b) fun b hb hl => ⟨⟨fun e => by rcases p3 b e with e | e; exact hb.1 e; omega, hb.2⟩, hb.1⟩).keep (fun b hb hl => p2.block b hl hb.2) p2.size |>.imp fun b hb _ => hb.1
theorem inv_turn2 {l : List Thg} {F1 F2 : Nat → Prop} (h1 : HP F1 vh l1 w) (h3 : ∀ k, F1 k → wL.heap.size ≤ k) (h4 : ∀ k, F2 k → wL.heap.size ≤ k) (h5 : ∀ k, F1 k → ¬ F2 k)
    (h6 : RdK 4 w (fun b => ¬ F1 b ∧ ¬ F2 b ∧ ¬ G b) row (rowsT l3)) (h7 : Below wL.heap.size wL w) (h8 : ∀ k, G k → ¬ F1 k ∧ ¬ F2 k ∧ k < w.heap.size ∧ wL.heap.size ≤ k) (hp : HPost F2 vz l w w') : Inv3 wL G vh l1 vz l row l3 w' := by
  obtain ⟨F, p1, p2, p3⟩ := hp
  refine ⟨F1, F, hp_keep h1 (fun k hk => p2.block k (hp_lt h1 k hk) (h5 k hk)) p2.size, p1, h3, fun k hk => ?_, fun k hk hk2 => ?_, ?_, h7.trans (p2.below h4 h7.size), fun k hk => ⟨(h8 k hk).1, fun e => by rcases p3 k e with e | e; exact (h8 k hk).2.1 e; have := (h8 k hk).2.2.1; omega, Nat.lt_of_lt_of_le (h8 k hk).2.2.1 p2.size, (h8 k hk).2.2.2⟩⟩
  · rcases p3 k hk with e | e
    · exact h4 k e
    · exact Nat.le_trans h7.size e
  · rcases p3 k hk2 with e | e
    · exact h5 k hk e
    · have := hp_lt h1 k hk; omega
  · exact (h6.imp (K' := fun b => (¬ F1 b ∧ ¬ F b ∧ ¬ G b) ∧ ¬ F2 b) fun b hb hl => ⟨⟨hb.1, fun e => by rcases p3 b e with e | e; exact hb.2.1 e; omega, hb.2.2⟩, hb.2.1⟩).keep (fun b hb hl => p2.block b hl hb.2) p2.size |>.imp fun b hb _ => hb.1
theorem iput_h (x : Thg) (hx : x.ok) (hn : l1.length ≤ 100000) (h : Inv3 wL G vh l1 vz l2 row l3 w) :
    Calls Try.prog 11 #[vh, .int .i64 x.id, x.key.val] w fun e w' => e = .returned (.bool (findT l1 x.id).isNone) ∧ Inv3 wL G vh (putT l1 x) vz l2 row l3 w' := by
  obtain ⟨F1, F2, h1, h2, h3, h4, h5, h6, h7, h8⟩ := h
  exact (hput_any F1 vh l1 x w hx hn h1).mono fun e w' ⟨he, hp⟩ => ⟨he, inv_turn1 h2 h3 h4 h5 h6 h7 h8 hp⟩
theorem iput_z (x : Thg) (hx : x.ok) (hn : l2.length ≤ 100000) (h : Inv3 wL G vh l1 vz l2 row l3 w) :
    Calls Try.prog 11 #[vz, .int .i64 x.id, x.key.val] w fun e w' => e = .returned (.bool (findT l2 x.id).isNone) ∧ Inv3 wL G vh l1 vz (putT l2 x) row l3 w' := by
  obtain ⟨F1, F2, h1, h2, h3, h4, h5, h6, h7, h8⟩ := h
  exact (hput_any F2 vz l2 x w hx hn h2).mono fun e w' ⟨he, hp⟩ => ⟨he, inv_turn2 h1 h3 h4 h5 h6 h7 h8 hp⟩
theorem idrop_h (id : Int) (hid : inI id) (hn : l1.length ≤ 100000) (h : Inv3 wL G vh l1 vz l2 row l3 w) :
    Calls Try.prog 13 #[vh, .int .i64 id] w fun e w' => e = .returned (.bool (findT l1 id).isSome) ∧ Inv3 wL G vh (dropT l1 id) vz l2 row l3 w' := by
  obtain ⟨F1, F2, h1, h2, h3, h4, h5, h6, h7, h8⟩ := h
  exact (hdrop_any F1 vh l1 id w hid hn h1).mono fun e w' ⟨he, hp⟩ => ⟨he, inv_turn1 h2 h3 h4 h5 h6 h7 h8 hp⟩
theorem idrop_z (id : Int) (hid : inI id) (hn : l2.length ≤ 100000) (h : Inv3 wL G vh l1 vz l2 row l3 w) :
    Calls Try.prog 13 #[vz, .int .i64 id] w fun e w' => e = .returned (.bool (findT l2 id).isSome) ∧ Inv3 wL G vh l1 vz (dropT l2 id) row l3 w' := by
  obtain ⟨F1, F2, h1, h2, h3, h4, h5, h6, h7, h8⟩ := h
  exact (hdrop_any F2 vz l2 id w hid hn h2).mono fun e w' ⟨he, hp⟩ => ⟨he, inv_turn2 h1 h3 h4 h5 h6 h7 h8 hp⟩
theorem itake_h (hn : l1.length ≤ 100000) (h : Inv3 wL G vh l1 vz l2 row l3 w) :
    Calls Try.prog 16 #[vh] w fun e w' => e = .returned (topT l1) ∧ Inv3 wL G vh l1.tail vz l2 row l3 w' := by
  obtain ⟨F1, F2, h1, h2, h3, h4, h5, h6, h7, h8⟩ := h
  exact (htake_any F1 vh l1 w hn h1).mono fun e w' ⟨he, hp⟩ => ⟨he, inv_turn1 h2 h3 h4 h5 h6 h7 h8 hp⟩
theorem itake_z (hn : l2.length ≤ 100000) (h : Inv3 wL G vh l1 vz l2 row l3 w) :
    Calls Try.prog 16 #[vz] w fun e w' => e = .returned (topT l2) ∧ Inv3 wL G vh l1 vz l2.tail row l3 w' := by
  obtain ⟨F1, F2, h1, h2, h3, h4, h5, h6, h7, h8⟩ := h
  exact (htake_any F2 vz l2 w hn h2).mono fun e w' ⟨he, hp⟩ => ⟨he, inv_turn2 h1 h3 h4 h5 h6 h7 h8 hp⟩
theorem itop_h (hn : l1.length ≤ 100000) (h : Inv3 wL G vh l1 vz l2 row l3 w) :
    Calls Try.prog 15 #[vh] w fun e w' => e = .returned (topT l1) ∧ Inv3 wL G vh l1 vz l2 row l3 w' := by
  have h0 := h
  obtain ⟨F1, F2, h1, h2, h3, h4, h5, h6, h7, h8⟩ := h
  exact (htop_any F1 vh l1 w hn h1).mono fun e w' ⟨he, hp⟩ => ⟨he, h0.below hp⟩
theorem ikey_h (id : Int) (hid : inI id) (hn : l1.length ≤ 100000) (h : Inv3 wL G vh l1 vz l2 row l3 w) :
    Calls Try.prog 17 #[vh, .int .i64 id] w fun e w' => e = .returned (.tuple #[(keyT l1 id).val, .bool (findT l1 id).isSome]) ∧ Inv3 wL G vh l1 vz l2 row l3 w' := by
  have h0 := h
  obtain ⟨F1, F2, h1, h2, h3, h4, h5, h6, h7, h8⟩ := h
  exact (hkey_any F1 vh l1 id w hid hn h1).mono fun e w' ⟨he, hp⟩ => ⟨he, h0.below hp⟩
theorem ilen_h (hn : l1.length ≤ 100000) (h : Inv3 wL G vh l1 vz l2 row l3 w) :
    Calls Try.prog 18 #[vh] w fun e w' => e = .returned (.int .i64 l1.length) ∧ Inv3 wL G vh l1 vz l2 row l3 w' := by
  have h0 := h
  obtain ⟨F1, F2, h1, h2, h3, h4, h5, h6, h7, h8⟩ := h
  exact (hlen_any F1 vh l1 w hn h1).mono fun e w' ⟨he, hp⟩ => ⟨he, h0.below hp⟩
theorem ilen_z (hn : l2.length ≤ 100000) (h : Inv3 wL G vh l1 vz l2 row l3 w) :
    Calls Try.prog 18 #[vz] w fun e w' => e = .returned (.int .i64 l2.length) ∧ Inv3 wL G vh l1 vz l2 row l3 w' := by
  have h0 := h
  obtain ⟨F1, F2, h1, h2, h3, h4, h5, h6, h7, h8⟩ := h
  exact (hlen_any F2 vz l2 w hn h2).mono fun e w' ⟨he, hp⟩ => ⟨he, h0.below hp⟩
/-- All of the first heap. -/
theorem iall_h (hn : l1.length ≤ 100000) (h : Inv3 wL G vh l1 vz l2 row l3 w) :
    Calls Try.prog 20 #[vh] w fun e w' => (∃ v, e = .returned v ∧ Rd w' w'.heap.size v (ints (idsT l1))) ∧ Inv3 wL G vh l1 vz l2 row l3 w' := by
  have h0 := h
  obtain ⟨F1, F2, h1, h2, h3, h4, h5, h6, h7, h8⟩ := h
  exact (hall_any F1 vh l1 w hn h1).mono fun e w' ⟨v, he, hr, hp⟩ => ⟨⟨v, he, hr⟩, h0.below hp⟩
theorem ifind (id : Int) (hn : l3.length ≤ 100000) (h : Inv3 wL G vh l1 vz l2 row l3 w) :
    Calls Try.prog 10 #[row, .int .i64 id] w fun e w' => e = .returned (.int .i64 (idxI (findT l3 id))) ∧ w = w' := by
  obtain ⟨F1, F2, h1, h2, h3, h4, h5, h6, h7, h8⟩ := h
  exact k9find_any row l3 id _ w hn h6
/-- Another row, made anew. -/
theorem inv_row {l : List Thg} {v : Value} (h : Inv3 wL G vh l1 vz l2 row l3 w) (hr : RdK 4 w' (fun b => w.heap.size ≤ b) v (rowsT l)) (hb : Below w.heap.size w w') : Inv3 wL G vh l1 vz l2 v l w' := by
  obtain ⟨F1, F2, h1, h2, h3, h4, h5, h6, h7, h8⟩ := h
  exact ⟨F1, F2, hp_keep h1 (fun k hk => hb.block k (hp_lt h1 k hk)) hb.size, hp_keep h2 (fun k hk => hb.block k (hp_lt h2 k hk)) hb.size, h3, h4, h5,
    hr.imp fun b hb _ => ⟨fun e => by have := hp_lt h1 b e; omega, fun e => by have := hp_lt h2 b e; omega, fun e => by have := (h8 b e).2.2.1; omega⟩, h7.trans (hb.mono h7.size), fun k hk => ⟨(h8 k hk).1, (h8 k hk).2.1, Nat.lt_of_lt_of_le (h8 k hk).2.2.1 hb.size, (h8 k hk).2.2.2⟩⟩
theorem irput (x : Thg) (hn : l3.length ≤ 100000) (h : Inv3 wL G vh l1 vz l2 row l3 w) :
    Calls Try.prog 12 #[row, x.val] w fun e w' => ∃ v, e = .returned v ∧ Inv3 wL G vh l1 vz l2 v (putT l3 x) w' := by
  have h0 := h
  obtain ⟨F1, F2, h1, h2, h3, h4, h5, h6, h7, h8⟩ := h
  exact (k9put_any row l3 x _ w hn h6).mono fun e w' ⟨v, he, hr, hb, _⟩ => ⟨v, he, inv_row h0 hr hb⟩
theorem irdrop (id : Int) (hn : l3.length ≤ 100000) (h : Inv3 wL G vh l1 vz l2 row l3 w) :
    Calls Try.prog 14 #[row, .int .i64 id] w fun e w' => ∃ v, e = .returned v ∧ Inv3 wL G vh l1 vz l2 v (dropT l3 id) w' := by
  have h0 := h
  obtain ⟨F1, F2, h1, h2, h3, h4, h5, h6, h7, h8⟩ := h
  exact (k9drop_any row l3 id _ w hn h6).mono fun e w' ⟨v, he, hr, hb, _⟩ => ⟨v, he, inv_row h0 hr hb⟩
theorem irids (hn : l3.length ≤ 100000) (h : Inv3 wL G vh l1 vz l2 row l3 w) :
    Calls Try.prog 21 #[row] w fun e w' => (∃ v, e = .returned v ∧ Rd w' w'.heap.size v (ints (idsT l3))) ∧ Below w.heap.size w w' ∧ Inv3 wL G vh l1 vz l2 row l3 w' := by
  have h0 := h
  obtain ⟨F1, F2, h1, h2, h3, h4, h5, h6, h7, h8⟩ := h
  exact (k9ids_any row l3 _ w hn h6).mono fun e w' ⟨v, he, hr, hb⟩ => ⟨⟨v, he, hr⟩, hb, h0.below hb⟩
theorem Inv3.form (h : Inv3 wL G vh l1 vz l2 row l3 w) : ∃ A c, row = .slice A l3.length c ∧ l3.length ≤ c ∧ c ≤ maxLen := by
  obtain ⟨F1, F2, h1, h2, h3, h4, h5, h6, h7, h8⟩ := h
  have := h6.form
  rw [rowsT_len] at this
  exact this
theorem Inv3.ptrs (h : Inv3 wL G vh l1 vz l2 row l3 w) : (∃ b, vh = .pointer (some ⟨b, 0, none⟩)) ∧ ∃ b, vz = .pointer (some ⟨b, 0, none⟩) := by
  obtain ⟨F1, F2, h1, h2, h3, h4, h5, h6, h7, h8⟩ := h
  exact ⟨hp_ptr h1, hp_ptr h2⟩
/-- The row's first thing. -/
theorem Inv3.at_ {A : Option Addr} {n c k : Nat} (h : Inv3 wL G vh l1 vz l2 (.slice A n c) l3 w) (hk : k < l3.length) : ∃ b o, A = some ⟨b, o, none⟩ ∧ ∀ w', Below w.heap.size w w' →
    (w'.cell? ⟨b, o + k * 4, none⟩ = some (.int .i64 l3[k].id) ∧ w'.cell? ⟨b, o + k * 4 + 1, none⟩ = some (.int .i64 l3[k].key.a) ∧ w'.cell? ⟨b, o + k * 4 + 2, none⟩ = some (.int .i64 l3[k].key.b) ∧ w'.cell? ⟨b, o + k * 4 + 3, none⟩ = some (.int .i64 l3[k].key.c)) := by
  obtain ⟨F1, F2, h1, h2, h3, h4, h5, h6, h7, h8⟩ := h
  obtain ⟨b, o, hA, hb, _, hx⟩ := h6.at_ (k := k) (by rw [rowsT_len]; exact hk)
  exact ⟨b, o, hA, fun w' hw => ⟨(hw.cell (p := ⟨b, o + k * 4, none⟩) hb).trans (hx k _ (rowsT_get l3 k hk) 0 _ rfl), (hw.cell (p := ⟨b, o + k * 4 + 1, none⟩) hb).trans (hx k _ (rowsT_get l3 k hk) 1 _ rfl), (hw.cell (p := ⟨b, o + k * 4 + 2, none⟩) hb).trans (hx k _ (rowsT_get l3 k hk) 2 _ rfl), (hw.cell (p := ⟨b, o + k * 4 + 3, none⟩) hb).trans (hx k _ (rowsT_get l3 k hk) 3 _ rfl)⟩⟩
/-- The row without its first thing. -/
theorem inv_tail {A : Option Addr} {n c : Nat} (h : Inv3 wL G vh l1 vz l2 (.slice A n c) l3 w) (h0 : 0 < l3.length) : Inv3 wL G vh l1 vz l2 (sliced A 1 n c 4) l3.tail w := by
  obtain ⟨F1, F2, h1, h2, h3, h4, h5, h6, h7, h8⟩ := h
  have := h6.drop 1 (by rw [rowsT_len]; exact h0)
  rw [rowsT_drop, List.drop_one] at this
  exact ⟨F1, F2, h1, h2, h3, h4, h5, this, h7, h8⟩
end
/-- Where the i-th mark is set, the other. -/
def pk {α : Type} (m : List Bool) (i : Nat) (a b : α) : α := if m[i]? = some true then b else a
theorem pk_off {α : Type} {m : List Bool} {i : Nat} {a b : α} (h : m[i]? = some false) : pk m i a b = a := by unfold pk; rw [h]; rfl
theorem pk_on {α : Type} {m : List Bool} {i : Nat} {a b : α} (h : m[i]? = some false) : pk (m.set i true) i a b = b := by
  unfold pk
  rw [List.getElem?_set_self (List.getElem?_eq_some_iff.1 h).1]; rfl
theorem pk_far {α : Type} {m : List Bool} {i j : Nat} {a b : α} (h : i ≠ j) : pk (m.set i true) j a b = pk m j a b := by
  unfold pk
  rw [List.getElem?_set_ne h]
/-- Two calls, one on each heap, each of which may have come up. -/
def C2 (wL : World) (vh vz row : Value) (l l' : List Thg) (m : List Bool) (w : World) : Prop := Inv3 wL (fun _ => False) vh (pk m 0 l l') vz (pk m 1 l l') row l w
section
variable {wL : World} {vh vz row : Value} {l : List Thg} {w : World} {m : List Bool}
theorem c2_bel {l' : List Thg} (h : C2 wL vh vz row l l' m w) : Below wL.heap.size wL w := h.bel
theorem c2_end {l' : List Thg} (h : C2 wL vh vz row l l' [true, true] w) : Inv3 wL (fun _ => False) vh l' vz l' row l w := h
theorem c2_put_h (x : Thg) (hx : x.ok) (hn : l.length ≤ 100000) (hm : m[0]? = some false) (h : C2 wL vh vz row l (putT l x) m w) :
    Calls Try.prog 11 #[vh, .int .i64 x.id, x.key.val] w fun e w' => e = .returned (.bool (findT l x.id).isNone) ∧ C2 wL vh vz row l (putT l x) (m.set 0 true) w' := by
  unfold C2 at *
  rw [pk_off hm] at h
  rw [pk_on hm, pk_far (show 0 ≠ 1 by decide)]
  exact iput_h x hx hn h
theorem c2_put_z (x : Thg) (hx : x.ok) (hn : l.length ≤ 100000) (hm : m[1]? = some false) (h : C2 wL vh vz row l (putT l x) m w) :
    Calls Try.prog 11 #[vz, .int .i64 x.id, x.key.val] w fun e w' => e = .returned (.bool (findT l x.id).isNone) ∧ C2 wL vh vz row l (putT l x) (m.set 1 true) w' := by
  unfold C2 at *
  rw [pk_off hm] at h
  rw [pk_on hm, pk_far (show 1 ≠ 0 by decide)]
  exact iput_z x hx hn h
end
theorem find_neg (f : Option Nat) : (f = none ∧ idxI f = -1) ∨ ∃ k : Nat, f = some k ∧ idxI f = (k : Int) := by
  cases f with
  | none => exact Or.inl ⟨rfl, rfl⟩
  | some k => exact Or.inr ⟨k, rfl, rfl⟩
/-- The beginning. -/
theorem inv_start {wL w1 : World} {v : Value} {F : Nat → Prop} (h : HP F v [] w1) (hF : ∀ k, F k → wL.heap.size ≤ k) (hb : Below wL.heap.size wL w1) :
    Inv3 wL (fun _ => False) v [] (.pointer (some ⟨w1.heap.size, 0, none⟩)) [] (.slice none 0 0) [] (w1.alloc (.cells zeroH 33)) := by
  have ha : Below w1.heap.size w1 (w1.alloc (.cells zeroH 33)) := (Below.refl _ _).alloc (Nat.le_refl _) _
  refine ⟨F, _, hp_keep h (fun k hk => ha.block k (hp_lt h k hk)) ha.size, hzero_any w1, hF, fun k hk => ?_, fun k hk e => ?_, RdK.nil _ _ _, hb.trans (ha.mono hb.size), fun _ h => h.elim⟩
  · have hk : k = w1.heap.size := hk
    rw [hk]; exact hb.size
  · have e : k = w1.heap.size := e
    have := hp_lt h k hk; omega
theorem blk_three (w : World) (o1 o2 o3 : Obj) : (((w.alloc o1).alloc o2).alloc o3).heap[w.heap.size + 1]? = some o2 ∧ (((w.alloc o1).alloc o2).alloc o3).heap[w.heap.size + 1 + 1]? = some o3 := by
  have h1 := blk_new ((w.alloc o1).alloc o2) o3
  have h2 := (blk_two w o1 o2).2
  exact ⟨blk_old _ h2, by simpa using h1⟩
theorem three_below (w : World) (o1 o2 o3 : Obj) : Below w.heap.size w (((w.alloc o1).alloc o2).alloc o3) :=
  (((Below.refl w.heap.size w).alloc (Nat.le_refl _) o1).alloc (by simp) o2).alloc (by simp; omega) o3
theorem putT_len (l : List Thg) (x : Thg) : (putT l x).length ≤ l.length + 1 := by
  unfold putT
  have h1 := dropT_len l x.id
  have h2 : ((dropT l x.id).takeWhile (fun t => aheadT t x)).length + ((dropT l x.id).dropWhile (fun t => aheadT t x)).length = (dropT l x.id).length := by
    rw [← List.length_append, List.takeWhile_append_dropWhile]
  rw [List.length_append, List.length_cons]
  omega
end Go.Proofs.Ytfknmokidjgeiaa
