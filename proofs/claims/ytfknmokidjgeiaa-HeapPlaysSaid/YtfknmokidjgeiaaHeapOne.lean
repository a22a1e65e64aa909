/- One heap in a memory, beside blocks of the law's own: what each call leaves of it. Conditions: as stated. -/
import Derived.Test.YtfknmokidjgeiaaHeapInv
import Derived.Test.YtfknmokidjgeiaaThgMore
namespace Go.Proofs.Ytfknmokidjgeiaa
open Go.ChangeShapes Go.WideShapes Go.ChangeAt Go.RowKit
set_option linter.unusedVariables false
set_option maxRecDepth 100000

/-- A heap made behind wL; the blocks G are the law's own. -/
def Inv1 (wL : World) (G : Nat → Prop) (v : Value) (l : List Thg) (w : World) : Prop :=
  ∃ F : Nat → Prop, HP F v l w ∧ (∀ k, F k → wL.heap.size ≤ k) ∧ Below wL.heap.size wL w ∧ (∀ k, G k → ¬ F k ∧ k < w.heap.size ∧ wL.heap.size ≤ k)
/-- The law's own blocks stay. -/
def Stay (G : Nat → Prop) (w w' : World) : Prop := ∀ k, G k → w'.heap[k]? = w.heap[k]?
section
variable {wL : World} {G : Nat → Prop} {v : Value} {l : List Thg} {w w' : World}
theorem Inv1.bel (h : Inv1 wL G v l w) : Below wL.heap.size wL w := by obtain ⟨F, _, _, h, _⟩ := h; exact h
theorem Inv1.ptr (h : Inv1 wL G v l w) : ∃ b, v = .pointer (some ⟨b, 0, none⟩) := by obtain ⟨F, h, _⟩ := h; exact hp_ptr h
theorem Inv1.sorted (h : Inv1 wL G v l w) : Sorted l := by obtain ⟨F, h, _⟩ := h; exact hp_sorted h
theorem Inv1.below (h : Inv1 wL G v l w) (hb : Below w.heap.size w w') : Inv1 wL G v l w' := by
  obtain ⟨F, h1, h2, h3, h4⟩ := h
  exact ⟨F, hp_keep h1 (fun k hk => hb.block k (hp_lt h1 k hk)) hb.size, h2, h3.trans (hb.mono h3.size), fun k hk => ⟨(h4 k hk).1, Nat.lt_of_lt_of_le (h4 k hk).2.1 hb.size, (h4 k hk).2.2⟩⟩
theorem Inv1.stay (h : Inv1 wL G v l w) (hb : Below w.heap.size w w') : Stay G w w' := by
  obtain ⟨F, h1, h2, h3, h4⟩ := h
  exact fun k hk => hb.block k (h4 k hk).2.1
theorem Inv1.box (h : Inv1 wL G v l w) (o : Obj) : Inv1 wL (fun k => G k ∨ k = w.heap.size) v l (w.alloc o) := by
  have ha : Below w.heap.size w (w.alloc o) := (Below.refl _ _).alloc (Nat.le_refl _) _
  obtain ⟨F, h1, h2, h3, h4⟩ := h
  refine ⟨F, hp_keep h1 (fun k hk => ha.block k (hp_lt h1 k hk)) ha.size, h2, h3.trans (ha.mono h3.size), fun k hk => ?_⟩
  rcases hk with hk | rfl
  · exact ⟨(h4 k hk).1, Nat.lt_of_lt_of_le (h4 k hk).2.1 ha.size, (h4 k hk).2.2⟩
  · exact ⟨fun e => Nat.lt_irrefl _ (hp_lt h1 _ e), by simp, h3.size⟩
theorem Inv1.less {G' : Nat → Prop} (h : Inv1 wL G v l w) (hG : ∀ k, G' k → G k) : Inv1 wL G' v l w := by
  obtain ⟨F, h1, h2, h3, h4⟩ := h
  exact ⟨F, h1, h2, h3, fun k hk => h4 k (hG k hk)⟩
theorem Inv1.write {b : Nat} (h : Inv1 wL G v l w) (hb : G b) (i : Nat) (x : Value) : Inv1 wL G v l (w.setCell ⟨b, i, none⟩ x) := by
  obtain ⟨F, h1, h2, h3, h4⟩ := h
  have hs : (w.setCell ⟨b, i, none⟩ x).heap.size = w.heap.size := by simp [World.setCell]
  exact ⟨F, hp_keep h1 (fun k hf => Below.heap_setCell _ _ _ _ (fun e => (h4 b hb).1 (by rw [← show k = b from e]; exact hf))) (by rw [hs]; exact Nat.le_refl _), h2, h3.setCell (p := ⟨b, i, none⟩) (h4 b hb).2.2 x, fun k hk => by rw [hs]; exact h4 k hk⟩
theorem inv1_turn {F : Nat → Prop} {l' : List Thg} (h2 : ∀ k, F k → wL.heap.size ≤ k) (h3 : Below wL.heap.size wL w) (h4 : ∀ k, G k → ¬ F k ∧ k < w.heap.size ∧ wL.heap.size ≤ k) (hp : HPost F v l' w w') : Inv1 wL G v l' w' ∧ Stay G w w' := by
  obtain ⟨F', p1, p2, p3⟩ := hp
  refine ⟨⟨F', p1, fun k hk => ?_, h3.trans (p2.below h2 h3.size), fun k hk => ⟨fun e => ?_, Nat.lt_of_lt_of_le (h4 k hk).2.1 p2.size, (h4 k hk).2.2⟩⟩, fun k hk => p2.block k (h4 k hk).2.1 (h4 k hk).1⟩
  · rcases p3 k hk with e | e
    · exact h2 k e
    · exact Nat.le_trans h3.size e
  · rcases p3 k e with e | e
    · exact (h4 k hk).1 e
    · have := (h4 k hk).2.1; omega
theorem oput (x : Thg) (hx : x.ok) (hn : l.length ≤ 100000) (h : Inv1 wL G v l w) :
    Calls Try.prog 11 #[v, .int .i64 x.id, x.key.val] w fun e w' => e = .returned (.bool (findT l x.id).isNone) ∧ Inv1 wL G v (putT l x) w' ∧ Stay G w w' := by
  obtain ⟨F, h1, h2, h3, h4⟩ := h
  exact (hput_any F v l x w hx hn h1).mono fun e w' ⟨he, hp⟩ => ⟨he, inv1_turn h2 h3 h4 hp⟩
theorem odrop (id : Int) (hid : inI id) (hn : l.length ≤ 100000) (h : Inv1 wL G v l w) :
    Calls Try.prog 13 #[v, .int .i64 id] w fun e w' => e = .returned (.bool (findT l id).isSome) ∧ Inv1 wL G v (dropT l id) w' ∧ Stay G w w' := by
  obtain ⟨F, h1, h2, h3, h4⟩ := h
  exact (hdrop_any F v l id w hid hn h1).mono fun e w' ⟨he, hp⟩ => ⟨he, inv1_turn h2 h3 h4 hp⟩
theorem otake (hn : l.length ≤ 100000) (h : Inv1 wL G v l w) :
    Calls Try.prog 16 #[v] w fun e w' => e = .returned (topT l) ∧ Inv1 wL G v l.tail w' ∧ Stay G w w' := by
  obtain ⟨F, h1, h2, h3, h4⟩ := h
  exact (htake_any F v l w hn h1).mono fun e w' ⟨he, hp⟩ => ⟨he, inv1_turn h2 h3 h4 hp⟩
theorem otop (hn : l.length ≤ 100000) (h : Inv1 wL G v l w) :
    Calls Try.prog 15 #[v] w fun e w' => e = .returned (topT l) ∧ Below w.heap.size w w' := by
  obtain ⟨F, h1, h2, h3, h4⟩ := h
  exact htop_any F v l w hn h1
theorem okey (id : Int) (hid : inI id) (hn : l.length ≤ 100000) (h : Inv1 wL G v l w) :
    Calls Try.prog 17 #[v, .int .i64 id] w fun e w' => e = .returned (.tuple #[(keyT l id).val, .bool (findT l id).isSome]) ∧ Below w.heap.size w w' := by
  obtain ⟨F, h1, h2, h3, h4⟩ := h
  exact hkey_any F v l id w hid hn h1
theorem olen (hn : l.length ≤ 100000) (h : Inv1 wL G v l w) :
    Calls Try.prog 18 #[v] w fun e w' => e = .returned (.int .i64 l.length) ∧ Below w.heap.size w w' := by
  obtain ⟨F, h1, h2, h3, h4⟩ := h
  exact hlen_any F v l w hn h1
theorem oall (hn : l.length ≤ 100000) (h : Inv1 wL G v l w) :
    Calls Try.prog 20 #[v] w (IntsN (idsT l) w) := by
  obtain ⟨F, h1, h2, h3, h4⟩ := h
  exact hall_any F v l w hn h1
theorem one_start {F : Nat → Prop} (h : HP F v [] w) (hF : ∀ k, F k → wL.heap.size ≤ k) (hb : Below wL.heap.size wL w) : Inv1 wL (fun _ => False) v [] w := ⟨F, h, hF, hb, fun _ h => h.elim⟩
end
/-- The least thing, by the law's own function. -/
theorem topof_any (F : Nat → Prop) (v : Value) (t : Thg) (r : List Thg) (w : World) (hn : (t :: r).length ≤ 100000) (h : HP F v (t :: r) w) :
    Calls Try.prog 22 #[v] w fun e w' => e = .returned (.int .i64 t.id) ∧ Below w.heap.size w w' := by
  obtain ⟨b, hb⟩ := hp_ptr h
  have T1 := htop_any F v (t :: r) w hn h
  unfold topT V3.val at T1
  subst hb
  replace T1 := Lib.hid T1
  go_enter Try.func22, Try.ntmps22
  go_wp2_with fail
  refine T1.out.mono ?_; rintro e w1 ⟨rfl, b1⟩
  have HB := Lib.hid b1
  clear b1
  go_wp2_with fail
  go_ret
  first
  | exact ⟨rfl, HB.out⟩
  | exact ⟨rfl, HB.out.alloc HB.out.size _⟩
theorem otopof {wL : World} {G : Nat → Prop} {v : Value} {t : Thg} {r : List Thg} {w : World} (hn : (t :: r).length ≤ 100000) (h : Inv1 wL G v (t :: r) w) :
    Calls Try.prog 22 #[v] w fun e w' => e = .returned (.int .i64 t.id) ∧ Below w.heap.size w w' := by
  obtain ⟨F, h1, h2, h3, h4⟩ := h
  exact topof_any F v t r w hn h1
theorem keyT_head (t : Thg) (r : List Thg) : keyT (t :: r) t.id = t.key := by unfold keyT; rw [find_head]; rfl
theorem keyT_none (l : List Thg) (id : Int) (h : findT l id = none) : keyT l id = zero3 := by unfold keyT; rw [h]
theorem sorted_uniq {l : List Thg} (h : Sorted l) : Uniq l := h.2.2
theorem sorted_head {t : Thg} {r : List Thg} (h : Sorted (t :: r)) : (∀ x ∈ r, aheadT t x = true) ∧ t.ok ∧ Sorted r := by
  obtain ⟨h1, h2, h3⟩ := h
  exact ⟨fun x hx => (List.pairwise_cons.1 h1).1 x hx, h2 t (by simp), (List.pairwise_cons.1 h1).2, fun x hx => h2 x (by simp [hx]), (List.pairwise_cons.1 h3).2⟩
theorem thg_zero_ok : (⟨0, zero3⟩ : Thg).ok := by unfold Thg.ok V3.ok inI zero3; decide
theorem kb_cells {b : Nat} {v : V3} {w : World} (h : w.heap[b]? = some (.cells #[.int .i64 v.a, .int .i64 v.b, .int .i64 v.c] 24 (0, 0))) : w.cell? ⟨b, 0, none⟩ = some (.int .i64 v.a) ∧ w.cell? ⟨b, 1, none⟩ = some (.int .i64 v.b) ∧ w.cell? ⟨b, 2, none⟩ = some (.int .i64 v.c) := ⟨blk_cell h 0, blk_cell h 1, blk_cell h 2⟩
theorem kb_free {b : Nat} {cs : Array Value} {t : TypeId} {w : World} (h : w.heap[b]? = some (.cells cs t (0, 0))) : w.frozen? ⟨b, 0, none⟩ = false ∧ w.frozen? ⟨b, 1, none⟩ = false ∧ w.frozen? ⟨b, 2, none⟩ = false := ⟨blk_free h 0, blk_free h 1, blk_free h 2⟩
def setK (w : World) (b : Nat) (v : V3) : World := ((w.setCell ⟨b, 0, none⟩ (.int .i64 v.a)).setCell ⟨b, 1, none⟩ (.int .i64 v.b)).setCell ⟨b, 2, none⟩ (.int .i64 v.c)
theorem setK_blk {b : Nat} {u v : V3} {w : World} (h : w.heap[b]? = some (.cells #[.int .i64 u.a, .int .i64 u.b, .int .i64 u.c] 24 (0, 0))) : (setK w b v).heap[b]? = some (.cells #[.int .i64 v.a, .int .i64 v.b, .int .i64 v.c] 24 (0, 0)) :=
  blk_set (blk_set (blk_set h 0 (.int .i64 v.a)) 1 (.int .i64 v.b)) 2 (.int .i64 v.c)
theorem Inv1.setK {wL w : World} {G : Nat → Prop} {v : Value} {l : List Thg} {b : Nat} (h : Inv1 wL G v l w) (hb : G b) (x : V3) : Inv1 wL G v l (setK w b x) :=
  ((h.write hb 0 _).write hb 1 _).write hb 2 _
/-- What comes behind is not ahead. -/
theorem ahead_not {p t : Thg} (h : aheadT p t = true) : lessB t.key p.key = false ∧ (eq3 t.key p.key = true → ¬ t.id ≤ p.id) := by
  unfold aheadT at h
  rw [Bool.or_eq_true, Bool.and_eq_true] at h
  have heq : ∀ a b : V3, eq3 a b = true ↔ a = b := fun a b => by
    unfold eq3; cases a; cases b; simp
  rcases h with h | ⟨h1, h2⟩
  · have hne : t.key ≠ p.key := fun e => by rw [e, lessB_self] at h; cases h
    refine ⟨?_, fun e => absurd ((heq _ _).1 e) hne⟩
    have := lessB_other t.key p.key hne
    rw [this, h]; rfl
  · have e := (heq _ _).1 h1
    refine ⟨by rw [e]; exact lessB_self _, fun _ => ?_⟩
    have : p.id < t.id := by simpa using h2
    omega
end Go.Proofs.Ytfknmokidjgeiaa
