/- Two heaps that were made one behind the other; what is put elsewhere stays as it was. Conditions: as stated. -/
import Derived.Test.YtfknmokidjgeiaaHeapOne
import Derived.Test.YtfknmokidjgeiaaHoldX
namespace Go.Proofs.Ytfknmokidjgeiaa
open Go.ChangeShapes Go.WideShapes Go.ChangeAt Go.RowKit
set_option linter.unusedVariables false
set_option maxRecDepth 100000

theorem keyT_look (l : List Thg) (id : Int) : keyT l id = (lookT l id).getD zero3 := by
  unfold keyT
  cases h : findT l id with
  | none => rw [look_none l id h]; rfl
  | some k =>
    obtain ⟨hk, _, h2⟩ := look_at l id k h
    rw [h2]
    simp [hk]
theorem mem_find (l : List Thg) (j : Int) (h : j ∈ idsT l) : (findT l j).isSome = true := by
  cases hf : findT l j with
  | some k => rfl
  | none =>
    obtain ⟨t, ht, he⟩ := List.mem_map.1 h
    exact absurd he ((find_mem l j).1 hf t ht)
/-- What is put, or let go of, elsewhere. -/
theorem apart_key (l : List Thg) (x : Thg) (j : Int) (hj : j ∈ idsT (putT l x)) (hne : j ≠ x.id) :
    keyT (dropT l x.id) j = keyT (putT l x) j ∧ (findT (putT l x) j).isSome = true ∧ (findT (dropT l x.id) j).isSome = true := by
  have h1 := mem_find _ j hj
  have e1 := look_put l x j
  have e2 := look_drop l x.id j
  rw [if_neg hne] at e1 e2
  refine ⟨by rw [keyT_look, keyT_look, e1, e2], h1, ?_⟩
  rw [look_find] at h1 ⊢
  rw [e2, ← e1]; exact h1
theorem put_key (l : List Thg) (x : Thg) : keyT (putT l x) x.id = x.key ∧ (findT (putT l x) x.id).isSome = true := by
  have e1 := look_put l x x.id
  rw [if_pos rfl] at e1
  exact ⟨by rw [keyT_look, e1]; rfl, by rw [look_find, e1]; rfl⟩
theorem rest_ids (l : List Thg) (x : Thg) : (idsT (putT l x)).filter (· != x.id) = idsT (dropT l x.id) := by
  rw [← ids_drop, drop_put]
theorem idsT_len (l : List Thg) : (idsT l).length = l.length := by simp [idsT]
theorem filter_next (l : List Int) (id : Int) (k : Nat) (h : k < l.length) : (l.take (k + 1)).filter (· != id) = (l.take k).filter (· != id) ++ if l[k] = id then [] else [l[k]] := by
  rw [List.take_succ_eq_append_getElem h, List.filter_append]
  by_cases hid : l[k] = id
  · simp [hid]
  · simp [hid]
section
variable {wL : World} {G : Nat → Prop} {vh vz row : Value} {l1 l2 l3 : List Thg} {w w' : World}
theorem two_start {w1 w2 : World} {F1 F2 : Nat → Prop} (h1 : HP F1 vh [] w1) (hF1 : ∀ k, F1 k → wL.heap.size ≤ k) (hb1 : Below wL.heap.size wL w1) (h2 : HP F2 vz [] w2) (hF2 : ∀ k, F2 k → w1.heap.size ≤ k) (hb2 : Below w1.heap.size w1 w2) :
    Inv3 wL (fun _ => False) vh [] vz [] (.slice none 0 0) [] w2 :=
  ⟨F1, F2, hp_keep h1 (fun k hk => hb2.block k (hp_lt h1 k hk)) hb2.size, h2, hF1, fun k hk => Nat.le_trans hb1.size (hF2 k hk), fun k hk e => by have := hp_lt h1 k hk; have := hF2 k e; omega, RdK.nil _ _ _, hb1.trans (hb2.mono hb1.size), fun _ h => h.elim⟩
theorem inv_ids_in (h : Inv3 wL G vh l1 vz l2 row l3 w) : ∀ j ∈ idsT l1, inI j := by
  obtain ⟨F1, F2, h1, h2, h3, h4, h5, h6, h7, h8⟩ := h
  intro j hj
  obtain ⟨t, ht, rfl⟩ := List.mem_map.1 hj
  exact ((hp_sorted h1).2.1 t ht).1
theorem bkey_h (id : Int) (hid : inI id) (hn : l1.length ≤ 100000) (h : Inv3 wL G vh l1 vz l2 row l3 w) :
    Calls Try.prog 17 #[vh, .int .i64 id] w fun e w' => e = .returned (.tuple #[(keyT l1 id).val, .bool (findT l1 id).isSome]) ∧ Below w.heap.size w w' := by
  obtain ⟨F1, F2, h1, h2, h3, h4, h5, h6, h7, h8⟩ := h
  exact hkey_any F1 vh l1 id w hid hn h1
theorem bkey_z (id : Int) (hid : inI id) (hn : l2.length ≤ 100000) (h : Inv3 wL G vh l1 vz l2 row l3 w) :
    Calls Try.prog 17 #[vz, .int .i64 id] w fun e w' => e = .returned (.tuple #[(keyT l2 id).val, .bool (findT l2 id).isSome]) ∧ Below w.heap.size w w' := by
  obtain ⟨F1, F2, h1, h2, h3, h4, h5, h6, h7, h8⟩ := h
  exact hkey_any F2 vz l2 id w hid hn h2
theorem blen_h (hn : l1.length ≤ 100000) (h : Inv3 wL G vh l1 vz l2 row l3 w) :
    Calls Try.prog 18 #[vh] w fun e w' => e = .returned (.int .i64 l1.length) ∧ Below w.heap.size w w' := by
  obtain ⟨F1, F2, h1, h2, h3, h4, h5, h6, h7, h8⟩ := h
  exact hlen_any F1 vh l1 w hn h1
theorem blen_z (hn : l2.length ≤ 100000) (h : Inv3 wL G vh l1 vz l2 row l3 w) :
    Calls Try.prog 18 #[vz] w fun e w' => e = .returned (.int .i64 l2.length) ∧ Below w.heap.size w w' := by
  obtain ⟨F1, F2, h1, h2, h3, h4, h5, h6, h7, h8⟩ := h
  exact hlen_any F2 vz l2 w hn h2
theorem ball_h (hn : l1.length ≤ 100000) (h : Inv3 wL G vh l1 vz l2 row l3 w) :
    Calls Try.prog 20 #[vh] w (IntsN (idsT l1) w) := by
  obtain ⟨F1, F2, h1, h2, h3, h4, h5, h6, h7, h8⟩ := h
  exact hall_any F1 vh l1 w hn h1
theorem ball_z (hn : l2.length ≤ 100000) (h : Inv3 wL G vh l1 vz l2 row l3 w) :
    Calls Try.prog 20 #[vz] w (IntsN (idsT l2) w) := by
  obtain ⟨F1, F2, h1, h2, h3, h4, h5, h6, h7, h8⟩ := h
  exact hall_any F2 vz l2 w hn h2
/-- The row's first thing. -/
theorem inv_head {A : Option Addr} {n c : Nat} {t : Thg} {r : List Thg} (h : Inv3 wL G vh l1 vz l2 (.slice A n c) (t :: r) w) : ∃ b o, A = some ⟨b, o, none⟩ ∧ ∀ w', Below w.heap.size w w' →
    (w'.cell? ⟨b, o, none⟩ = some (.int .i64 t.id) ∧ w'.cell? ⟨b, o + 1, none⟩ = some (.int .i64 t.key.a) ∧ w'.cell? ⟨b, o + 1 + 1, none⟩ = some (.int .i64 t.key.b) ∧ w'.cell? ⟨b, o + 1 + 2, none⟩ = some (.int .i64 t.key.c)) := by
  obtain ⟨b, o, hA, hx⟩ := h.at_ (k := 0) (by simp)
  refine ⟨b, o, hA, fun w' hw => ?_⟩
  have := hx w' hw
  simpa using this
/-- A key of the row. -/
theorem inv_key {A : Option Addr} {n c k : Nat} (h : Inv3 wL G vh l1 vz l2 (.slice A n c) l3 w) (hk : k < l3.length) : ∃ b o, A = some ⟨b, o, none⟩ ∧ ∀ w', Below w.heap.size w w' →
    (w'.cell? ⟨b, o + k * 4 + 1, none⟩ = some (.int .i64 l3[k].key.a) ∧ w'.cell? ⟨b, o + k * 4 + 1 + 1, none⟩ = some (.int .i64 l3[k].key.b) ∧ w'.cell? ⟨b, o + k * 4 + 1 + 2, none⟩ = some (.int .i64 l3[k].key.c)) := by
  obtain ⟨b, o, hA, hx⟩ := h.at_ hk
  exact ⟨b, o, hA, fun w' hw => ⟨(hx w' hw).2.1, (hx w' hw).2.2.1, (hx w' hw).2.2.2⟩⟩
theorem stay_take_h (hn : l1.length ≤ 100000) (h : Inv3 wL G vh l1 vz l2 row l3 w) :
    Calls Try.prog 16 #[vh] w fun e w' => e = .returned (topT l1) ∧ Inv3 wL G vh l1.tail vz l2 row l3 w' ∧ Stay G w w' := by
  obtain ⟨F1, F2, h1, h2, h3, h4, h5, h6, h7, h8⟩ := h
  exact (htake_any F1 vh l1 w hn h1).mono fun e w' ⟨he, hp⟩ => ⟨he, inv_turn1 h2 h3 h4 h5 h6 h7 h8 hp, fun k hk => by obtain ⟨F', p1, p2, p3⟩ := hp; exact p2.block k (h8 k hk).2.2.1 (h8 k hk).1⟩
theorem stay_take_z (hn : l2.length ≤ 100000) (h : Inv3 wL G vh l1 vz l2 row l3 w) :
    Calls Try.prog 16 #[vz] w fun e w' => e = .returned (topT l2) ∧ Inv3 wL G vh l1 vz l2.tail row l3 w' ∧ Stay G w w' := by
  obtain ⟨F1, F2, h1, h2, h3, h4, h5, h6, h7, h8⟩ := h
  exact (htake_any F2 vz l2 w hn h2).mono fun e w' ⟨he, hp⟩ => ⟨he, inv_turn2 h1 h3 h4 h5 h6 h7 h8 hp, fun k hk => by obtain ⟨F', p1, p2, p3⟩ := hp; exact p2.block k (h8 k hk).2.2.1 (h8 k hk).2.1⟩
theorem Inv3.setK {b : Nat} (h : Inv3 wL G vh l1 vz l2 row l3 w) (hb : G b) (x : V3) : Inv3 wL G vh l1 vz l2 row l3 (setK w b x) :=
  ((h.write hb 0 _).write hb 1 _).write hb 2 _
theorem bids (hn : l3.length ≤ 100000) (h : Inv3 wL G vh l1 vz l2 row l3 w) :
    Calls Try.prog 21 #[row] w fun e w' => ∃ v, e = .returned v ∧ Rd w' w'.heap.size v (ints (idsT l3)) ∧ Below w.heap.size w w' :=
  (irids hn h).mono fun e w' ⟨⟨v, he, hr⟩, hb, _⟩ => ⟨v, he, hr, hb⟩
theorem Inv3.sorted1 (h : Inv3 wL G vh l1 vz l2 row l3 w) : Sorted l1 := by
  obtain ⟨F1, F2, h1, h2, h3, h4, h5, h6, h7, h8⟩ := h
  exact hp_sorted h1
end
theorem kept_below (W : World) : Kept (fun w => Below W.heap.size W w) := fun w w' h hb => h.trans (hb.mono h.size)
theorem kept_rd (v : Value) (xs : List Value) : Kept (fun w => Rd w w.heap.size v xs) := fun w w' h hb => (h.below hb).more hb.size
theorem keyT_some (l : List Thg) (id : Int) (k : Nat) (h : findT l id = some k) : ∃ hk : k < l.length, keyT l id = l[k].key := by
  obtain ⟨hk, _, h2⟩ := look_at l id k h
  exact ⟨hk, by rw [keyT_look, h2]; rfl⟩
theorem isame_below (v1 v2 : Value) (ns : List Int) (B : Nat) (w : World) (hn : ns.length ≤ 1000000) (h1 : Rd w B v1 (ints ns)) (h2 : Rd w B v2 (ints ns)) :
    Calls Try.prog 19 #[v1, v2] w fun e w' => e = .returned (.bool true) ∧ Below w.heap.size w w' :=
  (isame_true v1 v2 ns B w hn h1 h2).mono fun e w' ⟨he, n, hw⟩ => ⟨he, by subst hw; exact ⟨rfl, rfl, rfl, Nat.le_refl _, fun _ _ => rfl⟩⟩
end Go.Proofs.Ytfknmokidjgeiaa
