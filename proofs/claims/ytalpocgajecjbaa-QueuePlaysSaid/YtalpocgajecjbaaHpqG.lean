/- A heap as a whole; what New, Len, Key and Top come to. Conditions: as stated. -/
import Derived.Test.YtalpocgajecjbaaHpqF
import Derived.Laws.Tables
namespace Go.Proofs.Ytalpocgajecjbaa
open Go.ChangeShapes Go.WideShapes Go.ChangeAt Go.RowKit
set_option linter.unusedVariables false
set_option maxRecDepth 100000
set_option linter.unusedSimpArgs false
variable {X : List Value × TypeId}

/-- The map of a heap: none, or one that holds each number's place. -/
def MapV (w : World) (mv : Value) (n : Nat) (m : PosM) : Prop := (mv = .map none ∧ n = 0 ∧ ∀ id, m id = none) ∨ ∃ bm, mv = .map (some bm) ∧ PosW w bm n m
/-- The things stand in order, none twice; their numbers are such as an int holds. -/
def Sorted (l : List Thg) : Prop := l.Pairwise (fun x y => aheadT x y = true) ∧ (∀ t ∈ l, t.ok) ∧ l.Pairwise (fun x y => x.id ≠ y.id)
/-- A heap in memory: its struct's block, its row and its map. -/
structure HB (X : List Value × TypeId) (b : Nat) (sv mv : Value) (its : List Thg) (m : PosM) (w : World) : Prop where
  blk : w.heap[b]? = some (hX X sv mv)
  row : RowW w sv its
  map : MapV w mv its.length m
  ne1 : sv.ownBlock ≠ some b
  ne2 : mv ≠ .map (some b)
  ne3 : ∀ k, sv.ownBlock = some k → mv ≠ .map (some k)
  pos : MapOK m its
  heap : HeapOK its
/-- Its blocks. -/
def HF (b : Nat) (sv mv : Value) (k : Nat) : Prop := k = b ∨ sv.ownBlock = some k ∨ mv = .map (some k)
/-- The value points to a heap of the things l, the least one first; its blocks are those of F. -/
def HPX (X : List Value × TypeId) (F : Nat → Prop) (v : Value) (l : List Thg) (w : World) : Prop := ∃ b sv mv its m, v = .pointer (some ⟨b, 0, none⟩) ∧ HB X b sv mv its m w ∧ its.Perm l ∧ Sorted l ∧ ∀ k, F k ↔ HF b sv mv k
abbrev HP := HPX ([], 29)
section
variable {b : Nat} {sv mv : Value} {its : List Thg} {m : PosM} {w w' : World}
theorem rowv_keep {l : List Thg} (h : RowW w sv l) (hk : ∀ g, sv.ownBlock = some g → w'.heap[g]? = w.heap[g]?) : RowW w' sv l := by
  refine ⟨h.1, ?_⟩
  rcases h.2 with h2 | ⟨g, c, cur, hv, h0, hg, h3⟩
  · exact .inl h2
  · exact .inr ⟨g, c, cur, hv, h0, (hk g (by rw [hv]; rfl)).trans hg, h3⟩
theorem rowv_lt {l : List Thg} {g : Nat} (h : RowW w sv l) (hg : sv.ownBlock = some g) : g < w.heap.size := (h.lt g hg).2
theorem MapV.keep {n : Nat} (h : MapV w mv n m) (hk : ∀ g, mv = .map (some g) → w'.heap[g]? = w.heap[g]?) : MapV w' mv n m := by
  rcases h with h | ⟨bm, e, h⟩
  · exact .inl h
  · exact .inr ⟨bm, e, h.keep (hk bm e)⟩
theorem MapV.lt {n g : Nat} (h : MapV w mv n m) (hg : mv = .map (some g)) : g < w.heap.size := by
  rcases h with ⟨h, _⟩ | ⟨bm, e, h⟩
  · rw [h] at hg; cases hg
  · rw [e] at hg; cases hg; exact h.lt
theorem HB.lt (h : HB X b sv mv its m w) {k : Nat} (hk : HF b sv mv k) : k < w.heap.size := by
  rcases hk with rfl | hk | hk
  · exact lt_of_block h.blk
  · exact rowv_lt h.row hk
  · exact h.map.lt hk
theorem HB.keep (h : HB X b sv mv its m w) (hk : ∀ k, HF b sv mv k → w'.heap[k]? = w.heap[k]?) : HB X b sv mv its m w' :=
  ⟨(hk b (.inl rfl)).trans h.blk, rowv_keep h.row fun g hg => hk g (.inr (.inl hg)), h.map.keep fun g hg => hk g (.inr (.inr hg)), h.ne1, h.ne2, h.ne3, h.pos, h.heap⟩
theorem HB.below (h : HB X b sv mv its m w) (hb : Below w.heap.size w w') : HB X b sv mv its m w' := h.keep fun k hk => hb.block k (h.lt hk)
/-- With a thing, or a row and a map, it is as settle wants it. -/
theorem HB.full (h : HB X b sv mv its m w) (h0 : 0 < its.length) : ∃ bi cap bm, sv = .slice (some ⟨bi, 0, none⟩) its.length cap ∧ mv = .map (some bm) ∧ HS X b bi cap bm its.length its m w := by
  rcases h.row.2 with ⟨_, e⟩ | ⟨g, c, cur, hv, _⟩
  · omega
  · rcases h.map with ⟨_, e, _⟩ | ⟨bm, e, hp⟩
    · omega
    · subst hv
      subst e
      exact ⟨g, c, bm, rfl, rfl, h.blk, h.row, hp, fun e => h.ne1 (by rw [e]; rfl), fun e => h.ne2 (by rw [e]), fun e => h.ne3 g rfl (by rw [e])⟩
theorem HB.of {b bi cap bm n : Nat} {its : List Thg} (h : HS X b bi cap bm n its m w) (hn : n = its.length) (hm : MapOK m its) (hh : HeapOK its) : HB X b (.slice (some ⟨bi, 0, none⟩) its.length cap) (.map (some bm)) its m w := by
  subst hn
  exact ⟨h.blk, h.row, .inr ⟨bm, rfl, h.pos⟩, fun e => h.ne1 (by cases e; rfl), fun e => h.ne2 (by cases e; rfl), fun k hk e => h.ne3 (by cases hk; cases e; rfl), hm, hh⟩
theorem HB.form (h : HB X b sv mv its m w) : ∃ A cap, sv = .slice A its.length cap ∧ its.length ≤ cap ∧ cap ≤ maxLen ∧ ((A = none ∧ its.length = 0 ∧ cap = 0) ∨ ∃ g, A = some ⟨g, 0, none⟩) := by
  rcases h.row.2 with ⟨e, h0⟩ | ⟨g, c, cur, hv, _, _, h1, h2, _⟩
  · exact ⟨none, 0, by rw [e, h0], by omega, by unfold maxLen; omega, .inl ⟨rfl, h0, rfl⟩⟩
  · exact ⟨some ⟨g, 0, none⟩, c, hv, h1, h2, .inr ⟨g, rfl⟩⟩
end
theorem hp_keep {F : Nat → Prop} {v : Value} {l : List Thg} {w w' : World} (h : HPX X F v l w) (hk : ∀ k, F k → w'.heap[k]? = w.heap[k]?) (hs : w.heap.size ≤ w'.heap.size) : HPX X F v l w' := by
  obtain ⟨b, sv, mv, its, m, h1, h2, h3, h4, h5⟩ := h
  exact ⟨b, sv, mv, its, m, h1, h2.keep fun k hf => hk k ((h5 k).2 hf), h3, h4, h5⟩
theorem hp_lt {F : Nat → Prop} {v : Value} {l : List Thg} {w : World} (h : HPX X F v l w) : ∀ k, F k → k < w.heap.size := by
  obtain ⟨b, sv, mv, its, m, h1, h2, h3, h4, h5⟩ := h
  exact fun k hk => h2.lt ((h5 k).1 hk)
theorem hp_ptr {F : Nat → Prop} {v : Value} {l : List Thg} {w : World} (h : HPX X F v l w) : ∃ b, v = .pointer (some ⟨b, 0, none⟩) := by
  obtain ⟨b, sv, mv, its, m, h1, _⟩ := h
  exact ⟨b, h1⟩
theorem hp_sorted {F : Nat → Prop} {v : Value} {l : List Thg} {w : World} (h : HPX X F v l w) : Sorted l := by
  obtain ⟨b, sv, mv, its, m, h1, h2, h3, h4, h5⟩ := h
  exact h4
/-- What a call that may turn the heap leaves. -/
def HPostX (X : List Value × TypeId) (F : Nat → Prop) (v : Value) (l : List Thg) (w w' : World) : Prop := ∃ F', HPX X F' v l w' ∧ Turned F w w' ∧ ∀ k, F' k → F k ∨ w.heap.size ≤ k
abbrev HPost := HPostX ([], 29)
/-- The zero heap's cells. -/
def zeroH : Array Value := #[.slice none 0 0, .map none]
theorem hp_zero {w : World} {b : Nat} (h : w.heap[b]? = some (hX X (.slice none 0 0) (.map none))) : HPX X (fun k => k = b) (.pointer (some ⟨b, 0, none⟩)) [] w := by
  refine ⟨b, .slice none 0 0, .map none, [], fun _ => none, rfl, ⟨h, World.ownsRow_nil _ _ _ _, .inl ⟨rfl, rfl, fun _ => rfl⟩, by simp [Value.ownBlock], by simp, by simp [Value.ownBlock], ⟨fun j hj => absurd hj (by simp), fun _ _ => rfl⟩, fun i _ hi => absurd hi (by simp)⟩, List.Perm.refl _, ⟨List.Pairwise.nil, by simp, List.Pairwise.nil⟩, fun k => ?_⟩
  simp [HF, Value.ownBlock]
theorem hzero_any (w : World) : HP (fun k => k = w.heap.size) (.pointer (some ⟨w.heap.size, 0, none⟩)) [] (w.alloc (.cells zeroH 29)) := hp_zero (blk_new w _)
theorem hlen_b {b : Nat} {sv mv : Value} {its : List Thg} {m : PosM} (w : World) (h : HB X b sv mv its m w) :
    Calls Try.prog 24 #[.pointer (some ⟨b, 0, none⟩)] w fun e w' => e = .returned (.int .i64 its.length) ∧ w = w' := by
  obtain ⟨A, cap, rfl, _, _, _⟩ := h.form
  have c0 := blk_cell h.blk 0
  clear h
  go_enter Try.func24, Try.ntmps24
  go_wp2_with fail
  go_ret
  exact ⟨rfl, rfl⟩
theorem hlen_any (F : Nat → Prop) (v : Value) (l : List Thg) (w : World) (hn : l.length ≤ 100000) (h : HPX X F v l w) :
    Calls Try.prog 24 #[v] w fun e w' => e = .returned (.int .i64 l.length) ∧ Below w.heap.size w w' := by
  obtain ⟨b, sv, mv, its, m, rfl, h2, h3, h4, h5⟩ := h
  exact (hlen_b w h2).mono fun e w' h => ⟨by rw [h.1, h3.length_eq], by rw [← h.2]; exact Below.refl _ _⟩
theorem nlen_w (w : World) : Calls Try.prog 24 #[.pointer none] w fun e w' => e = .returned (.int .i64 0) ∧ w = w' := by
  go_enter Try.func24, Try.ntmps24
  go_wp2_with fail
  go_ret
  exact ⟨rfl, rfl⟩
theorem nlen_any (w : World) : Calls Try.prog 24 #[.pointer none] w fun e w' => e = .returned (.int .i64 0) ∧ Below w.heap.size w w' :=
  (nlen_w w).mono fun e w' h => ⟨h.1, by rw [← h.2]; exact Below.refl _ _⟩
/-! ### find -/
theorem hfind_b {b : Nat} {sv mv : Value} {its : List Thg} {m : PosM} (id : Int) (w : World) (hid : inI id) (h : HB X b sv mv its m w) :
    Calls Try.prog 26 #[.pointer (some ⟨b, 0, none⟩), .int .i64 id] w fun e w' => e = .returned (.tuple #[.int .i64 (((m id).getD 0 : Nat) : Int), .bool (m id).isSome]) ∧ w = w' := by
  rcases h.map with ⟨e, hn, hz⟩ | ⟨bm, e, hp⟩
  · subst e
    have := hfind_nomap b sv id w hid h.blk
    rw [hz id]; exact this
  · subst e
    refine hfind_map b bm its.length m sv id ((m id).getD 0) (m id).isSome w hid h.blk hp ?_
    cases m id <;> simp
theorem its_none {m : PosM} {its l : List Thg} {id : Int} (h : MapOK m its) (hp : its.Perm l) (e : m id = none) : findT l id = none := by
  rcases h.find id with ⟨_, h2⟩ | ⟨k, h1, _⟩
  · have := find_perm hp id
    rw [h2] at this
    cases hf : findT l id
    · rfl
    · rw [hf] at this; cases this
  · rw [e] at h1; cases h1
theorem its_some {m : PosM} {its l : List Thg} {id : Int} {k : Nat} (h : MapOK m its) (hp : its.Perm l) (e : m id = some k) : k < its.length ∧ (nth its k).id = id ∧ (findT l id).isSome = true := by
  rcases h.find id with ⟨h1, _⟩ | ⟨j, h1, h2, h3⟩
  · rw [e] at h1; cases h1
  · rw [e] at h1; cases h1
    refine ⟨h2, h3, ?_⟩
    rw [← find_perm hp id]
    cases hf : findT its id
    · exact absurd h3 ((find_mem its id).1 hf _ (nth_mem its k h2))
    · rfl
def topT (l : List Thg) : Value := match l with
  | [] => .tuple #[.int .i64 0, zero3.val, .bool false]
  | t :: _ => .tuple #[.int .i64 t.id, t.key.val, .bool true]
def keyT (l : List Thg) (id : Int) : V3 := match findT l id with
  | some k => ((l[k]?).map (·.key)).getD zero3
  | none => zero3
theorem keyT_mem {l : List Thg} (hu : Uniq l) {t : Thg} (ht : t ∈ l) : keyT l t.id = t.key := by
  unfold keyT
  cases hf : findT l t.id with
  | none => exact absurd rfl ((find_mem l t.id).1 hf t ht)
  | some k =>
    obtain ⟨hk, h1, h2⟩ := look_at l t.id k hf
    have := uniq_mem hu (List.getElem_mem hk) ht h1
    simp [hk, this]
theorem keyc_results2 {fn : Func} {t s : Tmp} (hr : fn.results = #[.cell t 55, .tmp s]) {tmps : Array Value} {w : World} {g : Nat} {cs : Array Value} (hg : w.heap[g]? = some (.cells cs 55 (0, 0))) (hs : cs.size = 3) (hp : tmps.getD t undef = .pointer (some ⟨g, 0, none⟩)) :
    (results fn tmps).run Try.prog w = .ok (.tuple #[.agg cs, tmps.getD s undef]) w := by
  have hl := run_loadVar_row (P := Try.prog) w g _ 55 cs (0, 0) (.array 3 3) hg (by kernel_rfl) rfl (by rw [hs]; kernel_rfl)
  have hp' : tmps[t]?.getD undef = .pointer (some ⟨g, 0, none⟩) := by simpa using hp
  simp [results, hr, hp', asAddr, hl]
theorem keyc_results3 {fn : Func} {t r s : Tmp} (hr : fn.results = #[.tmp r, .cell t 55, .tmp s]) {tmps : Array Value} {w : World} {g : Nat} {cs : Array Value} (hg : w.heap[g]? = some (.cells cs 55 (0, 0))) (hs : cs.size = 3) (hp : tmps.getD t undef = .pointer (some ⟨g, 0, none⟩)) :
    (results fn tmps).run Try.prog w = .ok (.tuple #[tmps.getD r undef, .agg cs, tmps.getD s undef]) w := by
  have hl := run_loadVar_row (P := Try.prog) w g _ 55 cs (0, 0) (.array 3 3) hg (by kernel_rfl) rfl (by rw [hs]; kernel_rfl)
  have hp' : tmps[t]?.getD undef = .pointer (some ⟨g, 0, none⟩) := by simpa using hp
  simp [results, hr, hp', asAddr, hl]
def set3 (w : World) (b : Nat) (v : V3) : World := ((w.setCell ⟨b, 0, none⟩ (.int .i64 v.a)).setCell ⟨b, 1, none⟩ (.int .i64 v.b)).setCell ⟨b, 2, none⟩ (.int .i64 v.c)
theorem set3_only (w : World) (b : Nat) (v : V3) : Only b w (set3 w b v) := (((Only.refl b w).setCell _ _).setCell _ _).setCell _ _
theorem set3_blk {w : World} {b : Nat} {u v : V3} (h : w.heap[b]? = some (.cells #[.int .i64 u.a, .int .i64 u.b, .int .i64 u.c] 55 (0, 0))) : (set3 w b v).heap[b]? = some (.cells #[.int .i64 v.a, .int .i64 v.b, .int .i64 v.c] 55 (0, 0)) :=
  blk_set (blk_set (blk_set h 0 _) 1 _) 2 _
end Go.Proofs.Ytalpocgajecjbaa
