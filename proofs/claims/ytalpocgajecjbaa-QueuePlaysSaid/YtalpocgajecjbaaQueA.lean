/- A queue in memory: its heap, and the map of its jobs beside it. Conditions: as stated. -/
import Derived.Test.YtalpocgajecjbaaMapF
import Derived.Test.YtalpocgajecjbaaQuePlain
import Derived.Test.YtalpocgajecjbaaHpqJ
import Derived.Test.YtalpocgajecjbaaJbR
namespace Go.Proofs.Ytalpocgajecjbaa
open Go.ChangeShapes Go.WideShapes Go.ChangeAt Go.RowKit
set_option linter.unusedVariables false
set_option maxRecDepth 100000
set_option linter.unusedSimpArgs false

theorem jval_inj : InjV Jb.val := fun x y h => by
  cases x with | mk a1 a2 a3 a4 a5 v =>
  cases y with | mk b1 b2 b3 b4 b5 u =>
  cases v; cases u
  simp [Jb.val] at h
  simp [h]
/-- A map of jobs. -/
abbrev MapJ (w : World) (bm n : Nat) (f : Int → Option Jb) : Prop := MapF Try.prog 3 Jb.val zeroJ w bm n f
theorem zeroV_job (w : World) : (zeroValue 37).run Try.prog w = .ok (Jb.val zeroJ) w := by kernel_rfl
/-- The map of a queue's jobs: none, or one of just those jobs. -/
def JMap (w : World) (mv : Value) (l : List Jb) : Prop := (mv = .map none ∧ l = []) ∨ ∃ bj, mv = .map (some bj) ∧ MapJ w bj l.length (getJ l)
abbrev XQ (mv : Value) : List Value × TypeId := ([mv], 32)
/-- The value points to a queue of the jobs l, the first one first; its blocks are those of F. -/
def QP (F : Nat → Prop) (v : Value) (l : List Jb) (w : World) : Prop := ∃ b mv F1, v = .pointer (some ⟨b, 0, none⟩) ∧ HPX (XQ mv) F1 (.pointer (some ⟨b, 0, none⟩)) (thgs l) w ∧ JMap w mv l ∧ (∀ k, mv = .map (some k) → ¬ F1 k) ∧ SortedJ l ∧ ∀ k, F k ↔ (F1 k ∨ mv = .map (some k))
/-- What a call that may turn the queue leaves. -/
def QPost (F : Nat → Prop) (v : Value) (l : List Jb) (w w' : World) : Prop := ∃ F', QP F' v l w' ∧ Turned F w w' ∧ ∀ k, F' k → F k ∨ w.heap.size ≤ k
theorem JMap.keep {w w' : World} {mv : Value} {l : List Jb} (h : JMap w mv l) (hk : ∀ g, mv = .map (some g) → w'.heap[g]? = w.heap[g]?) : JMap w' mv l := by
  rcases h with h | ⟨bj, e, h⟩
  · exact .inl h
  · exact .inr ⟨bj, e, h.keep (hk bj e)⟩
theorem JMap.lt {w : World} {mv : Value} {l : List Jb} {g : Nat} (h : JMap w mv l) (hg : mv = .map (some g)) : g < w.heap.size := by
  rcases h with ⟨h, _⟩ | ⟨bj, e, h⟩
  · rw [h] at hg; cases hg
  · rw [e] at hg; cases hg; exact h.lt
section
variable {F : Nat → Prop} {v : Value} {l : List Jb} {w w' : World}
theorem qp_keep (h : QP F v l w) (hk : ∀ k, F k → w'.heap[k]? = w.heap[k]?) (hs : w.heap.size ≤ w'.heap.size) : QP F v l w' := by
  obtain ⟨b, mv, F1, h1, h2, h3, h4, h5, h6⟩ := h
  exact ⟨b, mv, F1, h1, hp_keep h2 (fun k hf => hk k ((h6 k).2 (.inl hf))) hs, h3.keep fun g hg => hk g ((h6 g).2 (.inr hg)), h4, h5, h6⟩
theorem qp_lt (h : QP F v l w) : ∀ k, F k → k < w.heap.size := by
  obtain ⟨b, mv, F1, h1, h2, h3, h4, h5, h6⟩ := h
  intro k hk
  rcases (h6 k).1 hk with hk | hk
  · exact hp_lt h2 k hk
  · exact h3.lt hk
theorem qp_ptr (h : QP F v l w) : ∃ b, v = .pointer (some ⟨b, 0, none⟩) := by
  obtain ⟨b, mv, F1, h1, _⟩ := h
  exact ⟨b, h1⟩
theorem qp_sorted (h : QP F v l w) : SortedJ l := by
  obtain ⟨b, mv, F1, h1, h2, h3, h4, h5, h6⟩ := h
  exact h5
theorem qp_below (h : QP F v l w) (hb : Below w.heap.size w w') : QP F v l w' := qp_keep h (fun k hk => hb.block k (qp_lt h k hk)) hb.size
theorem qpost_same (h : QP F v l w) (hb : Below w.heap.size w w') : QPost F v l w w' := ⟨F, qp_below h hb, Turned.of hb, fun k hk => .inl hk⟩
theorem qpost_below {w2 : World} (h : QPost F v l w w') (hb : Below w'.heap.size w' w2) : QPost F v l w w2 := by
  obtain ⟨F', h1, h2, h3⟩ := h
  exact ⟨F', qp_below h1 hb, h2.trans (G := fun _ => False) (Turned.of hb) (fun _ f => f.elim), h3⟩
end
/-! ### The block -/
section
variable {X : List Value × TypeId} {F : Nat → Prop} {b : Nat} {l : List Thg} {w w' : World}
theorem hpx_blk (h : HPX X F (.pointer (some ⟨b, 0, none⟩)) l w) : F b ∧ ∃ sv mv, w.heap[b]? = some (hX X sv mv) := by
  obtain ⟨b', sv, mv, its, m, h1, h2, h3, h4, h5⟩ := h
  cases h1
  exact ⟨(h5 b).2 (.inl rfl), sv, mv, h2.blk⟩
theorem hpx_third {mv : Value} {T : TypeId} (h : HPX ([mv], T) F (.pointer (some ⟨b, 0, none⟩)) l w) : w.cell? ⟨b, 2, none⟩ = some mv ∧ w.frozen? ⟨b, 2, none⟩ = false := by
  obtain ⟨_, sv, m, h⟩ := hpx_blk h
  exact ⟨blk_cell h 2, blk_free h 2⟩
/-- What else the struct has is written. -/
theorem hpx_set {mv u : Value} {T : TypeId} (h : HPX ([mv], T) F (.pointer (some ⟨b, 0, none⟩)) l w) : HPX ([u], T) F (.pointer (some ⟨b, 0, none⟩)) l (w.setCell ⟨b, 2, none⟩ u) := by
  obtain ⟨b', sv, mp, its, m, h1, h2, h3, h4, h5⟩ := h
  cases h1
  have hk : ∀ k, k ≠ b → (w.setCell ⟨b, 2, none⟩ u).heap[k]? = w.heap[k]? := fun k hk => Below.heap_setCell _ _ _ _ hk
  have hb : (w.setCell ⟨b, 2, none⟩ u).heap[b]? = some (hX ([u], T) sv mp) := by
    have := blk_set h2.blk 2 u
    simpa [hX] using this
  exact ⟨b, sv, mp, its, m, rfl, ⟨hb, rowv_keep h2.row fun g hg => hk g (fun e => h2.ne1 (by rw [hg, e])), h2.map.keep fun g hg => hk g (fun e => h2.ne2 (by rw [hg, e])), h2.ne1, h2.ne2, h2.ne3, h2.pos, h2.heap⟩, h3, h4, h5⟩
theorem hpx_zero {T : TypeId} {us : List Value} (h : w.heap[b]? = some (hX (us, T) (.slice none 0 0) (.map none))) : HPX (us, T) (fun k => k = b) (.pointer (some ⟨b, 0, none⟩)) [] w := hp_zero h
end
/-- The zero queue's cells. -/
def zeroQ : Array Value := #[.slice none 0 0, .map none, .map none]
theorem qp_zero {w : World} {b : Nat} (h : w.heap[b]? = some (.cells zeroQ 32 (0, 0))) : QP (fun k => k = b) (.pointer (some ⟨b, 0, none⟩)) [] w :=
  ⟨b, .map none, fun k => k = b, rfl, hpx_zero (us := [.map none]) h, .inl ⟨rfl, rfl⟩, fun k e => (by cases e), ⟨List.Pairwise.nil, by simp, List.Pairwise.nil⟩, fun k => by simp⟩
theorem qzero_any (w : World) : QP (fun k => k = w.heap.size) (.pointer (some ⟨w.heap.size, 0, none⟩)) [] (w.alloc (.cells zeroQ 32)) := qp_zero (blk_new w _)
theorem qnew_any (w : World) : Calls Try.prog 6 #[] w fun e w' => ∃ v F, e = .returned v ∧ QP F v [] w' ∧ (∀ k, F k → w.heap.size ≤ k) ∧ Below w.heap.size w w' := by
  have h : Calls Try.prog 6 #[] w fun e w' => e = .returned (.pointer (some ⟨w.heap.size, 0, none⟩)) ∧ w.alloc (.cells zeroQ 32) = w' := by
    unfold zeroQ
    go_enter Try.func6, Try.ntmps6
    go_wp2_with fail
    go_ret
    exact ⟨rfl, rfl⟩
  refine h.mono fun e w' hh => ?_
  obtain ⟨he, rfl⟩ := hh
  exact ⟨_, fun k => k = w.heap.size, he, qzero_any w, fun k hk => Nat.le_of_eq hk.symm, (Below.refl _ _).alloc (Nat.le_refl _) _⟩
/-! ### Len, Get, Next -/
theorem qlen_any (F : Nat → Prop) (v : Value) (l : List Jb) (w : World) (hn : l.length ≤ 100000) (h : QP F v l w) :
    Calls Try.prog 15 #[v] w fun e w' => e = .returned (.int .i64 l.length) ∧ Below w.heap.size w w' := by
  obtain ⟨b, mv, F1, rfl, h2, h3, h4, h5, h6⟩ := h
  have C := hlen_any F1 _ (thgs l) w (by rw [thgs_len]; exact hn) h2
  rw [thgs_len] at C
  replace C := Lib.hid C
  clear h2 h3 h4 h5 h6
  go_enter Try.func15, Try.ntmps15
  go_wp2_with fail
  refine C.out.mono ?_; rintro e w1 ⟨rfl, hb⟩
  have HB := Lib.hid hb
  clear hb
  go_wp2_with fail
  go_ret
  exact ⟨rfl, HB.out⟩
theorem nqlen_any (w : World) : Calls Try.prog 15 #[.pointer none] w fun e w' => e = .returned (.int .i64 0) ∧ Below w.heap.size w w' := by
  have h : Calls Try.prog 15 #[.pointer none] w fun e w' => e = .returned (.int .i64 0) ∧ w = w' := by
    go_enter Try.func15, Try.ntmps15
    go_wp2_with fail
    go_ret
    exact ⟨rfl, rfl⟩
  exact h.mono fun e w' h => ⟨h.1, by rw [← h.2]; exact Below.refl _ _⟩
theorem nqput_any (x : Jb) (w : World) : Calls Try.prog 8 #[.pointer none, x.val] w fun e w' => e = .returned (.bool false) ∧ Below w.heap.size w w' := by
  have HB := Lib.hid ((Below.refl w.heap.size w).alloc (Nat.le_refl _) (.cells #[.int .i64 x.id, .int .i64 x.prio, .int .i64 x.seq, .int .i64 x.phase, .int .i64 x.node, .int .i64 x.need.a, .int .i64 x.need.b, .int .i64 x.need.c] 37))
  unfold Jb.val
  go_enter Try.func8, Try.ntmps8
  go_wp2_with fail
  go_ret
  exact ⟨rfl, HB.out⟩
theorem nqdrop_any (id : Int) (w : World) : Calls Try.prog 10 #[.pointer none, .int .i64 id] w fun e w' => e = .returned (.bool false) ∧ Below w.heap.size w w' := by
  have h : Calls Try.prog 10 #[.pointer none, .int .i64 id] w fun e w' => e = .returned (.bool false) ∧ w = w' := by
    go_enter Try.func10, Try.ntmps10
    go_wp2_with fail
    go_ret
    exact ⟨rfl, rfl⟩
  exact h.mono fun e w' h => ⟨h.1, by rw [← h.2]; exact Below.refl _ _⟩
theorem nqall_any (w : World) : Calls Try.prog 17 #[.pointer none] w fun e w' => e = .returned (.slice none 0 0) ∧ Below w.heap.size w w' := by
  have h : Calls Try.prog 17 #[.pointer none] w fun e w' => e = .returned (.slice none 0 0) ∧ w = w' := by
    go_enter Try.func17, Try.ntmps17
    go_wp2_with fail
    go_ret
    exact ⟨rfl, rfl⟩
  exact h.mono fun e w' h => ⟨h.1, by rw [← h.2]; exact Below.refl _ _⟩
/-- A job that is a result, out of its block. -/
theorem job_results2 {fn : Func} {t s : Tmp} (hr : fn.results = #[.cell t 37, .tmp s]) {tmps : Array Value} {w : World} {g : Nat} {x : Jb} (hg : BJob g x w) (hp : tmps.getD t undef = .pointer (some ⟨g, 0, none⟩)) :
    (results fn tmps).run Try.prog w = .ok (.tuple #[x.val, tmps.getD s undef]) w := by
  have hl := run_loadVar_row (P := Try.prog) w g _ 37 _ (0, 0) (.struct (Try.prog.fieldsOf 37)) hg (by kernel_rfl) rfl (by kernel_rfl)
  have hp' : tmps[t]?.getD undef = .pointer (some ⟨g, 0, none⟩) := by simpa using hp
  simp [results, hr, hp', asAddr, hl, Jb.val]
end Go.Proofs.Ytalpocgajecjbaa
