/- A set of marks in memory; New, Len, Has, Clean; what a nil set says. Conditions: as stated. -/
import Derived.Test.YtjncccongbfoiaaProg
import Derived.Test.YtjncccongbfoiaaMapF
import Derived.Test.YtjncccongbfoiaaDirPlain
import Derived.Test.YtjncccongbfoiaaRdI
import Derived.Test.YtjncccongbfoiaaHolds
namespace Go.Proofs.Ytjncccongbfoiaa
open Go.ChangeShapes Go.WideShapes Go.ChangeAt Go.RowKit
set_option linter.unusedVariables false
set_option maxRecDepth 100000
set_option linter.unusedSimpArgs false

theorem boolV_inj : InjV Value.bool := fun x y h => by cases h; rfl
theorem zeroV_bool (w : World) : (zeroValue 4).run Try.prog w = .ok (Value.bool false) w := by kernel_rfl
abbrev MapB (w : World) (m n : Nat) (f : Int → Option Bool) : Prop := MapF Try.prog 3 Value.bool false w m n f
/-- The map of a set's marks: none, or one of just those. -/
def SMap (w : World) (mv : Value) (l : List Int) : Prop := (mv = .map none ∧ l = []) ∨ ∃ m, mv = .map (some m) ∧ MapB w m l.length (inF l)
/-- A set's block. -/
def sX (mv : Value) : Obj := .cells #[mv] 28 (0, 0)
/-- The value points to a set of the marks l; its blocks are those of F. -/
def SP (F : Nat → Prop) (v : Value) (l : List Int) (w : World) : Prop := ∃ b mv, v = .pointer (some ⟨b, 0, none⟩) ∧ w.heap[b]? = some (sX mv) ∧ SMap w mv l ∧ mv ≠ .map (some b) ∧ Rise l ∧ (∀ x ∈ l, inI x) ∧ ∀ k, F k ↔ (k = b ∨ mv = .map (some k))
/-- What a call that may turn the set leaves. -/
def SPost (F : Nat → Prop) (v : Value) (l : List Int) (w w' : World) : Prop := ∃ F', SP F' v l w' ∧ Turned F w w' ∧ ∀ k, F' k → F k ∨ w.heap.size ≤ k
theorem SMap.keep {w w' : World} {mv : Value} {l : List Int} (h : SMap w mv l) (hk : ∀ g, mv = .map (some g) → w'.heap[g]? = w.heap[g]?) : SMap w' mv l := by
  rcases h with h | ⟨m, e, h⟩
  · exact .inl h
  · exact .inr ⟨m, e, h.keep (hk m e)⟩
theorem SMap.lt {w : World} {mv : Value} {l : List Int} {g : Nat} (h : SMap w mv l) (hg : mv = .map (some g)) : g < w.heap.size := by
  rcases h with ⟨h, _⟩ | ⟨m, e, h⟩
  · rw [h] at hg; cases hg
  · rw [e] at hg; cases hg; exact h.lt
section
variable {F : Nat → Prop} {v : Value} {l : List Int} {w w' : World}
theorem sp_keep (h : SP F v l w) (hk : ∀ k, F k → w'.heap[k]? = w.heap[k]?) : SP F v l w' := by
  obtain ⟨b, mv, h1, h2, h3, h4, h5, h6, h7⟩ := h
  exact ⟨b, mv, h1, (hk b ((h7 b).2 (.inl rfl))).trans h2, h3.keep fun g hg => hk g ((h7 g).2 (.inr hg)), h4, h5, h6, h7⟩
theorem sp_lt (h : SP F v l w) : ∀ k, F k → k < w.heap.size := by
  obtain ⟨b, mv, h1, h2, h3, h4, h5, h6, h7⟩ := h
  intro k hk
  rcases (h7 k).1 hk with hk | hk
  · rw [hk]; exact lt_of_block h2
  · exact h3.lt hk
theorem sp_ptr (h : SP F v l w) : ∃ b, v = .pointer (some ⟨b, 0, none⟩) := by
  obtain ⟨b, mv, h1, _⟩ := h
  exact ⟨b, h1⟩
theorem sp_rise (h : SP F v l w) : Rise l := by
  obtain ⟨b, mv, h1, h2, h3, h4, h5, h6, h7⟩ := h
  exact h5
theorem sp_in (h : SP F v l w) : ∀ x ∈ l, inI x := by
  obtain ⟨b, mv, h1, h2, h3, h4, h5, h6, h7⟩ := h
  exact h6
theorem sp_below (h : SP F v l w) (hb : Below w.heap.size w w') : SP F v l w' := sp_keep h fun k hk => hb.block k (sp_lt h k hk)
theorem spost_same (h : SP F v l w) (hb : Below w.heap.size w w') : SPost F v l w w' := ⟨F, sp_below h hb, Turned.of hb, fun k hk => .inl hk⟩
theorem spost_below {w2 : World} (h : SPost F v l w w') (hb : Below w'.heap.size w' w2) : SPost F v l w w2 := by
  obtain ⟨F', h1, h2, h3⟩ := h
  exact ⟨F', sp_below h1 hb, h2.trans (G := fun _ => False) (Turned.of hb) (fun _ f => f.elim), h3⟩
end
theorem mapB_same {w : World} {m n k : Nat} {f g : Int → Option Bool} (h : MapB w m n f) (e : ∀ i, f i = g i) (hn : n = k) : MapB w m k g := MapF.same h e hn
/-! ### New, the zero set -/
theorem sp_zero {w : World} {b : Nat} (h : w.heap[b]? = some (sX (.map none))) : SP (fun k => k = b) (.pointer (some ⟨b, 0, none⟩)) [] w :=
  ⟨b, .map none, rfl, h, .inl ⟨rfl, rfl⟩, (fun e => by cases e), Rise.nil, (fun x hx => by cases hx), fun k => by simp⟩
theorem szero_any (w : World) : SP (fun k => k = w.heap.size) (.pointer (some ⟨w.heap.size, 0, none⟩)) [] (w.alloc (.cells #[.map none] 28)) := sp_zero (blk_new w _)
theorem snew_any (w : World) : Calls Try.prog 6 #[] w fun e w' => e = .returned (.pointer (some ⟨w.heap.size, 0, none⟩)) ∧ SP (fun k => k = w.heap.size) (.pointer (some ⟨w.heap.size, 0, none⟩)) [] w' ∧ Below w.heap.size w w' := by
  have h : Calls Try.prog 6 #[] w fun e w' => e = .returned (.pointer (some ⟨w.heap.size, 0, none⟩)) ∧ w.alloc (.cells #[.map none] 28) = w' := by
    go_enter Try.func6, Try.ntmps6
    go_wp2_with fail
    go_ret
    exact ⟨rfl, rfl⟩
  refine h.mono fun e w' hh => ?_
  obtain ⟨he, rfl⟩ := hh
  exact ⟨he, szero_any w, (Below.refl _ _).alloc (Nat.le_refl _) _⟩
/-! ### Len, Has, Clean -/
theorem slen_any (F : Nat → Prop) (v : Value) (l : List Int) (w : World) (h : SP F v l w) :
    Calls Try.prog 15 #[v] w fun e w' => e = .returned (.int .i64 l.length) ∧ w = w' := by
  obtain ⟨b, mv, rfl, h2, h3, h4, h5, h6, h7⟩ := h
  have c0 : w.cell? ⟨b, 0, none⟩ = some mv := blk_cell h2 0
  rcases h3 with ⟨rfl, rfl⟩ | ⟨m, rfl, h3⟩
  · have hl := Maps.len_nil (P := Try.prog) (w := w) (k := 3) (t := 26) (e := 4) Try.underlying26 3
    clear h2 h4 h5 h6 h7
    go_enter Try.func15, Try.ntmps15
    go_wp2_with fail
    go_ret
    exact ⟨rfl, rfl⟩
  · have hl := fun ty => MapF.len (t := 26) (e := 4) h3 Try.underlying26 ty
    clear h2 h3 h4 h5 h6 h7
    go_enter Try.func15, Try.ntmps15
    go_wp2_with fail
    go_ret
    exact ⟨rfl, rfl⟩
theorem shas_any (F : Nat → Prop) (v : Value) (l : List Int) (n : Int) (w : World) (hn : inI n) (h : SP F v l w) :
    Calls Try.prog 14 #[v, .int .i64 n] w fun e w' => e = .returned (.bool (hasI l n)) ∧ w = w' := by
  obtain ⟨b, mv, rfl, h2, h3, h4, h5, h6, h7⟩ := h
  have c0 : w.cell? ⟨b, 0, none⟩ = some mv := blk_cell h2 0
  have hl : (Instr.lookup 26 mv (.int .i64 n) false).run Try.prog w = .ok (.bool (hasI l n)) w := by
    rcases h3 with ⟨rfl, rfl⟩ | ⟨m, rfl, h3⟩
    · have := nomap_look (P := Try.prog) (val := Value.bool) (z := false) (w := w) (k := 3) (t := 26) (e := 4) Try.underlying3 Try.underlying26 (zeroV_bool w) hn
      simpa [hasI] using this
    · have := MapF.look (t := 26) (e := 4) h3 boolV_inj Try.underlying3 Try.underlying26 (zeroV_bool w) hn
      rw [inF_get] at this
      exact this
  generalize hasI l n = x at *
  clear h2 h3 h4 h5 h6 h7
  go_enter Try.func14, Try.ntmps14
  go_wp2_with fail
  go_ret
  exact ⟨rfl, rfl⟩
theorem sclean_any (F : Nat → Prop) (v : Value) (l : List Int) (n : Int) (w : World) (hn : inI n) (h : SP F v l w) :
    Calls Try.prog 11 #[v, .int .i64 n] w fun e w' => e = .returned (.bool (hasI l n)) ∧ SPost F v (dropI l n) w w' := by
  have C := shas_any F v l n w hn h
  have h0 := h
  obtain ⟨b, mv, rfl, h2, h3, h4, h5, h6, h7⟩ := h
  cases hh : hasI l n with
  | false =>
    rw [hh] at C
    have HP := Lib.hid (show SPost F (.pointer (some ⟨b, 0, none⟩)) (dropI l n) w w by rw [dropI_not l n hh]; exact spost_same h0 (Below.refl _ _))
    replace C := Lib.hid C
    clear h0 h2 h3 h4 h5 h6 h7 hh
    go_enter Try.func11, Try.ntmps11
    go_wp2_with fail
    refine C.out.mono ?_; rintro e w1 ⟨rfl, rfl⟩
    go_wp2_with fail
    go_ret
    exact ⟨rfl, HP.out⟩
  | true =>
    rw [hh] at C
    have c0 : w.cell? ⟨b, 0, none⟩ = some mv := blk_cell h2 0
    rcases h3 with ⟨rfl, rfl⟩ | ⟨m, rfl, h3⟩
    · simp [hasI] at hh
    · have n' : l.length - (if (inF l n).isSome = true then 1 else 0) = (dropI l n).length := by rw [inF_some, dropI_len h5]
      have HP := Lib.hid (show ∀ w', MapB w' m (dropI l n).length (delF (inF l) n) → Only m w w' → SPost F (.pointer (some ⟨b, 0, none⟩)) (dropI l n) w w' from fun w' hm ho =>
        ⟨F, ⟨b, .map (some m), rfl, ho.old h2 (fun e => h4 (by rw [e])), .inr ⟨m, rfl, mapB_same hm (fun i => inF_drop l n i) rfl⟩, h4, rise_dropI h5 n, fun x hx => h6 x ((mem_dropI l n x).1 hx).2, h7⟩,
          ⟨ho.os, ho.tape, ho.output, ho.size, fun k hk hf => ho.block k hk (fun e => hf ((h7 k).2 (.inr (by rw [e]))))⟩, fun k hk => .inl hk⟩)
      replace C := Lib.hid C
      clear h0 h2 h4 h5 h6 h7 hh
      go_enter Try.func11, Try.ntmps11
      go_wp2_with fail
      refine C.out.mono ?_; rintro e w1 ⟨rfl, rfl⟩
      go_wp2_with (first | (refine wpList_delete_mapF rfl _ _ _ _ rfl 4 Try.underlying3 Try.underlying26 m _ rfl h3 n hn rfl _ n' ?_; intro w2 hm2 ho2))
      go_ret
      exact ⟨rfl, HP.out _ hm2 ho2⟩
/-! ### nil -/
theorem nslen_any (w : World) : Calls Try.prog 15 #[.pointer none] w fun e w' => e = .returned (.int .i64 0) ∧ w = w' := by
  go_enter Try.func15, Try.ntmps15
  go_wp2_with fail
  go_ret
  exact ⟨rfl, rfl⟩
theorem nshas_any (n : Int) (w : World) : Calls Try.prog 14 #[.pointer none, .int .i64 n] w fun e w' => e = .returned (.bool false) ∧ w = w' := by
  go_enter Try.func14, Try.ntmps14
  go_wp2_with fail
  go_ret
  exact ⟨rfl, rfl⟩
theorem nsclean_any (n : Int) (w : World) : Calls Try.prog 11 #[.pointer none, .int .i64 n] w fun e w' => e = .returned (.bool false) ∧ w = w' := by
  have C := Lib.hid (nshas_any n w)
  go_enter Try.func11, Try.ntmps11
  go_wp2_with fail
  refine C.out.mono ?_; rintro e w1 ⟨rfl, rfl⟩
  go_wp2_with fail
  go_ret
  exact ⟨rfl, rfl⟩
theorem nsmark_any (v : Value) (w : World) : Calls Try.prog 9 #[.pointer none, v] w fun e w' => e = .returned (.int .i64 0) ∧ w = w' := by
  go_enter Try.func9, Try.ntmps9
  go_wp2_with fail
  go_ret
  exact ⟨rfl, rfl⟩
theorem nsdrain_any (w : World) : Calls Try.prog 13 #[.pointer none] w fun e w' => e = .returned (.slice none 0 0) ∧ w = w' := by
  go_enter Try.func13, Try.ntmps13
  go_wp2_with fail
  go_ret
  exact ⟨rfl, rfl⟩
end Go.Proofs.Ytjncccongbfoiaa
