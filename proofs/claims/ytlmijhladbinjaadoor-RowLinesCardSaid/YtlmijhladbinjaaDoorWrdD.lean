/- words' Words. Conditions: texts of at most 100,000 bytes. -/
import Derived.Test.YtlmijhladbinjaaDoorWrdB
import Derived.Test.YtlmijhladbinjaaDoorWrdC
namespace Go.Proofs.YtlmijhladbinjaaDoor
open Go.ChangeShapes Go.WideShapes Go.ChangeAt Go.RowKit
set_option linter.unusedVariables false
set_option maxRecDepth 100000
set_option linter.unusedSimpArgs false

theorem hash_iff (c : UInt8) : isHash c = true ↔ c = 35 := by
  unfold isHash; rw [decide_eq_true_iff]; exact ⟨fun h => UInt8.toNat_inj.1 h, fun h => by rw [h]; rfl⟩
theorem bl_iff (c : UInt8) : isBl c = true ↔ (c = 32 ∨ c = 9) := by
  unfold isBl; rw [decide_eq_true_iff]
  exact ⟨fun h => h.elim (fun h => Or.inl (UInt8.toNat_inj.1 h)) (fun h => Or.inr (UInt8.toNat_inj.1 h)), fun h => by rcases h with h | h <;> subst h <;> decide⟩
theorem bl_hash {c : UInt8} (h : isBl c = true) : ¬ c = 35 := by
  rcases (bl_iff c).1 h with h | h <;> subst h <;> decide
theorem ahead_cons (p : UInt8 → Bool) (c : UInt8) (l : List UInt8) : aheadL p (c :: l) = if p c = true then [] else c :: aheadL p l := by
  unfold aheadL; rw [List.takeWhile_cons]; cases p c <;> simp
theorem rest_cons (p : UInt8 → Bool) (c : UInt8) (l : List UInt8) : restL p (c :: l) = if p c = true then c :: l else restL p l := by
  unfold restL; rw [List.dropWhile_cons]; cases p c <;> simp
theorem ahead_rest (p : UInt8 → Bool) (l : List UInt8) : aheadL p l ++ restL p l = l := List.takeWhile_append_dropWhile
theorem ahead_mem (p : UInt8 → Bool) (l : List UInt8) {c : UInt8} (h : c ∈ aheadL p l) : p c = false := by
  induction l with
  | nil => cases h
  | cons x l ih =>
    rw [ahead_cons] at h
    by_cases hx : p x = true
    · rw [if_pos hx] at h; cases h
    · rw [if_neg hx] at h
      rcases List.mem_cons.1 h with h | h
      · rw [h]; simpa using hx
      · exact ih h
theorem words_hash (l : List UInt8) : ∀ w, wordsA w l = wordsA w (aheadL isHash l) := by
  induction l with
  | nil => intro w; rfl
  | cons c l ih =>
    intro w
    rw [ahead_cons]
    by_cases h : isHash c = true
    · rw [if_pos h]; simp only [wordsA, if_pos ((hash_iff c).1 h)]
    · have h2 : ¬ c = 35 := fun e => h ((hash_iff c).2 e)
      rw [if_neg h]; simp only [wordsA, if_neg h2]
      rw [← ih, ← ih]
theorem words_skip (l : List UInt8) : wordsA [] l = wordsA [] (restL noBl l) := by
  induction l with
  | nil => rfl
  | cons c l ih =>
    rw [rest_cons]
    by_cases h : isBl c = true
    · rw [if_neg (by simp [noBl, h])]
      simp only [wordsA, if_neg (bl_hash h), if_pos ((bl_iff c).1 h)]
      rw [← ih]; simp [lastW]
    · rw [if_pos (by simp [noBl, h])]
theorem skip_head (l : List UInt8) : restL noBl l = [] ∨ aheadL isBl (restL noBl l) ≠ [] := by
  induction l with
  | nil => exact Or.inl rfl
  | cons c l ih =>
    rw [rest_cons]
    by_cases h : isBl c = true
    · rw [if_neg (by simp [noBl, h])]; exact ih
    · rw [if_pos (by simp [noBl, h])]
      refine Or.inr ?_
      rw [ahead_cons, if_neg h]; simp
theorem words_word (l : List UInt8) (h : ∀ c ∈ l, isHash c = false) : ∀ w, (w ≠ [] ∨ aheadL isBl l ≠ []) → wordsA w l = (w ++ aheadL isBl l) :: wordsA [] (restL isBl l) := by
  induction l with
  | nil =>
    intro w hw
    have hw : w ≠ [] := hw.elim id (fun h => absurd rfl h)
    simp [wordsA, lastW, hw, aheadL, restL]
  | cons c l ih =>
    intro w hw
    have h35 : ¬ c = 35 := fun e => by have := h c (by simp); rw [(hash_iff c).2 e] at this; cases this
    rw [ahead_cons, rest_cons]
    rw [ahead_cons] at hw
    by_cases hb : isBl c = true
    · rw [if_pos hb] at hw ⊢
      rw [if_pos hb]
      have hw : w ≠ [] := hw.elim id (fun h => absurd rfl h)
      simp only [wordsA, if_neg h35, if_pos ((bl_iff c).1 hb)]
      simp [lastW, hw]
    · rw [if_neg hb, if_neg hb]
      have h2 : ¬ (c = 32 ∨ c = 9) := fun e => hb ((bl_iff c).2 e)
      simp only [wordsA, if_neg h35, if_neg h2]
      rw [ih (fun x hx => h x (by simp [hx])) (w ++ [c]) (Or.inl (by simp))]
      simp
/-- So far, and what is left. -/
def WsI (l : List UInt8) (out : List (List UInt8)) (r : List UInt8) : Prop := (∀ c ∈ r, isHash c = false) ∧ wordsL l = out ++ wordsA [] r
theorem wsI_zero (l : List UInt8) : WsI l [] (aheadL isHash l) := by
  refine ⟨fun c hc => ?_, words_hash l []⟩
  exact ahead_mem _ _ hc
theorem rest_mem (p : UInt8 → Bool) (l : List UInt8) {c : UInt8} (h : c ∈ restL p l) : c ∈ l := by
  have := ahead_rest p l
  rw [← this]; exact List.mem_append.2 (Or.inr h)
theorem wsI_skip {l : List UInt8} {out : List (List UInt8)} {r : List UInt8} (h : WsI l out r) : WsI l out (restL noBl r) :=
  ⟨fun c hc => h.1 c (rest_mem _ _ hc), by rw [h.2, words_skip r]⟩
theorem wsI_word {l : List UInt8} {out : List (List UInt8)} {r : List UInt8} (h : WsI l out r) (hr : aheadL isBl r ≠ []) : WsI l (out ++ [aheadL isBl r]) (restL isBl r) := by
  refine ⟨fun c hc => h.1 c (rest_mem _ _ hc), ?_⟩
  rw [h.2, words_word r h.1 [] (Or.inr hr)]
  simp
theorem wsI_end {l : List UInt8} {out : List (List UInt8)} (h : WsI l out []) : wordsL l = out := by
  rw [h.2]; simp [wordsA, lastW]
theorem part_len (p : UInt8 → Bool) (l : List UInt8) : (aheadL p l).length + (restL p l).length = l.length := by
  conv => rhs; rw [← ahead_rest p l]
  rw [List.length_append]
theorem drew_below {B : Nat} {a w : World} (h : Below B a w) (n : Nat) : Below B a (w.drewN n) := ⟨h.os, h.tape, h.output, h.size, h.block⟩
set_option maxHeartbeats 4000000 in
theorem wwords_any (s : ByteArray) (w : World) (hs : s.size ≤ 100000) : Calls Tryd.prog 14 #[.string s] w (StrsR (wordsL s.data.toList) w) := by
  obtain ⟨i0, hi, hz0, hz1, hz2⟩ := info_parts infoS
  have S1 := Lib.hid (split_hash s w hs)
  have hz := part_len isHash s.data.toList
  rw [data_len] at hz
  have hzl : (aheadL isHash s.data.toList).length ≤ 100000 := by omega
  have HZ0 := Lib.hid (wsI_zero s.data.toList)
  generalize aheadL isHash s.data.toList = r0 at *
  generalize restL isHash s.data.toList = r0' at *
  clear hz
  go_enter Tryd.func14, Tryd.ntmps14
  go_wp2_with fail
  refine S1.out.mono ?_; rintro e w1 ⟨rfl, n, rfl⟩
  have HB0 := Lib.hid (drew_below (Below.refl w.heap.size w) n)
  clear S1
  generalize w.drewN n = w1 at *
  go_wp2_with fail
  go_loopg [3, 4] r0.length (fun g v rs wx => ∃ (r : List UInt8) (out : List (List UInt8)), rs = .string (bs r) ∧ r.length ≤ g ∧ r.length ≤ 100000 ∧ out.length + r.length ≤ 100000 ∧ WsI s.data.toList out r ∧ wx.ownsRow w.heap.size 9 1 v out.length (strs out) ∧ Below w.heap.size w wx)
  case atStart => exact ⟨r0, [], rfl, Nat.le_refl _, hzl, by simpa using hzl, HZ0.out, World.ownsRow_nil _ _ _ _, HB0.out⟩
  case round =>
    obtain ⟨r, out, rfl, hrg, hrs, hsum, hI, hown, hb⟩ := hrel
    have HI := Lib.hid (wsI_skip hI)
    have S2 := split_word (bs r) wr (by rw [bs_size]; exact hrs)
    rw [bs_list] at S2
    have S2 := Lib.hid S2
    have hl1 := part_len noBl r
    have HH := Lib.hid (skip_head r)
    have HO := Lib.hid hown
    have HB := Lib.hid hb
    clear hown hb hI
    generalize restL noBl r = r1 at *
    generalize aheadL noBl r = r1' at *
    go_wp2_with fail
    refine S2.out.mono ?_; rintro e w2 ⟨rfl, n, rfl⟩
    have HO2 := Lib.hid (owns_below HO.out (drew_below (Below.refl _ wr) n))
    have HB2 := Lib.hid (drew_below HB.out n)
    clear HO HB S2
    generalize wr.drewN n = w2 at *
    by_cases h0 : r1 = []
    · subst h0
      have HE := Lib.hid (wsI_end HI.out)
      rw [show bs ([] : List UInt8) = ByteArray.mk #[] from rfl]
      obtain ⟨A, c, rfl, _, _⟩ := (Rd.own HO2.out).form
      have HR := Lib.hid (Rd.own HO2.out)
      clear HI HH
      go_wp2_with fail
      go_ret
      refine ⟨_, rfl, ?_, HB2.out⟩
      rw [HE.out]
      exact HR.out
    · have dn := cur_ne r1 h0
      have dn2 := cur_ne2 r1 h0
      have hne := HH.out.resolve_left h0
      have HN := Lib.hid (wsI_word HI.out hne)
      have S3 := split_blank (bs r1) w2 (by rw [bs_size]; omega)
      rw [bs_list] at S3
      have S3 := Lib.hid S3
      have hl2 := part_len isBl r1
      have hpos := List.length_pos_iff.2 hne
      clear HI HH hne h0
      generalize restL isBl r1 = r2 at *
      generalize aheadL isBl r1 = wd at *
      go_wp2_with fail
      refine S3.out.mono ?_; rintro e w3 ⟨rfl, n, rfl⟩
      have HO3 := Lib.hid (owns_below HO2.out (drew_below (Below.refl _ w2) n))
      have HB3 := Lib.hid (drew_below HB2.out n)
      clear HO2 HB2 S3
      generalize w2.drewN n = w3 at *
      have hw3 : w.heap.size ≤ w3.heap.size := HB3.out.size
      go_wp2_with (at_builtin; refine wpList_append_own _ rfl _ _ 23 rfl w.heap.size 9 i0 (.string ⟨#[]⟩) 1 16 Tryd.underlying23 hi hz0 hz1 hz2 rfl (by decide) _ _ _ rfl (HO3.out.alloc _) ⟨w3.heap.size, 0, none⟩ 1 1 [.string (bs wd)] rfl rfl (cell_one_new _ _ _) ?c2 ?c3 ?c4 ?c5 ?_)
      case c2 => intro u hu; simp at hu; subst hu; rfl
      case c3 => unfold maxLen; omega
      case c4 => omega
      case c5 => simp; omega
      intro v' w4 hown4 hgrow _
      have HB4 := Lib.hid (grown_below (HB3.out.alloc (HB3.out.size) _) hgrow (fun g hg => owns_row HO3.out hg) (by simp; omega))
      have hown4' : w4.ownsRow w.heap.size 9 1 v' (out ++ [wd]).length (strs (out ++ [wd])) := by
        simpa [strs] using hown4
      have HO4 := Lib.hid hown4'
      clear hown4 hown4' hgrow
      go_wp2_with fail
      go_roundg r2.length
      case measure => omega
      case rel => exact ⟨r2, out ++ [wd], rfl, Nat.le_refl _, by omega, by simp; omega, HN.out, HO4.out, HB4.out⟩
end Go.Proofs.YtlmijhladbinjaaDoor
