/- What the document's own answers for lines and words come to. Conditions: texts of at most 100,000 bytes. -/
import Derived.Test.YthpijibcfkcenaaDoorRows
import Derived.Test.YthpijibcfkcenaaDoorPlains
import Derived.Test.YthpijibcfkcenaaDoorSlices
import Derived.Test.YthpijibcfkcenaaDoorSame
namespace Go.Proofs.YthpijibcfkcenaaDoor
open Go.ChangeShapes Go.WideShapes Go.ChangeAt Go.RowKit
set_option linter.unusedVariables false
set_option maxRecDepth 100000
set_option linter.unusedSimpArgs false

theorem wget (s : ByteArray) (k : Nat) (h : k < s.size) : s.data.toList[k]'(by rw [data_len]; exact h) = s[k] := by simp; rfl
theorem ext_one (s : ByteArray) (k : Nat) (h : k < s.size) : s.extract k (k + 1) = bs [s[k]] := by
  rw [← bs_of (s.extract k (k + 1)), extract_list, List.take_succ_eq_append_getElem (by rw [data_len]; exact h), wget s k h, List.drop_left' (by rw [List.length_take, data_len]; omega)]
theorem drop_one (s : ByteArray) (k : Nat) (h : k < s.size) : s.data.toList.drop k = s[k] :: s.data.toList.drop (k + 1) := by
  rw [List.drop_eq_getElem_cons (by rw [data_len]; exact h), wget s k h]
/-- A result that is a slice of texts. -/
def StrsR (l : List (List UInt8)) (w : World) (e : Ending) (w' : World) : Prop :=
  ∃ v, e = .returned v ∧ Rd w' w'.heap.size v (strs l) ∧ Below w.heap.size w w'
def LnI (l : List UInt8) (k : Nat) (out : List (List UInt8)) (cur : List UInt8) : Prop := cur.length ≤ k ∧ out.length ≤ k ∧ linesL l = out ++ linesA cur (l.drop k)
theorem lnI_zero (l : List UInt8) : LnI l 0 [] [] := ⟨Nat.le_refl _, Nat.le_refl _, rfl⟩
theorem lnI_char (s : ByteArray) (k : Nat) (h : k < s.size) {out : List (List UInt8)} {cur : List UInt8} (hI : LnI s.data.toList k out cur) (hc : s[k] ≠ 10) : LnI s.data.toList (k + 1) out (cur ++ [s[k]]) := by
  obtain ⟨h1, h2, h3⟩ := hI
  refine ⟨by simp; omega, by omega, ?_⟩
  rw [h3, drop_one s k h]
  simp only [linesA, if_neg hc]
theorem lnI_line (s : ByteArray) (k : Nat) (h : k < s.size) {out : List (List UInt8)} {cur : List UInt8} (hI : LnI s.data.toList k out cur) (hc : s[k] = 10) : LnI s.data.toList (k + 1) (out ++ [cur]) [] := by
  obtain ⟨h1, h2, h3⟩ := hI
  refine ⟨by simp, by simp; omega, ?_⟩
  rw [h3, drop_one s k h]
  simp only [linesA, if_pos hc]
  simp
theorem lnI_end (s : ByteArray) {out : List (List UInt8)} {cur : List UInt8} (hI : LnI s.data.toList s.size out cur) : linesL s.data.toList = out ++ lastW cur := by
  obtain ⟨h1, h2, h3⟩ := hI
  rw [h3, List.drop_eq_nil_of_le (by rw [data_len]; exact Nat.le_refl _)]
  rfl
set_option maxHeartbeats 2000000 in
theorem rlines_any (s : ByteArray) (w : World) (hs : s.size ≤ 100000) :
    Calls Tryd.prog 34 #[.string s] w (StrsR (linesL s.data.toList) w) := by
  obtain ⟨i0, hi, hz0, hz1, hz2⟩ := info_parts infoS
  go_enter Tryd.func34, Tryd.ntmps34
  go_wp2_with fail
  go_loopw [3, 4, 5, 6] (fun v ln op i wr => ∃ (k : Nat) (out : List (List UInt8)) (cur : List UInt8), k ≤ s.size ∧ i = .int .i64 k ∧ ln = .string (bs cur) ∧ op = .bool (!cur.isEmpty) ∧ LnI s.data.toList k out cur ∧ wr.ownsRow w.heap.size 9 1 v out.length (strs out) ∧ Below w.heap.size w wr) (fun _ _ _ i _ => s.size - (intOf i).toNat)
  case atStart => exact ⟨0, [], [], by omega, rfl, rfl, rfl, lnI_zero _, World.ownsRow_nil _ _ _ _, Below.refl _ _⟩
  case round =>
    obtain ⟨k, out, cur, hk, rfl, rfl, rfl, hI, hown, hb⟩ := hrel
    have hcl : cur.length ≤ k := hI.1
    have hol : out.length ≤ k := hI.2.1
    have hcz : (bs cur).size = cur.length := bs_size _
    have HO := Lib.hid hown
    have HB := Lib.hid hb
    have hw3 : w.heap.size ≤ wr.heap.size := hb.size
    clear hown hb
    by_cases hlt : k < s.size
    · have dk : decide (k < s.size) = true := decide_eq_true hlt
      have hu := (s[k]'hlt).toNat_lt
      by_cases hc : (s[k]'hlt).toNat = 10
      · have HN := Lib.hid (lnI_line s k hlt hI (UInt8.toNat_inj.1 hc))
        have dc : (((s[k]'hlt).toNat : Int) == 10) = true := by rw [hc]; rfl
        clear hI hc
        go_wp2_with (at_builtin; refine wpList_append_own _ rfl _ _ 45 rfl w.heap.size 9 i0 (.string ⟨#[]⟩) 1 16 Tryd.underlying45 hi hz0 hz1 hz2 rfl (by decide) _ _ _ rfl (HO.out.alloc _) ⟨wr.heap.size, 0, none⟩ 1 1 [.string (bs cur)] rfl rfl (cell_one_new _ _ _) ?c2 ?c3 ?c4 ?c5 ?_)
        case c2 => intro u hu; simp at hu; subst hu; rfl
        case c3 => unfold maxLen; omega
        case c4 => omega
        case c5 => simp; omega
        intro v' w4 hown4 hgrow _
        have hb4 := grown_below (HB.out.alloc (HB.out.size) _) hgrow (fun g hg => owns_row HO.out hg) (by simp; omega)
        have HB4 := Lib.hid hb4
        have hown4' : w4.ownsRow w.heap.size 9 1 v' (out ++ [cur]).length (strs (out ++ [cur])) := by
          simpa [strs] using hown4
        have HO4 := Lib.hid hown4'
        clear hb4 hown4 hown4' hgrow
        go_wp2_with fail
        go_roundw
        case rel => exact ⟨k + 1, out ++ [cur], [], by omega, by go_num, rfl, rfl, HN.out, HO4.out, HB4.out⟩
        case measure => simp [intOf]; omega
      · have HN := Lib.hid (lnI_char s k hlt hI (fun e => hc (by rw [e]; rfl)))
        have dc : (((s[k]'hlt).toNat : Int) == 10) = false := beq_false_of_ne (by omega)
        have hsl := fun w => run_slice_string (P := Tryd.prog) w 9 s .i64 .i64 (k : Int) ((k : Int) + 1) (by kernel_rfl) (by omega) (by omega) (by omega)
        rw [Int.toNat_natCast, show ((k : Int) + 1).toNat = k + 1 by omega, ext_one s k hlt] at hsl
        have hq : (bs [s[k]'hlt]).size = 1 := rfl
        have hap : bs cur ++ bs [s[k]'hlt] = bs (cur ++ [s[k]'hlt]) := bs_append _ _
        have HAP := Lib.hid hap
        have hne : (!(cur ++ [s[k]'hlt]).isEmpty) = true := by simp
        have HNE := Lib.hid hne
        clear hI hc hap hne
        generalize bs [s[k]'hlt] = S1 at *
        generalize hcur : bs cur = T0 at *
        generalize hcur2 : bs (cur ++ [s[k]'hlt]) = T1 at *
        have HC2 := Lib.hid hcur2
        clear hcur hcur2
        go_wp2_with fail
        rw [HAP.out]
        go_roundw
        case rel => exact ⟨k + 1, out, cur ++ [s[k]'hlt], by omega, by go_num, by rw [HC2.out], (by rw [HNE.out, bne, dc]; rfl), HN.out, HO.out, HB.out⟩
        case measure => simp [intOf]; omega
    · obtain rfl : k = s.size := by omega
      have dk : decide (s.size < s.size) = false := decide_eq_false hlt
      have hE := lnI_end s hI
      clear hI
      by_cases hc : cur = []
      · subst hc
        have HE := Lib.hid hE
        clear hE
        obtain ⟨A, c, rfl, _, _⟩ := (Rd.own HO.out).form
        have HR := Lib.hid (Rd.own HO.out)
        go_wp2_with fail
        go_ret
        refine ⟨_, rfl, ?_, HB.out⟩
        rw [HE.out]
        simpa [lastW] using HR.out
      · have he : (!cur.isEmpty) = true := by cases cur <;> simp_all
        have hE2 : linesL s.data.toList = out ++ [cur] := by rw [hE]; unfold lastW; rw [if_neg hc]
        have HE := Lib.hid hE2
        rw [he]
        clear hE hE2 hc he
        go_wp2_with (at_builtin; refine wpList_append_own _ rfl _ _ 45 rfl w.heap.size 9 i0 (.string ⟨#[]⟩) 1 16 Tryd.underlying45 hi hz0 hz1 hz2 rfl (by decide) _ _ _ rfl (HO.out.alloc _) ⟨wr.heap.size, 0, none⟩ 1 1 [.string (bs cur)] rfl rfl (cell_one_new _ _ _) ?d2 ?d3 ?d4 ?d5 ?_)
        case d2 => intro u hu; simp at hu; subst hu; rfl
        case d3 => unfold maxLen; omega
        case d4 => omega
        case d5 => simp; omega
        intro v' w4 hown4 hgrow _
        have hb4 := grown_below (HB.out.alloc (HB.out.size) _) hgrow (fun g hg => owns_row HO.out hg) (by simp; omega)
        have HB4 := Lib.hid hb4
        have HR := Lib.hid (Rd.own hown4)
        obtain ⟨A, c, rfl, _, _⟩ := HR.out.form
        clear hb4 hown4 hgrow
        go_wp2_with fail
        go_ret
        refine ⟨_, rfl, ?_, HB4.out⟩
        rw [HE.out]
        simpa [strs] using HR.out

def WdI (l : List UInt8) (k : Nat) (out : List (List UInt8)) (cur : List UInt8) : Prop := cur.length ≤ k ∧ out.length ≤ k ∧ wordsL l = out ++ wordsA cur (l.drop k)
theorem wdI_zero (l : List UInt8) : WdI l 0 [] [] := ⟨Nat.le_refl _, Nat.le_refl _, rfl⟩
theorem wdI_char (s : ByteArray) (k : Nat) (h : k < s.size) {out : List (List UInt8)} {cur : List UInt8} (hI : WdI s.data.toList k out cur) (h1 : (s[k]).toNat ≠ 35) (h2 : (s[k]).toNat ≠ 32) (h3 : (s[k]).toNat ≠ 9) : WdI s.data.toList (k + 1) out (cur ++ [s[k]]) := by
  obtain ⟨a1, a2, a3⟩ := hI
  refine ⟨by simp; omega, by omega, ?_⟩
  rw [a3, drop_one s k h]
  simp only [wordsA]
  rw [if_neg (fun e => h1 (by rw [e]; rfl)), if_neg (fun e => by rcases e with e | e; exact h2 (by rw [e]; rfl); exact h3 (by rw [e]; rfl))]
theorem wdI_gap (s : ByteArray) (k : Nat) (h : k < s.size) {out : List (List UInt8)} {cur : List UInt8} (hI : WdI s.data.toList k out cur) (h2 : (s[k]).toNat = 32 ∨ (s[k]).toNat = 9) : WdI s.data.toList (k + 1) (out ++ lastW cur) [] := by
  obtain ⟨a1, a2, a3⟩ := hI
  refine ⟨by simp, by unfold lastW; split <;> simp <;> omega, ?_⟩
  rw [a3, drop_one s k h]
  simp only [wordsA]
  rw [if_neg (fun e => by rw [e] at h2; rcases h2 with h2 | h2 <;> cases h2), if_pos (by rcases h2 with h2 | h2; exact Or.inl (UInt8.toNat_inj.1 h2); exact Or.inr (UInt8.toNat_inj.1 h2))]
  simp
theorem wdI_end (s : ByteArray) (k : Nat) {out : List (List UInt8)} {cur : List UInt8} (hI : WdI s.data.toList k out cur) (h : ∀ h : k < s.size, (s[k]'h).toNat = 35) : wordsL s.data.toList = out ++ lastW cur := by
  obtain ⟨a1, a2, a3⟩ := hI
  rw [a3]
  by_cases hk : k < s.size
  · rw [drop_one s k hk]
    simp only [wordsA]
    rw [if_pos (UInt8.toNat_inj.1 (h hk))]
  · rw [List.drop_eq_nil_of_le (by rw [data_len]; omega)]
    rfl
theorem cur_ne (cur : List UInt8) (h : cur ≠ []) : ((bs cur).toList == (ByteArray.mk #[]).toList) = false := by
  rw [beq_eq_false_iff_ne]
  intro e
  rw [Lib.toList_data, Lib.toList_data, bs_list] at e
  exact h e
theorem cur_ne2 (cur : List UInt8) (h : cur ≠ []) : ((bs cur).toList == []) = false := by
  rw [beq_eq_false_iff_ne]
  intro e
  rw [Lib.toList_data, bs_list] at e
  exact h e
set_option maxHeartbeats 4000000 in
theorem rwords_any (s : ByteArray) (w : World) (hs : s.size ≤ 100000) :
    Calls Tryd.prog 35 #[.string s] w (StrsR (wordsL s.data.toList) w) := by
  obtain ⟨i0, hi, hz0, hz1, hz2⟩ := info_parts infoS
  go_enter Tryd.func35, Tryd.ntmps35
  go_wp2_with fail
  go_loopw [3, 4, 5] (fun v ln i wr => ∃ (k : Nat) (out : List (List UInt8)) (cur : List UInt8), k ≤ s.size ∧ i = .int .i64 k ∧ ln = .string (bs cur) ∧ WdI s.data.toList k out cur ∧ wr.ownsRow w.heap.size 9 1 v out.length (strs out) ∧ Below w.heap.size w wr) (fun _ _ i _ => s.size - (intOf i).toNat)
  case atStart => exact ⟨0, [], [], by omega, rfl, rfl, wdI_zero _, World.ownsRow_nil _ _ _ _, Below.refl _ _⟩
  case round =>
    obtain ⟨k, out, cur, hk, rfl, rfl, hI, hown, hb⟩ := hrel
    have hcl : cur.length ≤ k := hI.1
    have hol : out.length ≤ k := hI.2.1
    have hcz : (bs cur).size = cur.length := bs_size _
    have HO := Lib.hid hown
    have HB := Lib.hid hb
    have hw3 : w.heap.size ≤ wr.heap.size := hb.size
    clear hown hb
    by_cases hgo : ∃ h : k < s.size, (s[k]'h).toNat ≠ 35
    · obtain ⟨hlt, h35⟩ := hgo
      have dk : decide (k < s.size) = true := decide_eq_true hlt
      have hu := (s[k]'hlt).toNat_lt
      have d35 : (((s[k]'hlt).toNat : Int) == 35) = false := beq_false_of_ne (by omega)
      have d35n : (((s[k]'hlt).toNat : Int) != 35) = true := by simp; omega
      by_cases hg : (s[k]'hlt).toNat = 32 ∨ (s[k]'hlt).toNat = 9
      · have HN := Lib.hid (wdI_gap s k hlt hI hg)
        have dg : (((s[k]'hlt).toNat : Int) != 32) = false ∨ ((((s[k]'hlt).toNat : Int) != 32) = true ∧ (((s[k]'hlt).toNat : Int) != 9) = false) := by
          by_cases h : (s[k]'hlt).toNat = 32
          · exact Or.inl (by rw [h]; rfl)
          · refine Or.inr ⟨by simp; omega, ?_⟩
            rcases hg with h2 | h2
            · exact absurd h2 h
            · rw [h2]; rfl
        clear hI h35 hg
        by_cases hcur : cur = []
        · subst hcur
          have HN2 := Lib.hid (show WdI s.data.toList (k + 1) out [] by have := HN.out; simpa [lastW] using this)
          clear HN
          rw [show bs ([] : List UInt8) = ByteArray.mk #[] from rfl]
          rcases dg with dg | ⟨dg, dg2⟩
          all_goals
            go_wp2_with fail
            go_roundw
            case rel => exact ⟨k + 1, out, [], by omega, by go_num, rfl, HN2.out, HO.out, HB.out⟩
            case measure => simp [intOf]; omega
        · have HN2 := Lib.hid (show WdI s.data.toList (k + 1) (out ++ [cur]) [] by have := HN.out; unfold lastW at this; rw [if_neg hcur] at this; exact this)
          have dn := cur_ne cur hcur
          have dn2 := cur_ne2 cur hcur
          clear HN hcur
          rcases dg with dg | ⟨dg, dg2⟩
          all_goals
            go_wp2_with (at_builtin; refine wpList_append_own _ rfl _ _ 45 rfl w.heap.size 9 i0 (.string ⟨#[]⟩) 1 16 Tryd.underlying45 hi hz0 hz1 hz2 rfl (by decide) _ _ _ rfl (HO.out.alloc _) ⟨wr.heap.size, 0, none⟩ 1 1 [.string (bs cur)] rfl rfl (cell_one_new _ _ _) ?c2 ?c3 ?c4 ?c5 ?_)
            case c2 => intro u hu; simp at hu; subst hu; rfl
            case c3 => unfold maxLen; omega
            case c4 => omega
            case c5 => simp; omega
            intro v' w4 hown4 hgrow _
            have hb4 := grown_below (HB.out.alloc (HB.out.size) _) hgrow (fun g hg => owns_row HO.out hg) (by simp; omega)
            have HB4 := Lib.hid hb4
            have hown4' : w4.ownsRow w.heap.size 9 1 v' (out ++ [cur]).length (strs (out ++ [cur])) := by
              simpa [strs] using hown4
            have HO4 := Lib.hid hown4'
            clear hb4 hown4 hown4' hgrow
            go_wp2_with fail
            go_roundw
            case rel => exact ⟨k + 1, out ++ [cur], [], by omega, by go_num, rfl, HN2.out, HO4.out, HB4.out⟩
            case measure => simp [intOf]; omega
      · have HN := Lib.hid (wdI_char s k hlt hI h35 (fun e => hg (Or.inl e)) (fun e => hg (Or.inr e)))
        have d32 : (((s[k]'hlt).toNat : Int) != 32) = true := by simp; omega
        have d9 : (((s[k]'hlt).toNat : Int) != 9) = true := by simp; omega
        have hsl := fun w => run_slice_string (P := Tryd.prog) w 9 s .i64 .i64 (k : Int) ((k : Int) + 1) (by kernel_rfl) (by omega) (by omega) (by omega)
        rw [Int.toNat_natCast, show ((k : Int) + 1).toNat = k + 1 by omega, ext_one s k hlt] at hsl
        have hq : (bs [s[k]'hlt]).size = 1 := rfl
        have hap : bs cur ++ bs [s[k]'hlt] = bs (cur ++ [s[k]'hlt]) := bs_append _ _
        have HAP := Lib.hid hap
        clear hI h35 hg hap
        generalize bs [s[k]'hlt] = S1 at *
        generalize hcur : bs cur = T0 at *
        generalize hcur2 : bs (cur ++ [s[k]'hlt]) = T1 at *
        have HC2 := Lib.hid hcur2
        clear hcur hcur2
        go_wp2_with fail
        rw [HAP.out]
        go_roundw
        case rel => exact ⟨k + 1, out, cur ++ [s[k]'hlt], by omega, by go_num, by rw [HC2.out], HN.out, HO.out, HB.out⟩
        case measure => simp [intOf]; omega
    · have hE := wdI_end s k hI (fun h => by
        by_cases e : (s[k]'h).toNat = 35
        · exact e
        · exact absurd ⟨h, e⟩ hgo)
      have hcs : (∃ h : k < s.size, decide (k < s.size) = true ∧ (((s[k]'h).toNat : Int) != 35) = false) ∨ decide (k < s.size) = false := by
        by_cases h : k < s.size
        · refine Or.inl ⟨h, decide_eq_true h, ?_⟩
          by_cases e : (s[k]'h).toNat = 35
          · rw [e]; rfl
          · exact absurd ⟨h, e⟩ hgo
        · exact Or.inr (decide_eq_false h)
      clear hI hgo
      by_cases hcur : cur = []
      · subst hcur
        have HE := Lib.hid hE
        obtain ⟨A, c, rfl, _, _⟩ := (Rd.own HO.out).form
        have HR := Lib.hid (Rd.own HO.out)
        clear hE
        rw [show bs ([] : List UInt8) = ByteArray.mk #[] from rfl]
        rcases hcs with ⟨hlt, dl, dc⟩ | dl
        all_goals
          go_wp2_with fail
          go_ret
          refine ⟨_, rfl, ?_, HB.out⟩
          rw [HE.out]
          simpa [lastW] using HR.out
      · have hE2 : wordsL s.data.toList = out ++ [cur] := by rw [hE]; unfold lastW; rw [if_neg hcur]
        have HE := Lib.hid hE2
        have dn := cur_ne cur hcur
        have dn2 := cur_ne2 cur hcur
        clear hE hE2 hcur
        rcases hcs with ⟨hlt, dl, dc⟩ | dl
        all_goals
          go_wp2_with (at_builtin; refine wpList_append_own _ rfl _ _ 45 rfl w.heap.size 9 i0 (.string ⟨#[]⟩) 1 16 Tryd.underlying45 hi hz0 hz1 hz2 rfl (by decide) _ _ _ rfl (HO.out.alloc _) ⟨wr.heap.size, 0, none⟩ 1 1 [.string (bs cur)] rfl rfl (cell_one_new _ _ _) ?c2 ?c3 ?c4 ?c5 ?_)
          case c2 => intro u hu; simp at hu; subst hu; rfl
          case c3 => unfold maxLen; omega
          case c4 => omega
          case c5 => simp; omega
          intro v' w4 hown4 hgrow _
          have hb4 := grown_below (HB.out.alloc (HB.out.size) _) hgrow (fun g hg => owns_row HO.out hg) (by simp; omega)
          have HB4 := Lib.hid hb4
          have HR := Lib.hid (Rd.own hown4)
          obtain ⟨A, c, rfl, _, _⟩ := HR.out.form
          clear hb4 hown4 hgrow
          go_wp2_with fail
          go_ret
          refine ⟨_, rfl, ?_, HB4.out⟩
          rw [HE.out]
          simpa [strs] using HR.out
end Go.Proofs.YthpijibcfkcenaaDoor
/- What the document's own answers for joins, finds and cuts come to. Conditions: lists of at most 1,000 texts of at most 100,000 bytes together. -/
namespace Go.Proofs.YthpijibcfkcenaaDoor
open Go.ChangeShapes Go.WideShapes Go.ChangeAt Go.RowKit
set_option linter.unusedVariables false
set_option maxRecDepth 100000
set_option linter.unusedSimpArgs false

theorem strs_get (l : List (List UInt8)) (k : Nat) (h : k < (strs l).length) : (strs l)[k] = .string (bs (l[k]'(by rw [← strs_len]; exact h))) := by simp [strs]
def allLen (l : List (List UInt8)) : Nat := (l.map List.length).sum
theorem allLen_snoc (l : List (List UInt8)) (x : List UInt8) : allLen (l ++ [x]) = allLen l + x.length := by simp [allLen]
theorem allLen_take (l : List (List UInt8)) (k : Nat) : allLen (l.take k) ≤ allLen l := by
  conv => rhs; rw [← List.take_append_drop k l]
  unfold allLen
  rw [List.map_append, List.sum_append]
  omega
theorem joinW_len (l : List (List UInt8)) : ∀ k, k ≤ l.length → (joinW (l.take k)).length ≤ allLen (l.take k) + k := by
  intro k
  induction k with
  | zero => intro _; simp [joinW, joinS]
  | succ k ih =>
    intro hk
    have := ih (by omega)
    rw [List.take_succ_eq_append_getElem (by omega), joinW_snoc, allLen_snoc]
    split
    · omega
    · simp; omega
theorem textW_len (l : List (List UInt8)) : ∀ k, k ≤ l.length → (textW (l.take k)).length ≤ allLen (l.take k) + k := by
  intro k
  induction k with
  | zero => intro _; simp [textW]
  | succ k ih =>
    intro hk
    have := ih (by omega)
    rw [List.take_succ_eq_append_getElem (by omega), textW_snoc, allLen_snoc]
    simp; omega
theorem len_le_all (l : List (List UInt8)) (k : Nat) (h : k < l.length) : l[k].length ≤ allLen l := by
  have h1 := allLen_take l (k + 1)
  rw [List.take_succ_eq_append_getElem h, allLen_snoc] at h1
  omega
set_option maxHeartbeats 1000000 in
theorem rjoin_any (v : Value) (l : List (List UInt8)) (B : Nat) (w : World) (hn : l.length ≤ 1000) (hz : allLen l ≤ 100000) (h : Rd w B v (strs l)) :
    Calls Tryd.prog 45 #[v] w fun e w' => e = .returned (.string (bs (joinW l))) ∧ w = w' := by
  obtain ⟨A, c, rfl, hc, _⟩ := h.form
  have H := Lib.hid fun k (hk : k < l.length) => h.at_ (k := k) (by rw [strs_len]; exact hk)
  rw [strs_len]
  clear h hc
  go_enter Tryd.func45, Tryd.ntmps45
  go_wp2_with fail
  go_loop [3, 4] (fun s i => ∃ k : Nat, k ≤ l.length ∧ i = .int .i64 k ∧ s = .string (bs (joinW (l.take k)))) (fun _ i => l.length - (intOf i).toNat)
  case atStart => exact ⟨0, by omega, rfl, rfl⟩
  case round =>
    obtain ⟨k, hk, rfl, rfl⟩ := hrel
    by_cases hlt : k < l.length
    · obtain ⟨b, o, rfl, hb, hx⟩ := H.out k hlt
      have g : w.cell? ⟨b, o + k, none⟩ = some (.string (bs l[k])) := by
        have := hx k (by rw [strs_len]; exact hlt)
        rw [this, strs_get]
      have dk : decide (k < l.length) = true := decide_eq_true hlt
      have hz1 : (bs l[k]).size ≤ 100000 := by rw [bs_size]; have := len_le_all l k hlt; omega
      have hz2 : (bs (joinW (l.take k))).size ≤ 101000 := by
        have := joinW_len l k hk
        have := allLen_take l k
        rw [bs_size]; omega
      have hs := joinW_snoc (l.take k) l[k]
      rw [← List.take_succ_eq_append_getElem hlt] at hs
      by_cases hk0 : k = 0
      · subst hk0
        rw [if_pos (show l.take 0 = [] from rfl)] at hs
        have hs2 : bs (joinW (l.take 0)) ++ bs l[0] = bs (joinW (l.take (0 + 1))) := by rw [hs, bs_append]; rfl
        have g0 : w.cell? ⟨b, o, none⟩ = some (.string (bs l[0])) := g
        have HS := Lib.hid hs2
        clear hs hs2 hx g
        generalize bs (joinW (l.take 0)) = L0 at *
        generalize hL : bs (joinW (l.take (0 + 1))) = L1 at *
        have HL := Lib.hid hL
        clear hL
        generalize bs l[0] = TT at *
        go_wp2_with fail
        rw [HS.out]
        go_round
        case rel => exact ⟨0 + 1, by omega, rfl, by rw [HL.out]⟩
        case measure => simp [intOf]; omega
      · have hp : l.take k ≠ [] := by
          intro e
          have := congrArg List.length e
          rw [List.length_take, List.length_nil] at this; omega
        rw [if_neg hp] at hs
        have hs2 : bs (joinW (l.take k)) ++ ByteArray.mk #[32] ++ bs l[k] = bs (joinW (l.take (k + 1))) := by
          rw [hs, show ByteArray.mk #[32] = bs [32] from rfl, bs_append, bs_append, List.append_assoc]; rfl
        have hz3 : (bs (joinW (l.take k)) ++ ByteArray.mk #[32]).size ≤ 101001 := by rw [ByteArray.size_append]; show _ + 1 ≤ _; omega
        have d0 : decide ((0 : Int) < (k : Int)) = true := decide_eq_true (by omega)
        have d0' : decide (0 < k) = true := decide_eq_true (by omega)
        have HS := Lib.hid hs2
        clear hs hs2 hp hx
        generalize bs (joinW (l.take k)) = L0 at *
        generalize hL : bs (joinW (l.take (k + 1))) = L1 at *
        have HL := Lib.hid hL
        clear hL
        generalize bs l[k] = TT at *
        go_wp2_with fail
        rw [HS.out]
        go_round
        case rel => exact ⟨k + 1, by omega, by go_num, by rw [HL.out]⟩
        case measure => simp [intOf]; omega
    · obtain rfl : k = l.length := by omega
      have dk : decide (l.length < l.length) = false := decide_eq_false hlt
      rw [List.take_length]
      go_wp2_with fail
      go_ret
      exact ⟨rfl, rfl⟩
end Go.Proofs.YthpijibcfkcenaaDoor
/- What the document's own answers for finds and cuts come to. Conditions: texts of at most 100,000 bytes. -/
namespace Go.Proofs.YthpijibcfkcenaaDoor
open Go.ChangeShapes Go.WideShapes Go.ChangeAt Go.RowKit
set_option linter.unusedVariables false
set_option maxRecDepth 100000
set_option linter.unusedSimpArgs false
end Go.Proofs.YthpijibcfkcenaaDoor
