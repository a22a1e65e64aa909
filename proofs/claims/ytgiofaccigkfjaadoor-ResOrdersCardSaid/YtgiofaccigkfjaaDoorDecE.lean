/- dec's ParseList. Conditions: texts of at most 100,000 bytes; the library's table holds what it was laid with. -/
import Derived.Test.YtgiofaccigkfjaaDoorDecD
namespace Go.Proofs.YtgiofaccigkfjaaDoor
open Go.ChangeShapes Go.WideShapes Go.ChangeAt Go.RowKit
set_option linter.unusedVariables false
set_option maxRecDepth 100000
set_option linter.unusedSimpArgs false

/-- What stands before the first of a sign, what behind it, whether there is one. -/
def cutS (sep : UInt8) : List UInt8 → List UInt8 × List UInt8 × Bool
  | [] => ([], [], false)
  | c :: l => if c = sep then ([], l, true) else (c :: (cutS sep l).1, (cutS sep l).2.1, (cutS sep l).2.2)
theorem cutS_split (sep : UInt8) (l : List UInt8) : splitS sep l = if (cutS sep l).2.2 = true then (cutS sep l).1 :: splitS sep (cutS sep l).2.1 else [(cutS sep l).1] := by
  induction l with
  | nil => rfl
  | cons c l ih =>
    by_cases h : c = sep
    · simp [splitS, cutS, h]
    · simp only [splitS, cutS, if_neg h]
      rw [ih]
      by_cases hf : (cutS sep l).2.2 = true
      · rw [if_pos hf, if_pos hf]
      · rw [if_neg hf, if_neg hf]
theorem cutS_len (sep : UInt8) (l : List UInt8) : (cutS sep l).1.length ≤ l.length ∧ (cutS sep l).2.1.length ≤ l.length := by
  induction l with
  | nil => exact ⟨Nat.le_refl _, Nat.le_refl _⟩
  | cons c l ih =>
    by_cases h : c = sep
    · simp [cutS, h]
    · simp only [cutS, if_neg h, List.length_cons]; omega
theorem cutS_ix (sep : UInt8) (l : List UInt8) :
    ((cutS sep l).2.2 = false ∧ (cutS sep l).1 = l ∧ (cutS sep l).2.1 = [] ∧ Lib.indexByte l sep = -1) ∨
    ((cutS sep l).2.2 = true ∧ ∃ k : Nat, k < l.length ∧ Lib.indexByte l sep = (k : Int) ∧ (cutS sep l).1 = l.take k ∧ (cutS sep l).2.1 = l.drop (k + 1)) := by
  induction l with
  | nil => exact Or.inl ⟨rfl, rfl, rfl, rfl⟩
  | cons c l ih =>
    by_cases h : c = sep
    · refine Or.inr ⟨by simp [cutS, h], 0, by simp, ?_, by simp [cutS, h], by simp [cutS, h]⟩
      unfold Lib.indexByte; simp [h]
    · have hb : (c == sep) = false := by simpa using h
      simp only [cutS, if_neg h]
      rcases ih with ⟨h1, h2, h3, h4⟩ | ⟨h1, k, h2, h3, h4, h5⟩
      · refine Or.inl ⟨h1, by rw [h2], h3, ?_⟩
        unfold Lib.indexByte; rw [h4, hb]; rfl
      · refine Or.inr ⟨h1, k + 1, by simp; omega, ?_, by rw [h4]; rfl, by rw [h5]; rfl⟩
        unfold Lib.indexByte; rw [h3, hb]
        have : ((k : Int) == -1) = false := beq_false_of_ne (by omega)
        rw [this]; simp
theorem splitS_count (sep : UInt8) (l : List UInt8) : (splitS sep l).length = l.count sep + 1 := by
  induction l with
  | nil => rfl
  | cons c l ih =>
    by_cases h : c = sep
    · subst h; simp [splitS, ih]
    · simp only [splitS, if_neg h]
      rw [List.count_cons_of_ne (by simpa using h)]
      cases hs : splitS sep l with
      | nil => exact absurd hs (splitS_ne sep l)
      | cons a t => rw [hs] at ih; simpa using ih
set_option maxHeartbeats 1000000 in
theorem index_comma (s : ByteArray) (w : World) :
    Calls Tryd.prog 56 #[.string s, .string (ByteArray.mk #[44])] w fun e w' => e = .returned (.int .i64 (Lib.indexByte s.data.toList 44)) ∧ w' = w := by
  have I1 := fun w => Tryd.stringslite_IndexByte s 44 w
  rw [show ((44 : Int).toNat.toUInt8) = 44 from rfl] at I1
  have I1 := Lib.hid I1
  by_cases h1 : ([44] : List UInt8) = s.toList
  · have d1 : (([44] : List UInt8) == s.toList) = true := by simpa using h1
    have h2 : s.data.toList = [44] := by rw [← Lib.toList_data, ← h1]
    rw [h2]
    have HX := Lib.hid (show Ending.returned (.int .i64 (Lib.indexByte [44] 44)) = .returned (.int .i64 0) from rfl)
    clear h1 h2
    go_enter Tryd.func56, Tryd.ntmps56
    go_wp2_with fail
    go_ret
    exact ⟨HX.out.symm, rfl⟩
  · have d1 : (([44] : List UInt8) == s.toList) = false := by simpa using h1
    clear h1
    go_enter Tryd.func56, Tryd.ntmps56
    go_wp2_with fail
    refine (I1.out _).mono ?_; rintro e w1 ⟨rfl, rfl⟩
    go_wp2_with fail
    go_ret
    exact ⟨rfl, rfl⟩
set_option maxHeartbeats 1000000 in
theorem scut_any (s : ByteArray) (w : World) (hs : s.size ≤ 100000) :
    Calls Tryd.prog 50 #[.string s, .string (ByteArray.mk #[44])] w fun e w' => e = .returned (.tuple #[.string (bs (cutS 44 s.data.toList).1), .string (bs (cutS 44 s.data.toList).2.1), .bool (cutS 44 s.data.toList).2.2]) ∧ Below w.heap.size w w' := by
  have I1 := Lib.hid fun w => index_comma s w
  rcases cutS_ix 44 s.data.toList with ⟨h1, h2, h3, h4⟩ | ⟨h1, k, hk, h4, h2, h3⟩
  · have HX := Lib.hid (show Ending.returned (.tuple #[.string (bs (cutS 44 s.data.toList).1), .string (bs (cutS 44 s.data.toList).2.1), .bool (cutS 44 s.data.toList).2.2]) = .returned (.tuple #[.string s, .string ⟨#[]⟩, .bool false]) by rw [h1, h2, h3, bs_of]; rfl)
    rw [h4] at I1
    clear h1 h2 h3 h4
    go_enter Tryd.func50, Tryd.ntmps50
    go_wp2_with fail
    refine (I1.out _).mono ?_; rintro e w1 ⟨rfl, rfl⟩
    go_wp2_with fail
    go_ret3
    exact ⟨HX.out.symm, Below.refl _ _⟩
  · rw [data_len] at hk
    have e1 : s.extract 0 k = bs (cutS 44 s.data.toList).1 := by rw [← bs_of (s.extract 0 k), extract_list, List.drop_zero, h2]
    have e2 : s.extract (k + 1) s.size = bs (cutS 44 s.data.toList).2.1 := by
      rw [← bs_of (s.extract (k + 1) s.size), extract_list, List.take_of_length_le (by rw [data_len]; exact Nat.le_refl _), h3]
    have HX := Lib.hid (show Ending.returned (.tuple #[.string (bs (cutS 44 s.data.toList).1), .string (bs (cutS 44 s.data.toList).2.1), .bool (cutS 44 s.data.toList).2.2]) = .returned (.tuple #[.string (s.extract 0 k), .string (s.extract (k + 1) s.size), .bool true]) by rw [h1, e1, e2])
    rw [h4] at I1
    have d0 : decide ((0 : Int) ≤ (k : Int)) = true := decide_eq_true (by omega)
    have q1 : IntKind.i64.wrap ((k : Int) + 1) = (k : Int) + 1 := IntWalk.i64_in _ (by omega)
    have hs1 := fun w => run_slice_string_h (P := Tryd.prog) w 9 s (by kernel_rfl) .i64 (k : Int) (by omega) (by omega)
    have hs2 := fun w => run_slice_string_l (P := Tryd.prog) w 9 s (by kernel_rfl) .i64 ((k : Int) + 1) (by omega) (by omega)
    rw [show ((k : Int)).toNat = k by omega] at hs1
    rw [show ((k : Int) + 1).toNat = k + 1 by omega] at hs2
    clear h1 h2 h3 h4 e1 e2
    generalize s.extract 0 k = X at *
    generalize s.extract (k + 1) s.size = Y at *
    go_enter Tryd.func50, Tryd.ntmps50
    go_wp2_with fail
    refine (I1.out _).mono ?_; rintro e w1 ⟨rfl, rfl⟩
    go_wp2_with fail
    go_quiet (fail)
    go_wp2_with fail
    go_ret3
    exact ⟨HX.out.symm, below_drewN0 (Below.refl _ _) _⟩
theorem cut_any (s : ByteArray) (w : World) (hs : s.size ≤ 100000) :
    Calls Tryd.prog 39 #[.string s, .string (ByteArray.mk #[44])] w fun e w' => e = .returned (.tuple #[.string (bs (cutS 44 s.data.toList).1), .string (bs (cutS 44 s.data.toList).2.1), .bool (cutS 44 s.data.toList).2.2]) ∧ Below w.heap.size w w' := by
  have H := Lib.hid (scut_any s w hs)
  generalize bs (cutS 44 s.data.toList).1 = X at *
  generalize bs (cutS 44 s.data.toList).2.1 = Y at *
  generalize (cutS 44 s.data.toList).2.2 = Z at *
  go_enter Tryd.func39, Tryd.ntmps39
  go_wp2_with fail
  refine H.out.mono ?_; rintro e w' ⟨rfl, hb⟩
  have HB := Lib.hid hb
  clear hb
  go_wp2_with fail
  go_ret3
  exact ⟨rfl, HB.out⟩
/-- So many parts are read, and what is left. -/
def PartI (l : List UInt8) (k : Nat) (r : List UInt8) (out : List Int) : Prop :=
  ∃ P R : List (List UInt8), splitS 44 l = P ++ R ∧ P.length = k ∧ (∀ p ∈ P, parE p = 0) ∧ out = P.map parV ∧ (R = [] ∨ R = splitS 44 r) ∧ r.length ≤ l.length
theorem partI_zero (l : List UInt8) : PartI l 0 l [] := ⟨[], splitS 44 l, rfl, rfl, by simp, rfl, Or.inr rfl, Nat.le_refl _⟩
theorem partI_more {l r : List UInt8} {k : Nat} {out : List Int} (h : PartI l k r out) (hk : k < (splitS 44 l).length) : (cutS 44 r).1 ∈ splitS 44 l ∧
    (parE (cutS 44 r).1 = 0 → PartI l (k + 1) (cutS 44 r).2.1 (out ++ [parV (cutS 44 r).1])) := by
  obtain ⟨P, R, h1, h2, h3, h4, h5, h6⟩ := h
  have hR : R = splitS 44 r := by
    rcases h5 with h5 | h5
    · rw [h1, h5, List.append_nil] at hk; omega
    · exact h5
  have hc := cutS_split 44 r
  have hl := (cutS_len 44 r).2
  refine ⟨?_, fun hp => ?_⟩
  · rw [h1, hR, hc]
    by_cases hf : (cutS 44 r).2.2 = true
    · rw [if_pos hf]; simp
    · rw [if_neg hf]; simp
  · by_cases hf : (cutS 44 r).2.2 = true
    · rw [if_pos hf] at hc
      exact ⟨P ++ [(cutS 44 r).1], splitS 44 (cutS 44 r).2.1, by rw [h1, hR, hc]; simp, by simp [h2], by
        intro p hp2
        rcases List.mem_append.1 hp2 with hp2 | hp2
        · exact h3 p hp2
        · obtain rfl : p = (cutS 44 r).1 := by simpa using hp2
          exact hp, by rw [h4]; simp, Or.inr rfl, by omega⟩
    · rw [if_neg hf] at hc
      exact ⟨P ++ [(cutS 44 r).1], [], by rw [h1, hR, hc]; simp, by simp [h2], by
        intro p hp2
        rcases List.mem_append.1 hp2 with hp2 | hp2
        · exact h3 p hp2
        · obtain rfl : p = (cutS 44 r).1 := by simpa using hp2
          exact hp, by rw [h4]; simp, Or.inl rfl, by omega⟩
theorem partI_end {l r : List UInt8} {out : List Int} (h : PartI l (splitS 44 l).length r out) : plE l ((splitS 44 l).length : Nat) = 0 ∧ plV l ((splitS 44 l).length : Nat) = out := by
  obtain ⟨P, R, h1, h2, h3, h4, _⟩ := h
  have hR : R = [] := by
    have := congrArg List.length h1
    rw [List.length_append] at this
    exact List.eq_nil_of_length_eq_zero (by omega)
  rw [hR, List.append_nil] at h1
  have e : plE l ((splitS 44 l).length : Nat) = 0 := by unfold plE; rw [if_pos ⟨by rw [h1]; exact h3, rfl⟩]
  exact ⟨e, by unfold plV; rw [if_pos e, h4, h1]⟩
theorem part_bad {l : List UInt8} {many : Int} (h : (∃ p ∈ splitS 44 l, parE p ≠ 0) ∨ ((splitS 44 l).length : Int) ≠ many) : plE l many = 2 ∧ plV l many = [] := by
  have e : plE l many = 2 := by
    unfold plE; rw [if_neg]
    rintro ⟨h1, h2⟩
    rcases h with ⟨p, hp, h3⟩ | h3
    · exact h3 (h1 p hp)
    · exact h3 h2
  exact ⟨e, by unfold plV; rw [e]; rfl⟩
set_option maxHeartbeats 2000000 in
theorem dplist_any (s : ByteArray) (many : Int) (w : World) (hs : s.size ≤ 100000) (ht : Tb w) :
    Calls Tryd.prog 32 #[.string s, .int .i64 many] w (PlR s.data.toList many w) := by
  obtain ⟨i0, hi, hz0, hz1, hz2⟩ := info_parts infoI64
  have C1 := fun w => Tryd.strings_Count_one s 44 w
  have hcn : (Lib.countByte s.data.toList 44 : Int) + 1 = ((splitS 44 s.data.toList).length : Nat) := by
    rw [splitS_count]; unfold Lib.countByte; omega
  have hsl := splitS_len 44 s.data.toList
  rw [data_len] at hsl
  have HT := Lib.hid ht
  clear ht
  have q1 : IntKind.i64.wrap ((Lib.countByte s.data.toList 44 : Int) + 1) = ((splitS 44 s.data.toList).length : Nat) := by rw [IntWalk.i64_in _ (by omega)]; exact hcn
  have C1 := Lib.hid C1
  by_cases hm : ((splitS 44 s.data.toList).length : Int) = many
  · subst hm
    have HE := Lib.hid fun r out h => partI_end (l := s.data.toList) (r := r) (out := out) h
    have HM := Lib.hid fun k r out h hk => partI_more (l := s.data.toList) (r := r) (out := out) (k := k) h hk
    have HBD := Lib.hid fun h => part_bad (l := s.data.toList) (many := ((splitS 44 s.data.toList).length : Nat)) h
    have hpe : ∀ p : List UInt8, parE p = 0 ∨ ¬ parE p = 0 := fun p => by omega
    have HPE := Lib.hid hpe
    have hz0' := partI_zero s.data.toList
    have HZ := Lib.hid hz0'
    clear hz0' hpe hcn
    generalize hN : (splitS 44 s.data.toList).length = N at *
    have HN := Lib.hid hN
    clear hN
    generalize Lib.countByte s.data.toList 44 = ct at *
    have d1 : ((N : Int) == (N : Int)) = true := by simp
    have d2 : ((N : Int) != (N : Int)) = false := by simp
    go_enter Tryd.func32, Tryd.ntmps32
    go_wp2_with fail
    refine (C1.out _).mono ?_; rintro e w1 ⟨rfl, rfl⟩
    go_wp2_with fail
    go_loopw [0, 6, 18] (fun sv v i wr => ∃ (k : Nat) (r : List UInt8) (out : List Int), sv = .string (bs r) ∧ i = .int .i64 k ∧ k ≤ N ∧ PartI s.data.toList k r out ∧ wr.ownsRow w1.heap.size 3 1 v out.length (ints out) ∧ Below w1.heap.size w1 wr) (fun _ _ i _ => N - (intOf i).toNat)
    case atStart => exact ⟨0, s.data.toList, [], by rw [bs_of], rfl, Nat.zero_le _, HZ.out, World.ownsRow_nil _ _ _ _, Below.refl _ _⟩
    case round =>
      obtain ⟨k, r, out, rfl, rfl, hk, hI, hown, hb⟩ := hrel
      have hol : out.length = k := by obtain ⟨P, R, _, h2, _, h4, _⟩ := hI; rw [h4, List.length_map, h2]
      have hrl : r.length ≤ s.size := by obtain ⟨P, R, _, _, _, _, _, h6⟩ := hI; rw [data_len] at h6; exact h6
      have HI := Lib.hid hI
      have HO := Lib.hid hown
      have HB := Lib.hid hb
      clear hI hown hb
      by_cases hlt : k < N
      · have dk : decide (k < N) = true := decide_eq_true hlt
        have K1 := fun w => cut_any (bs r) w (by rw [bs_size]; omega)
        rw [bs_list] at K1
        have K1 := Lib.hid K1
        obtain ⟨hmem, hnx⟩ := HM.out k r out HI.out hlt
        have hcl := cutS_len 44 r
        have P1 := fun w (h : Tb w) => dparse_any (bs (cutS 44 r).1) w (by rw [bs_size]; omega) h
        rw [bs_list] at P1
        have HMEM := Lib.hid hmem
        have HNX := Lib.hid hnx
        have hin := parV_in (cutS 44 r).1
        unfold inI at hin
        obtain ⟨hin1, hin2⟩ := hin
        clear hmem hnx hcl
        generalize (cutS 44 r).1 = pt at *
        generalize (cutS 44 r).2.1 = rs at *
        generalize (cutS 44 r).2.2 = fd at *
        rcases HPE.out pt with he | he
        · have HN2 := Lib.hid (HNX.out he)
          rw [he] at P1
          have P1 := Lib.hid P1
          generalize parV pt = pv at *
          clear he
          go_wp2_with fail
          refine (K1.out _).mono ?_; rintro e w2 ⟨rfl, b2⟩
          have HB2 := Lib.hid (HB.out.trans (b2.mono HB.out.size))
          have HO2 := Lib.hid (owns_below HO.out b2)
          clear b2
          go_wp2_with fail
          refine (P1.out _ (tb_below HT.out HB2.out)).mono ?_; rintro e w3 ⟨rfl, b3⟩
          have HB3 := Lib.hid (HB2.out.trans (b3.mono HB2.out.size))
          have HO3 := Lib.hid (owns_below HO2.out b3)
          clear b3
          have hw3 : w1.heap.size ≤ w3.heap.size := HB3.out.size
          go_wp2_with (at_builtin; refine wpList_append_own _ rfl _ _ 41 rfl w1.heap.size 3 i0 (.int .i64 0) 1 8 Tryd.underlying41 hi hz0 hz1 hz2 rfl (by decide) _ _ _ rfl (HO3.out.alloc _) ⟨w3.heap.size, 0, none⟩ 1 1 [.int .i64 pv] rfl rfl (cell_one_new _ _ _) ?c2 ?c3 ?c4 ?c5 ?_)
          case c2 => intro u hu; simp at hu; subst hu; rfl
          case c3 => unfold maxLen; omega
          case c4 => omega
          case c5 => simp; omega
          intro v' w4 hown4 hgrow _
          have hb4 := grown_below (HB3.out.alloc (HB3.out.size) _) hgrow (fun g hg => owns_row HO3.out hg) (by simp; omega)
          have HB4 := Lib.hid hb4
          have hown4' : w4.ownsRow w1.heap.size 3 1 v' (out ++ [pv]).length (ints (out ++ [pv])) := by
            simpa [ints, hol] using hown4
          have HO4 := Lib.hid hown4'
          clear hb4 hown4 hown4' hgrow
          go_wp2_with fail
          go_roundw
          case rel => exact ⟨k + 1, rs, out ++ [pv], rfl, by go_num, by omega, HN2.out, HO4.out, HB4.out⟩
          case measure => simp [intOf]; omega
        · have hpb := par_bad he
          have HX := Lib.hid (HBD.out (Or.inl ⟨pt, HMEM.out, he⟩))
          rw [hpb.1, hpb.2] at P1
          have P1 := Lib.hid P1
          clear he hpb
          generalize parV pt = pv at *
          go_wp2_with fail
          refine (K1.out _).mono ?_; rintro e w2 ⟨rfl, b2⟩
          have HB2 := Lib.hid (HB.out.trans (b2.mono HB.out.size))
          clear b2
          go_wp2_with fail
          refine (P1.out _ (tb_below HT.out HB2.out)).mono ?_; rintro e w3 ⟨rfl, b3⟩
          have HB3 := Lib.hid (HB2.out.trans (b3.mono HB2.out.size))
          clear b3
          go_wp2_with fail
          go_ret2
          exact plR_bad HX.out HB3.out
      · obtain rfl : k = N := by omega
        have dk : decide (k < k) = false := decide_eq_false hlt
        obtain ⟨h1, h2⟩ := HE.out r out HI.out
        have HX1 := Lib.hid h1
        have HX2 := Lib.hid h2
        clear h1 h2
        go_wp2_with fail
        go_ret2
        exact ⟨_, by rw [HX1.out]; rfl, by rw [HX2.out]; exact Rd.own HO.out, HB.out⟩
  · have HX := Lib.hid (part_bad (l := s.data.toList) (many := many) (Or.inr hm))
    have d1 : ((((splitS 44 s.data.toList).length : Nat) : Int) == many) = false := beq_false_of_ne hm
    have d2 : ((((splitS 44 s.data.toList).length : Nat) : Int) != many) = true := by simpa using hm
    clear hm hcn hsl
    generalize (splitS 44 s.data.toList).length = N at *
    generalize Lib.countByte s.data.toList 44 = ct at *
    go_enter Tryd.func32, Tryd.ntmps32
    go_wp2_with fail
    refine (C1.out _).mono ?_; rintro e w1 ⟨rfl, rfl⟩
    go_wp2_with fail
    go_ret2
    exact plR_bad HX.out (Below.refl _ _)
end Go.Proofs.YtgiofaccigkfjaaDoor
