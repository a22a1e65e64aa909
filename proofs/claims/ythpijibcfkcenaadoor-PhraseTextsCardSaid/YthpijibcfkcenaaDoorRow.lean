/- Package row: what Line, Parse and Word come to. Conditions: texts of at most 100,000 bytes, lists of at most 1,000; the library's table holds what it was laid with. -/
import Derived.Test.YthpijibcfkcenaaDoorRowRef
import Derived.Test.YthpijibcfkcenaaDoorWrdA
import Derived.Test.YthpijibcfkcenaaDoorWrdD
import Derived.Test.YthpijibcfkcenaaDoorDecB
namespace Go.Proofs.YthpijibcfkcenaaDoor
open Go.ChangeShapes Go.WideShapes Go.ChangeAt Go.RowKit
set_option linter.unusedVariables false
set_option maxRecDepth 100000
set_option linter.unusedSimpArgs false

theorem kword_any (s : ByteArray) (w : World) (hs : s.size ≤ 100000) :
    Calls Tryd.prog 27 #[.string s] w fun e w' => e = .returned (.string (bs (rowW s.data.toList))) ∧ Below w.heap.size w w' := by
  have W1 := wwords_any s w hs
  unfold StrsR at W1
  cases hL : wordsL s.data.toList with
  | nil =>
    rw [hL] at W1
    have HX := Lib.hid (show Ending.returned (.string (bs (rowW s.data.toList))) = .returned (.string ⟨#[]⟩) by unfold rowW; rw [hL]; rfl)
    have W1 := Lib.hid W1
    clear hL
    go_enter Tryd.func27, Tryd.ntmps27
    go_wp2_with fail
    refine W1.out.mono ?_; rintro e w1 ⟨v, rfl, hr, hb⟩
    obtain ⟨A, c, rfl, _, _⟩ := hr.form
    have HB := Lib.hid hb
    clear hr hb
    rw [strs_len]
    go_wp2_with fail
    go_ret
    exact ⟨HX.out.symm, HB.out⟩
  | cons x ps =>
    rw [hL] at W1
    have HX := Lib.hid (show Ending.returned (.string (bs (rowW s.data.toList))) = .returned (.string (bs x)) by unfold rowW; rw [hL]; rfl)
    have W1 := Lib.hid W1
    clear hL
    go_enter Tryd.func27, Tryd.ntmps27
    go_wp2_with fail
    refine W1.out.mono ?_; rintro e w1 ⟨v, rfl, hr, hb⟩
    obtain ⟨A, c, rfl, _, _⟩ := hr.form
    obtain ⟨b, o, rfl, _, hx⟩ := hr.at_ (k := 0) (by rw [strs_len]; simp)
    have g : w1.cell? ⟨b, o, none⟩ = some (.string (bs x)) := by
      have := hx 0 (by rw [strs_len]; simp)
      simpa [strs] using this
    have HB := Lib.hid hb
    clear hr hb hx
    rw [strs_len, List.length_cons]
    generalize bs x = X at *
    generalize ps.length = n at *
    have d0 : (((n + 1 : Nat) : Int) == 0) = false := beq_false_of_ne (by omega)
    have d1 : decide ((0 : Int) < ((n + 1 : Nat) : Int)) = true := decide_eq_true (by omega)
    go_wp2_with fail
    go_ret
    exact ⟨HX.out.symm, HB.out⟩

/-- What is left of a part without its name, and without its sign. -/
def cutN (p a : List UInt8) : List UInt8 := Lib.trimPrefix p a
def cutT (p a : List UInt8) : List UInt8 := Lib.trimPrefix (cutN p a) [61]
theorem trim_len (p a : List UInt8) : (Lib.trimPrefix p a).length ≤ p.length := by
  unfold Lib.trimPrefix; split
  · simp
  · exact Nat.le_refl _
theorem cut_part (p a : List UInt8) : partO a p = if (Lib.hasPrefix p a && Lib.hasPrefix (cutN p a) [61] && decide (parE (cutT p a) = 0)) = true then some (parV (cutT p a)) else none := by
  by_cases h1 : Lib.hasPrefix p a = true
  · obtain ⟨r, rfl⟩ := List.isPrefixOf_iff_prefix.1 (by unfold Lib.hasPrefix at h1; exact h1)
    have e1 : cutN (a ++ r) a = r := by unfold cutN Lib.trimPrefix; rw [if_pos h1]; simp
    have eT : cutT (a ++ r) a = Lib.trimPrefix r [61] := by unfold cutT; rw [e1]
    rw [e1, eT, h1]
    by_cases h2 : Lib.hasPrefix r [61] = true
    · obtain ⟨t, rfl⟩ := List.isPrefixOf_iff_prefix.1 (by unfold Lib.hasPrefix at h2; exact h2)
      have e2 : Lib.trimPrefix ([61] ++ t) [61] = t := by unfold Lib.trimPrefix; rw [if_pos h2]; simp
      have e : a ++ ([61] ++ t) = (a ++ [61]) ++ t := by simp
      rw [h2, e2]
      unfold partO
      rw [e, List.take_left' (by simp), List.drop_left' (by simp)]
      by_cases h3 : parE t = 0 <;> simp [h3]
    · have h2' : Lib.hasPrefix r [61] = false := by simpa using h2
      rw [h2']
      simp only [Bool.and_false, Bool.false_and, Bool.false_eq_true, if_false]
      refine partO_no fun e => h2 ?_
      rw [List.take_append, List.take_of_length_le (by omega)] at e
      have e3 := List.append_cancel_left e
      unfold Lib.hasPrefix
      rw [List.isPrefixOf_iff_prefix, ← e3]
      exact List.take_prefix _ _
  · have h1' : Lib.hasPrefix p a = false := by simpa using h1
    rw [h1']
    simp only [Bool.false_and, Bool.false_eq_true, if_false]
    refine partO_no fun e => h1 ?_
    unfold Lib.hasPrefix
    rw [List.isPrefixOf_iff_prefix]
    have : (a ++ [61]) <+: p := by rw [← e]; exact List.take_prefix _ _
    exact (List.prefix_append a [61]).trans this
set_option maxHeartbeats 2000000 in
theorem kread_any (p a : List UInt8) (c : Bool) (b : Nat) (w : World) (hp : p.length ≤ 100000) (hv : w.heap[b]? = some (.cells #[.bool c] 4 (0, 0))) (ht : Tb w) :
    Calls Tryd.prog 47 #[.string (bs p), .string (bs a), .pointer (some ⟨b, 0, none⟩)] w fun e w' => e = .returned (.int .i64 (parV (cutT p a))) ∧ w'.heap[b]? = some (.cells #[.bool (c && (partO a p).isSome)] 4 (0, 0)) ∧ Only b w w' := by
  have hs : (c && (partO a p).isSome) = (c && (Lib.hasPrefix p a && Lib.hasPrefix (cutN p a) [61] && decide (parE (cutT p a) = 0))) := by
    congr 1
    rw [cut_part]; split <;> simp_all
  rw [hs]
  have C1 := fun w => Tryd.strings_CutPrefix (bs p) (bs a) w
  have C2 := fun w => Tryd.strings_CutPrefix (bs (cutN p a)) ⟨#[61]⟩ w
  rw [bs_list, bs_list, show Lib.trimPrefix p a = cutN p a from rfl] at C1
  rw [bs_list, show (ByteArray.mk #[61]).data.toList = [61] from rfl, show Lib.trimPrefix (cutN p a) [61] = cutT p a from rfl] at C2
  have hl : (cutT p a).length ≤ 100000 := Nat.le_trans (trim_len _ _) (Nat.le_trans (trim_len _ _) hp)
  have P1 := fun w (h : Tb w) => dparse_any (bs (cutT p a)) w (by rw [bs_size]; exact hl) h
  rw [bs_list] at P1
  have hin := parV_in (cutT p a)
  unfold inI at hin
  obtain ⟨hin1, hin2⟩ := hin
  have HV := Lib.hid hv
  have HT := Lib.hid ht
  clear hs hl hp hv ht
  generalize Lib.hasPrefix p a = n1 at *
  generalize Lib.hasPrefix (cutN p a) [61] = n2 at *
  generalize cutN p a = N at *
  generalize cutT p a = T at *
  generalize parV T = v at *
  have hE : ∃ ok : Bool, decide (parE T = 0) = ok ∧ ((parE T : Int) == 0) = ok := ⟨decide (parE T = 0), rfl, by rw [Bool.eq_iff_iff]; simp⟩
  obtain ⟨ok, hE1, hE2⟩ := hE
  rw [hE1]
  clear hE1
  generalize (parE T : Int) = E at *
  have P1 := Lib.hid P1
  have C1 := Lib.hid C1
  have C2 := Lib.hid C2
  cases c <;> cases n1 <;> cases n2 <;> cases ok
  all_goals
    go_enter Tryd.func47, Tryd.ntmps47
    go_wp2_with fail
    refine (C1.out _).mono ?_; rintro e w1 ⟨rfl, rfl⟩
    go_wp2_with fail
    refine (C2.out _).mono ?_; rintro e w1 ⟨rfl, rfl⟩
    go_wp2_with fail
    refine (P1.out _ HT.out).mono ?_; rintro e w3 ⟨rfl, b3⟩
    have hv3 := blk_below b3 HV.out (lt_of_block HV.out)
    have c3 := cell_of_one hv3
    have f3 := free_of_one hv3
    have HV3 := Lib.hid hv3
    have HO := Lib.hid (Only.of b b3)
    clear b3 hv3
    go_wp2_with fail
    go_ret
    exact ⟨rfl, one_setCell HV3.out, HO.out.setCell _ _⟩
set_option maxHeartbeats 2000000 in
theorem kline_any (x : ByteArray) (va vn : Value) (ks : List (List UInt8)) (ns : List Int) (w : World) (hx : x.size ≤ 10000) (hk : ks.length ≤ 900) (hz : allLen ks ≤ 50000) (hn : ns.length ≤ 9223372036854775807) (hi : ∀ n ∈ ns, inI n)
    (ha : Rd w w.heap.size va (strs ks)) (hb : Rd w w.heap.size vn (ints ns)) (ht : Tb w) :
    Calls Tryd.prog 22 #[.string x, va, vn] w fun e w' => e = .returned (.string (bs (rowL x.data.toList ks ns))) ∧ Below w.heap.size w w' := by
  obtain ⟨i0, hi', hz0, hz1, hz2⟩ := info_parts infoS
  obtain ⟨A1, c1, rfl, _, _⟩ := ha.form
  obtain ⟨A2, c2, rfl, _, _⟩ := hb.form
  rw [strs_len] at ha ⊢
  rw [ints_len] at hb ⊢
  have HA := Lib.hid ha
  have HN := Lib.hid hb
  have HI := Lib.hid hi
  have HT := Lib.hid ht
  have hal := allLen_parts x.data.toList ks ns hi
  rw [data_len] at hal
  have HAL := Lib.hid hal
  have HZA := Lib.hid fun k (h : k < ks.length) => Nat.le_trans (len_le_all ks k h) hz
  clear ha hb hi hal ht
  obtain ⟨m, hm⟩ : ∃ m, m = min ks.length ns.length := ⟨_, rfl⟩
  have hmi : (min (ks.length : Int) (ns.length : Int)) = (m : Int) := by omega
  have hm1 : m ≤ ks.length := by omega
  have hm2 : m ≤ ns.length := by omega
  have HM := Lib.hid hm
  clear hm
  go_enter Tryd.func22, Tryd.ntmps22
  go_wp2_with fail
  go_loopw [7, 16] (fun v i wr => ∃ k : Nat, i = .int .i64 k ∧ k ≤ m ∧ wr.ownsRow w.heap.size 9 1 v (k + 1) (strs (partsK x.data.toList ks ns k)) ∧ Below w.heap.size w wr) (fun _ i _ => m - (intOf i).toNat)
  case atStart =>
    refine ⟨0, rfl, Nat.zero_le _, ?_, (Below.refl _ w).alloc (Nat.le_refl _) _⟩
    have := World.ownsRow_lit (base := w.heap.size) (e := 9) (size := 1) w #[.string x] 1 (Nat.le_refl _) (by unfold maxLen; omega) rfl
    simpa [partsK, strs, bs_of] using this
  case round =>
    obtain ⟨k, rfl, hkm, hown, hbw⟩ := hrel
    have HO := Lib.hid hown
    have HB := Lib.hid hbw
    clear hown hbw
    by_cases hltm : k < m
    · have dkm : decide (k < m) = true := decide_eq_true hltm
      have hlt : k < ks.length := by omega
      have hln : k < ns.length := by omega
      obtain ⟨ab, ao, rfl, hab, hax⟩ := HA.out.at_ (k := k) (by rw [strs_len]; exact hlt)
      obtain ⟨nb, no, rfl, hnb, hnx⟩ := HN.out.at_ (k := k) (by rw [ints_len]; exact hln)
      have ga : wr.cell? ⟨ab, ao + k, none⟩ = some (.string (bs ks[k])) := by
        rw [HB.out.cell (p := ⟨ab, ao + k, none⟩) hab, hax k (by rw [strs_len]; exact hlt), strs_get]
      have gn : wr.cell? ⟨nb, no + k, none⟩ = some (.int .i64 ns[k]) := by
        rw [HB.out.cell (p := ⟨nb, no + k, none⟩) hnb, hnx k (by rw [ints_len]; exact hln), ints_get]
      have hin := HI.out _ (List.getElem_mem hln)
      have htl := textL_len _ hin
      have hza := HZA.out k hlt
      have T1 := fun w (h : Tb w) => dtext_any ns[k] hin w h
      have HP := Lib.hid (partsK_next x.data.toList ks ns k hlt hln)
      have hap : bs ks[k] ++ ByteArray.mk #[61] ++ bs (textL ns[k]) = bs (partL ks[k] ns[k]) := by
        rw [show ByteArray.mk #[61] = bs [61] from rfl, bs_append, bs_append]; unfold partL; simp
      have HAP := Lib.hid hap
      have hs1 : (bs ks[k]).size ≤ 50000 := by rw [bs_size]; exact hza
      have hs2 : (bs (textL ns[k])).size ≤ 20 := by rw [bs_size]; exact htl
      have hs3 : (bs ks[k] ++ ByteArray.mk #[61]).size ≤ 50001 := by rw [ByteArray.size_append]; show _ + 1 ≤ _; omega
      have hib1 : 0 ≤ (k : Int) := by omega
      have hib2 : (k : Int) < (ks.length : Int) := by omega
      have hib3 : (k : Int) < (ns.length : Int) := by omega
      clear hax hnx hin htl hza hap
      generalize bs ks[k] = Ba at *
      generalize bs (textL ns[k]) = Bt at *
      generalize ns[k] = nn at *
      generalize hBp : bs (partL ks[k] nn) = Bp at *
      have HBP := Lib.hid hBp
      clear hBp
      have T2 := Lib.hid T1
      clear T1
      have HTD := Lib.hid (show Tb wr.drew from tb_below HT.out HB.out.drew)
      have hc1 : ¬ (9223372036854775807 < Ba.size + 1) := by omega
      have hc2 : ¬ (9223372036854775807 < Ba.size + 1 + Bt.size) := by omega
      have hc3 : ¬ (9223372036854775807 < (Ba ++ ByteArray.mk #[61]).size + Bt.size) := by omega
      go_upto_region 5 with (fail)
      go_region_law (first
        | (go_simp; go_at_call 42; refine (T2.out _ HTD.out).mono ?_; rintro e w2 ⟨rfl, b2⟩; have ga2 := (((Below.refl wr.heap.size wr).drew.trans b2).cell (p := ⟨ab, ao + k, none⟩) (Nat.lt_of_lt_of_le hab HB.out.size)).trans ga; have HO2 := Lib.hid (owns_below HO.out ((Below.refl wr.heap.size wr).drew.trans b2)); have HB2 := Lib.hid (HB.out.trans (((Below.refl wr.heap.size wr).drew.trans b2).mono HB.out.size)); clear b2)
        | (refine step_append_lies _ rfl (.tmp 19) (.tmp 31) 45 rfl w.heap.size 9 i0 (.string ⟨#[]⟩) 1 16 Tryd.underlying45 hi' hz0 hz1 hz2 rfl (by decide) _ (k + 1) _ (by simp [Act.eval, Act.put]) (HO2.out.alloc _) ⟨w2.heap.size, 0, none⟩ 1 1 [.string (Ba ++ ByteArray.mk #[61] ++ Bt)] (by simp [Act.eval, Act.put]) rfl (cell_one_new _ _ _) (by intro u hu; simp at hu; subst hu; rfl) (by omega) (by unfold maxLen; omega) (by omega) (by have := HB2.out.size; simp; omega) _ rfl ?_; intro g cap w4 hown4 hgrow hat hltg))
      all_goals
        have hb4 := grown_below (HB2.out.alloc (by have := HB2.out.size; simpa using this) _) hgrow (fun g hg => owns_row HO2.out hg) (by have := HB2.out.size; simp; omega)
        have HB4 := Lib.hid hb4
        rw [HAP.out] at hown4
        have hown5 : w4.ownsRow w.heap.size 9 1 (.slice (some ⟨g, 0, none⟩) (k + 1 + 1) cap) (k + 1 + 1) (strs (partsK x.data.toList ks ns (k + 1))) := by
          rw [HP.out, show strs (partsK x.data.toList ks ns k ++ [partL ks[k] nn]) = strs (partsK x.data.toList ks ns k) ++ [.string Bp] by rw [← HBP.out]; simp [strs]]
          exact hown4
        have HO5 := Lib.hid hown5
        clear hb4 hown4 hown5 hgrow hat
        go_wp2_with fail
        go_roundw
        case rel => exact ⟨k + 1, by go_num, by omega, HO5.out, HB4.out⟩
        case measure => simp [intOf]; omega
    · obtain rfl : k = m := by omega
      have dkm : decide (k < k) = false := decide_eq_false hltm
      have hpe := partsK_end x.data.toList ks ns k (by have := HM.out; omega)
      have hrd := Rd.own HO.out
      rw [hpe] at hrd
      have hpl := partsK_len x.data.toList ks ns k (by omega) (by omega)
      rw [hpe] at hpl
      have J1 := Lib.hid fun v h => wjoin_any v (rowParts x.data.toList ks ns) wr (by omega) (by have := HAL.out; omega) h
      have HRD := Lib.hid hrd
      clear hrd hpe hpl
      go_wp2_with fail
      refine (J1.out _ HRD.out).mono ?_; rintro e w2 ⟨rfl, b2⟩
      have HB2 := Lib.hid (HB.out.trans (b2.mono HB.out.size))
      clear b2
      go_wp2_with fail
      go_ret
      exact ⟨rfl, HB2.out⟩
/-- So many parts are looked at: whether all were right so far, and the numbers. -/
def RdIx (l x : List UInt8) (ks ps : List (List UInt8)) (k : Nat) (c : Bool) (out : List Int) : Prop :=
  out.length = k ∧ ((c = true ∧ rowO l x ks = partsO ks ps ∧ PrI ks ps k out) ∨ (c = false ∧ rowO l x ks = none))
theorem rdI_zero {l x y : List UInt8} {ks ps : List (List UInt8)} (h : wordsL l = y :: ps) : RdIx l x ks ps 0 (decide (y = x)) [] := by
  refine ⟨rfl, ?_⟩
  by_cases e : y = x
  · subst e
    exact Or.inl ⟨by simp, rowO_parts h, prI_zero _ _⟩
  · exact Or.inr ⟨by simpa using e, rowO_word h e⟩
theorem rdI_next {l x : List UInt8} {ks ps : List (List UInt8)} {k : Nat} {c : Bool} {out : List Int} (h : RdIx l x ks ps k c out) (ha : k < ks.length) (hp : k < ps.length) :
    RdIx l x ks ps (k + 1) (c && (partO ks[k] ps[k]).isSome) (out ++ [parV (cutT ps[k] ks[k])]) := by
  obtain ⟨hl, h⟩ := h
  refine ⟨by simp [hl], ?_⟩
  rcases h with ⟨rfl, h1, h2⟩ | ⟨rfl, h1⟩
  · have hc := cut_part ps[k] ks[k]
    cases ho : partO ks[k] ps[k] with
    | none => exact Or.inr ⟨rfl, h1.trans (prI_bad h2 ha hp ho)⟩
    | some v =>
      rw [ho] at hc
      split at hc
      · obtain rfl : v = parV (cutT ps[k] ks[k]) := by simpa using hc
        exact Or.inl ⟨rfl, h1, prI_next h2 ha hp _ ho⟩
      · cases hc
  · exact Or.inr ⟨rfl, h1⟩
theorem rdI_end {l x : List UInt8} {ks ps : List (List UInt8)} {c : Bool} {out : List Int} (h : RdIx l x ks ps ks.length c out) (hp : ks.length = ps.length) :
    (c = true ∧ rowO l x ks = some out) ∨ (c = false ∧ rowO l x ks = none) := by
  obtain ⟨hl, ⟨rfl, h1, h2⟩ | ⟨rfl, h1⟩⟩ := h
  · exact Or.inl ⟨rfl, h1.trans (prI_end h2 rfl hp)⟩
  · exact Or.inr ⟨rfl, h1⟩
set_option maxHeartbeats 2000000 in
/-- Parse's answer, in a block of the call's own. -/
def RowF (l x : List UInt8) (ks : List (List UInt8)) (w : World) (e : Ending) (w' : World) : Prop :=
  ∃ v, e = .returned (.tuple #[v, .int .i64 (rowE l x ks)]) ∧ Rd w' w'.heap.size v (ints (rowV l x ks)) ∧ Below w.heap.size w w' ∧ ∀ g, v.ownBlock = some g → w.heap.size ≤ g
theorem rowF_none {l x : List UInt8} {ks : List (List UInt8)} {w w' : World} (h : rowO l x ks = none) (hb : Below w.heap.size w w') : RowF l x ks w (.returned (.tuple #[.slice none 0 0, .int .i64 2])) w' :=
  ⟨.slice none 0 0, by rw [(row_none h).1]; rfl, by rw [(row_none h).2]; exact Rd.nil _ _, hb, fun g h => by cases h⟩
theorem kparse_far (s x : ByteArray) (v : Value) (ks : List (List UInt8)) (w : World) (hs : s.size ≤ 100000) (hk : ks.length ≤ 1000) (hz : ∀ a ∈ ks, a.length ≤ 100000) (h : Rd w w.heap.size v (strs ks)) (ht : Tb w) :
    Calls Tryd.prog 29 #[.string s, .string x, v] w (RowF s.data.toList x.data.toList ks w) := by
  obtain ⟨i0, hi, hz0, hz1, hz2⟩ := info_parts infoI64
  have W1 := wwords_any s w hs
  unfold StrsR at W1
  have hwl := wordsA_len s.data.toList []
  have hwa := wordsA_all s.data.toList []
  rw [data_len] at hwl hwa
  obtain ⟨A, c, rfl, _, _⟩ := h.form
  rw [strs_len] at h ⊢
  have HK := Lib.hid h
  have HT := Lib.hid ht
  clear h hz ht
  have q1 : IntKind.i64.wrap ((ks.length : Int) + 1) = (ks.length : Int) + 1 := IntWalk.i64_in _ (by omega)
  by_cases hm : (wordsL s.data.toList).length = ks.length + 1
  · cases hL : wordsL s.data.toList with
    | nil => rw [hL] at hm; simp at hm
    | cons y ps =>
      have hps : ps.length = ks.length := by rw [hL] at hm; simpa using hm
      have hL2 : wordsA [] s.data.toList = y :: ps := hL
      rw [hL2] at hwl hwa
      rw [hL] at W1
      have W1 := Lib.hid W1
      have HZ := Lib.hid (rdI_zero (x := x.data.toList) (ks := ks) hL)
      have HWA := Lib.hid hwa
      have d0 : (((ps.length + 1 : Nat) : Int) == ((ks.length : Int) + 1)) = true := by rw [hps]; simp
      have d1 : (((ps.length + 1 : Nat) : Int) != ((ks.length : Int) + 1)) = false := by rw [hps]; simp
      have d2 : decide ((0 : Int) < ((ps.length + 1 : Nat) : Int)) = true := decide_eq_true (by omega)
      obtain ⟨cy, hcy⟩ : ∃ c, c = decide (y = x.data.toList) := ⟨_, rfl⟩
      have dx : ((bs y).toList == x.toList) = cy := by rw [hcy, bs_toList, Lib.toList_data, Bool.eq_iff_iff]; simp
      rw [← hcy] at HZ
      have HE := Lib.hid fun cc out (hI : RdIx s.data.toList x.data.toList ks ps ks.length cc out) => rdI_end hI hps.symm
      have HR := Lib.hid fun k cc out (hI : RdIx s.data.toList x.data.toList ks ps k cc out) (ha : k < ks.length) => rdI_next hI ha (hps ▸ ha)
      have HRN := Lib.hid fun w w' (h : rowO s.data.toList x.data.toList ks = none) hb => rowF_none (w := w) (w' := w') h hb
      clear hm hL hL2 hwa hcy
      go_enter Tryd.func29, Tryd.ntmps29
      go_wp2_with fail
      refine W1.out.mono ?_; rintro e w1 ⟨v1, rfl, hr, hb⟩
      obtain ⟨A1, c1, rfl, _, _⟩ := hr.form
      obtain ⟨b, o, rfl, hb1, hx⟩ := hr.at_ (k := 0) (by rw [strs_len]; simp)
      have g0 : w1.cell? ⟨b, o, none⟩ = some (.string (bs y)) := by
        have := hx 0 (by rw [strs_len]; simp)
        simpa [strs, bs_of] using this
      have HX := Lib.hid fun k (hk : k < ps.length) => (show w1.cell? ⟨b, o + (k + 1), none⟩ = some (.string (bs ps[k])) by
        have := hx (k + 1) (by rw [strs_len]; simpa using hk)
        simpa [strs] using this)
      have HB1 := Lib.hid hb
      rw [strs_len, List.length_cons]
      clear hr hb hx W1
      generalize bs y = Y at *
      go_wp2_with fail
      go_loopw [11, 30] (fun ov i wr => ∃ (k : Nat) (cc : Bool) (out : List Int), i = .int .i64 k ∧ k ≤ ks.length ∧ RdIx s.data.toList x.data.toList ks ps k cc out ∧ wr.heap[w1.heap.size]? = some (.cells #[.bool cc] 4 (0, 0)) ∧ wr.ownsRow (w1.heap.size + 1) 3 1 ov out.length (ints out) ∧ Below w1.heap.size w1 wr) (fun _ i _ => ks.length - (intOf i).toNat)
      case atStart => exact ⟨0, cy, [], rfl, Nat.zero_le _, HZ.out, blk_new _ _, World.ownsRow_nil _ _ _ _, (Below.refl _ _).alloc (Nat.le_refl _) _⟩
      case round =>
        obtain ⟨k, cc, out, rfl, hkl, hI, hblk, hown, hbw⟩ := hrel
        have hol : out.length = k := hI.1
        have HI := Lib.hid hI
        have HBK := Lib.hid hblk
        have HOW := Lib.hid hown
        have HB := Lib.hid hbw
        have hsz := lt_of_block hblk
        clear hI hown hbw hblk
        by_cases hlt : k < ks.length
        · have hltp : k < ps.length := hps ▸ hlt
          obtain ⟨kb, ko, rfl, hkb, hkx⟩ := HK.out.at_ (k := k) (by rw [strs_len]; exact hlt)
          have gk : wr.cell? ⟨kb, ko + k, none⟩ = some (.string (bs ks[k])) := by
            rw [HB.out.cell (p := ⟨kb, ko + k, none⟩) (Nat.lt_of_lt_of_le hkb HB1.out.size), HB1.out.cell (p := ⟨kb, ko + k, none⟩) hkb, hkx k (by rw [strs_len]; exact hlt), strs_get]
          have gp : wr.cell? ⟨b, o + (k + 1), none⟩ = some (.string (bs (ps[k]'hltp))) := by
            have := HX.out k hltp
            rw [HB.out.cell (p := ⟨b, o + (k + 1), none⟩) (by have := World.block_lt_of_cell? w1 _ this; exact this)]; exact this
          have HRK := Lib.hid (HR.out k cc out HI.out hlt)
          have dk : decide (k < ks.length) = true := decide_eq_true hlt
          have hzp : ps[k].length ≤ 100000 := by have := HWA.out _ (List.mem_cons_of_mem _ (List.getElem_mem hltp)); simp only [List.length_nil] at this; omega
          have hin := parV_in (cutT ps[k] ks[k])
          unfold inI at hin
          obtain ⟨hin1, hin2⟩ := hin
          have R1 := Lib.hid fun w c b (hv : w.heap[b]? = some (.cells #[.bool c] 4 (0, 0))) (ht : Tb w) => kread_any ps[k] ks[k] c b w (by omega) hv ht
          have q3 : IntKind.i64.wrap ((k : Int) + 1) = ((k + 1 : Nat) : Int) := by rw [IntWalk.i64_in _ (by omega)]; omega
          have ib : (0 : Int) ≤ ((k + 1 : Nat) : Int) := by omega
          have ib2 : ((k + 1 : Nat) : Int) < ((ps.length + 1 : Nat) : Int) := by omega
          have ib3 : decide (((k + 1 : Nat) : Int) < ((ps.length + 1 : Nat) : Int)) = true := decide_eq_true ib2
          have ib4 : (0 : Int) ≤ (k : Int) + 1 := by omega
          have ib5 : (k : Int) + 1 < (ks.length : Int) + 1 := by omega
          have ib6 : ((k : Int) + 1).toNat = k + 1 := by omega
          clear hkx
          generalize (partO ks[k] (ps[k]'hltp)).isSome = so at *
          generalize parV (cutT ps[k] ks[k]) = pv at *
          generalize bs ks[k] = Ba at *
          generalize bs (ps[k]'hltp) = Bp at *
          go_wp2_with fail
          refine (R1.out _ cc w1.heap.size HBK.out (tb_below HT.out (HB1.out.trans (HB.out.mono HB1.out.size)))).mono ?_; rintro e w3 ⟨rfl, hv3, ho3⟩
          have HBK3 := Lib.hid hv3
          have HO3 := Lib.hid (owns_only HOW.out ho3 (Nat.lt_succ_self _))
          have HB3 := Lib.hid (HB.out.trans (ho3.below (Nat.le_refl _) (HB.out.size)))
          clear hv3 ho3
          have hw3 : w1.heap.size ≤ w3.heap.size := HB3.out.size
          have hw3' : w1.heap.size + 1 ≤ w3.heap.size := lt_of_block HBK3.out
          go_wp2_with (at_builtin; refine wpList_append_own _ rfl _ _ 50 rfl (w1.heap.size + 1) 3 i0 (.int .i64 0) 1 8 Tryd.underlying50 hi hz0 hz1 hz2 rfl (by decide) _ _ _ rfl (HO3.out.alloc _) ⟨w3.heap.size, 0, none⟩ 1 1 [.int .i64 pv] rfl rfl (cell_one_new _ _ _) ?c2 ?c3 ?c4 ?c5 ?_)
          case c2 => intro u hu; simp at hu; subst hu; rfl
          case c3 => unfold maxLen; omega
          case c4 => omega
          case c5 => simp; omega
          intro v' w4 hown4 hgrow _
          have hb4 := grown_below (HB3.out.alloc (HB3.out.size) _) hgrow (fun g hg => Nat.le_of_succ_le (owns_row HO3.out hg)) (by simp; omega)
          have HB4 := Lib.hid hb4
          have hbk4 := grown_blk (blk_old (.cells #[.int .i64 pv] 3) HBK3.out) hgrow (fun g hg => by have := owns_row HO3.out hg; omega)
          have HBK4 := Lib.hid hbk4
          have hown4' : w4.ownsRow (w1.heap.size + 1) 3 1 v' (out ++ [pv]).length (ints (out ++ [pv])) := by
            simpa [ints, hol] using hown4
          have HO4 := Lib.hid hown4'
          clear hb4 hown4 hown4' hgrow hbk4
          go_wp2_with fail
          go_roundw
          case rel => exact ⟨k + 1, _, out ++ [pv], by go_num, by omega, HRK.out, HBK4.out, HO4.out, HB4.out⟩
          case measure => simp [intOf]; omega
        · obtain rfl : k = ks.length := by omega
          have dk : decide (ks.length < ks.length) = false := decide_eq_false hlt
          have cb := cell_of_one HBK.out
          have hrd := Rd.own HOW.out
          obtain ⟨A3, c3, rfl, _, _⟩ := hrd.form
          have HRD := Lib.hid hrd
          clear hrd
          rcases HE.out cc out HI.out with ⟨rfl, he⟩ | ⟨rfl, he⟩
          · go_wp2_with fail
            go_ret2
            exact ⟨_, by rw [(row_some he).1]; rfl, by rw [(row_some he).2]; exact HRD.out, HB1.out.trans (HB.out.mono HB1.out.size), fun g hg => by have h1 := owns_row HOW.out hg; have h2 := HB1.out.size; omega⟩
          · go_wp2_with fail
            go_ret2
            exact HRN.out _ _ he (HB1.out.trans (HB.out.mono HB1.out.size))
  · have HN := Lib.hid (rowO_len (w := x.data.toList) hm)
    have W1 := Lib.hid W1
    clear hwa
    generalize hL : (wordsL s.data.toList).length = n at *
    have d0 : ((n : Int) == ((ks.length : Int) + 1)) = false := beq_false_of_ne (by omega)
    have d1 : ((n : Int) != ((ks.length : Int) + 1)) = true := by simp [bne, d0]
    go_enter Tryd.func29, Tryd.ntmps29
    go_wp2_with fail
    refine W1.out.mono ?_; rintro e w1 ⟨v1, rfl, hr, hb⟩
    obtain ⟨A1, c1, rfl, _, _⟩ := hr.form
    have HB1 := Lib.hid hb
    rw [strs_len, hL]
    clear hr hb W1
    go_wp2_with fail
    go_ret2
    exact rowF_none HN.out HB1.out
theorem kparse_any (s x : ByteArray) (v : Value) (ks : List (List UInt8)) (w : World) (hs : s.size ≤ 100000) (hk : ks.length ≤ 1000) (hz : ∀ a ∈ ks, a.length ≤ 100000) (h : Rd w w.heap.size v (strs ks)) (ht : Tb w) :
    Calls Tryd.prog 29 #[.string s, .string x, v] w (RowR s.data.toList x.data.toList ks w) :=
  (kparse_far s x v ks w hs hk hz h ht).mono fun e w' ⟨v, h1, h2, h3, _⟩ => ⟨v, h1, h2, h3⟩
end Go.Proofs.YthpijibcfkcenaaDoor
