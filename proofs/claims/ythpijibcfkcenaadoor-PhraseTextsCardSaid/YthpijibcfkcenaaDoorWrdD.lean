/- words' Lines. Conditions: texts of at most 100,000 bytes. -/
import Derived.Test.YthpijibcfkcenaaDoorWrdRef
import Derived.Deep.LoopGhost
import Derived.WalkMore
namespace Go.Proofs.YthpijibcfkcenaaDoor
open Go.ChangeShapes Go.WideShapes Go.ChangeAt Go.RowKit
set_option linter.unusedVariables false
set_option maxRecDepth 100000
set_option linter.unusedSimpArgs false

theorem lines_at (l : List UInt8) (k : Nat) (h : k < l.length) (hp : (10 : UInt8) ∉ l.take k) (hc : l[k] = 10) : linesL l = l.take k :: linesL (l.drop (k + 1)) := by
  unfold linesL
  conv => lhs; rw [← List.take_append_drop k l, List.drop_eq_getElem_cons h, hc]
  rw [linesA_plain _ hp]
  simp only [linesA, if_true, List.nil_append]
theorem lines_last (l : List UInt8) (hp : (10 : UInt8) ∉ l) (h0 : l ≠ []) : linesL l = [l] := by
  unfold linesL
  have := linesA_plain l hp [] []
  rw [List.append_nil, List.nil_append] at this
  rw [this]
  simp [linesA, lastW, h0]
theorem notin_snoc (l : List UInt8) (k : Nat) (h : k < l.length) (hp : (10 : UInt8) ∉ l.take k) (hc : l[k] ≠ 10) : (10 : UInt8) ∉ l.take (k + 1) := by
  rw [List.take_succ_eq_append_getElem h]
  simp only [List.mem_append, List.mem_singleton]
  rintro (h1 | h1)
  · exact hp h1
  · exact hc h1.symm
/-- So far, and what is left. -/
def LsI (l : List UInt8) (out : List (List UInt8)) (r : ByteArray) : Prop := out.length + r.size ≤ l.length ∧ linesL l = out ++ linesL r.data.toList
theorem lsI_line {l : List UInt8} {out : List (List UInt8)} {r : ByteArray} (h : LsI l out r) (k : Nat) (hk : k < r.size) (hp : (10 : UInt8) ∉ r.data.toList.take k) (hc : r[k]'hk = 10) :
    LsI l (out ++ [(r.extract 0 k).data.toList]) (r.extract (k + 1) r.size) := by
  obtain ⟨h1, h2⟩ := h
  have x1 : (r.extract 0 k).data.toList = r.data.toList.take k := by rw [extract_list]; rfl
  have x2 : (r.extract (k + 1) r.size).data.toList = r.data.toList.drop (k + 1) := by rw [extract_list, ← data_len, List.take_length]
  have hl : (r.extract (k + 1) r.size).size = r.size - (k + 1) := by rw [← data_len, x2, List.length_drop, data_len]
  refine ⟨by rw [hl]; simp; omega, ?_⟩
  rw [h2, lines_at r.data.toList k (by rw [data_len]; exact hk) hp (by rw [wget r k hk]; exact hc), x1, x2]
  simp
theorem lsI_end {l : List UInt8} {out : List (List UInt8)} {r : ByteArray} (h : LsI l out r) (h0 : 0 < r.size) (hp : (10 : UInt8) ∉ r.data.toList) : linesL l = out ++ [r.data.toList] := by
  rw [h.2, lines_last _ hp (by intro e; have := data_len r; rw [e] at this; simp at this; omega)]
/-- No byte 10 so far. -/
def NoTen (r : ByteArray) (k : Nat) : Prop := (10 : UInt8) ∉ r.data.toList.take k
theorem noTen_zero (r : ByteArray) : NoTen r 0 := by unfold NoTen; simp
theorem noTen_next {r : ByteArray} {k : Nat} (h : NoTen r k) (hk : k < r.size) (hc : r[k]'hk ≠ 10) : NoTen r (k + 1) :=
  notin_snoc _ k (by rw [data_len]; exact hk) h (by rw [wget r k hk]; exact hc)
theorem noTen_all {r : ByteArray} (h : NoTen r r.size) : (10 : UInt8) ∉ r.data.toList := by
  unfold NoTen at h; rw [← data_len, List.take_length] at h; exact h
theorem empty_bytes (r : ByteArray) (h : r.size = 0) : r = ByteArray.mk #[] := by
  rw [← bs_of r]
  have : r.data.toList = [] := List.eq_nil_of_length_eq_zero (by rw [data_len]; exact h)
  rw [this]; rfl
theorem full_ne (r : ByteArray) (h : 0 < r.size) : (r.toList == (ByteArray.mk #[]).toList) = false ∧ (r.toList == []) = false := by
  have h1 : r.data.toList ≠ [] := fun e => by have := data_len r; rw [e] at this; simp at this; omega
  have h2 := cur_ne r.data.toList h1
  have h3 := cur_ne2 r.data.toList h1
  rw [bs_of] at h2 h3
  exact ⟨h2, h3⟩
set_option maxHeartbeats 4000000 in
theorem wlines_any (s : ByteArray) (w : World) (hs : s.size ≤ 100000) : Calls Tryd.prog 33 #[.string s] w (StrsR (linesL s.data.toList) w) := by
  obtain ⟨i0, hi, hz0, hz1, hz2⟩ := info_parts infoS
  go_enter Tryd.func33, Tryd.ntmps33
  go_wp2_with fail
  go_step3
  go_wp2_with fail
  go_step3
  go_wp2_with fail
  go_loopg [0, 3] s.size (fun g rs v wx => ∃ (r : ByteArray) (out : List (List UInt8)), rs = .string r ∧ r.size ≤ g ∧ r.size ≤ 100000 ∧ out.length ≤ 100000 ∧ LsI s.data.toList out r ∧ wx.ownsRow w.heap.size 9 1 v out.length (strs out) ∧ Below w.heap.size w wx)
  case atStart => exact ⟨s, [], rfl, Nat.le_refl _, hs, by simp, ⟨by simp [data_len], rfl⟩, World.ownsRow_nil _ _ _ _, Below.refl _ _⟩
  case round =>
    obtain ⟨r, out, rfl, hrg, hrs, hol, hI, hown, hb⟩ := hrel
    have HI := Lib.hid hI
    have HO := Lib.hid hown
    have HB := Lib.hid hb
    have hw3 : w.heap.size ≤ wr.heap.size := hb.size
    have hsum := hI.1
    rw [data_len] at hsum
    clear hown hb hI
    by_cases h0 : r.size = 0
    · obtain rfl := empty_bytes r h0
      have HE := Lib.hid (show linesL s.data.toList = out by rw [HI.out.2]; show out ++ linesL [] = out; simp [linesL, linesA, lastW])
      obtain ⟨A, c, rfl, _, _⟩ := (Rd.own HO.out).form
      have HR := Lib.hid (Rd.own HO.out)
      clear HI h0
      go_wp2_with fail
      try rw [Exit.noGoto_ret]
      go_ret
      refine ⟨_, rfl, ?_, HB.out⟩
      rw [HE.out]
      exact HR.out
    · obtain ⟨dn, dn2⟩ := full_ne r (by omega)
      go_wp2_with fail
      go_loopg [0, 3, 9] r.size (fun g2 rs v i wy => ∃ k : Nat, k + g2 = r.size ∧ i = .int .i64 k ∧ rs = .string r ∧ u3 = v ∧ NoTen r k ∧ wr = wy)
      case atStart => exact ⟨0, by omega, rfl, rfl, rfl, noTen_zero _, rfl⟩
      case round =>
        obtain ⟨k, hkg, rfl, rfl, rfl, hN, rfl⟩ := hrel
        by_cases hlt : k < r.size
        · have dk : decide (k < r.size) = true := decide_eq_true hlt
          have hu := (r[k]'hlt).toNat_lt
          by_cases hc : (r[k]'hlt).toNat = 10
          · have dc : (((r[k]'hlt).toNat : Int) == 10) = true := by rw [hc]; rfl
            have HN := Lib.hid (lsI_line HI.out k hlt hN (UInt8.toNat_inj.1 hc))
            have hsz : (r.extract (k + 1) r.size).size ≤ r.size - (k + 1) := by rw [ByteArray.size_extract]; omega
            have hs1 := fun w => run_slice_string_h (P := Tryd.prog) w 9 r (by kernel_rfl) .i64 (k : Int) (by omega) (by omega)
            have hs2 := fun w => run_slice_string_l (P := Tryd.prog) w 9 r (by kernel_rfl) .i64 ((k : Int) + 1) (by omega) (by omega)
            rw [show ((k : Int)).toNat = k by omega] at hs1
            rw [show ((k : Int) + 1).toNat = k + 1 by omega] at hs2
            clear hc hN HI
            generalize hX : r.extract 0 k = X at *
            generalize r.extract (k + 1) r.size = Y at *
            clear hX
            go_wp2_with (at_builtin; refine wpList_append_own _ rfl _ _ 45 rfl w.heap.size 9 i0 (.string ⟨#[]⟩) 1 16 Tryd.underlying45 hi hz0 hz1 hz2 rfl (by decide) _ _ _ rfl (HO.out.alloc _) ⟨wr.heap.size, 0, none⟩ 1 1 [.string X] rfl rfl (cell_one_new _ _ _) ?c2 ?c3 ?c4 ?c5 ?_)
            case c2 => intro u hu; simp at hu; subst hu; rfl
            case c3 => unfold maxLen; omega
            case c4 => omega
            case c5 => simp; omega
            intro v' w4 hown4 hgrow _
            have HB4 := Lib.hid (grown_below (HB.out.alloc (HB.out.size) _) hgrow (fun g hg => owns_row HO.out hg) (by simp; omega))
            have hown4' : w4.ownsRow w.heap.size 9 1 v' (out ++ [X.data.toList]).length (strs (out ++ [X.data.toList])) := by
              simpa [strs, bs_of] using hown4
            have HO4 := Lib.hid hown4'
            clear hown4 hown4' hgrow
            go_wp2_with fail
            go_roundg Y.size
            case measure => omega
            case rel => exact ⟨Y, out ++ [X.data.toList], rfl, Nat.le_refl _, by omega, by simp; omega, HN.out, HO4.out, HB4.out⟩
          · have dc : (((r[k]'hlt).toNat : Int) == 10) = false := beq_false_of_ne (by omega)
            have HN := Lib.hid (noTen_next hN hlt (fun e => hc (by rw [e]; rfl)))
            clear hc hN HI
            go_wp2_with fail
            go_roundg (r.size - (k + 1))
            case measure => omega
            case rel => exact ⟨k + 1, by omega, by go_num, rfl, rfl, HN.out, rfl⟩
        · obtain rfl : k = r.size := by omega
          have dk : decide (r.size < r.size) = false := decide_eq_false hlt
          have HE := Lib.hid (lsI_end HI.out (by omega) (noTen_all hN))
          clear hN HI
          go_wp2_with (at_builtin; refine wpList_append_own _ rfl _ _ 45 rfl w.heap.size 9 i0 (.string ⟨#[]⟩) 1 16 Tryd.underlying45 hi hz0 hz1 hz2 rfl (by decide) _ _ _ rfl (HO.out.alloc _) ⟨wr.heap.size, 0, none⟩ 1 1 [.string r] rfl rfl (cell_one_new _ _ _) ?d2 ?d3 ?d4 ?d5 ?_)
          case d2 => intro u hu; simp at hu; subst hu; rfl
          case d3 => unfold maxLen; omega
          case d4 => omega
          case d5 => simp; omega
          intro v' w4 hown4 hgrow _
          have HB4 := Lib.hid (grown_below (HB.out.alloc (HB.out.size) _) hgrow (fun g hg => owns_row HO.out hg) (by simp; omega))
          have HR := Lib.hid (Rd.own hown4)
          obtain ⟨A, c, rfl, _, _⟩ := HR.out.form
          clear hown4 hgrow
          go_wp2_with fail
          try rw [Exit.noGoto_ret]
          go_ret
          refine ⟨_, rfl, ?_, HB4.out⟩
          rw [HE.out]
          simpa [strs, bs_of] using HR.out
end Go.Proofs.YthpijibcfkcenaaDoor
/- words' split, and Words. Conditions: texts of at most 100,000 bytes. -/
namespace Go.Proofs.YthpijibcfkcenaaDoor
open Go.ChangeShapes Go.WideShapes Go.ChangeAt Go.RowKit
set_option linter.unusedVariables false
set_option maxRecDepth 100000
set_option linter.unusedSimpArgs false

/-- Three ways to end a part. -/
def isHash (c : UInt8) : Bool := decide (c.toNat = 35)
def isBl (c : UInt8) : Bool := decide (c.toNat = 32 ∨ c.toNat = 9)
def noBl (c : UInt8) : Bool := !isBl c
theorem end_hash (c : UInt8) (w : World) : Calls Tryd.prog 60 #[.int .u8 (c.toNat : Nat)] w fun e w' => e = .returned (.bool (isHash c)) ∧ w = w' := by
  have h : isHash c = ((c.toNat : Int) == 35) := by unfold isHash; rw [Bool.eq_iff_iff]; simp; omega
  rw [h]
  generalize ((c.toNat : Int)) = x at *
  clear h
  go_enter Tryd.func60, Tryd.ntmps60
  go_wp2_with fail
  go_ret
  exact ⟨rfl, rfl⟩
theorem end_blank (c : UInt8) (w : World) : Calls Tryd.prog 62 #[.int .u8 (c.toNat : Nat)] w fun e w' => e = .returned (.bool (isBl c)) ∧ w = w' := by
  by_cases h1 : c.toNat = 32
  · have h : isBl c = true := by simp [isBl, h1]
    have d1 : ((c.toNat : Int) == 32) = true := by rw [h1]; rfl
    rw [h]
    clear h h1
    go_enter Tryd.func62, Tryd.ntmps62
    go_wp2_with fail
    go_ret
    exact ⟨rfl, rfl⟩
  · have d1 : ((c.toNat : Int) == 32) = false := beq_false_of_ne (by omega)
    by_cases h2 : c.toNat = 9
    · have h : isBl c = true := by simp [isBl, h2]
      have d2 : ((c.toNat : Int) == 9) = true := by rw [h2]; rfl
      rw [h]
      clear h h1 h2
      go_enter Tryd.func62, Tryd.ntmps62
      go_wp2_with fail
      go_ret
      exact ⟨rfl, rfl⟩
    · have h : isBl c = false := by simp [isBl, h1, h2]
      have d2 : ((c.toNat : Int) == 9) = false := beq_false_of_ne (by omega)
      rw [h]
      clear h h1 h2
      go_enter Tryd.func62, Tryd.ntmps62
      go_wp2_with fail
      go_ret
      exact ⟨rfl, rfl⟩
theorem end_word (c : UInt8) (w : World) : Calls Tryd.prog 61 #[.int .u8 (c.toNat : Nat)] w fun e w' => e = .returned (.bool (noBl c)) ∧ w = w' := by
  have H := Lib.hid (end_blank c w)
  unfold noBl
  generalize isBl c = b at *
  go_enter Tryd.func61, Tryd.ntmps61
  go_wp2_with fail
  refine H.out.mono ?_; rintro e w' ⟨rfl, rfl⟩
  go_wp2_with fail
  go_ret
  exact ⟨rfl, rfl⟩
/-- What stands ahead of the first byte at which a part ends, and the rest. -/
def aheadW (p : UInt8 → Bool) (l : List UInt8) : List UInt8 := l.takeWhile fun c => !p c
def restL (p : UInt8 → Bool) (l : List UInt8) : List UInt8 := l.dropWhile fun c => !p c
/-- No end so far. -/
def NoEnd (p : UInt8 → Bool) (r : ByteArray) (k : Nat) : Prop := ∀ c ∈ r.data.toList.take k, p c = false
theorem noEnd_zero (p : UInt8 → Bool) (r : ByteArray) : NoEnd p r 0 := by unfold NoEnd; simp
theorem noEnd_next {p : UInt8 → Bool} {r : ByteArray} {k : Nat} (h : NoEnd p r k) (hk : k < r.size) (hc : p (r[k]'hk) = false) : NoEnd p r (k + 1) := by
  unfold NoEnd at *
  rw [List.take_succ_eq_append_getElem (by rw [data_len]; exact hk), wget r k hk]
  intro c hm
  rcases List.mem_append.1 hm with h1 | h1
  · exact h c h1
  · rw [List.mem_singleton.1 h1]; exact hc
theorem spanw_at (p : UInt8 → Bool) (a : List UInt8) (c : UInt8) (r : List UInt8) (h : ∀ x ∈ a, p x = false) (hc : p c = true) : aheadW p (a ++ c :: r) = a ∧ restL p (a ++ c :: r) = c :: r := by
  unfold aheadW restL
  induction a with
  | nil => simp [hc]
  | cons x a ih =>
    have hx := h x (by simp)
    have := ih fun y hy => h y (by simp [hy])
    simp [hx, this]
theorem noEnd_at {p : UInt8 → Bool} {r : ByteArray} {k : Nat} (h : NoEnd p r k) (hk : k < r.size) (hc : p (r[k]'hk) = true) : bs (aheadW p r.data.toList) = r.extract 0 k ∧ bs (restL p r.data.toList) = r.extract k r.size := by
  have h1 := spanw_at p (r.data.toList.take k) (r[k]'hk) (r.data.toList.drop (k + 1)) h hc
  rw [← drop_one r k hk, List.take_append_drop] at h1
  rw [h1.1, h1.2]
  constructor
  · rw [← bs_of (r.extract 0 k), extract_list]; rfl
  · rw [← bs_of (r.extract k r.size), extract_list, ← data_len, List.take_length]
theorem span_all (p : UInt8 → Bool) (a : List UInt8) (h : ∀ x ∈ a, p x = false) : aheadW p a = a ∧ restL p a = [] := by
  unfold aheadW restL
  induction a with
  | nil => simp
  | cons x a ih =>
    have hx := h x (by simp)
    have := ih fun y hy => h y (by simp [hy])
    simp [hx, this]
theorem noEnd_all {p : UInt8 → Bool} {r : ByteArray} (h : NoEnd p r r.size) : bs (aheadW p r.data.toList) = r ∧ bs (restL p r.data.toList) = ByteArray.mk #[] := by
  unfold NoEnd at h
  rw [← data_len, List.take_length] at h
  obtain ⟨h1, h2⟩ := span_all p _ h
  rw [h1, h2, bs_of]
  exact ⟨rfl, rfl⟩
set_option maxHeartbeats 1000000 in
theorem split_hash (s : ByteArray) (w : World) (hs : s.size ≤ 100000) :
    Calls Tryd.prog 59 #[.string s, .func (.func 60) #[] #[]] w fun e w' => e = .returned (.tuple #[.string (bs (aheadW isHash s.data.toList)), .string (bs (restL isHash s.data.toList))]) ∧ ∃ n, w' = w.drewN n := by
  go_enter Tryd.func59, Tryd.ntmps59
  go_wp2_with fail
  go_loop [9] (fun i => ∃ k : Nat, k ≤ s.size ∧ i = .int .i64 k ∧ NoEnd isHash s k) (fun i => s.size - (intOf i).toNat)
  case atStart => exact ⟨0, by omega, rfl, noEnd_zero _ _⟩
  case round =>
    obtain ⟨k, hk, rfl, hN⟩ := hrel
    by_cases hlt : k < s.size
    · have dk : decide (k < s.size) = true := decide_eq_true hlt
      have hu := (s[k]'hlt).toNat_lt
      have C := end_hash (s[k]'hlt) w
      by_cases hc : isHash (s[k]'hlt) = true
      · rw [hc] at C
        have C := Lib.hid C
        obtain ⟨x1, x2⟩ := noEnd_at hN hlt hc
        have HX := Lib.hid (show Ending.returned (.tuple #[.string (bs (aheadW isHash s.data.toList)), .string (bs (restL isHash s.data.toList))]) = Ending.returned (.tuple #[.string (s.extract 0 k), .string (s.extract k s.size)]) by rw [x1, x2])
        have hs1 := fun w => run_slice_string_h (P := Tryd.prog) w 9 s (by kernel_rfl) .i64 (k : Int) (by omega) (by omega)
        have hs2 := fun w => run_slice_string_l (P := Tryd.prog) w 9 s (by kernel_rfl) .i64 (k : Int) (by omega) (by omega)
        rw [Int.toNat_natCast] at hs1 hs2
        clear hN hc x1 x2
        generalize s.extract 0 k = X at *
        generalize s.extract k s.size = Y at *
        go_wp2_with fail
        refine C.out.mono ?_; rintro e w1 ⟨rfl, rfl⟩
        go_wp2_with fail
        go_quiet (fail)
        go_wp2_with fail
        go_ret2
        exact ⟨HX.out.symm, _, rfl⟩
      · have hc' : isHash (s[k]'hlt) = false := by simpa using hc
        rw [hc'] at C
        have C := Lib.hid C
        have HN := Lib.hid (noEnd_next hN hlt hc')
        clear hN hc hc'
        go_wp2_with fail
        refine C.out.mono ?_; rintro e w1 ⟨rfl, rfl⟩
        go_wp2_with fail
        go_round
        case rel => exact ⟨k + 1, by omega, by go_num, HN.out⟩
        case measure => simp [intOf]; omega
    · obtain rfl : k = s.size := by omega
      have dk : decide (s.size < s.size) = false := decide_eq_false hlt
      obtain ⟨x1, x2⟩ := noEnd_all hN
      have HX := Lib.hid (show Ending.returned (.tuple #[.string (bs (aheadW isHash s.data.toList)), .string (bs (restL isHash s.data.toList))]) = Ending.returned (.tuple #[.string s, .string (ByteArray.mk #[])]) by rw [x1, x2])
      clear hN x1 x2
      go_wp2_with fail
      go_ret2
      exact ⟨HX.out.symm, 0, rfl⟩
set_option maxHeartbeats 1000000 in
theorem split_word (s : ByteArray) (w : World) (hs : s.size ≤ 100000) :
    Calls Tryd.prog 59 #[.string s, .func (.func 61) #[] #[]] w fun e w' => e = .returned (.tuple #[.string (bs (aheadW noBl s.data.toList)), .string (bs (restL noBl s.data.toList))]) ∧ ∃ n, w' = w.drewN n := by
  go_enter Tryd.func59, Tryd.ntmps59
  go_wp2_with fail
  go_loop [9] (fun i => ∃ k : Nat, k ≤ s.size ∧ i = .int .i64 k ∧ NoEnd noBl s k) (fun i => s.size - (intOf i).toNat)
  case atStart => exact ⟨0, by omega, rfl, noEnd_zero _ _⟩
  case round =>
    obtain ⟨k, hk, rfl, hN⟩ := hrel
    by_cases hlt : k < s.size
    · have dk : decide (k < s.size) = true := decide_eq_true hlt
      have hu := (s[k]'hlt).toNat_lt
      have C := end_word (s[k]'hlt) w
      by_cases hc : noBl (s[k]'hlt) = true
      · rw [hc] at C
        have C := Lib.hid C
        obtain ⟨x1, x2⟩ := noEnd_at hN hlt hc
        have HX := Lib.hid (show Ending.returned (.tuple #[.string (bs (aheadW noBl s.data.toList)), .string (bs (restL noBl s.data.toList))]) = Ending.returned (.tuple #[.string (s.extract 0 k), .string (s.extract k s.size)]) by rw [x1, x2])
        have hs1 := fun w => run_slice_string_h (P := Tryd.prog) w 9 s (by kernel_rfl) .i64 (k : Int) (by omega) (by omega)
        have hs2 := fun w => run_slice_string_l (P := Tryd.prog) w 9 s (by kernel_rfl) .i64 (k : Int) (by omega) (by omega)
        rw [Int.toNat_natCast] at hs1 hs2
        clear hN hc x1 x2
        generalize s.extract 0 k = X at *
        generalize s.extract k s.size = Y at *
        go_wp2_with fail
        refine C.out.mono ?_; rintro e w1 ⟨rfl, rfl⟩
        go_wp2_with fail
        go_quiet (fail)
        go_wp2_with fail
        go_ret2
        exact ⟨HX.out.symm, _, rfl⟩
      · have hc' : noBl (s[k]'hlt) = false := by simpa using hc
        rw [hc'] at C
        have C := Lib.hid C
        have HN := Lib.hid (noEnd_next hN hlt hc')
        clear hN hc hc'
        go_wp2_with fail
        refine C.out.mono ?_; rintro e w1 ⟨rfl, rfl⟩
        go_wp2_with fail
        go_round
        case rel => exact ⟨k + 1, by omega, by go_num, HN.out⟩
        case measure => simp [intOf]; omega
    · obtain rfl : k = s.size := by omega
      have dk : decide (s.size < s.size) = false := decide_eq_false hlt
      obtain ⟨x1, x2⟩ := noEnd_all hN
      have HX := Lib.hid (show Ending.returned (.tuple #[.string (bs (aheadW noBl s.data.toList)), .string (bs (restL noBl s.data.toList))]) = Ending.returned (.tuple #[.string s, .string (ByteArray.mk #[])]) by rw [x1, x2])
      clear hN x1 x2
      go_wp2_with fail
      go_ret2
      exact ⟨HX.out.symm, 0, rfl⟩
set_option maxHeartbeats 1000000 in
theorem split_blank (s : ByteArray) (w : World) (hs : s.size ≤ 100000) :
    Calls Tryd.prog 59 #[.string s, .func (.func 62) #[] #[]] w fun e w' => e = .returned (.tuple #[.string (bs (aheadW isBl s.data.toList)), .string (bs (restL isBl s.data.toList))]) ∧ ∃ n, w' = w.drewN n := by
  go_enter Tryd.func59, Tryd.ntmps59
  go_wp2_with fail
  go_loop [9] (fun i => ∃ k : Nat, k ≤ s.size ∧ i = .int .i64 k ∧ NoEnd isBl s k) (fun i => s.size - (intOf i).toNat)
  case atStart => exact ⟨0, by omega, rfl, noEnd_zero _ _⟩
  case round =>
    obtain ⟨k, hk, rfl, hN⟩ := hrel
    by_cases hlt : k < s.size
    · have dk : decide (k < s.size) = true := decide_eq_true hlt
      have hu := (s[k]'hlt).toNat_lt
      have C := end_blank (s[k]'hlt) w
      by_cases hc : isBl (s[k]'hlt) = true
      · rw [hc] at C
        have C := Lib.hid C
        obtain ⟨x1, x2⟩ := noEnd_at hN hlt hc
        have HX := Lib.hid (show Ending.returned (.tuple #[.string (bs (aheadW isBl s.data.toList)), .string (bs (restL isBl s.data.toList))]) = Ending.returned (.tuple #[.string (s.extract 0 k), .string (s.extract k s.size)]) by rw [x1, x2])
        have hs1 := fun w => run_slice_string_h (P := Tryd.prog) w 9 s (by kernel_rfl) .i64 (k : Int) (by omega) (by omega)
        have hs2 := fun w => run_slice_string_l (P := Tryd.prog) w 9 s (by kernel_rfl) .i64 (k : Int) (by omega) (by omega)
        rw [Int.toNat_natCast] at hs1 hs2
        clear hN hc x1 x2
        generalize s.extract 0 k = X at *
        generalize s.extract k s.size = Y at *
        go_wp2_with fail
        refine C.out.mono ?_; rintro e w1 ⟨rfl, rfl⟩
        go_wp2_with fail
        go_quiet (fail)
        go_wp2_with fail
        go_ret2
        exact ⟨HX.out.symm, _, rfl⟩
      · have hc' : isBl (s[k]'hlt) = false := by simpa using hc
        rw [hc'] at C
        have C := Lib.hid C
        have HN := Lib.hid (noEnd_next hN hlt hc')
        clear hN hc hc'
        go_wp2_with fail
        refine C.out.mono ?_; rintro e w1 ⟨rfl, rfl⟩
        go_wp2_with fail
        go_round
        case rel => exact ⟨k + 1, by omega, by go_num, HN.out⟩
        case measure => simp [intOf]; omega
    · obtain rfl : k = s.size := by omega
      have dk : decide (s.size < s.size) = false := decide_eq_false hlt
      obtain ⟨x1, x2⟩ := noEnd_all hN
      have HX := Lib.hid (show Ending.returned (.tuple #[.string (bs (aheadW isBl s.data.toList)), .string (bs (restL isBl s.data.toList))]) = Ending.returned (.tuple #[.string s, .string (ByteArray.mk #[])]) by rw [x1, x2])
      clear hN x1 x2
      go_wp2_with fail
      go_ret2
      exact ⟨HX.out.symm, 0, rfl⟩
end Go.Proofs.YthpijibcfkcenaaDoor
/- words' Words. Conditions: texts of at most 100,000 bytes. -/
namespace Go.Proofs.YthpijibcfkcenaaDoor
open Go.ChangeShapes Go.WideShapes Go.ChangeAt Go.RowKit
set_option linter.unusedVariables false
set_option maxRecDepth 100000
set_option linter.unusedSimpArgs false

theorem hash_iff (c : UInt8) : isHash c = true ↔ c = 35 := by
  unfold isHash; rw [decide_eq_true_iff]; exact ⟨fun h => UInt8.toNat_inj.1 h, fun h => by rw [h]; rfl⟩
theorem bl_iff (c : UInt8) : isBl c = true ↔ (c = 32 ∨ c = 9) := by
  unfold isBl; rw [decide_eq_true_iff]
  exact ⟨fun h => h.elim (fun h => Or.inl (UInt8.toNat_inj.1 h)) (fun h => Or.inr (UInt8.toNat_inj.1 h)), fun h => by rcases h with h | h <;> subst h <;> decide⟩
theorem bl_hash {c : UInt8} (h : isBl c = true) : ¬ c = 35 := by
  rcases (bl_iff c).1 h with h | h <;> subst h <;> decide
theorem ahead_cons (p : UInt8 → Bool) (c : UInt8) (l : List UInt8) : aheadW p (c :: l) = if p c = true then [] else c :: aheadW p l := by
  unfold aheadW; rw [List.takeWhile_cons]; cases p c <;> simp
theorem rest_cons (p : UInt8 → Bool) (c : UInt8) (l : List UInt8) : restL p (c :: l) = if p c = true then c :: l else restL p l := by
  unfold restL; rw [List.dropWhile_cons]; cases p c <;> simp
theorem ahead_rest (p : UInt8 → Bool) (l : List UInt8) : aheadW p l ++ restL p l = l := List.takeWhile_append_dropWhile
theorem ahead_mem (p : UInt8 → Bool) (l : List UInt8) {c : UInt8} (h : c ∈ aheadW p l) : p c = false := by
  induction l with
  | nil => cases h
  | cons x l ih =>
    rw [ahead_cons] at h
    by_cases hx : p x = true
    · rw [if_pos hx] at h; cases h
    · rw [if_neg hx] at h
      rcases List.mem_cons.1 h with h | h
      · rw [h]; simpa using hx
      · exact ih h
theorem words_hash (l : List UInt8) : ∀ w, wordsA w l = wordsA w (aheadW isHash l) := by
  induction l with
  | nil => intro w; rfl
  | cons c l ih =>
    intro w
    rw [ahead_cons]
    by_cases h : isHash c = true
    · rw [if_pos h]; simp only [wordsA, if_pos ((hash_iff c).1 h)]
    · have h2 : ¬ c = 35 := fun e => h ((hash_iff c).2 e)
      rw [if_neg h]; simp only [wordsA, if_neg h2]
      rw [← ih, ← ih]
theorem words_skip (l : List UInt8) : wordsA [] l = wordsA [] (restL noBl l) := by
  induction l with
  | nil => rfl
  | cons c l ih =>
    rw [rest_cons]
    by_cases h : isBl c = true
    · rw [if_neg (by simp [noBl, h])]
      simp only [wordsA, if_neg (bl_hash h), if_pos ((bl_iff c).1 h)]
      rw [← ih]; simp [lastW]
    · rw [if_pos (by simp [noBl, h])]
theorem skip_head (l : List UInt8) : restL noBl l = [] ∨ aheadW isBl (restL noBl l) ≠ [] := by
  induction l with
  | nil => exact Or.inl rfl
  | cons c l ih =>
    rw [rest_cons]
    by_cases h : isBl c = true
    · rw [if_neg (by simp [noBl, h])]; exact ih
    · rw [if_pos (by simp [noBl, h])]
      refine Or.inr ?_
      rw [ahead_cons, if_neg h]; simp
theorem words_word (l : List UInt8) (h : ∀ c ∈ l, isHash c = false) : ∀ w, (w ≠ [] ∨ aheadW isBl l ≠ []) → wordsA w l = (w ++ aheadW isBl l) :: wordsA [] (restL isBl l) := by
  induction l with
  | nil =>
    intro w hw
    have hw : w ≠ [] := hw.elim id (fun h => absurd rfl h)
    simp [wordsA, lastW, hw, aheadW, restL]
  | cons c l ih =>
    intro w hw
    have h35 : ¬ c = 35 := fun e => by have := h c (by simp); rw [(hash_iff c).2 e] at this; cases this
    rw [ahead_cons, rest_cons]
    rw [ahead_cons] at hw
    by_cases hb : isBl c = true
    · rw [if_pos hb] at hw ⊢
      rw [if_pos hb]
      have hw : w ≠ [] := hw.elim id (fun h => absurd rfl h)
      simp only [wordsA, if_neg h35, if_pos ((bl_iff c).1 hb)]
      simp [lastW, hw]
    · rw [if_neg hb, if_neg hb]
      have h2 : ¬ (c = 32 ∨ c = 9) := fun e => hb ((bl_iff c).2 e)
      simp only [wordsA, if_neg h35, if_neg h2]
      rw [ih (fun x hx => h x (by simp [hx])) (w ++ [c]) (Or.inl (by simp))]
      simp
/-- So far, and what is left. -/
def WsI (l : List UInt8) (out : List (List UInt8)) (r : List UInt8) : Prop := (∀ c ∈ r, isHash c = false) ∧ wordsL l = out ++ wordsA [] r
theorem wsI_zero (l : List UInt8) : WsI l [] (aheadW isHash l) := by
  refine ⟨fun c hc => ?_, words_hash l []⟩
  exact ahead_mem _ _ hc
theorem rest_mem (p : UInt8 → Bool) (l : List UInt8) {c : UInt8} (h : c ∈ restL p l) : c ∈ l := by
  have := ahead_rest p l
  rw [← this]; exact List.mem_append.2 (Or.inr h)
theorem wsI_skip {l : List UInt8} {out : List (List UInt8)} {r : List UInt8} (h : WsI l out r) : WsI l out (restL noBl r) :=
  ⟨fun c hc => h.1 c (rest_mem _ _ hc), by rw [h.2, words_skip r]⟩
theorem wsI_word {l : List UInt8} {out : List (List UInt8)} {r : List UInt8} (h : WsI l out r) (hr : aheadW isBl r ≠ []) : WsI l (out ++ [aheadW isBl r]) (restL isBl r) := by
  refine ⟨fun c hc => h.1 c (rest_mem _ _ hc), ?_⟩
  rw [h.2, words_word r h.1 [] (Or.inr hr)]
  simp
theorem wsI_end {l : List UInt8} {out : List (List UInt8)} (h : WsI l out []) : wordsL l = out := by
  rw [h.2]; simp [wordsA, lastW]
theorem part_len (p : UInt8 → Bool) (l : List UInt8) : (aheadW p l).length + (restL p l).length = l.length := by
  conv => rhs; rw [← ahead_rest p l]
  rw [List.length_append]
theorem drew_below {B : Nat} {a w : World} (h : Below B a w) (n : Nat) : Below B a (w.drewN n) := ⟨h.os, h.tape, h.output, h.size, h.block⟩
set_option maxHeartbeats 4000000 in
theorem wwords_any (s : ByteArray) (w : World) (hs : s.size ≤ 100000) : Calls Tryd.prog 46 #[.string s] w (StrsR (wordsL s.data.toList) w) := by
  obtain ⟨i0, hi, hz0, hz1, hz2⟩ := info_parts infoS
  have S1 := Lib.hid (split_hash s w hs)
  have hz := part_len isHash s.data.toList
  rw [data_len] at hz
  have hzl : (aheadW isHash s.data.toList).length ≤ 100000 := by omega
  have HZ0 := Lib.hid (wsI_zero s.data.toList)
  generalize aheadW isHash s.data.toList = r0 at *
  generalize restL isHash s.data.toList = r0' at *
  clear hz
  go_enter Tryd.func46, Tryd.ntmps46
  go_wp2_with fail
  refine S1.out.mono ?_; rintro e w1 ⟨rfl, n, rfl⟩
  have HB0 := Lib.hid (drew_below (Below.refl w.heap.size w) n)
  clear S1
  generalize w.drewN n = w1 at *
  go_wp2_with fail
  go_loopg [3, 4] r0.length (fun g v rs wx => ∃ (r : List UInt8) (out : List (List UInt8)), rs = .string (bs r) ∧ r.length ≤ g ∧ r.length ≤ 100000 ∧ out.length + r.length ≤ 100000 ∧ WsI s.data.toList out r ∧ wx.ownsRow w.heap.size 9 1 v out.length (strs out) ∧ Below w.heap.size w wx)
  case atStart => exact ⟨r0, [], rfl, Nat.le_refl _, hzl, by simpa using hzl, HZ0.out, World.ownsRow_nil _ _ _ _, HB0.out⟩
  case round =>
    obtain ⟨r, out, rfl, hrg, hrs, hsum, hI, hown, hb⟩ := hrel
    have HI := Lib.hid (wsI_skip hI)
    have S2 := split_word (bs r) wr (by rw [bs_size]; exact hrs)
    rw [bs_list] at S2
    have S2 := Lib.hid S2
    have hl1 := part_len noBl r
    have HH := Lib.hid (skip_head r)
    have HO := Lib.hid hown
    have HB := Lib.hid hb
    clear hown hb hI
    generalize restL noBl r = r1 at *
    generalize aheadW noBl r = r1' at *
    go_wp2_with fail
    refine S2.out.mono ?_; rintro e w2 ⟨rfl, n, rfl⟩
    have HO2 := Lib.hid (owns_below HO.out (drew_below (Below.refl _ wr) n))
    have HB2 := Lib.hid (drew_below HB.out n)
    clear HO HB S2
    generalize wr.drewN n = w2 at *
    by_cases h0 : r1 = []
    · subst h0
      have HE := Lib.hid (wsI_end HI.out)
      rw [show bs ([] : List UInt8) = ByteArray.mk #[] from rfl]
      obtain ⟨A, c, rfl, _, _⟩ := (Rd.own HO2.out).form
      have HR := Lib.hid (Rd.own HO2.out)
      clear HI HH
      go_wp2_with fail
      go_ret
      refine ⟨_, rfl, ?_, HB2.out⟩
      rw [HE.out]
      exact HR.out
    · have dn := cur_ne r1 h0
      have dn2 := cur_ne2 r1 h0
      have hne := HH.out.resolve_left h0
      have HN := Lib.hid (wsI_word HI.out hne)
      have S3 := split_blank (bs r1) w2 (by rw [bs_size]; omega)
      rw [bs_list] at S3
      have S3 := Lib.hid S3
      have hl2 := part_len isBl r1
      have hpos := List.length_pos_iff.2 hne
      clear HI HH hne h0
      generalize restL isBl r1 = r2 at *
      generalize aheadW isBl r1 = wd at *
      go_wp2_with fail
      refine S3.out.mono ?_; rintro e w3 ⟨rfl, n, rfl⟩
      have HO3 := Lib.hid (owns_below HO2.out (drew_below (Below.refl _ w2) n))
      have HB3 := Lib.hid (drew_below HB2.out n)
      clear HO2 HB2 S3
      generalize w2.drewN n = w3 at *
      have hw3 : w.heap.size ≤ w3.heap.size := HB3.out.size
      go_wp2_with (at_builtin; refine wpList_append_own _ rfl _ _ 45 rfl w.heap.size 9 i0 (.string ⟨#[]⟩) 1 16 Tryd.underlying45 hi hz0 hz1 hz2 rfl (by decide) _ _ _ rfl (HO3.out.alloc _) ⟨w3.heap.size, 0, none⟩ 1 1 [.string (bs wd)] rfl rfl (cell_one_new _ _ _) ?c2 ?c3 ?c4 ?c5 ?_)
      case c2 => intro u hu; simp at hu; subst hu; rfl
      case c3 => unfold maxLen; omega
      case c4 => omega
      case c5 => simp; omega
      intro v' w4 hown4 hgrow _
      have HB4 := Lib.hid (grown_below (HB3.out.alloc (HB3.out.size) _) hgrow (fun g hg => owns_row HO3.out hg) (by simp; omega))
      have hown4' : w4.ownsRow w.heap.size 9 1 v' (out ++ [wd]).length (strs (out ++ [wd])) := by
        simpa [strs] using hown4
      have HO4 := Lib.hid hown4'
      clear hown4 hown4' hgrow
      go_wp2_with fail
      go_roundg r2.length
      case measure => omega
      case rel => exact ⟨r2, out ++ [wd], rfl, Nat.le_refl _, by omega, by simp; omega, HN.out, HO4.out, HB4.out⟩
end Go.Proofs.YthpijibcfkcenaaDoor
