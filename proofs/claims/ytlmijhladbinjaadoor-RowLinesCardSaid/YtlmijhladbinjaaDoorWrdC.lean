/- words' split, and Words. Conditions: texts of at most 100,000 bytes. -/
import Derived.Test.YtlmijhladbinjaaDoorWrdRef
namespace Go.Proofs.YtlmijhladbinjaaDoor
open Go.ChangeShapes Go.WideShapes Go.ChangeAt Go.RowKit
set_option linter.unusedVariables false
set_option maxRecDepth 100000
set_option linter.unusedSimpArgs false

/-- Three ways to end a part. -/
def isHash (c : UInt8) : Bool := decide (c.toNat = 35)
def isBl (c : UInt8) : Bool := decide (c.toNat = 32 ∨ c.toNat = 9)
def noBl (c : UInt8) : Bool := !isBl c
theorem end_hash (c : UInt8) (w : World) : Calls Tryd.prog 25 #[.int .u8 (c.toNat : Nat)] w fun e w' => e = .returned (.bool (isHash c)) ∧ w = w' := by
  have h : isHash c = ((c.toNat : Int) == 35) := by unfold isHash; rw [Bool.eq_iff_iff]; simp; omega
  rw [h]
  generalize ((c.toNat : Int)) = x at *
  clear h
  go_enter Tryd.func25, Tryd.ntmps25
  go_wp2_with fail
  go_ret
  exact ⟨rfl, rfl⟩
theorem end_blank (c : UInt8) (w : World) : Calls Tryd.prog 27 #[.int .u8 (c.toNat : Nat)] w fun e w' => e = .returned (.bool (isBl c)) ∧ w = w' := by
  by_cases h1 : c.toNat = 32
  · have h : isBl c = true := by simp [isBl, h1]
    have d1 : ((c.toNat : Int) == 32) = true := by rw [h1]; rfl
    rw [h]
    clear h h1
    go_enter Tryd.func27, Tryd.ntmps27
    go_wp2_with fail
    go_ret
    exact ⟨rfl, rfl⟩
  · have d1 : ((c.toNat : Int) == 32) = false := beq_false_of_ne (by omega)
    by_cases h2 : c.toNat = 9
    · have h : isBl c = true := by simp [isBl, h2]
      have d2 : ((c.toNat : Int) == 9) = true := by rw [h2]; rfl
      rw [h]
      clear h h1 h2
      go_enter Tryd.func27, Tryd.ntmps27
      go_wp2_with fail
      go_ret
      exact ⟨rfl, rfl⟩
    · have h : isBl c = false := by simp [isBl, h1, h2]
      have d2 : ((c.toNat : Int) == 9) = false := beq_false_of_ne (by omega)
      rw [h]
      clear h h1 h2
      go_enter Tryd.func27, Tryd.ntmps27
      go_wp2_with fail
      go_ret
      exact ⟨rfl, rfl⟩
theorem end_word (c : UInt8) (w : World) : Calls Tryd.prog 26 #[.int .u8 (c.toNat : Nat)] w fun e w' => e = .returned (.bool (noBl c)) ∧ w = w' := by
  have H := Lib.hid (end_blank c w)
  unfold noBl
  generalize isBl c = b at *
  go_enter Tryd.func26, Tryd.ntmps26
  go_wp2_with fail
  refine H.out.mono ?_; rintro e w' ⟨rfl, rfl⟩
  go_wp2_with fail
  go_ret
  exact ⟨rfl, rfl⟩
/-- What stands ahead of the first byte at which a part ends, and the rest. -/
def aheadL (p : UInt8 → Bool) (l : List UInt8) : List UInt8 := l.takeWhile fun c => !p c
def restL (p : UInt8 → Bool) (l : List UInt8) : List UInt8 := l.dropWhile fun c => !p c
/-- No end so far. -/
def NoEnd (p : UInt8 → Bool) (r : ByteArray) (k : Nat) : Prop := ∀ c ∈ r.data.toList.take k, p c = false
theorem noEnd_zero (p : UInt8 → Bool) (r : ByteArray) : NoEnd p r 0 := by unfold NoEnd; simp
theorem noEnd_next {p : UInt8 → Bool} {r : ByteArray} {k : Nat} (h : NoEnd p r k) (hk : k < r.size) (hc : p (r[k]'hk) = false) : NoEnd p r (k + 1) := by
  unfold NoEnd at *
  rw [List.take_succ_eq_append_getElem (by rw [data_len]; exact hk), wget r k hk]
  intro c hm
  rcases List.mem_append.1 hm with h1 | h1
  · exact h c h1
  · rw [List.mem_singleton.1 h1]; exact hc
theorem span_at (p : UInt8 → Bool) (a : List UInt8) (c : UInt8) (r : List UInt8) (h : ∀ x ∈ a, p x = false) (hc : p c = true) : aheadL p (a ++ c :: r) = a ∧ restL p (a ++ c :: r) = c :: r := by
  unfold aheadL restL
  induction a with
  | nil => simp [hc]
  | cons x a ih =>
    have hx := h x (by simp)
    have := ih fun y hy => h y (by simp [hy])
    simp [hx, this]
theorem noEnd_at {p : UInt8 → Bool} {r : ByteArray} {k : Nat} (h : NoEnd p r k) (hk : k < r.size) (hc : p (r[k]'hk) = true) : bs (aheadL p r.data.toList) = r.extract 0 k ∧ bs (restL p r.data.toList) = r.extract k r.size := by
  have h1 := span_at p (r.data.toList.take k) (r[k]'hk) (r.data.toList.drop (k + 1)) h hc
  rw [← drop_one r k hk, List.take_append_drop] at h1
  rw [h1.1, h1.2]
  constructor
  · rw [← bs_of (r.extract 0 k), extract_list]; rfl
  · rw [← bs_of (r.extract k r.size), extract_list, ← data_len, List.take_length]
theorem span_all (p : UInt8 → Bool) (a : List UInt8) (h : ∀ x ∈ a, p x = false) : aheadL p a = a ∧ restL p a = [] := by
  unfold aheadL restL
  induction a with
  | nil => simp
  | cons x a ih =>
    have hx := h x (by simp)
    have := ih fun y hy => h y (by simp [hy])
    simp [hx, this]
theorem noEnd_all {p : UInt8 → Bool} {r : ByteArray} (h : NoEnd p r r.size) : bs (aheadL p r.data.toList) = r ∧ bs (restL p r.data.toList) = ByteArray.mk #[] := by
  unfold NoEnd at h
  rw [← data_len, List.take_length] at h
  obtain ⟨h1, h2⟩ := span_all p _ h
  rw [h1, h2, bs_of]
  exact ⟨rfl, rfl⟩
set_option maxHeartbeats 1000000 in
theorem split_hash (s : ByteArray) (w : World) (hs : s.size ≤ 100000) :
    Calls Tryd.prog 24 #[.string s, .func (.func 25) #[] #[]] w fun e w' => e = .returned (.tuple #[.string (bs (aheadL isHash s.data.toList)), .string (bs (restL isHash s.data.toList))]) ∧ ∃ n, w' = w.drewN n := by
  go_enter Tryd.func24, Tryd.ntmps24
  go_wp2_with fail
  go_loop [9] (fun i => ∃ k : Nat, k ≤ s.size ∧ i = .int .i64 k ∧ NoEnd isHash s k) (fun i => s.size - (intOf i).toNat)
  case atStart => exact ⟨0, by omega, rfl, noEnd_zero _ _⟩
  case round =>
    obtain ⟨k, hk, rfl, hN⟩ := hrel
    by_cases hlt : k < s.size
    · have dk : decide (k < s.size) = true := decide_eq_true hlt
      have hu := (s[k]'hlt).toNat_lt
      have C := end_hash (s[k]'hlt) w
      by_cases hc : isHash (s[k]'hlt) = true
      · rw [hc] at C
        have C := Lib.hid C
        obtain ⟨x1, x2⟩ := noEnd_at hN hlt hc
        have HX := Lib.hid (show Ending.returned (.tuple #[.string (bs (aheadL isHash s.data.toList)), .string (bs (restL isHash s.data.toList))]) = Ending.returned (.tuple #[.string (s.extract 0 k), .string (s.extract k s.size)]) by rw [x1, x2])
        have hs1 := fun w => run_slice_string_h (P := Tryd.prog) w 9 s (by kernel_rfl) .i64 (k : Int) (by omega) (by omega)
        have hs2 := fun w => run_slice_string_l (P := Tryd.prog) w 9 s (by kernel_rfl) .i64 (k : Int) (by omega) (by omega)
        rw [Int.toNat_natCast] at hs1 hs2
        clear hN hc x1 x2
        generalize s.extract 0 k = X at *
        generalize s.extract k s.size = Y at *
        go_wp2_with fail
        refine C.out.mono ?_; rintro e w1 ⟨rfl, rfl⟩
        go_wp2_with fail
        go_quiet (fail)
        go_wp2_with fail
        go_ret2
        exact ⟨HX.out.symm, _, rfl⟩
      · have hc' : isHash (s[k]'hlt) = false := by simpa using hc
        rw [hc'] at C
        have C := Lib.hid C
        have HN := Lib.hid (noEnd_next hN hlt hc')
        clear hN hc hc'
        go_wp2_with fail
        refine C.out.mono ?_; rintro e w1 ⟨rfl, rfl⟩
        go_wp2_with fail
        go_round
        case rel => exact ⟨k + 1, by omega, by go_num, HN.out⟩
        case measure => simp [intOf]; omega
    · obtain rfl : k = s.size := by omega
      have dk : decide (s.size < s.size) = false := decide_eq_false hlt
      obtain ⟨x1, x2⟩ := noEnd_all hN
      have HX := Lib.hid (show Ending.returned (.tuple #[.string (bs (aheadL isHash s.data.toList)), .string (bs (restL isHash s.data.toList))]) = Ending.returned (.tuple #[.string s, .string (ByteArray.mk #[])]) by rw [x1, x2])
      clear hN x1 x2
      go_wp2_with fail
      go_ret2
      exact ⟨HX.out.symm, 0, rfl⟩
set_option maxHeartbeats 1000000 in
theorem split_word (s : ByteArray) (w : World) (hs : s.size ≤ 100000) :
    Calls Tryd.prog 24 #[.string s, .func (.func 26) #[] #[]] w fun e w' => e = .returned (.tuple #[.string (bs (aheadL noBl s.data.toList)), .string (bs (restL noBl s.data.toList))]) ∧ ∃ n, w' = w.drewN n := by
  go_enter Tryd.func24, Tryd.ntmps24
  go_wp2_with fail
  go_loop [9] (fun i => ∃ k : Nat, k ≤ s.size ∧ i = .int .i64 k ∧ NoEnd noBl s k) (fun i => s.size - (intOf i).toNat)
  case atStart => exact ⟨0, by omega, rfl, noEnd_zero _ _⟩
  case round =>
    obtain ⟨k, hk, rfl, hN⟩ := hrel
    by_cases hlt : k < s.size
    · have dk : decide (k < s.size) = true := decide_eq_true hlt
      have hu := (s[k]'hlt).toNat_lt
      have C := end_word (s[k]'hlt) w
      by_cases hc : noBl (s[k]'hlt) = true
      · rw [hc] at C
        have C := Lib.hid C
        obtain ⟨x1, x2⟩ := noEnd_at hN hlt hc
        have HX := Lib.hid (show Ending.returned (.tuple #[.string (bs (aheadL noBl s.data.toList)), .string (bs (restL noBl s.data.toList))]) = Ending.returned (.tuple #[.string (s.extract 0 k), .string (s.extract k s.size)]) by rw [x1, x2])
        have hs1 := fun w => run_slice_string_h (P := Tryd.prog) w 9 s (by kernel_rfl) .i64 (k : Int) (by omega) (by omega)
        have hs2 := fun w => run_slice_string_l (P := Tryd.prog) w 9 s (by kernel_rfl) .i64 (k : Int) (by omega) (by omega)
        rw [Int.toNat_natCast] at hs1 hs2
        clear hN hc x1 x2
        generalize s.extract 0 k = X at *
        generalize s.extract k s.size = Y at *
        go_wp2_with fail
        refine C.out.mono ?_; rintro e w1 ⟨rfl, rfl⟩
        go_wp2_with fail
        go_quiet (fail)
        go_wp2_with fail
        go_ret2
        exact ⟨HX.out.symm, _, rfl⟩
      · have hc' : noBl (s[k]'hlt) = false := by simpa using hc
        rw [hc'] at C
        have C := Lib.hid C
        have HN := Lib.hid (noEnd_next hN hlt hc')
        clear hN hc hc'
        go_wp2_with fail
        refine C.out.mono ?_; rintro e w1 ⟨rfl, rfl⟩
        go_wp2_with fail
        go_round
        case rel => exact ⟨k + 1, by omega, by go_num, HN.out⟩
        case measure => simp [intOf]; omega
    · obtain rfl : k = s.size := by omega
      have dk : decide (s.size < s.size) = false := decide_eq_false hlt
      obtain ⟨x1, x2⟩ := noEnd_all hN
      have HX := Lib.hid (show Ending.returned (.tuple #[.string (bs (aheadL noBl s.data.toList)), .string (bs (restL noBl s.data.toList))]) = Ending.returned (.tuple #[.string s, .string (ByteArray.mk #[])]) by rw [x1, x2])
      clear hN x1 x2
      go_wp2_with fail
      go_ret2
      exact ⟨HX.out.symm, 0, rfl⟩
set_option maxHeartbeats 1000000 in
theorem split_blank (s : ByteArray) (w : World) (hs : s.size ≤ 100000) :
    Calls Tryd.prog 24 #[.string s, .func (.func 27) #[] #[]] w fun e w' => e = .returned (.tuple #[.string (bs (aheadL isBl s.data.toList)), .string (bs (restL isBl s.data.toList))]) ∧ ∃ n, w' = w.drewN n := by
  go_enter Tryd.func24, Tryd.ntmps24
  go_wp2_with fail
  go_loop [9] (fun i => ∃ k : Nat, k ≤ s.size ∧ i = .int .i64 k ∧ NoEnd isBl s k) (fun i => s.size - (intOf i).toNat)
  case atStart => exact ⟨0, by omega, rfl, noEnd_zero _ _⟩
  case round =>
    obtain ⟨k, hk, rfl, hN⟩ := hrel
    by_cases hlt : k < s.size
    · have dk : decide (k < s.size) = true := decide_eq_true hlt
      have hu := (s[k]'hlt).toNat_lt
      have C := end_blank (s[k]'hlt) w
      by_cases hc : isBl (s[k]'hlt) = true
      · rw [hc] at C
        have C := Lib.hid C
        obtain ⟨x1, x2⟩ := noEnd_at hN hlt hc
        have HX := Lib.hid (show Ending.returned (.tuple #[.string (bs (aheadL isBl s.data.toList)), .string (bs (restL isBl s.data.toList))]) = Ending.returned (.tuple #[.string (s.extract 0 k), .string (s.extract k s.size)]) by rw [x1, x2])
        have hs1 := fun w => run_slice_string_h (P := Tryd.prog) w 9 s (by kernel_rfl) .i64 (k : Int) (by omega) (by omega)
        have hs2 := fun w => run_slice_string_l (P := Tryd.prog) w 9 s (by kernel_rfl) .i64 (k : Int) (by omega) (by omega)
        rw [Int.toNat_natCast] at hs1 hs2
        clear hN hc x1 x2
        generalize s.extract 0 k = X at *
        generalize s.extract k s.size = Y at *
        go_wp2_with fail
        refine C.out.mono ?_; rintro e w1 ⟨rfl, rfl⟩
        go_wp2_with fail
        go_quiet (fail)
        go_wp2_with fail
        go_ret2
        exact ⟨HX.out.symm, _, rfl⟩
      · have hc' : isBl (s[k]'hlt) = false := by simpa using hc
        rw [hc'] at C
        have C := Lib.hid C
        have HN := Lib.hid (noEnd_next hN hlt hc')
        clear hN hc hc'
        go_wp2_with fail
        refine C.out.mono ?_; rintro e w1 ⟨rfl, rfl⟩
        go_wp2_with fail
        go_round
        case rel => exact ⟨k + 1, by omega, by go_num, HN.out⟩
        case measure => simp [intOf]; omega
    · obtain rfl : k = s.size := by omega
      have dk : decide (s.size < s.size) = false := decide_eq_false hlt
      obtain ⟨x1, x2⟩ := noEnd_all hN
      have HX := Lib.hid (show Ending.returned (.tuple #[.string (bs (aheadL isBl s.data.toList)), .string (bs (restL isBl s.data.toList))]) = Ending.returned (.tuple #[.string s, .string (ByteArray.mk #[])]) by rw [x1, x2])
      clear hN x1 x2
      go_wp2_with fail
      go_ret2
      exact ⟨HX.out.symm, 0, rfl⟩
end Go.Proofs.YtlmijhladbinjaaDoor
