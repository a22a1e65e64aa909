/- dec's ParseHex. Conditions: texts of at most 100,000 bytes. -/
import Derived.Test.YtfklchjhnocnhaaDoorDecC
import Derived.Laws.Runes
import Derived.WalkMore
namespace Go.Proofs.YtfklchjhnocnhaaDoor
open Go.ChangeShapes Go.WideShapes Go.ChangeAt Go.RowKit
set_option linter.unusedVariables false
set_option maxRecDepth 100000
set_option linter.unusedSimpArgs false

theorem sign_le (k : Nat) (h : k < 16) : (signC k).toNat ≤ 102 := by
  unfold signC; split
  · simp; omega
  · simp; omega
theorem ix_no (l : List UInt8) (c : UInt8) (h : ∀ b ∈ l, b ≠ c) : Lib.indexByte l c = -1 := by
  induction l with
  | nil => rfl
  | cons b l ih =>
    unfold Lib.indexByte
    rw [ih (fun x hx => h x (by simp [hx]))]
    have : (b == c) = false := by simpa using h b (by simp)
    rw [this]; rfl
theorem ix_sign_all : ∀ n : Fin 256, Lib.indexByte [48, 49, 50, 51, 52, 53, 54, 55, 56, 57, 97, 98, 99, 100, 101, 102] (UInt8.ofNat n.val) = if signV (UInt8.ofNat n.val) < 16 then (signV (UInt8.ofNat n.val) : Int) else -1 := by decide +kernel
theorem ix_sign (c : UInt8) : Lib.indexByte [48, 49, 50, 51, 52, 53, 54, 55, 56, 57, 97, 98, 99, 100, 101, 102] c = if signV c < 16 then (signV c : Int) else -1 := by
  have := ix_sign_all ⟨c.toNat, c.toNat_lt⟩
  rw [show UInt8.ofNat (⟨c.toNat, c.toNat_lt⟩ : Fin 256).val = c from UInt8.ofNat_toNat] at this
  exact this
theorem sign_small : ∀ b ∈ (ByteArray.mk #[48, 49, 50, 51, 52, 53, 54, 55, 56, 57, 97, 98, 99, 100, 101, 102]).data.toList, b.toNat < 128 := by decide
set_option maxHeartbeats 1000000 in
theorem idx_err (w : World) :
    Calls Tryd.prog 27 #[.string (ByteArray.mk #[48, 49, 50, 51, 52, 53, 54, 55, 56, 57, 97, 98, 99, 100, 101, 102]), .int .i32 65533] w fun e w' => e = .returned (.int .i64 (-1)) ∧ Below w.heap.size w w' := by
  go_enter Tryd.func27, Tryd.ntmps27
  go_wp2_with fail
  go_loopw [] (fun wr => ∃ pos : Nat, pos ≤ 16 ∧ wr.heap[w.heap.size]? = some (.stringIter (ByteArray.mk #[48, 49, 50, 51, 52, 53, 54, 55, 56, 57, 97, 98, 99, 100, 101, 102]) pos) ∧ Below w.heap.size w wr) (fun wr => 16 - wr.iterPos w.heap.size)
  case atStart =>
    refine ⟨0, by omega, ?_, ((Below.refl _ w).alloc (Nat.le_refl _) _)⟩
    have := World.iter_heap w (ByteArray.mk #[48, 49, 50, 51, 52, 53, 54, 55, 56, 57, 97, 98, 99, 100, 101, 102]) 0
    simpa using this
  case round =>
    obtain ⟨pos, hpos, hit, hbw⟩ := hrel
    have hsz : w.heap.size < wr.heap.size := (Array.getElem?_eq_some_iff.1 hit).1
    have HIT := Lib.hid hit
    by_cases hp : pos < 16
    · have hq := sign_elem pos hp
      have hle := sign_le pos hp
      have hnx : ∀ ty, (Instr.next (.pointer (some ⟨w.heap.size, 0, none⟩)) true ty).run Tryd.prog wr = _ := fun ty => Lib.run_next_ascii_at wr w.heap.size _ pos ty hit hp (by rw [hq]; omega)
      have hit2 := Lib.iterAt_heap wr w.heap.size _ pos (pos + 1) hit
      have hbw2 := Lib.below_iterAt hbw (k := w.heap.size) (Nat.le_refl _) (ByteArray.mk #[48, 49, 50, 51, 52, 53, 54, 55, 56, 57, 97, 98, 99, 100, 101, 102]) (pos + 1)
      rw [hq] at hnx
      have HB2 := Lib.hid hbw2
      have HI2 := Lib.hid hit2
      have d1 : (((signC pos).toNat : Int) == 65533) = false := beq_false_of_ne (by omega)
      clear hit2 hbw2 hit hsz hbw hq
      generalize (signC pos).toNat = q at *
      generalize wr.iterAt w.heap.size (ByteArray.mk #[48, 49, 50, 51, 52, 53, 54, 55, 56, 57, 97, 98, 99, 100, 101, 102]) (pos + 1) = wr2 at *
      go_wp2_with fail
      go_roundw
      case rel => exact ⟨pos + 1, by omega, HI2.out, HB2.out⟩
      case measure => simp only [World.iterPos, HI2.out, HIT.out]; omega
    · obtain rfl : pos = 16 := by omega
      have hnx : ∀ ty, (Instr.next (.pointer (some ⟨w.heap.size, 0, none⟩)) true ty).run Tryd.prog wr = _ := fun ty => Lib.run_next_end_at wr w.heap.size _ 16 ty hit (by show ¬ 16 < 16; omega)
      have HB := Lib.hid hbw
      clear hit hbw
      go_wp2_with fail
      go_ret
      exact ⟨rfl, HB.out⟩
set_option maxHeartbeats 1000000 in
theorem idx_high (r : Nat) (h : 128 ≤ r) (h2 : r ≤ 2147483647) (w : World) :
    Calls Tryd.prog 27 #[.string (ByteArray.mk #[48, 49, 50, 51, 52, 53, 54, 55, 56, 57, 97, 98, 99, 100, 101, 102]), .int .i32 (r : Nat)] w fun e w' => e = .returned (.int .i64 (-1)) ∧ Below w.heap.size w w' := by
  by_cases he : r = 65533
  · subst he; exact idx_err w
  have d1 : ((r : Int) == 65533) = false := beq_false_of_ne (by omega)
  have d0 : decide ((r : Int) < 128) = false := decide_eq_false (by omega)
  have d00 : decide (r < 128) = false := decide_eq_false (by omega)
  have d01 : decide ((0 : Int) ≤ (r : Int)) = true := decide_eq_true (by omega)
  have V1 := Lib.hid fun w => Tryd.utf8_ValidRune (r : Int) w
  by_cases hv : Utf8.valid (r : Int) = true
  · obtain ⟨hz1, hz2, hz3⟩ := encode_facts (r : Int) hv (by omega)
    have hv2 : Lib.validRune (r : Int) = true := by rw [← hv]; exact (validRune_eq _).symm
    rw [hv2] at V1
    generalize hrs : Utf8.encode (r : Int) = rs at *
    obtain ⟨m, hm⟩ : ∃ m : Nat, rs.size = m + 1 := ⟨rs.size - 1, by omega⟩
    have hlt : m < rs.size := by omega
    have hm3 : m ≤ 3 := by omega
    have hm1 : 1 ≤ m := by omega
    have hge : 128 ≤ (rs[m]'hlt).toNat := by
      have := hz3 (by omega)
      simp only [hm, Nat.add_sub_cancel] at this
      exact this
    have hconv : ∀ w, (convert 21 9 (.int .i32 (r : Int))).run Tryd.prog w = .ok (.string rs) w := fun w => by
      rw [← hrs]
      exact run_convert_int_string w _ _ _ _ (by kernel_rfl) (by kernel_rfl)
    have q1 : IntKind.i64.wrap ((rs.size : Int) - 1) = (m : Int) := by rw [IntWalk.i64_in _ (by omega)]; omega
    have q2 : IntKind.i64.wrap ((m : Int) + 1) = (m : Int) + 1 := IntWalk.i64_in _ (by omega)
    have hS := sign_le m (by omega)
    have ixS : ∀ w, (Instr.index 9 (.string (ByteArray.mk #[48, 49, 50, 51, 52, 53, 54, 55, 56, 57, 97, 98, 99, 100, 101, 102])) (.int .i64 (m : Int))).run Tryd.prog w = .ok (.int .u8 ((signC m).toNat : Nat)) w := fun w => sign_ix w m (by omega)
    have ixR : ∀ w, (Instr.index 9 (.string rs) (.int .i64 (m : Int))).run Tryd.prog w = .ok (.int .u8 ((rs[m]'hlt).toNat : Nat)) w := fun w => ix_at (P := Tryd.prog) w 9 rs m hlt (by kernel_rfl)
    have hne : (((signC m).toNat : Int) == ((rs[m]'hlt).toNat : Int)) = false := beq_false_of_ne (by omega)
    have hin : decide ((m : Int) < 16) = true := decide_eq_true (by omega)
    have B1 := fun w => Tryd.strings_IndexByte ((ByteArray.mk #[48, 49, 50, 51, 52, 53, 54, 55, 56, 57, 97, 98, 99, 100, 101, 102]).extract (m + 1) 16) ((rs[m]'hlt).toNat : Int) w
    rw [ix_no _ _ (fun b hb => fun e => by
      have h1 := sign_small b (mem_extract hb)
      have h3 := (rs[m]'hlt).toNat_lt
      rw [e] at h1
      have h4 : (((rs[m]'hlt).toNat : Int).toNat.toUInt8) = rs[m]'hlt := by rw [← UInt8.toNat_inj]; simp
      rw [h4] at h1
      omega)] at B1
    have B1 := Lib.hid B1
    have hlo := fun w => run_slice_string_l (P := Tryd.prog) w 9 (ByteArray.mk #[48, 49, 50, 51, 52, 53, 54, 55, 56, 57, 97, 98, 99, 100, 101, 102]) (by kernel_rfl) .i64 ((m : Int) + 1) (by omega) (by show _ ≤ (16 : Int); omega)
    rw [show ((m : Int) + 1).toNat = m + 1 by omega] at hlo
    have hsm := (rs[m]'hlt).toNat_lt
    clear hz3 hrs hv hv2
    generalize (rs[m]'hlt).toNat = lb at *
    generalize (signC m).toNat = sb at *
    go_enter Tryd.func27, Tryd.ntmps27
    go_wp2_with fail
    refine (V1.out _).mono ?_; rintro e w1 ⟨rfl, rfl⟩
    go_wp2_with fail
    go_step3
    go_wp2_with fail
    go_loopw [9] (fun i wr => i = .int .i64 (m : Int) ∧ wr = w1) (fun _ wr => 0)
    case atStart => exact ⟨by go_num, rfl⟩
    case round =>
      obtain ⟨rfl, rfl⟩ := hrel
      go_wp2_with fail
      go_step3
      go_wp2_with fail
      go_quiet (fail)
      have HQ := Lib.hid (below_drewN0 (Below.refl wr.heap.size wr) nq)
      generalize wr.drewN nq = wq at *
      go_wp2_with fail
      go_quiet ((go_at_call 39; refine Calls.quiet_of_same (B1.out _)))
      go_wp2_with fail
      simp +zetaDelta only [Exit.noGoto_ret, Exit.inBlock, Exit.then]
      go_ret
      exact ⟨rfl, below_drewN0 HQ.out _⟩
  · have hv2 : Lib.validRune (r : Int) = false := by
      rw [← Bool.not_eq_true]; intro e; apply hv; rw [validRune_eq]; exact e
    rw [hv2] at V1
    clear hv hv2
    go_enter Tryd.func27, Tryd.ntmps27
    go_wp2_with fail
    refine (V1.out _).mono ?_; rintro e w1 ⟨rfl, rfl⟩
    go_wp2_with fail
    go_ret
    exact ⟨rfl, Below.refl _ _⟩

/-- Signs, and what they count. -/
def good16 (c : UInt8) : Bool := decide (signV c < 16)
theorem good16_low (c : UInt8) (h : good16 c = true) : c.toNat < 128 := by
  have h1 : signV c < 16 := by simpa [good16] using h
  unfold signV at h1
  split at h1
  · omega
  · split at h1
    · omega
    · omega
theorem hexdig_yes (c : UInt8) (h : good16 c = true) (w : World) :
    Calls Tryd.prog 26 #[.int .i32 (c.toNat : Nat)] w fun e w' => e = .returned (.tuple #[.int .i64 (signV c : Nat), .bool true]) ∧ Below w.heap.size w w' := by
  have hlo := good16_low c h
  have h1 : signV c < 16 := by simpa [good16] using h
  have I1 := fun w => Tryd.strings_IndexRune_ascii (ByteArray.mk #[48, 49, 50, 51, 52, 53, 54, 55, 56, 57, 97, 98, 99, 100, 101, 102]) (c.toNat : Int) w (by omega) (by omega)
  rw [show ((c.toNat : Int).toNat.toUInt8) = c by rw [← UInt8.toNat_inj]; simp, show (ByteArray.mk #[48, 49, 50, 51, 52, 53, 54, 55, 56, 57, 97, 98, 99, 100, 101, 102]).data.toList = [48, 49, 50, 51, 52, 53, 54, 55, 56, 57, 97, 98, 99, 100, 101, 102] from rfl, ix_sign, if_pos h1] at I1
  have I1 := Lib.hid I1
  clear h h1
  generalize signV c = v at *
  generalize c.toNat = r at *
  go_enter Tryd.func26, Tryd.ntmps26
  go_wp2_with fail
  refine (I1.out _).mono ?_; rintro e w1 ⟨rfl, rfl⟩
  go_wp2_with fail
  go_ret2
  exact ⟨rfl, Below.refl _ _⟩
theorem hexdig_no (r : Nat) (hr : r ≤ 2147483647) (h : r < 128 → good16 (UInt8.ofNat r) = false) (w : World) :
    Calls Tryd.prog 26 #[.int .i32 (r : Nat)] w fun e w' => (∃ d : Int, e = .returned (.tuple #[.int .i64 d, .bool false])) ∧ Below w.heap.size w w' := by
  have I1 : ∀ w, Calls Tryd.prog 27 #[.string (ByteArray.mk #[48, 49, 50, 51, 52, 53, 54, 55, 56, 57, 97, 98, 99, 100, 101, 102]), .int .i32 (r : Nat)] w fun e w' => e = .returned (.int .i64 (-1)) ∧ Below w.heap.size w w' := fun w => by
    by_cases h1 : r < 128
    · have h2 := h h1
      have h3 : ¬ signV (UInt8.ofNat r) < 16 := by simpa [good16] using h2
      have I1 := Tryd.strings_IndexRune_ascii (ByteArray.mk #[48, 49, 50, 51, 52, 53, 54, 55, 56, 57, 97, 98, 99, 100, 101, 102]) (r : Int) w (by omega) (by omega)
      rw [show ((r : Int).toNat.toUInt8) = UInt8.ofNat r from rfl, show (ByteArray.mk #[48, 49, 50, 51, 52, 53, 54, 55, 56, 57, 97, 98, 99, 100, 101, 102]).data.toList = [48, 49, 50, 51, 52, 53, 54, 55, 56, 57, 97, 98, 99, 100, 101, 102] from rfl, ix_sign, if_neg h3] at I1
      refine I1.mono ?_; rintro e w1 ⟨rfl, rfl⟩
      exact ⟨rfl, Below.refl _ _⟩
    · exact idx_high r (by omega) hr w
  have I1 := Lib.hid I1
  clear h
  go_enter Tryd.func26, Tryd.ntmps26
  go_wp2_with fail
  refine (I1.out _).mono ?_; rintro e w1 ⟨rfl, b1⟩
  have HB := Lib.hid b1
  clear b1
  go_wp2_with fail
  go_ret2
  exact ⟨⟨_, rfl⟩, HB.out⟩
theorem take_two (l : List UInt8) (i : Nat) (h : i + 1 < l.length) : (l.take (i + 2)).drop i = [l[i], l[i + 1]] := by
  rw [List.drop_take, show i + 2 - i = 2 by omega, drop_two l i h]; rfl
set_option maxHeartbeats 1000000 in
theorem dphex_any (s : ByteArray) (w : World) (hs : s.size ≤ 100000) :
    Calls Tryd.prog 13 #[.string s] w fun e w' => e = .returned (.tuple #[.string (bs (uhV s.data.toList)), .int .i64 (uhE s.data.toList)]) ∧ Below w.heap.size w w' := by
  have hbad : uhE s.data.toList = 2 ∧ uhV s.data.toList = [] → Ending.returned (.tuple #[.string (bs (uhV s.data.toList)), .int .i64 (uhE s.data.toList)]) = Ending.returned (.tuple #[.string ⟨#[]⟩, .int .i64 2]) := fun h => by rw [h.1, h.2]; rfl
  have t1 : (s.size : Int).tmod 2 = ((s.size % 2 : Nat) : Int) := by rw [Int.tmod_eq_emod_of_nonneg (by omega)]; rfl
  by_cases hodd : s.size % 2 = 1
  · have HX := Lib.hid (hbad (uh_odd _ (by rw [data_len]; exact hodd)))
    have d1 : (((s.size : Int) % 2) == 0) = false := by rw [show (s.size : Int) % 2 = 1 by omega]; rfl
    clear hbad t1 hodd
    go_enter Tryd.func13, Tryd.ntmps13
    go_wp2_with fail
    go_ret2
    exact ⟨HX.out.symm, Below.refl _ _⟩
  have d1 : (((s.size : Int) % 2) == 0) = true := by rw [show (s.size : Int) % 2 = 0 by omega]; rfl
  have d1' : (((s.size : Int) % 2) != 0) = false := by rw [show (s.size : Int) % 2 = 0 by omega]; rfl
  have HBAD := Lib.hid hbad
  clear hbad t1
  go_enter Tryd.func13, Tryd.ntmps13
  go_wp2_with fail
  go_loopw [5] (fun i wr => ∃ (k : Nat) (out : List UInt8), i = .int .i64 ((2 * k : Nat) : Int) ∧ UhI s.data.toList k out ∧ IsB w.heap.size w.heap.size out wr ∧ Below w.heap.size w wr) (fun i _ => s.size - (intOf i).toNat)
  case atStart => exact ⟨0, [], rfl, uhI_zero _, isB_fresh w, (Below.refl _ w).alloc (Nat.le_refl _) _⟩
  case round =>
    obtain ⟨k, out, rfl, hI, hB, hb⟩ := hrel
    have h2k : 2 * k ≤ s.size := by have := hI.1; rw [data_len] at this; exact this
    have hol : out.length = k := hI.2.1
    have hk5 : k ≤ 50000 := by omega
    have HI := Lib.hid hI
    have HB := Lib.hid hB
    have HW := Lib.hid hb
    clear hI hB hb
    by_cases hlt : 2 * k < s.size
    · have h2 : 2 * k + 1 < s.size := by omega
      have dk : decide (2 * k < s.size) = true := decide_eq_true hlt
      have hbd := fun hb => HBAD.out (uhI_bad HI.out (by rw [data_len]; exact h2) hb)
      have hnx := fun hx hy => uhI_next HI.out (by rw [data_len]; exact h2) hx hy
      simp only [lget s (2 * k) hlt, lget s (2 * k + 1) h2] at hbd hnx
      have hex : (s.extract (2 * k) (2 * k + 2)).data.toList = [s[2 * k]'hlt, s[2 * k + 1]'h2] := by
        rw [extract_list, take_two _ _ (by rw [data_len]; exact h2), lget s (2 * k) hlt, lget s (2 * k + 1) h2]
      have N1 := fun w => number_hex 16 signV good16 (s.extract (2 * k) (2 * k + 2)) w (by rw [ByteArray.size_extract]; omega) (by omega) (by omega) (fun c => by have := signV_le c; omega) good16_low hexdig_yes hexdig_no
      rw [hex] at N1
      have hs1 := signV_le (s[2 * k]'hlt)
      have hs2 := signV_le (s[2 * k + 1]'h2)
      have q1 : IntKind.i64.wrap (((2 * k : Nat) : Int) + 2) = ((2 * k + 2 : Nat) : Int) := by rw [IntWalk.i64_in _ (by omega)]; omega
      have hsl := fun w => run_slice_string (P := Tryd.prog) w 9 s .i64 .i64 ((2 * k : Nat) : Int) (((2 * k : Nat) : Int) + 2) (by kernel_rfl) (by omega) (by omega) (by omega)
      rw [show (((2 * k : Nat) : Int)).toNat = 2 * k by omega, show (((2 * k : Nat) : Int) + 2).toNat = 2 * k + 2 by omega] at hsl
      have HBD := Lib.hid hbd
      have HNX := Lib.hid hnx
      clear hbd hnx hex
      unfold numV at N1
      simp only [List.all_cons, List.all_nil, Bool.and_true] at N1
      generalize s[2 * k]'hlt = x at *
      generalize s[2 * k + 1]'h2 = y at *
      generalize s.extract (2 * k) (2 * k + 2) = xy at *
      generalize hi2 : 2 * k = i at *
      have HI2 := Lib.hid hi2
      clear hi2
      have q3 : IntKind.i64.wrap ((i : Int) + 2) = (i : Int) + 2 := IntWalk.i64_in _ (by omega)
      by_cases hg : (good16 x && good16 y) = true
      · rw [if_pos hg, hg] at N1
        have hv : signV x < 16 ∧ signV y < 16 := by simpa [good16] using hg
        obtain ⟨hvx, hvy⟩ := hv
        have hn : numW 16 signV 0 [x, y] = ((signV x * 16 + signV y : Nat) : Int) := by
          show IntKind.i64.wrap (IntKind.i64.wrap (IntKind.i64.wrap (IntKind.i64.wrap (0 * 16) + (signV x : Int)) * 16) + (signV y : Int)) = _
          simp only [IntKind.wrap_i64]; omega
        rw [hn] at N1
        have N1 := Lib.hid N1
        have HN := Lib.hid (HNX.out hvx hvy)
        have hz : (UInt8.ofNat (signV x * 16 + signV y)).toNat = signV x * 16 + signV y := by simp; omega
        have W1 := fun w2 (h : IsB w.heap.size w.heap.size out w2) => isB_byte w.heap.size w.heap.size out (UInt8.ofNat (signV x * 16 + signV y)) w2 h (by omega)
        rw [hz] at W1
        have W1 := Lib.hid W1
        clear HNX HBD hg hn hz
        generalize hnn : signV x * 16 + signV y = nn at *
        have hnb : nn < 256 := by omega
        have q2 : IntKind.u8.wrap (nn : Int) = (nn : Int) := by rw [IntKind.wrap_u8]; omega
        clear hnn
        go_wp2_with fail
        refine (N1.out _).mono ?_; rintro e w1 ⟨rfl, b1⟩
        have HW1 := Lib.hid (HW.out.trans (b1.mono HW.out.size))
        have HB1 := Lib.hid (isB_below HB.out b1)
        clear b1
        go_wp2_with fail
        refine (W1.out _ HB1.out HW1.out.size).mono ?_; rintro e w2 ⟨rfl, B2, b2⟩
        have HW2 := Lib.hid (HW1.out.trans b2)
        have HB2 := Lib.hid B2
        clear b2 B2
        go_wp2_with fail
        go_roundw
        case rel => exact ⟨k + 1, _, by have := HI2.out; rw [show 2 * (k + 1) = i + 2 by omega]; go_num, HN.out, HB2.out, HW2.out⟩
        case measure => simp [intOf]; omega
      · have hg2 : (good16 x && good16 y) = false := by simpa using hg
        rw [hg2] at N1
        simp only [Bool.false_eq_true, if_false] at N1
        have N1 := Lib.hid N1
        have HX := Lib.hid (HBD.out (fun h => hg (by simpa [good16] using h)))
        clear HNX HBD hg hg2
        go_wp2_with fail
        refine (N1.out _).mono ?_; rintro e w1 ⟨rfl, b1⟩
        have HW1 := Lib.hid (HW.out.trans (b1.mono HW.out.size))
        clear b1
        go_wp2_with fail
        go_ret2
        exact ⟨HX.out.symm, HW1.out⟩
    · have he := uhI_end HI.out (by rw [data_len]; omega)
      have HX := Lib.hid (show Ending.returned (.tuple #[.string (bs (uhV s.data.toList)), .int .i64 (uhE s.data.toList)]) = Ending.returned (.tuple #[.string (bs out), .int .i64 0]) by rw [he.1, he.2]; rfl)
      have dk : decide (2 * k < s.size) = false := decide_eq_false hlt
      have S1 := Lib.hid (isB_text w.heap.size w.heap.size _ wr HB.out HW.out.size)
      clear he HBAD
      generalize hi2 : 2 * k = i at *
      clear hi2
      go_wp2_with fail
      refine S1.out.mono ?_; rintro e w2 ⟨rfl, b2⟩
      have HW2 := Lib.hid (HW.out.trans b2)
      clear b2
      go_wp2_with fail
      go_ret2
      exact ⟨HX.out.symm, HW2.out⟩
end Go.Proofs.YtfklchjhnocnhaaDoor
