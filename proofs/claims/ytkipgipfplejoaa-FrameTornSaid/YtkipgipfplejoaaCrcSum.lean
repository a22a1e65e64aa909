/- What the table's More and Sum answer. Conditions: texts no longer than any text. -/
import Derived.Test.YtkipgipfplejoaaCrcMore
namespace Go.Proofs.Ytkipgipfplejoaa
open Go.ChangeShapes Go.WideShapes Go.ChangeAt Go.RowKit
set_option linter.unusedVariables false
set_option maxRecDepth 100000
set_option linter.unusedSimpArgs false

theorem only_drewN {b : Nat} {a w : World} (h : Only b a w) (n : Nat) : Only b a (w.drewN n) := ⟨h.os, h.tape, h.output, h.size, h.block⟩
set_option maxRecDepth 100000 in
set_option maxHeartbeats 2000000 in
theorem more_any (b : Nat) (d : Bool) (n : Nat) (s : ByteArray) (w : World) (hn : n < 4294967296) (hs : s.size ≤ 9223372036854775000) (ht : Tab w b d) :
    Calls Try.prog 33 #[.pointer (some ⟨b, 0, none⟩), .int .u32 n, .string s] w fun e w' => e = .returned (.int .u32 (more n s.data.toList : Nat)) ∧ Tab w' b true ∧ Only b w w' := by
  have H := Lib.hid (ready_any b d w ht)
  clear ht
  have hi := inv_bits_max n hn
  have hsg : IntKind.u32.signed = false := rfl
  have hL : s.data.toList.length = s.size := data_len s
  have hm : more n s.data.toList = inv (reg (inv n) s.data.toList) := rfl
  have hI := inv_lt hn
  have hlt := fun k => reg_lt (s.data.toList.take k) hI
  have hsc := fun k (h : k < s.size) => reg_take s.data.toList (inv n) k (by omega)
  have h0 : reg (inv n) (s.data.toList.take 0) = inv n := rfl
  rw [hm]
  clear hm
  have h8 : reg (inv n) s.data.toList = reg (inv n) (s.data.toList.take s.size) := by rw [List.take_of_length_le (by omega)]
  rw [h8]
  clear h8
  generalize inv n = v at *
  generalize hR : (fun k => reg v (s.data.toList.take k)) = R at *
  have hRk : ∀ k, reg v (s.data.toList.take k) = R k := fun k => by rw [← hR]
  simp only [hRk] at *
  clear hR hRk
  go_enter Try.func33, Try.ntmps33
  go_wp2_with fail
  refine H.out.mono ?_
  rintro e w1 ⟨rfl, t2, o2⟩
  clear H
  go_wp2_with fail
  go_loopw [7, 17] (fun x i wr => ∃ k : Nat, k ≤ s.size ∧ x = .int .u32 (R k : Nat) ∧ i = .int .i64 k ∧ Tab wr b true ∧ Only b w wr) (fun _ i _ => s.size - (intOf i).toNat)
  case atStart => exact ⟨0, by omega, by rw [h0], rfl, t2, o2⟩
  case round =>
    obtain ⟨k, hk, rfl, rfl, t3, o3⟩ := hrel
    have c4 := fun i hi => TabC.c4 t3 i hi
    have T3 := Lib.hid t3
    clear t2 t3
    have hx := hlt k
    by_cases hlk : k < s.size
    · have hsk := hsc k hlk
      have hg : s.data.toList[k]'(by omega) = s[k] := by simp; rfl
      rw [hg] at hsk
      clear hg
      have hc := s[k].toNat_lt
      generalize R k = x at *
      have hb : bits .xor .u8 ((x : Int) % 256) (s[k].toNat : Int) = ((x % 256 ^^^ s[k].toNat : Nat) : Int) := by
        rw [show (x : Int) % 256 = ((x % 256 : Nat) : Int) by omega]; exact u8_xor_nat _ _ (by omega) (by omega)
      have hy : x % 256 ^^^ s[k].toNat < 256 := Nat.xor_lt_two_pow (n := 8) (by omega) (by omega)
      have c5 := c4 _ hy
      rw [if_pos hy] at c5
      have hst := stp_table x s[k].toNat hc
      rw [← hsk] at hst
      have hv := stp_lt (show x % 256 ^^^ s[k].toNat < 4294967296 by omega)
      have hb2 : bits .xor .u32 ((x : Int) / 256) (stp (x % 256 ^^^ s[k].toNat) : Nat) = ((x / 256 ^^^ stp (x % 256 ^^^ s[k].toNat) : Nat) : Int) := by
        rw [show (x : Int) / 256 = ((x / 256 : Nat) : Int) by omega]; exact u32_xor_nat _ _ (by omega) hv
      have q : IntKind.u8.wrap (x : Int) = (x : Int) % 256 := by rw [IntKind.wrap_u8]
      generalize x % 256 ^^^ s[k].toNat = y at *
      have hy2 : decide ((y : Int) < 256) = true := decide_eq_true (by omega)
      have HST := Lib.hid hst
      clear hst hsk hsc hlt c4
      generalize x / 256 ^^^ stp y = z at *
      generalize stp y = e at *
      go_wp2_with fail
      go_quiet (fail)
      go_wp2_with fail
      go_roundw
      case rel => exact ⟨k + 1, by omega, by rw [HST.out], by go_num, T3.out, only_drewN o3 _⟩
      case measure => simp [intOf]; omega
    · obtain rfl : k = s.size := by omega
      have hi2 := inv_bits_max _ hx
      clear hsc hlt c4
      generalize hV : inv (R s.size) = V at *
      have HV := Lib.hid hV
      clear hV
      go_wp2_with fail
      go_ret
      rw [HV.out]
      exact ⟨rfl, T3.out, o3⟩
theorem tsum_any (b : Nat) (d : Bool) (s : ByteArray) (w : World) (hs : s.size ≤ 9223372036854775000) (ht : Tab w b d) :
    Calls Try.prog 25 #[.pointer (some ⟨b, 0, none⟩), .string s] w fun e w' => e = .returned (.int .u32 (more 0 s.data.toList : Nat)) ∧ Tab w' b true ∧ Only b w w' := by
  have H := Lib.hid (more_any b d 0 s w (by omega) hs ht)
  clear ht
  generalize more 0 s.data.toList = v at *
  go_enter Try.func25, Try.ntmps25
  go_wp2_with fail
  refine H.out.mono ?_
  rintro e w' ⟨rfl, t2, o2⟩
  go_wp2_with fail
  go_ret
  exact ⟨rfl, t2, o2⟩
end Go.Proofs.Ytkipgipfplejoaa
