/- words' Lines. Conditions: texts of at most 100,000 bytes. -/
import Derived.Test.YtfbglehoopkfkaaWrdRef
import Derived.Deep.LoopGhost
import Derived.WalkMore
namespace Go.Proofs.Ytfbglehoopkfkaa
open Go.ChangeShapes Go.WideShapes Go.ChangeAt Go.RowKit
set_option linter.unusedVariables false
set_option maxRecDepth 100000
set_option linter.unusedSimpArgs false

theorem lines_at (l : List UInt8) (k : Nat) (h : k < l.length) (hp : (10 : UInt8) ∉ l.take k) (hc : l[k] = 10) : linesL l = l.take k :: linesL (l.drop (k + 1)) := by
  unfold linesL
  conv => lhs; rw [← List.take_append_drop k l, List.drop_eq_getElem_cons h, hc]
  rw [linesA_plain _ hp]
  simp only [linesA, if_true, List.nil_append]
theorem lines_last (l : List UInt8) (hp : (10 : UInt8) ∉ l) (h0 : l ≠ []) : linesL l = [l] := by
  unfold linesL
  have := linesA_plain l hp [] []
  rw [List.append_nil, List.nil_append] at this
  rw [this]
  simp [linesA, lastW, h0]
theorem notin_snoc (l : List UInt8) (k : Nat) (h : k < l.length) (hp : (10 : UInt8) ∉ l.take k) (hc : l[k] ≠ 10) : (10 : UInt8) ∉ l.take (k + 1) := by
  rw [List.take_succ_eq_append_getElem h]
  simp only [List.mem_append, List.mem_singleton]
  rintro (h1 | h1)
  · exact hp h1
  · exact hc h1.symm
/-- So far, and what is left. -/
def LsI (l : List UInt8) (out : List (List UInt8)) (r : ByteArray) : Prop := out.length + r.size ≤ l.length ∧ linesL l = out ++ linesL r.data.toList
theorem lsI_line {l : List UInt8} {out : List (List UInt8)} {r : ByteArray} (h : LsI l out r) (k : Nat) (hk : k < r.size) (hp : (10 : UInt8) ∉ r.data.toList.take k) (hc : r[k]'hk = 10) :
    LsI l (out ++ [(r.extract 0 k).data.toList]) (r.extract (k + 1) r.size) := by
  obtain ⟨h1, h2⟩ := h
  have x1 : (r.extract 0 k).data.toList = r.data.toList.take k := by rw [extract_list]; rfl
  have x2 : (r.extract (k + 1) r.size).data.toList = r.data.toList.drop (k + 1) := by rw [extract_list, ← data_len, List.take_length]
  have hl : (r.extract (k + 1) r.size).size = r.size - (k + 1) := by rw [← data_len, x2, List.length_drop, data_len]
  refine ⟨by rw [hl]; simp; omega, ?_⟩
  rw [h2, lines_at r.data.toList k (by rw [data_len]; exact hk) hp (by rw [wget r k hk]; exact hc), x1, x2]
  simp
theorem lsI_end {l : List UInt8} {out : List (List UInt8)} {r : ByteArray} (h : LsI l out r) (h0 : 0 < r.size) (hp : (10 : UInt8) ∉ r.data.toList) : linesL l = out ++ [r.data.toList] := by
  rw [h.2, lines_last _ hp (by intro e; have := data_len r; rw [e] at this; simp at this; omega)]
/-- No byte 10 so far. -/
def NoTen (r : ByteArray) (k : Nat) : Prop := (10 : UInt8) ∉ r.data.toList.take k
theorem noTen_zero (r : ByteArray) : NoTen r 0 := by unfold NoTen; simp
theorem noTen_next {r : ByteArray} {k : Nat} (h : NoTen r k) (hk : k < r.size) (hc : r[k]'hk ≠ 10) : NoTen r (k + 1) :=
  notin_snoc _ k (by rw [data_len]; exact hk) h (by rw [wget r k hk]; exact hc)
theorem noTen_all {r : ByteArray} (h : NoTen r r.size) : (10 : UInt8) ∉ r.data.toList := by
  unfold NoTen at h; rw [← data_len, List.take_length] at h; exact h
theorem empty_bytes (r : ByteArray) (h : r.size = 0) : r = ByteArray.mk #[] := by
  rw [← bs_of r]
  have : r.data.toList = [] := List.eq_nil_of_length_eq_zero (by rw [data_len]; exact h)
  rw [this]; rfl
theorem full_ne (r : ByteArray) (h : 0 < r.size) : (r.toList == (ByteArray.mk #[]).toList) = false ∧ (r.toList == []) = false := by
  have h1 : r.data.toList ≠ [] := fun e => by have := data_len r; rw [e] at this; simp at this; omega
  have h2 := cur_ne r.data.toList h1
  have h3 := cur_ne2 r.data.toList h1
  rw [bs_of] at h2 h3
  exact ⟨h2, h3⟩
set_option maxHeartbeats 4000000 in
theorem wlines_any (s : ByteArray) (w : World) (hs : s.size ≤ 100000) : Calls Try.prog 10 #[.string s] w (StrsR (linesL s.data.toList) w) := by
  obtain ⟨i0, hi, hz0, hz1, hz2⟩ := info_parts infoS
  go_enter Try.func10, Try.ntmps10
  go_wp2_with fail
  go_step3
  go_wp2_with fail
  go_step3
  go_wp2_with fail
  go_loopg [0, 3] s.size (fun g rs v wx => ∃ (r : ByteArray) (out : List (List UInt8)), rs = .string r ∧ r.size ≤ g ∧ r.size ≤ 100000 ∧ out.length ≤ 100000 ∧ LsI s.data.toList out r ∧ wx.ownsRow w.heap.size 9 1 v out.length (strs out) ∧ Below w.heap.size w wx)
  case atStart => exact ⟨s, [], rfl, Nat.le_refl _, hs, by simp, ⟨by simp [data_len], rfl⟩, World.ownsRow_nil _ _ _ _, Below.refl _ _⟩
  case round =>
    obtain ⟨r, out, rfl, hrg, hrs, hol, hI, hown, hb⟩ := hrel
    have HI := Lib.hid hI
    have HO := Lib.hid hown
    have HB := Lib.hid hb
    have hw3 : w.heap.size ≤ wr.heap.size := hb.size
    have hsum := hI.1
    rw [data_len] at hsum
    clear hown hb hI
    by_cases h0 : r.size = 0
    · obtain rfl := empty_bytes r h0
      have HE := Lib.hid (show linesL s.data.toList = out by rw [HI.out.2]; show out ++ linesL [] = out; simp [linesL, linesA, lastW])
      obtain ⟨A, c, rfl, _, _⟩ := (Rd.own HO.out).form
      have HR := Lib.hid (Rd.own HO.out)
      clear HI h0
      go_wp2_with fail
      try rw [Exit.noGoto_ret]
      go_ret
      refine ⟨_, rfl, ?_, HB.out⟩
      rw [HE.out]
      exact HR.out
    · obtain ⟨dn, dn2⟩ := full_ne r (by omega)
      go_wp2_with fail
      go_loopg [0, 3, 9] r.size (fun g2 rs v i wy => ∃ k : Nat, k + g2 = r.size ∧ i = .int .i64 k ∧ rs = .string r ∧ u3 = v ∧ NoTen r k ∧ wr = wy)
      case atStart => exact ⟨0, by omega, rfl, rfl, rfl, noTen_zero _, rfl⟩
      case round =>
        obtain ⟨k, hkg, rfl, rfl, rfl, hN, rfl⟩ := hrel
        by_cases hlt : k < r.size
        · have dk : decide (k < r.size) = true := decide_eq_true hlt
          have hu := (r[k]'hlt).toNat_lt
          by_cases hc : (r[k]'hlt).toNat = 10
          · have dc : (((r[k]'hlt).toNat : Int) == 10) = true := by rw [hc]; rfl
            have HN := Lib.hid (lsI_line HI.out k hlt hN (UInt8.toNat_inj.1 hc))
            have hsz : (r.extract (k + 1) r.size).size ≤ r.size - (k + 1) := by rw [ByteArray.size_extract]; omega
            have hs1 := fun w => run_slice_string_h (P := Try.prog) w 9 r (by kernel_rfl) .i64 (k : Int) (by omega) (by omega)
            have hs2 := fun w => run_slice_string_l (P := Try.prog) w 9 r (by kernel_rfl) .i64 ((k : Int) + 1) (by omega) (by omega)
            rw [show ((k : Int)).toNat = k by omega] at hs1
            rw [show ((k : Int) + 1).toNat = k + 1 by omega] at hs2
            clear hc hN HI
            generalize hX : r.extract 0 k = X at *
            generalize r.extract (k + 1) r.size = Y at *
            clear hX
            go_wp2_with (at_builtin; refine wpList_append_own _ rfl _ _ 26 rfl w.heap.size 9 i0 (.string ⟨#[]⟩) 1 16 Try.underlying26 hi hz0 hz1 hz2 rfl (by decide) _ _ _ rfl (HO.out.alloc _) ⟨wr.heap.size, 0, none⟩ 1 1 [.string X] rfl rfl (cell_one_new _ _ _) ?c2 ?c3 ?c4 ?c5 ?_)
            case c2 => intro u hu; simp at hu; subst hu; rfl
            case c3 => unfold maxLen; omega
            case c4 => omega
            case c5 => simp; omega
            intro v' w4 hown4 hgrow _
            have HB4 := Lib.hid (grown_below (HB.out.alloc (HB.out.size) _) hgrow (fun g hg => owns_row HO.out hg) (by simp; omega))
            have hown4' : w4.ownsRow w.heap.size 9 1 v' (out ++ [X.data.toList]).length (strs (out ++ [X.data.toList])) := by
              simpa [strs, bs_of] using hown4
            have HO4 := Lib.hid hown4'
            clear hown4 hown4' hgrow
            go_wp2_with fail
            go_roundg Y.size
            case measure => omega
            case rel => exact ⟨Y, out ++ [X.data.toList], rfl, Nat.le_refl _, by omega, by simp; omega, HN.out, HO4.out, HB4.out⟩
          · have dc : (((r[k]'hlt).toNat : Int) == 10) = false := beq_false_of_ne (by omega)
            have HN := Lib.hid (noTen_next hN hlt (fun e => hc (by rw [e]; rfl)))
            clear hc hN HI
            go_wp2_with fail
            go_roundg (r.size - (k + 1))
            case measure => omega
            case rel => exact ⟨k + 1, by omega, by go_num, rfl, rfl, HN.out, rfl⟩
        · obtain rfl : k = r.size := by omega
          have dk : decide (r.size < r.size) = false := decide_eq_false hlt
          have HE := Lib.hid (lsI_end HI.out (by omega) (noTen_all hN))
          clear hN HI
          go_wp2_with (at_builtin; refine wpList_append_own _ rfl _ _ 26 rfl w.heap.size 9 i0 (.string ⟨#[]⟩) 1 16 Try.underlying26 hi hz0 hz1 hz2 rfl (by decide) _ _ _ rfl (HO.out.alloc _) ⟨wr.heap.size, 0, none⟩ 1 1 [.string r] rfl rfl (cell_one_new _ _ _) ?d2 ?d3 ?d4 ?d5 ?_)
          case d2 => intro u hu; simp at hu; subst hu; rfl
          case d3 => unfold maxLen; omega
          case d4 => omega
          case d5 => simp; omega
          intro v' w4 hown4 hgrow _
          have HB4 := Lib.hid (grown_below (HB.out.alloc (HB.out.size) _) hgrow (fun g hg => owns_row HO.out hg) (by simp; omega))
          have HR := Lib.hid (Rd.own hown4)
          obtain ⟨A, c, rfl, _, _⟩ := HR.out.form
          clear hown4 hgrow
          go_wp2_with fail
          try rw [Exit.noGoto_ret]
          go_ret
          refine ⟨_, rfl, ?_, HB4.out⟩
          rw [HE.out]
          simpa [strs, bs_of] using HR.out
end Go.Proofs.Ytfbglehoopkfkaa
