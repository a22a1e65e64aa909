/- What the document's own answers for bytes as signs come to, and its Same for numbers. Conditions: texts of at most 100,000 bytes. -/
import Derived.Test.YtfklchjhnocnhaaDoorDecRef2
import Derived.Test.YtfklchjhnocnhaaDoorSame
import Derived.Deep.DeepCutAuto
import Derived.Deep.CutRange
namespace Go.Proofs.YtfklchjhnocnhaaDoor
open Go.ChangeShapes Go.WideShapes Go.ChangeAt Go.RowKit
set_option linter.unusedVariables false
set_option maxRecDepth 100000
set_option linter.unusedSimpArgs false

theorem below_drewN0 {B : Nat} {a w : World} (h : Below B a w) (n : Nat) : Below B a (w.drewN n) := ⟨h.os, h.tape, h.output, h.size, h.block⟩
theorem drewN_drewN (w : World) (m n : Nat) : (w.drewN m).drewN n = w.drewN (m + n) := by
  simp [World.drewN, Nat.add_assoc]
theorem sign_slice : ∀ k : Nat, k < 16 → (ByteArray.mk #[48, 49, 50, 51, 52, 53, 54, 55, 56, 57, 97, 98, 99, 100, 101, 102]).extract k (k + 1) = bs [signC k] := by decide
set_option maxHeartbeats 1000000 in
theorem rhex_any (s : ByteArray) (w : World) (hs : s.size ≤ 100000) :
    Calls Tryd.prog 19 #[.string s] w fun e w' => e = .returned (.string (bs (hexL s.data.toList))) ∧ ∃ n, w' = w.drewN n := by
  go_enter Tryd.func19, Tryd.ntmps19
  go_wp2_with fail
  go_loopw [3, 4] (fun o i wr => ∃ k n : Nat, k ≤ s.size ∧ i = .int .i64 k ∧ o = .string (bs (hexL (s.data.toList.take k))) ∧ wr = w.drewN n) (fun _ i _ => s.size - (intOf i).toNat)
  case atStart => exact ⟨0, 0, by omega, rfl, rfl, rfl⟩
  case round =>
    obtain ⟨k, n, hk, rfl, rfl, rfl⟩ := hrel
    by_cases hlt : k < s.size
    · have dk : decide (k < s.size) = true := decide_eq_true hlt
      have hu := (s[k]'hlt).toNat_lt
      have ht := ltake s k hlt
      have hx : hexL (s.data.toList.take (k + 1)) = hexL (s.data.toList.take k) ++ [signC ((s[k]'hlt).toNat / 16), signC ((s[k]'hlt).toNat % 16)] := by rw [ht, hexL_append]; rfl
      have hz : (bs (hexL (s.data.toList.take k))).size ≤ 200000 := by rw [bs_size, hexL_len, List.length_take, data_len]; omega
      have hz2 : (bs (hexL (s.data.toList.take k)) ++ bs [signC ((s[k]'hlt).toNat / 16)]).size ≤ 200001 := by rw [ByteArray.size_append]; show _ + 1 ≤ _; omega
      have hap : bs (hexL (s.data.toList.take k)) ++ bs [signC ((s[k]'hlt).toNat / 16)] ++ bs [signC ((s[k]'hlt).toNat % 16)] = bs (hexL (s.data.toList.take (k + 1))) := by rw [hx, bs_append, bs_append, List.append_assoc]; rfl
      have h1 := fun w => run_slice_string (P := Tryd.prog) w 9 (ByteArray.mk #[48, 49, 50, 51, 52, 53, 54, 55, 56, 57, 97, 98, 99, 100, 101, 102]) .i64 .i64 (((s[k]'hlt).toNat : Int) / 16) (((s[k]'hlt).toNat : Int) / 16 + 1) (by kernel_rfl) (by omega) (by omega) (by show _ ≤ (16 : Int); omega)
      have h2 := fun w => run_slice_string (P := Tryd.prog) w 9 (ByteArray.mk #[48, 49, 50, 51, 52, 53, 54, 55, 56, 57, 97, 98, 99, 100, 101, 102]) .i64 .i64 (((s[k]'hlt).toNat : Int) % 16) (((s[k]'hlt).toNat : Int) % 16 + 1) (by kernel_rfl) (by omega) (by omega) (by show _ ≤ (16 : Int); omega)
      rw [show (((s[k]'hlt).toNat : Int) / 16).toNat = (s[k]'hlt).toNat / 16 by omega, show (((s[k]'hlt).toNat : Int) / 16 + 1).toNat = (s[k]'hlt).toNat / 16 + 1 by omega, sign_slice _ (by omega)] at h1
      rw [show (((s[k]'hlt).toNat : Int) % 16).toNat = (s[k]'hlt).toNat % 16 by omega, show (((s[k]'hlt).toNat : Int) % 16 + 1).toNat = (s[k]'hlt).toNat % 16 + 1 by omega, sign_slice _ (by omega)] at h2
      have hq1 : (bs [signC ((s[k]'hlt).toNat / 16)]).size = 1 := rfl
      have hq2 : (bs [signC ((s[k]'hlt).toNat % 16)]).size = 1 := rfl
      have HAP := Lib.hid hap
      clear hap hx ht
      generalize bs (hexL (s.data.toList.take k)) = O0 at *
      generalize hO1 : bs (hexL (s.data.toList.take (k + 1))) = O1 at *
      have HO1 := Lib.hid hO1
      clear hO1
      generalize bs [signC ((s[k]'hlt).toNat / 16)] = S1 at *
      generalize bs [signC ((s[k]'hlt).toNat % 16)] = S2 at *
      go_wp2_with fail
      go_quiet (fail)
      go_wp2_with fail
      go_quiet (fail)
      rw [HAP.out]
      go_wp2_with fail
      go_roundw
      case rel => exact ⟨k + 1, _, by omega, by go_num, by rw [HO1.out], by first | rfl | (rw [drewN_drewN])⟩
      case measure => simp [intOf]; omega
    · obtain rfl : k = s.size := by omega
      have dk : decide (s.size < s.size) = false := decide_eq_false hlt
      rw [List.take_of_length_le (by rw [data_len]; exact Nat.le_refl _)]
      go_wp2_with fail
      go_ret
      exact ⟨rfl, _, rfl⟩

theorem sign_get : ∀ k : Nat, k < 16 → (ByteArray.mk #[48, 49, 50, 51, 52, 53, 54, 55, 56, 57, 97, 98, 99, 100, 101, 102]).data[k]? = some (signC k) := by decide
theorem sign_ix (w : World) (k : Nat) (h : k < 16) :
    (Instr.index 9 (.string (ByteArray.mk #[48, 49, 50, 51, 52, 53, 54, 55, 56, 57, 97, 98, 99, 100, 101, 102])) (.int .i64 (k : Int))).run Tryd.prog w = .ok (.int .u8 ((signC k).toNat : Nat)) w := by
  rw [run_index_string _ _ _ _ _ (by kernel_rfl)]
  have hz : (ByteArray.mk #[48, 49, 50, 51, 52, 53, 54, 55, 56, 57, 97, 98, 99, 100, 101, 102]).size = 16 := rfl
  rw [dif_pos ⟨by omega, by rw [hz]; omega⟩]
  have hg := sign_get k h
  have hk : k < (ByteArray.mk #[48, 49, 50, 51, 52, 53, 54, 55, 56, 57, 97, 98, 99, 100, 101, 102]).data.size := h
  rw [Array.getElem?_eq_getElem hk] at hg
  have := Option.some.inj hg
  rw [← this]; rfl
theorem place_any (c : UInt8) (w : World) :
    Calls Tryd.prog 30 #[.int .u8 (c.toNat : Nat)] w fun e w' => e = .returned (.int .i64 (signV c : Nat)) ∧ w = w' := by
  have hc := c.toNat_lt
  go_enter Tryd.func30, Tryd.ntmps30
  go_wp2_with fail
  go_loop [3] (fun i => ∃ k : Nat, k ≤ 16 ∧ i = .int .i64 k ∧ ∀ j, j < k → signC j ≠ c) (fun i => 16 - (intOf i).toNat)
  case atStart => exact ⟨0, by omega, rfl, fun j hj => absurd hj (by omega)⟩
  case round =>
    obtain ⟨k, hk, rfl, hno⟩ := hrel
    have HNO := Lib.hid hno
    clear hno
    by_cases hlt : k < 16
    · have dk : decide ((k : Int) < 16) = true := decide_eq_true (by omega)
      have hix := fun w => sign_ix w k hlt
      have hsc := (signC k).toNat_lt
      by_cases he : signC k = c
      · have hv : signV c = k := by rw [← he, signV_signC hlt]
        have de : (((signC k).toNat : Int) == (c.toNat : Int)) = true := by rw [he]; simp
        have HV := Lib.hid hv
        clear he hv
        generalize (signC k).toNat = q at *
        go_wp2_with fail
        go_ret
        exact ⟨by rw [HV.out]; rfl, rfl⟩
      · have hne : (signC k).toNat ≠ c.toNat := fun e => he (UInt8.toNat_inj.1 e)
        have de : (((signC k).toNat : Int) == (c.toNat : Int)) = false := beq_false_of_ne (by omega)
        have HE := Lib.hid he
        clear he
        generalize hq : (signC k).toNat = q at *
        have HQ := Lib.hid hq
        clear hq
        go_wp2_with fail
        go_round
        case rel => exact ⟨k + 1, by omega, by go_num, fun j hj => by
          rcases Nat.lt_or_ge j k with h | h
          · exact HNO.out j h
          · obtain rfl : j = k := by omega
            exact HE.out⟩
        case measure => simp [intOf]; omega
    · obtain rfl : k = 16 := by omega
      have hv : signV c = 16 := by
        have := signV_le c
        rcases Nat.lt_or_ge (signV c) 16 with h | h
        · exact absurd (signC_signV h) (HNO.out _ h)
        · omega
      have HV := Lib.hid hv
      clear hv
      go_wp2_with fail
      go_ret
      exact ⟨by rw [HV.out]; rfl, rfl⟩

def UhI (l : List UInt8) (k : Nat) (out : List UInt8) : Prop := 2 * k ≤ l.length ∧ out.length = k ∧ unhex l = (unhex (l.drop (2 * k))).map (out ++ ·)
theorem uhI_zero (l : List UInt8) : UhI l 0 [] := ⟨by omega, rfl, by simp⟩
theorem drop_two (l : List UInt8) (i : Nat) (h : i + 1 < l.length) : l.drop i = l[i] :: l[i + 1] :: l.drop (i + 2) := by
  rw [List.drop_eq_getElem_cons (by omega), List.drop_eq_getElem_cons h]
theorem uhI_next {l : List UInt8} {k : Nat} {out : List UInt8} (h : UhI l k out) (h2 : 2 * k + 1 < l.length) (hx : signV l[2 * k] < 16) (hy : signV l[2 * k + 1] < 16) : UhI l (k + 1) (out ++ [UInt8.ofNat (signV l[2 * k] * 16 + signV l[2 * k + 1])]) := by
  obtain ⟨h1, h3, h4⟩ := h
  refine ⟨by omega, by simp [h3], ?_⟩
  rw [h4, drop_two l (2 * k) h2, show 2 * (k + 1) = 2 * k + 2 by omega]
  simp only [unhex, if_pos (And.intro hx hy), Option.map_map]
  congr 1
  funext x
  simp
theorem uhI_bad {l : List UInt8} {k : Nat} {out : List UInt8} (h : UhI l k out) (h2 : 2 * k + 1 < l.length) (hb : ¬ (signV l[2 * k] < 16 ∧ signV l[2 * k + 1] < 16)) : uhE l = 2 ∧ uhV l = [] := by
  obtain ⟨h1, h3, h4⟩ := h
  rw [drop_two l (2 * k) h2] at h4
  simp only [unhex, if_neg hb] at h4
  unfold uhE uhV
  rw [h4]; exact ⟨rfl, rfl⟩
theorem uhI_end {l : List UInt8} {k : Nat} {out : List UInt8} (h : UhI l k out) (h2 : 2 * k = l.length) : uhE l = 0 ∧ uhV l = out := by
  obtain ⟨h1, h3, h4⟩ := h
  rw [h2, List.drop_length] at h4
  unfold uhE uhV
  rw [h4]; simp [unhex]
theorem uh_odd : ∀ (l : List UInt8), l.length % 2 = 1 → uhE l = 2 ∧ uhV l = []
  | [], h => by simp at h
  | [_], h => ⟨rfl, rfl⟩
  | x :: y :: l, h => by
    have := uh_odd l (by simp at h; omega)
    unfold uhE uhV at this ⊢
    simp only [unhex]
    split
    · cases hu : unhex l with
      | none => exact ⟨rfl, rfl⟩
      | some r => rw [hu] at this; simp at this
    · exact ⟨rfl, rfl⟩
set_option maxHeartbeats 2000000 in
theorem rphex_any (s : ByteArray) (w : World) (hs : s.size ≤ 100000) :
    Calls Tryd.prog 14 #[.string s] w fun e w' => e = .returned (.tuple #[.string (bs (uhV s.data.toList)), .int .i64 (uhE s.data.toList)]) ∧ Below w.heap.size w w' := by
  obtain ⟨i0, hi, hz0, hz1, hz2⟩ := info_parts infoU8
  have hbad : uhE s.data.toList = 2 ∧ uhV s.data.toList = [] → Ending.returned (.tuple #[.string (bs (uhV s.data.toList)), .int .i64 (uhE s.data.toList)]) = Ending.returned (.tuple #[.string ⟨#[]⟩, .int .i64 2]) := fun h => by rw [h.1, h.2]; rfl
  have t1 : (s.size : Int).tmod 2 = ((s.size % 2 : Nat) : Int) := by rw [Int.tmod_eq_emod_of_nonneg (by omega)]; rfl
  by_cases hodd : s.size % 2 = 1
  · have HX := Lib.hid (hbad (uh_odd _ (by rw [data_len]; exact hodd)))
    have d1 : (((s.size : Int) % 2) == 1) = true := by rw [show (s.size : Int) % 2 = 1 by omega]; rfl
    clear hbad t1 hodd
    go_enter Tryd.func14, Tryd.ntmps14
    go_wp2_with fail
    go_ret2
    exact ⟨HX.out.symm, Below.refl _ _⟩
  have d1 : (((s.size : Int) % 2) == 1) = false := beq_false_of_ne (by omega)
  have HBAD := Lib.hid hbad
  clear hbad t1
  go_enter Tryd.func14, Tryd.ntmps14
  go_wp2_with fail
  go_loopw [4, 5] (fun v i wr => ∃ (k : Nat) (out : List UInt8), i = .int .i64 ((2 * k : Nat) : Int) ∧ UhI s.data.toList k out ∧ wr.ownsRow w.heap.size 5 1 v out.length (u8v out) ∧ Below w.heap.size w wr) (fun _ i _ => s.size - (intOf i).toNat)
  case atStart => exact ⟨0, [], rfl, uhI_zero _, World.ownsRow_nil _ _ _ _, Below.refl _ _⟩
  case round =>
    obtain ⟨k, out, rfl, hI, hown, hb⟩ := hrel
    have h2k : 2 * k ≤ s.size := by have := hI.1; rw [data_len] at this; exact this
    have hol : out.length = k := hI.2.1
    have hk5 : k ≤ 50000 := by omega
    have HI := Lib.hid hI
    have HO := Lib.hid hown
    have HB := Lib.hid hb
    clear hI hown hb
    by_cases hlt : 2 * k < s.size
    · have h2 : 2 * k + 1 < s.size := by omega
      have dk : decide (2 * k < s.size) = true := decide_eq_true hlt
      have P1 := Lib.hid fun w => place_any (s[2 * k]'hlt) w
      have P2 := Lib.hid fun w => place_any (s[2 * k + 1]'h2) w
      have hs1 := signV_le (s[2 * k]'hlt)
      have hs2 := signV_le (s[2 * k + 1]'h2)
      have hu1 := (s[2 * k]'hlt).toNat_lt
      have hu2 := (s[2 * k + 1]'h2).toNat_lt
      have q1 : IntKind.i64.wrap (((2 * k : Nat) : Int) + 1) = ((2 * k + 1 : Nat) : Int) := by rw [IntWalk.i64_in _ (by omega)]; omega
      have hbd := fun hb => HBAD.out (uhI_bad HI.out (by rw [data_len]; exact h2) hb)
      have hnx := fun hx hy => uhI_next HI.out (by rw [data_len]; exact h2) hx hy
      simp only [lget s (2 * k) hlt, lget s (2 * k + 1) h2] at hbd hnx
      have HBD := Lib.hid hbd
      have HNX := Lib.hid hnx
      clear hbd hnx
      have hix1 : ∀ w, (Instr.index 9 (.string s) (.int .i64 ((2 * k : Nat) : Int))).run Tryd.prog w = .ok (.int .u8 ((s[2 * k]'hlt).toNat : Nat)) w := fun w => ix_at (P := Tryd.prog) w 9 s (2 * k) hlt (by kernel_rfl)
      have hix2 : ∀ w, (Instr.index 9 (.string s) (.int .i64 (((2 * k : Nat) : Int) + 1))).run Tryd.prog w = .ok (.int .u8 ((s[2 * k + 1]'h2).toNat : Nat)) w := fun w => by
        have := ix_at (P := Tryd.prog) w 9 s (2 * k + 1) h2 (by kernel_rfl)
        rw [show (((2 * k + 1 : Nat)) : Int) = ((2 * k : Nat) : Int) + 1 by omega] at this
        exact this
      clear q1
      generalize s[2 * k]'hlt = x at *
      generalize s[2 * k + 1]'h2 = y at *
      generalize signV x = vx at *
      generalize signV y = vy at *
      generalize hi2 : 2 * k = i at *
      have HI2 := Lib.hid hi2
      clear hi2
      have ib1 : (0 : Int) ≤ (i : Int) := by omega
      have ib2 : (i : Int) + 1 < (s.size : Int) := by omega
      have q1 : IntKind.i64.wrap ((i : Int) + 1) = (i : Int) + 1 := IntWalk.i64_in _ (by omega)
      go_upto_region 7 with (fail)
      go_cut [6, 7] from 18 to 26 (fun a b wx => a = .int .i64 (vx : Int) ∧ b = .int .i64 (vy : Int) ∧ ∃ n, wx = wr.drewN n)
      case first =>
        go_region_with (first | (go_at_call_of 30 (Value.int .u8 (x.toNat : Nat)); refine (P1.out _).mono ?_; rintro e w2 ⟨rfl, rfl⟩) | (go_at_call_of 30 (Value.int .u8 (y.toNat : Nat)); refine (P2.out _).mono ?_; rintro e w2 ⟨rfl, rfl⟩))
        all_goals go_wp2_with fail
        all_goals go_meet
        all_goals exact ⟨rfl, rfl, 1, rfl⟩
      case rest =>
        obtain ⟨rfl, rfl, nd, rfl⟩ := hcut
        have HO2 := Lib.hid (owns_below HO.out (below_drewN0 (Below.refl wr.heap.size wr) nd))
        have HB2 := Lib.hid (below_drewN0 HB.out nd)
        have hw3 : w.heap.size ≤ (wr.drewN nd).heap.size := HB2.out.size
        clear hix1 hix2 ib1 ib2 P1 P2
        generalize wr.drewN nd = wr2 at *
        by_cases hv : vx < 16 ∧ vy < 16
        · obtain ⟨hvx, hvy⟩ := hv
          have HN := Lib.hid (HNX.out hvx hvy)
          have e1 : ((vx : Int) == 16) = false := beq_false_of_ne (by omega)
          have e2 : ((vy : Int) == 16) = false := beq_false_of_ne (by omega)
          have hz : (UInt8.ofNat (vx * 16 + vy)).toNat = vx * 16 + vy := by simp; omega
          have HZ := Lib.hid hz
          clear HBD HNX hz
          go_wp2_with (at_builtin; refine wpList_append_own _ rfl _ _ 48 rfl w.heap.size 5 i0 (.int .u8 0) 1 1 Tryd.underlying48 hi hz0 hz1 hz2 rfl (by decide) _ _ _ rfl (HO2.out.alloc _) ⟨wr2.heap.size, 0, none⟩ 1 1 [.int .u8 ((vx : Int) * 16 + (vy : Int))] rfl rfl (cell_one_new _ _ _) ?c2 ?c3 ?c4 ?c5 ?_)
          case c2 => intro u hu; simp at hu; subst hu; rfl
          case c3 => unfold maxLen; omega
          case c4 => omega
          case c5 => simp; omega
          intro v' w4 hown4 hgrow _
          have hb4 := grown_below (HB2.out.alloc (HB2.out.size) _) hgrow (fun g hg => owns_row HO2.out hg) (by simp; omega)
          have HB4 := Lib.hid hb4
          have hown4' : w4.ownsRow w.heap.size 5 1 v' (out ++ [UInt8.ofNat (vx * 16 + vy)]).length (u8v (out ++ [UInt8.ofNat (vx * 16 + vy)])) := by
            have e : (vx : Int) * 16 + (vy : Int) = ((UInt8.ofNat (vx * 16 + vy)).toNat : Nat) := by rw [HZ.out]; omega
            rw [e] at hown4
            simpa [u8v, hol] using hown4
          have HO4 := Lib.hid hown4'
          clear hb4 hown4 hown4' hgrow
          go_wp2_with fail
          go_roundw
          case rel => exact ⟨k + 1, _, by have := HI2.out; rw [show 2 * (k + 1) = i + 2 by omega]; go_num, HN.out, HO4.out, HB4.out⟩
          case measure => simp [intOf]; omega
        · have HX := Lib.hid (HBD.out hv)
          have hcs : ((vx : Int) == 16) = true ∨ (((vx : Int) == 16) = false ∧ ((vy : Int) == 16) = true) := by
            by_cases h : vx = 16
            · exact Or.inl (by rw [h]; rfl)
            · exact Or.inr ⟨beq_false_of_ne (by omega), by rw [show vy = 16 by omega]; rfl⟩
          clear hv HBD HNX
          rcases hcs with e1 | ⟨e1, e2⟩
          all_goals
            go_wp2_with fail
            go_ret2
            exact ⟨HX.out.symm, HB2.out⟩
    · have he := uhI_end HI.out (by rw [data_len]; omega)
      have HX := Lib.hid (show Ending.returned (.tuple #[.string (bs (uhV s.data.toList)), .int .i64 (uhE s.data.toList)]) = Ending.returned (.tuple #[.string (bs out), .int .i64 0]) by rw [he.1, he.2]; rfl)
      have hcv := conv_own wr w.heap.size out.length u4 out HO.out
      have dk : decide (2 * k < s.size) = false := decide_eq_false hlt
      clear he HBAD
      generalize hi2 : 2 * k = i at *
      clear hi2
      go_wp2_with fail
      go_ret2
      exact ⟨HX.out.symm, HB.out⟩

end Go.Proofs.YtfklchjhnocnhaaDoor
