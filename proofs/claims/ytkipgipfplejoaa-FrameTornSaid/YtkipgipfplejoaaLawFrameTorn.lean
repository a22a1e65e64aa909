/- The law FrameTorn of the repository answers true for every input. No conditions. -/
import Derived.Test.YtkipgipfplejoaaFrmTorn
import Derived.Deep.DeepCutAuto
import Derived.Deep.CutRange
import Derived.Deep.CutBlock
import Derived.Outline
import Derived.Test.YtkipgipfplejoaaRows
import Derived.WalkKit
import Derived.ProofKit
import Derived.OpenShut
import Derived.Below
import Derived.ShutString
import Derived.Carry
import Derived.Test.YtkipgipfplejoaaArgs
namespace Go.Proofs.Ytkipgipfplejoaa.frameTorn
open Go.ChangeShapes Go.WideShapes Go.ChangeAt Go.RowKit
open Go.ChangeMaps (open_string shut_string)
set_option linter.unusedVariables false
set_option linter.unusedSimpArgs false

theorem own : ownKnob Try.prog.godebug = none := by kernel_rfl
theorem laidOut : laidOutB Try.prog = true := by kernel_rfl
theorem op9 : Opens Try.prog 9 .str := opens_str Try.underlying9
theorem op28 : Opens Try.prog 28 (.slice .str) := opens_slice Try.underlying28 (by kernel_rfl) (by decide) op9
theorem op3 : Opens Try.prog 3 (.int .i64) := opens_int Try.underlying3
theorem op34 : Opens Try.prog 34 (Sh.rep (.int .i64) 2) := opens_array Try.underlying34 (by kernel_rfl) (by kernel_rfl) op3

theorem infoI : (Try.prog.info? 3).map (fun i => (i.zero, i.size, i.bytes)) = some (some (.int .i64 0), 1, 8) := by kernel_rfl

set_option maxRecDepth 100000 in
set_option maxHeartbeats 4000000 in
theorem walk (a0 : Option Addr) (len0 cap0 : Nat) (c1 : Array Value) (a2 : Int) (w : World) (w0 : Has w (.slice .str) [.slice a0 len0 cap0]) (w1 : Has w (Sh.rep (.int .i64) 2) c1.toList) (w2 : (Lit.int .u8 a2).wf = true) :
    Calls Try.prog 4 #[.slice a0 len0 cap0, .agg c1, .int .u8 a2] w fun e w' => e = .returned (.bool true) ∧ Below w.heap.size w w' := by
  obtain ⟨x, y, rfl⟩ := has_pair w1
  obtain ⟨BL, hBL, hrd, hmax⟩ := rd_came w0
  obtain ⟨i0, hi, hz0, hz1, hz2⟩ := info_parts infoI
  have hcap := (has_strs w0).1
  have b0 := (Below.refl w.heap.size w).alloc (Nat.le_refl _) (.cells #[.int .i64 x, .int .i64 y] 34)
  have hsz : w.heap.size + 1 ≤ (w.alloc (.cells #[.int .i64 x, .int .i64 y] 34)).heap.size := by simp
  clear w0 w1
  subst hBL
  by_cases hg1 : 12 < BL.length
  · have d1 : decide ((12 : Int) < BL.length) = true := decide_eq_true (by omega)
    have HB := Lib.hid b0
    clear hmax b0
    go_enter Try.func4, Try.ntmps4
    go_wp2_with fail
    go_quiet (fail)
    go_wp2_with fail
    refine (awake_any _).mono ?_; rintro e w2 ⟨rfl, b2⟩
    have HB2 := Lib.hid ((below_drewN HB.out nq).trans (b2.mono HB.out.size))
    clear b2
    go_wp2_with fail
    go_ret
    exact ⟨rfl, HB2.out⟩
  have d1 : decide ((12 : Int) < BL.length) = false := decide_eq_false (by omega)
  have HR := Lib.hid hrd
  have HB := Lib.hid b0
  have HM := Lib.hid hmax
  clear hmax hrd b0
  go_enter Try.func4, Try.ntmps4
  go_wp2_with fail
  go_quiet (fail)
  go_wp2_with fail
  go_loopw [9, 10, 11] (fun s v i wr => ∃ k : Nat, i = .int .i64 k ∧ s = .string (bs (allL (BL.take k))) ∧ TornI BL w wr k v) (fun _ _ i _ => BL.length - (intOf i).toNat)
  case atStart => exact ⟨0, rfl, rfl, Nat.zero_le _, fun i hi => absurd hi (by omega), World.ownsRow_nil _ _ _ _, below_drewN HB.out nq, by simp⟩
  case round =>
    obtain ⟨k, rfl, rfl, hk, h60, hown, hb, hwz⟩ := hrel
    have HO := Lib.hid hown
    have HW := Lib.hid hb
    have H60 := Lib.hid h60
    have hrw := HR.out.below hb
    have hz67 := endN_le BL k hk (fun i hi => h60 i hi (by omega))
    have hzs : (bs (allL (BL.take k))).size = endN BL k := by rw [bs_size]; rfl
    clear hown hb h60
    by_cases hlt : k < BL.length
    · obtain ⟨b1, o1, rfl, hb1, hx1⟩ := hrw.at_ (k := k) (by rw [strs_len]; exact hlt)
      have g1 : wr.cell? ⟨b1, o1 + k, none⟩ = some (.string (bs BL[k])) := by
        have := hx1 k (by rw [strs_len]; exact hlt)
        rw [this]; simp [strs]
      --DEV[
      have dk : decide (k < BL.length) = true := decide_eq_true hlt
      have hzb : (bs BL[k]).size = BL[k].length := bs_size _
      clear hx1 hrw
      by_cases h60k : 60 < BL[k].length
      · have d60 : decide ((60 : Int) < BL[k].length) = true := decide_eq_true (by omega)
        have d60' : decide ((60 : Int) < (bs BL[k]).size) = true := decide_eq_true (by omega)
        generalize bs BL[k] = T at *
        generalize bs (allL (BL.take k)) = TT at *
        go_wp2_with fail
        refine (awake_any _).mono ?_; rintro e w2 ⟨rfl, b2⟩
        have HB2 := Lib.hid (HW.out.trans (b2.mono HW.out.size))
        clear b2
        go_wp2_with fail
        go_ret
        exact ⟨rfl, HB2.out⟩
      · have d60 : decide ((60 : Int) < (bs BL[k]).size) = false := decide_eq_false (by omega)
        have S1 := fun w => fseal_any (bs BL[k]) w (by omega)
        have e1 : sealE (bs BL[k]) = 0 := by unfold sealE; rw [if_neg (by omega)]
        have e2 : sealT (bs BL[k]) = bs (sealL BL[k]) := by unfold sealT; rw [if_neg (by omega), bs_list]
        rw [e1, e2] at S1
        have Z1 := fun w => size_any (BL[k].length : Nat) w
        have e3 : sizeV (BL[k].length : Nat) = (BL[k].length : Int) + 7 := by
          unfold sizeV; rw [if_pos (by omega)]
        rw [e3] at Z1
        have hz8 : (bs (sealL BL[k])).size = BL[k].length + 7 := by rw [bs_size, sealL_length]
        have hap : bs (allL (BL.take k)) ++ bs (sealL BL[k]) = bs (allL (BL.take (k + 1))) := by rw [bs_append, all_take BL k hlt]
        have hen := endN_succ BL k hlt
        have hzn : (bs (allL (BL.take (k + 1)))).size = endN BL (k + 1) := by rw [bs_size]; rfl
        have hl60 : ∀ i (hi : i < k + 1) (hl : i < BL.length), (BL[i]).length ≤ 60 := by
          intro i hi hl
          by_cases hik : i = k
          · subst hik; omega
          · exact H60.out i (by omega) hl
        have HL60 := Lib.hid hl60
        have HE := Lib.hid (endsV_succ BL k)
        have S1 := Lib.hid S1
        have Z1 := Lib.hid Z1
        have HAP := Lib.hid hap
        clear e1 e2 e3 hap hl60
        generalize hm : BL[k].length = m at *
        have HMM := Lib.hid hm
        clear hm
        generalize bs (sealL BL[k]) = SK at *
        generalize bs BL[k] = T at *
        generalize bs (allL (BL.take k)) = TT at *
        generalize hT1 : bs (allL (BL.take (k + 1))) = T1 at *
        have HT1 := Lib.hid hT1
        clear hT1
        go_wp2_with fail
        refine (S1.out _).mono ?_; rintro e w3 ⟨rfl, b3⟩
        have g3 : w3.cell? ⟨b1, o1 + k, none⟩ = some (.string T) := by
          have := HW.out.size
          rw [(bcell b3).1 b1 _ (by omega)]; exact g1
        have HW3 := Lib.hid (HW.out.trans (b3.mono HW.out.size))
        have HO3 := Lib.hid (owns_below HO.out b3)
        have hwz3 : w.heap.size + 1 ≤ w3.heap.size := by have := b3.size; omega
        clear b3
        go_wp2_with fail
        refine (Z1.out _).mono ?_; rintro e w4 ⟨rfl, rfl⟩
        go_wp2_with (at_builtin; refine wpList_append_own _ rfl _ _ 35 rfl (w.heap.size + 1) 3 i0 (.int .i64 0) 1 8 Try.underlying35 hi hz0 hz1 hz2 rfl (by decide) _ _ _ rfl (HO3.out.alloc _) ⟨w3.heap.size, 0, none⟩ 1 1 [.int .i64 ((endN BL k : Int) + ((m : Int) + 7))] rfl rfl (cell_one_new _ _ _) ?c2 ?c3 ?c4 ?c5 ?_)
        case c2 => intro u hu; simp at hu; subst hu; rfl
        case c3 => unfold maxLen; omega
        case c4 => omega
        case c5 => simp; omega
        intro v' w4 hown4 hgrow _
        have hb4 := grown_below (HW3.out.alloc (HW3.out.size) _) hgrow (fun g hg => by have := owns_row HO3.out hg; omega) (by simp; omega)
        have hz4 : w.heap.size + 1 ≤ w4.heap.size := by have := hgrow.size; simp at this; omega
        rw [show (endN BL k : Int) + ((m : Int) + 7) = ((endN BL (k + 1) : Nat) : Int) by rw [hen]; omega, ← HE.out] at hown4
        have HB4 := Lib.hid hb4
        have HO4 := Lib.hid hown4
        clear hb4 hown4 hgrow
        go_wp2_with fail
        rw [HAP.out]
        go_roundw
        case rel => exact ⟨k + 1, by go_num, by rw [HT1.out], by omega, HL60.out, HO4.out, HB4.out, hz4⟩
        case measure => simp [intOf]; omega
      --DEV]
    · obtain rfl : k = BL.length := by omega
      have dk : decide (BL.length < BL.length) = false := decide_eq_false hlt
      have e1 : BL.take BL.length = BL := List.take_length
      rw [e1] at hzs
      rw [e1]
      clear e1
      have hL : (allL BL).length = endN BL BL.length := (endN_all BL).symm
      have h60' : ∀ b ∈ BL, b.length ≤ 200 := by
        intro b hb
        obtain ⟨i, hi, rfl⟩ := List.getElem_of_mem hb
        have := H60.out i hi hi
        omega
      have H200 := Lib.hid h60'
      clear h60' hrw
      -- where it is cut off
      --WHERE
      obtain ⟨zc, hzc, hzc2⟩ := and_mask x 65535 (by omega)
      have hC : (bits .and .i64 x 65535).tmod ((endN BL BL.length : Int) + 1) = ((zc % (endN BL BL.length + 1) : Nat) : Int) := by
        have e : bits .and .i64 x 65535 = (zc : Int) := hzc
        rw [e, Int.tmod_eq_emod_of_nonneg (by omega), show (endN BL BL.length : Int) + 1 = ((endN BL BL.length + 1 : Nat) : Int) by omega]; rfl
      have hC2 : zc % (endN BL BL.length + 1) ≤ endN BL BL.length := by have := Nat.mod_lt zc (show 0 < endN BL BL.length + 1 by omega); omega
      clear hzc hzc2
      generalize zc % (endN BL BL.length + 1) = C at *
      have hsl := fun w => run_slice_string_h (P := Try.prog) w 9 (bs (allL BL)) (by kernel_rfl) .i64 (C : Int) (by omega) (by omega)
      rw [Int.toNat_natCast] at hsl
      have hx : ((bs (allL BL)).extract 0 C).data.toList = (allL BL).take C := by rw [extract_list, bs_list]; rfl
      have hxz : ((bs (allL BL)).extract 0 C).size ≤ 100000 := by rw [← data_len, hx, List.length_take]; omega
      have A1 := fun w => fall_any ((bs (allL BL)).extract 0 C) w hxz
      rw [hx] at A1
      unfold AllR at A1
      have A1 := Lib.hid A1
      have HL := Lib.hid hL
      clear hx hxz hL
      generalize (bs (allL BL)).extract 0 C = TC at *
      go_wp2_with fail
      refine (A1.out _).mono ?_; rintro e w5 ⟨v15, rfl, hr15, b5⟩
      have hr10 := Rd.own (owns_below HO.out b5)
      obtain ⟨A10, c10, rfl, hc10, _⟩ := hr10.form
      obtain ⟨A15, c15, rfl, hc15, _⟩ := hr15.form
      rw [endsV_len] at hr10 hc10
      rw [endsV_len]
      have HR10 := Lib.hid hr10
      have HR15 := Lib.hid hr15
      have HW5 := Lib.hid (HW.out.trans (b5.mono HW.out.size))
      have H10 := Lib.hid fun j (hj : j < BL.length) => hr10.at_ (k := j) (by rw [endsV_len]; exact hj)
      clear hr10 hr15 b5 hc15
      go_upto_block 2 with (fail)
      go_cut [17] from 87 to 100 (fun i wx => ∃ j : Nat, i = .int .i64 j ∧ j ≤ BL.length ∧ endN BL j ≤ C ∧ (j = BL.length ∨ C < endN BL (j + 1)) ∧ w5 = wx)
      case first =>
        --DEV[
        go_wp2_with fail
        go_loop [17] (fun i => ∃ j : Nat, j ≤ BL.length ∧ endN BL j ≤ C ∧ i = .int .i64 j) (fun i => BL.length - (intOf i).toNat)
        case atStart => exact ⟨0, by omega, by rw [endN_zero]; omega, rfl⟩
        case round =>
          obtain ⟨j, hj, hjC, rfl⟩ := hrel
          by_cases hjl : j < BL.length
          · obtain ⟨b9, o9, rfl, hb9, hx9⟩ := H10.out j hjl
            have g9 : w5.cell? ⟨b9, o9 + j, none⟩ = some (.int .i64 (endN BL (j + 1) : Nat)) := by
              have := hx9 j (by rw [endsV_len]; exact hjl)
              rw [this, endsV_get]
            have dj : decide (j < BL.length) = true := decide_eq_true hjl
            by_cases hjC2 : endN BL (j + 1) ≤ C
            · have dj2 : decide ((endN BL (j + 1) : Int) ≤ (C : Int)) = true := decide_eq_true (by omega)
              have dj3 : decide (endN BL (j + 1) ≤ C) = true := decide_eq_true hjC2
              clear hx9
              go_wp2_with fail
              go_round
              case rel => exact ⟨j + 1, by omega, hjC2, by go_num⟩
              case measure => simp [intOf]; omega
            · have dj2 : decide ((endN BL (j + 1) : Int) ≤ (C : Int)) = false := decide_eq_false (by omega)
              have dj3 : decide (endN BL (j + 1) ≤ C) = false := decide_eq_false hjC2
              clear hx9
              go_wp2_with fail
              go_meet
              exact ⟨j, rfl, hj, hjC, Or.inr (by omega), rfl⟩
          · have dj : decide (j < BL.length) = false := decide_eq_false hjl
            go_wp2_with fail
            go_meet
            exact ⟨j, rfl, hj, hjC, Or.inl (by omega), rfl⟩
        --DEV]
      case rest =>
        obtain ⟨j, rfl, hj, hjC, hjn, rfl⟩ := hcut
        have ht := torn BL C j H200.out hj hjC hjn
        rw [ht.1] at HR15
        rw [ht.1, ht.2]
        clear ht hjn A1
        have hsl2 := fun w => slice_to a0 BL.length cap0 j (by omega) w
        have HRJ := Lib.hid (by have := Rd.take j (HR.out.below HW5.out) (by rw [strs_len]; exact hj); rw [strs_take] at this; exact this.more HW5.out.size)
        have hjl : (BL.take j).length = j := by rw [List.length_take]; omega
        have hst := strs_maps (BL.take j)
        have SM := Lib.hid (same_true _ _ ((BL.take j).map bs) w5.heap.size w5 (by simp; omega) (by rw [← hst]; exact HR15.out) (by rw [← hst]; exact HRJ.out))
        clear hst
        have hjs : (strs (BL.take j)).length = j := by rw [strs_len, hjl]
        rw [hjs] at SM HR15
        rw [hjs]
        clear hjs hjl
        go_upto_region 21 with (fail)
        go_cut [127] from 101 to 127 (fun t wx => t = .bool false ∧ ∃ n, wx = w5.drewN n)
        case first =>
          --DEV[
          by_cases hj0 : j = 0
          · subst hj0
            rw [endN_zero]
            go_wp2_with fail
            refine SM.out.mono ?_; rintro e w6 ⟨rfl, n6, rfl⟩
            go_wp2_with fail
            go_meet
            exact ⟨rfl, n6, rfl⟩
          · obtain ⟨b9, o9, rfl, hb9, hx9⟩ := H10.out (j - 1) (by omega)
            have g9 : w5.cell? ⟨b9, o9 + (j - 1), none⟩ = some (.int .i64 (endN BL j : Nat)) := by
              have := hx9 (j - 1) (by rw [endsV_len]; omega)
              rw [this, endsV_get, show j - 1 + 1 = j by omega]
            have dj : decide ((0 : Int) < (j : Int)) = true := decide_eq_true (by omega)
            have dj2 : ((j : Int) == 0) = false := beq_false_of_ne (by omega)
            have dj4 : decide (0 < j) = true := decide_eq_true (by omega)
            have ij : ((j : Int) - 1).toNat = j - 1 := by omega
            have ij1 : (0 : Int) ≤ (j : Int) - 1 := by omega
            have ij2 : 1 ≤ j := by omega
            have ij3 : (j : Int) - 1 < (BL.length : Int) := by omega
            clear hx9
            go_wp2_with fail
            refine SM.out.mono ?_; rintro e w6 ⟨rfl, n6, rfl⟩
            go_wp2_with fail
            go_meet
            exact ⟨rfl, n6, rfl⟩
          --DEV]
        case rest =>
          obtain ⟨rfl, n6, rfl⟩ := hcut
          have HW6 := Lib.hid (below_drewN HW5.out n6)
          have HRB := Lib.hid (HR.out.below HW6.out)
          have HR16 := Lib.hid ((HR10.out.drewN n6).more (B' := (w5.drewN n6).heap.size) (Nat.le_refl _))
          have hwz6 : w.heap.size ≤ (w5.drewN n6).heap.size := HW6.out.size
          clear SM HR15 HRJ H10 HR10 hsl2 hsl HW5
          generalize w5.drewN n6 = w6 at *
          have HLN := HL.out
          by_cases hs0 : endN BL BL.length = 0
          · have d0 : ((endN BL BL.length : Int) == 0) = true := by rw [hs0]; rfl
            have HE0 := Lib.hid hs0
            clear HLN hs0
            go_wp2_with fail
            refine (awake_any _).mono ?_; rintro e w7 ⟨rfl, b7⟩
            have HB7 := Lib.hid (HW6.out.trans (b7.mono HW6.out.size))
            clear b7
            go_wp2_with fail
            go_ret
            exact ⟨rfl, HB7.out⟩
          have d0 : ((endN BL BL.length : Int) == 0) = false := beq_false_of_ne (by omega)
          by_cases hb0 : a2 = 0
          · subst hb0
            clear HLN
            go_wp2_with fail
            refine (awake_any _).mono ?_; rintro e w7 ⟨rfl, b7⟩
            have HB7 := Lib.hid (HW6.out.trans (b7.mono HW6.out.size))
            clear b7
            go_wp2_with fail
            go_ret
            exact ⟨rfl, HB7.out⟩
          have d2 : ((a2 : Int) == 0) = false := beq_false_of_ne (by omega)
          -- which byte is turned
          obtain ⟨zk, hzk, hzk2⟩ := and_mask y 65535 (by omega)
          have hK : (bits .and .i64 y 65535).tmod (endN BL BL.length : Int) = ((zk % endN BL BL.length : Nat) : Int) := by
            have e : bits .and .i64 y 65535 = (zk : Int) := hzk
            rw [e, Int.tmod_eq_emod_of_nonneg (by omega)]; rfl
          have hK2 : zk % endN BL BL.length < endN BL BL.length := Nat.mod_lt zk (by omega)
          clear hzk hzk2
          generalize zk % endN BL BL.length = K at *
          obtain ⟨ub, rfl, hub⟩ : ∃ u : Nat, a2 = (u : Int) ∧ u < 256 := by
            have := bounds_u8 w2
            exact ⟨a2.toNat, by omega, by omega⟩
          obtain ⟨cap7, w7, hcv, hcap7, hbb, hb7⟩ := conv_bytes w6 (bs (allL BL))
          rw [bs_list] at hbb
          have hKl : K < (allL BL).length := by omega
          have c7 := hbb.cell K hKl
          have f7 := hbb.free K hKl
          have hxb : bits .xor .u8 (((allL BL)[K]).toNat : Int) (ub : Int) = (((allL BL)[K] ^^^ UInt8.ofNat ub).toNat : Nat) := by
            rw [u8_xor_nat _ _ ((allL BL)[K]).toNat_lt (by omega), UInt8.toNat_xor, byte_of, Nat.mod_eq_of_lt hub]
          have hy : (allL BL)[K] ≠ (allL BL)[K] ^^^ UInt8.ofNat ub := by
            intro e
            have e2 := congrArg UInt8.toNat e
            rw [UInt8.toNat_xor, byte_of, Nat.mod_eq_of_lt hub] at e2
            have : (allL BL)[K].toNat ^^^ ub = (allL BL)[K].toNat ^^^ 0 := by rw [Nat.xor_zero]; exact e2.symm
            have := xor_inj this
            omega
          have HSP := Lib.hid fun j h1 h2 h3 h4 h5 => spoilt BL K j H200.out h1 h2 h3 h4 h5 hKl _ hy
          have hset := hbb.set K hKl ((allL BL)[K] ^^^ UInt8.ofNat ub)
          have hb8 := hb7.setCell (p := ⟨w6.heap.size, K, none⟩) (Nat.le_refl _) (.int .u8 (((allL BL)[K] ^^^ UInt8.ofNat ub).toNat : Nat))
          have hcb := fun (w8 : World) (h : BB w8 w6.heap.size ((allL BL).set K ((allL BL)[K] ^^^ UInt8.ofNat ub))) => conv_back w8 w6.heap.size cap7 _ h
          rw [List.length_set] at hcb
          have A2 := fun w => fall_any (bs ((allL BL).set K ((allL BL)[K] ^^^ UInt8.ofNat ub))) w (by rw [bs_size, List.length_set]; omega)
          rw [bs_list] at A2
          unfold AllR at A2
          have A2 := Lib.hid A2
          have HS := Lib.hid hset
          have HB8 := Lib.hid (HW6.out.trans (hb8.mono HW6.out.size))
          have HBB8 := Lib.hid hb8
          have iK : (K : Int) < ((endN BL BL.length : Nat) : Int) := by omega
          clear hset hb7 hbb hy hb8
          generalize hzz : (allL BL)[K] ^^^ UInt8.ofNat ub = z at *
          generalize (allL BL)[K] = q at *
          clear hzz
          generalize hLL : (allL BL).set K z = L2 at *
          clear hLL
          rw [HLN] at hcb
          have hcb8 := hcb _ HS.out
          have hw8 : w6.heap.size ≤ (w7.setCell ⟨w6.heap.size, K, none⟩ (.int .u8 (z.toNat : Nat))).heap.size := HBB8.out.size
          have HR17 := Lib.hid ((HR16.out.below HBB8.out).more hw8)
          clear hcb hw8
          go_wp2_with fail
          refine (A2.out _).mono ?_; rintro e w9 ⟨v20, rfl, hr20, b9⟩
          obtain ⟨A20, c20, rfl, _, _⟩ := hr20.form
          have hr18 := HR17.out.below b9
          have HW9 := Lib.hid (HB8.out.trans (b9.mono HB8.out.size))
          have HR20 := Lib.hid hr20
          have HRB9 := Lib.hid (HR.out.below HW9.out)
          have H10 := Lib.hid fun j (hj : j < BL.length) => hr18.at_ (k := j) (by rw [endsV_len]; exact hj)
          clear hr20 b9 hr18 hcb8 hcv c7 f7
          go_upto_block 4 with (fail)
          go_cut [22] from 158 to 171 (fun i wx => ∃ j : Nat, i = .int .i64 j ∧ j ≤ BL.length ∧ endN BL j ≤ K ∧ (j = BL.length ∨ K < endN BL (j + 1)) ∧ w9 = wx)
          case first =>
            --DEV[
            go_wp2_with fail
            go_loop [22] (fun i => ∃ j : Nat, j ≤ BL.length ∧ endN BL j ≤ K ∧ i = .int .i64 j) (fun i => BL.length - (intOf i).toNat)
            case atStart => exact ⟨0, by omega, by rw [endN_zero]; omega, rfl⟩
            case round =>
              obtain ⟨j, hj, hjC, rfl⟩ := hrel
              by_cases hjl : j < BL.length
              · obtain ⟨b9, o9, rfl, hb9, hx9⟩ := H10.out j hjl
                have g9 : w9.cell? ⟨b9, o9 + j, none⟩ = some (.int .i64 (endN BL (j + 1) : Nat)) := by
                  have := hx9 j (by rw [endsV_len]; exact hjl)
                  rw [this, endsV_get]
                have dj : decide (j < BL.length) = true := decide_eq_true hjl
                by_cases hjC2 : endN BL (j + 1) ≤ K
                · have dj2 : decide ((endN BL (j + 1) : Int) ≤ (K : Int)) = true := decide_eq_true (by omega)
                  have dj3 : decide (endN BL (j + 1) ≤ K) = true := decide_eq_true hjC2
                  clear hx9
                  go_wp2_with fail
                  go_round
                  case rel => exact ⟨j + 1, by omega, hjC2, by go_num⟩
                  case measure => simp [intOf]; omega
                · have dj2 : decide ((endN BL (j + 1) : Int) ≤ (K : Int)) = false := decide_eq_false (by omega)
                  have dj3 : decide (endN BL (j + 1) ≤ K) = false := decide_eq_false hjC2
                  clear hx9
                  go_wp2_with fail
                  go_meet
                  exact ⟨j, rfl, hj, hjC, Or.inr (by omega), rfl⟩
              · have dj : decide (j < BL.length) = false := decide_eq_false hjl
                go_wp2_with fail
                go_meet
                exact ⟨j, rfl, hj, hjC, Or.inl (by omega), rfl⟩
            --DEV]
          case rest =>
            obtain ⟨j2, rfl, hj2, hjK, hjn, rfl⟩ := hcut
            have hjlt : j2 < BL.length := by
              rcases Nat.lt_or_ge j2 BL.length with h | h
              · exact h
              · obtain rfl : j2 = BL.length := by omega
                omega
            have hjn2 : K < endN BL (j2 + 1) := by
              rcases hjn with h | h
              · omega
              · exact h
            have hbod := HSP.out j2 hjlt hjK hjn2
            clear hjn
            go_upto_if 173 with (fail)
            go_cut [23] from 174 to 178 (fun t wx => t = .int .i64 (endN BL j2 : Nat) ∧ w9 = wx)
            case first =>
              by_cases hj0 : j2 = 0
              · subst hj0
                go_wp2_with fail
                go_meet
                exact ⟨by rw [endN_zero]; rfl, rfl⟩
              · obtain ⟨b9, o9, rfl, hb9, hx9⟩ := H10.out (j2 - 1) (by omega)
                have g9 : w9.cell? ⟨b9, o9 + (j2 - 1), none⟩ = some (.int .i64 (endN BL j2 : Nat)) := by
                  have := hx9 (j2 - 1) (by rw [endsV_len]; omega)
                  rw [this, endsV_get, show j2 - 1 + 1 = j2 by omega]
                have dj : decide ((0 : Int) < (j2 : Int)) = true := decide_eq_true (by omega)
                have dj4 : decide (0 < j2) = true := decide_eq_true (by omega)
                have ij : ((j2 : Int) - 1).toNat = j2 - 1 := by omega
                have ij1 : (0 : Int) ≤ (j2 : Int) - 1 := by omega
                have ij2 : 1 ≤ j2 := by omega
                have ij3 : (j2 : Int) - 1 < (BL.length : Int) := by omega
                clear hx9
                go_wp2_with fail
                go_meet
                exact ⟨rfl, rfl⟩
            case rest =>
              obtain ⟨rfl, rfl⟩ := hcut
              have hKj : 0 ≤ (K : Int) - (endN BL j2 : Int) := by omega
              by_cases k1 : K - endN BL j2 = 1
              · have e1 : (((K : Int) - (endN BL j2 : Int)) == 1) = true := by rw [show (K : Int) - (endN BL j2 : Int) = 1 by omega]; rfl
                clear hbod
                go_wp2_with fail
                refine (awake_any _).mono ?_; rintro e w10 ⟨rfl, b10⟩
                have HB10 := Lib.hid (HW9.out.trans (b10.mono HW9.out.size))
                clear b10
                go_wp2_with fail
                go_ret
                exact ⟨rfl, HB10.out⟩
              have e1 : (((K : Int) - (endN BL j2 : Int)) == 1) = false := beq_false_of_ne (by omega)
              by_cases k2 : K - endN BL j2 = 2
              · have e2 : (((K : Int) - (endN BL j2 : Int)) == 2) = true := by rw [show (K : Int) - (endN BL j2 : Int) = 2 by omega]; rfl
                clear hbod
                go_wp2_with fail
                refine (awake_any _).mono ?_; rintro e w10 ⟨rfl, b10⟩
                have HB10 := Lib.hid (HW9.out.trans (b10.mono HW9.out.size))
                clear b10
                go_wp2_with fail
                go_ret
                exact ⟨rfl, HB10.out⟩
              have e2 : (((K : Int) - (endN BL j2 : Int)) == 2) = false := beq_false_of_ne (by omega)
              have hbd := hbod k1 k2
              rw [hbd] at HR20
              rw [hbd]
              have hsl2 := fun w => slice_to a0 BL.length cap0 j2 (by omega) w
              have HRJ := Lib.hid (by have := Rd.take j2 HRB9.out (by rw [strs_len]; exact hj2); rw [strs_take] at this; exact this.more HW9.out.size)
              have hjl : (BL.take j2).length = j2 := by rw [List.length_take]; omega
              have hst := strs_maps (BL.take j2)
              have SM := Lib.hid (same_true _ _ ((BL.take j2).map bs) w9.heap.size w9 (by simp; omega) (by rw [← hst]; exact HR20.out) (by rw [← hst]; exact HRJ.out))
              have hjs : (strs (BL.take j2)).length = j2 := by rw [strs_len, hjl]
              rw [hjs] at SM HR20
              rw [hjs]
              clear hst hjs hjl hbod hbd
              go_wp2_with fail
              refine SM.out.mono ?_; rintro e w10 ⟨rfl, n10, rfl⟩
              go_wp2_with fail
              refine (awake_any _).mono ?_; rintro e w11 ⟨rfl, b11⟩
              have HB11 := Lib.hid ((below_drewN HW9.out n10).trans (b11.mono HW9.out.size))
              clear b11
              go_wp2_with fail
              go_ret
              exact ⟨rfl, HB11.out⟩

set_option maxRecDepth 100000 in
theorem lifted (os : Os) (started : os.Started) (H : Type) (enc : TypeId × Value → H) :
    ReturnsInHanded {} Try.checked os 4 .any (Rows.frameTornSpec.pre6 enc Try.prog Try.f4 Rows.frameTornRow.domain false) (Rows.frameTornSpec.post enc Try.prog Try.f4 false true false false) := by
  refine returnsInHanded_of_change (C := Try.checked) own started (by kernel_rfl) Try.func4
    (ChangeSpec.witness6 (enc := enc) (C := Try.checked) false ⟨#[], #[.slice none 0 0, .agg #[.int .i64 0, .int .i64 0], .int .u8 0], []⟩ 8 (by kernel_rfl) (by kernel_rfl) (by kernel_rfl) (by kernel_rfl)) ?_
  intro W base args ds gs before hval0 hW hcnd _
  have hval : ∀ (j : Nat) t v, Try.f4.params[j]? = some t → args[j]? = some v → Value.okWide Try.prog W .any base t v := hval0
  have hW' := hW
  obtain ⟨p, q, hA0, hV, rfl, hfz, hnd⟩ := hW
  have hA : DataW.TrodAll enc Try.prog W 0 (fun _ => true) true Try.f4.params.toList args.toList ds p := hA0
  rw [Try.params4] at hA hval
  obtain ⟨v0, vs0, d0, ds0, p0, q0, hargs, rfl, rfl, h0, r0⟩ := trodAll_cons hA
  obtain ⟨v1, vs1, d1, ds1, p1, q1, rfl, rfl, rfl, h1, r1⟩ := trodAll_cons r0
  obtain ⟨v2, vs2, d2, ds2, p2, q2, rfl, rfl, rfl, h2, r2⟩ := trodAll_cons r1
  obtain ⟨rfl, rfl, rfl⟩ := trodAll_nil r2
  obtain rfl : args = #[v0, v1, v2] := by cases args; simp_all
  obtain ⟨rfl, rfl⟩ := trodVars_none hV
  obtain ⟨a0, len0, cap0, rfl⟩ := okWide_slice Try.underlying28 (hval 0 28 v0 rfl rfl)
  have k0 := h0
  have lt0 : ∀ x ∈ p0, x.block < W.heap.size := by obtain ⟨m, hm⟩ := k0; exact DataW.trod_lt m _ _ _ hm
  have w0 : Has W (.slice .str) [.slice a0 len0 cap0] := by obtain ⟨m, hm⟩ := h0; exact op28 _ _ _ _ _ _ _ _ _ hm
  obtain ⟨c1, rfl, _⟩ := okWide_array Try.underlying34 (hval 1 34 v1 rfl rfl)
  have k1 := h1
  have lt1 : ∀ x ∈ p1, x.block < W.heap.size := by obtain ⟨m, hm⟩ := k1; exact DataW.trod_lt m _ _ _ hm
  have w1 : Has W (Sh.rep (.int .i64) 2) c1.toList := by obtain ⟨m, hm⟩ := h1; exact op34 _ _ _ _ _ _ _ _ _ hm
  obtain ⟨a2, rfl, rfl, rfl, w2⟩ := open_int Try.underlying5 (hval 2 5 v2 rfl rfl) h2
  clear hA0 hval0
  refine (walk a0 len0 cap0 c1 a2 W w0 w1 w2).mono fun e W' ⟨he, bel⟩ => ?_
  subst he
  exact ⟨_, rfl, _, _, _, [], _, [], hW', trodAll_mk1 (shut_bool Try.underlying4 _), (trodAll_cons_mk (Below.trod laidOut (by kernel_rfl) (of_decide_eq_true (by kernel_rfl)) k0 bel lt0) (trodAll_cons_mk (Below.trod laidOut (by kernel_rfl) (of_decide_eq_true (by kernel_rfl)) k1 bel lt1) (trodAll_cons_mk (shut_int Try.underlying5 w2) trodAll_mk0))), rfl, bel.frame _, fun h => by cases h⟩

theorem over : Rows.frameTornRow.holds Try.pinned (OpenSpec.ofChange Rows.frameTornSpec) :=
  OpenClaim.holds_of_wide 4 Try.f4 rfl rfl rfl rfl rfl rfl rfl ⟨rfl, rfl, rfl, rfl, rfl⟩ rfl rfl rfl rfl rfl (by kernel_rfl) Try.func4 (by kernel_rfl)
    (of_decide_eq_true (by kernel_rfl)) (by unfold Func.isWrapper; first | (rw [if_pos (by decide +kernel)]; kernel_rfl) | (rw [if_neg (by decide +kernel)]; exact ⟨rfl, rfl⟩))
    (fun os started H enc _ => lifted os started H enc)

/-- ████ THE STATEMENT ████ -/
theorem proved : Rows.FrameTornSaid := over
end Go.Proofs.Ytkipgipfplejoaa.frameTorn
