/- The law WordsJoins of the repository answers true for every input. No conditions. -/
import Derived.Test.YtfbglehoopkfkaaWrdAwake
import Derived.Test.YtfbglehoopkfkaaRows
import Derived.WalkKit
import Derived.ProofKit
import Derived.OpenShut
import Derived.Below
import Derived.ShutString
import Derived.Carry
import Derived.Test.YtfbglehoopkfkaaArgs
namespace Go.Proofs.Ytfbglehoopkfkaa.wordsJoins
open Go.ChangeShapes Go.WideShapes Go.ChangeAt Go.RowKit
open Go.ChangeMaps (open_string shut_string)
set_option linter.unusedVariables false
set_option linter.unusedSimpArgs false

theorem own : ownKnob Try.prog.godebug = none := by kernel_rfl
theorem laidOut : laidOutB Try.prog = true := by kernel_rfl
theorem op9 : Opens Try.prog 9 .str := opens_str Try.underlying9
theorem op26 : Opens Try.prog 26 (.slice .str) := opens_slice Try.underlying26 (by kernel_rfl) (by decide) op9

theorem allLen_le (l : List (List UInt8)) (m : Nat) (h : ∀ j (hj : j < l.length), l[j].length ≤ m) : allLen l ≤ m * l.length := by
  induction l with
  | nil => simp [allLen]
  | cons a l ih =>
    have h0 : a.length ≤ m := h 0 (by simp)
    have h1 := ih (fun j hj => h (j + 1) (by simpa using hj))
    have e : allLen (a :: l) = a.length + allLen l := by simp [allLen]
    rw [e, List.length_cons, Nat.mul_add]; omega

set_option maxRecDepth 100000 in
set_option maxHeartbeats 4000000 in
theorem walk (a0 : Option Addr) (len0 cap0 : Nat) (a1 : ByteArray) (w : World) (w0 : Has w (.slice .str) [.slice a0 len0 cap0]) (w1 : a1.size ≤ maxLen) :
    Calls Try.prog 4 #[.slice a0 len0 cap0, .string a1] w fun e w' => e = .returned (.bool true) ∧ Below w.heap.size w w' := by
  unfold maxLen at w1
  obtain ⟨BL, hBL, hrd, hmx⟩ := rd_came w0
  subst hBL
  clear w0
  by_cases hg1 : 30 < BL.length
  · have d1 : decide ((30 : Int) < BL.length) = true := decide_eq_true (by omega)
    clear hrd hmx
    go_enter Try.func4, Try.ntmps4
    go_wp2_with (go_at_call 6; refine (words_awake _).mono ?_; rintro e w' ⟨rfl, hb⟩)
    go_ret
    exact ⟨rfl, by assumption⟩
  have d1 : decide ((30 : Int) < BL.length) = false := decide_eq_false (by omega)
  by_cases hg2 : 100 < a1.size
  · have d2 : decide ((100 : Int) < a1.size) = true := decide_eq_true (by omega)
    clear hrd hmx
    go_enter Try.func4, Try.ntmps4
    go_wp2_with (go_at_call 6; refine (words_awake _).mono ?_; rintro e w' ⟨rfl, hb⟩)
    go_ret
    exact ⟨rfl, by assumption⟩
  have d2 : decide ((100 : Int) < a1.size) = false := decide_eq_false (by omega)
  have H1 := Lib.hid fun k (hk : k < BL.length) => hrd.at_ (k := k) (by rw [strs_len]; exact hk)
  have HR := Lib.hid hrd
  have HMX := Lib.hid hmx
  clear hrd hmx
  go_enter Try.func4, Try.ntmps4
  go_wp2_with fail
  go_loop [5] (fun i => ∃ k : Nat, k ≤ BL.length ∧ i = .int .i64 k ∧ ∀ j (hj : j < BL.length), j < k → BL[j].length ≤ 100) (fun i => BL.length - (intOf i).toNat)
  case atStart => exact ⟨0, Nat.zero_le _, rfl, fun j _ h => absurd h (by omega)⟩
  case round =>
    obtain ⟨k, hk, rfl, hall⟩ := hrel
    have HA := Lib.hid hall
    clear hall
    by_cases hlt : k < BL.length
    · obtain ⟨b, o, rfl, hb, hx⟩ := H1.out k hlt
      have g : w.cell? ⟨b, o + k, none⟩ = some (.string (bs BL[k])) := by
        rw [hx k (by rw [strs_len]; exact hlt), strs_get]
      have dk : decide (k < BL.length) = true := decide_eq_true hlt
      clear hx H1
      by_cases hc : 100 < BL[k].length
      · have dc : decide ((100 : Int) < ((bs BL[k]).size : Int)) = true := decide_eq_true (by rw [bs_size]; omega)
        have hz : (bs BL[k]).size ≤ maxLen := by rw [bs_size]; exact HMX.out _ (List.getElem_mem hlt)
        unfold maxLen at hz
        clear hc
        generalize bs BL[k] = T at *
        go_wp2_with (go_at_call 6; refine (words_awake _).mono ?_; rintro e w' ⟨rfl, hb⟩)
        go_ret
        exact ⟨rfl, by assumption⟩
      · have dc : decide ((100 : Int) < ((bs BL[k]).size : Int)) = false := decide_eq_false (by rw [bs_size]; omega)
        have hz : (bs BL[k]).size ≤ 100 := by rw [bs_size]; omega
        have HN := Lib.hid (show ∀ j (hj : j < BL.length), j < k + 1 → BL[j].length ≤ 100 from fun j hj h => by
          rcases Nat.lt_or_ge j k with h2 | h2
          · exact HA.out j hj h2
          · obtain rfl : j = k := by omega
            omega)
        clear hc
        generalize bs BL[k] = T at *
        go_wp2_with fail
        go_round
        case rel => exact ⟨k + 1, by omega, by go_num, HN.out⟩
        case measure => simp [intOf]; omega
    · obtain rfl : k = BL.length := by omega
      have dk : decide (BL.length < BL.length) = false := decide_eq_false hlt
      have hal := allLen_le BL 100 (fun j hj => HA.out j hj hj)
      have F1 := Lib.hid (wfind_any (.slice a0 BL.length cap0) a1 BL w (by omega) HR.out)
      have F2 := Lib.hid fun w h => rfind_any (.slice a0 BL.length cap0) a1 BL w.heap.size w (by omega) h
      have J1 := Lib.hid fun w h => wjoin_any (.slice a0 BL.length cap0) BL w (by omega) (by omega) h
      have J2 := Lib.hid fun w h => rjoin_any (.slice a0 BL.length cap0) BL w.heap.size w (by omega) (by omega) h
      have T1 := Lib.hid fun w h => wtext_any (.slice a0 BL.length cap0) BL w (by omega) (by omega) h
      have T2 := Lib.hid fun w h => rtextw_any (.slice a0 BL.length cap0) BL w.heap.size w (by omega) (by omega) h
      clear hal H1
      generalize bs (joinW BL) = J at *
      generalize bs (textW BL) = T at *
      generalize (findA a1.data.toList BL).getD 0 = f1 at *
      generalize (findA a1.data.toList BL).isSome = f2 at *
      have dz : (f2 == f2) = true := by simp
      go_wp2_with fail
      refine F1.out.mono ?_; rintro e x1 ⟨rfl, b1⟩
      have HB1 := Lib.hid b1
      have HR1 := Lib.hid ((HR.out.below b1).more b1.size)
      clear b1
      go_wp2_with fail
      refine (F2.out _ HR1.out).mono ?_; rintro e x2 ⟨rfl, rfl⟩
      go_wp2_with fail
      refine (J1.out _ HR1.out).mono ?_; rintro e x3 ⟨rfl, b3⟩
      have HB3 := Lib.hid (HB1.out.trans (b3.mono HB1.out.size))
      have HR3 := Lib.hid ((HR1.out.below b3).more b3.size)
      clear b3
      go_wp2_with fail
      refine (J2.out _ HR3.out).mono ?_; rintro e x4 ⟨rfl, rfl⟩
      go_wp2_with fail
      refine (T1.out _ HR3.out).mono ?_; rintro e x5 ⟨rfl, b5⟩
      have HB5 := Lib.hid (HB3.out.trans (b5.mono HB3.out.size))
      have HR5 := Lib.hid ((HR3.out.below b5).more b5.size)
      clear b5
      go_wp2_with fail
      refine (T2.out _ HR5.out).mono ?_; rintro e x6 ⟨rfl, rfl⟩
      go_wp2_with fail
      refine (words_awake _).mono ?_; rintro e x7 ⟨rfl, b7⟩
      have HB7 := Lib.hid (HB5.out.trans (b7.mono HB5.out.size))
      clear b7
      go_wp2_with fail
      go_ret
      exact ⟨rfl, HB7.out⟩

set_option maxRecDepth 100000 in
theorem lifted (os : Os) (started : os.Started) (H : Type) (enc : TypeId × Value → H) :
    ReturnsInHanded {} Try.checked os 4 .any (Rows.wordsJoinsSpec.pre6 enc Try.prog Try.f4 Rows.wordsJoinsRow.domain false) (Rows.wordsJoinsSpec.post enc Try.prog Try.f4 false true false false) := by
  refine returnsInHanded_of_change (C := Try.checked) own started (by kernel_rfl) Try.func4
    (ChangeSpec.witness6 (enc := enc) (C := Try.checked) false ⟨#[], #[.slice none 0 0, .string ByteArray.empty], []⟩ 8 (by kernel_rfl) (by kernel_rfl) (by kernel_rfl) (by kernel_rfl)) ?_
  intro W base args ds gs before hval0 hW hcnd _
  have hval : ∀ (j : Nat) t v, Try.f4.params[j]? = some t → args[j]? = some v → Value.okWide Try.prog W .any base t v := hval0
  have hW' := hW
  obtain ⟨p, q, hA0, hV, rfl, hfz, hnd⟩ := hW
  have hA : DataW.TrodAll enc Try.prog W 0 (fun _ => true) true Try.f4.params.toList args.toList ds p := hA0
  rw [Try.params4] at hA hval
  obtain ⟨v0, vs0, d0, ds0, p0, q0, hargs, rfl, rfl, h0, r0⟩ := trodAll_cons hA
  obtain ⟨v1, vs1, d1, ds1, p1, q1, rfl, rfl, rfl, h1, r1⟩ := trodAll_cons r0
  obtain ⟨rfl, rfl, rfl⟩ := trodAll_nil r1
  obtain rfl : args = #[v0, v1] := by cases args; simp_all
  obtain ⟨rfl, rfl⟩ := trodVars_none hV
  obtain ⟨a0, len0, cap0, rfl⟩ := okWide_slice Try.underlying26 (hval 0 26 v0 rfl rfl)
  have k0 := h0
  have lt0 : ∀ x ∈ p0, x.block < W.heap.size := by obtain ⟨m, hm⟩ := k0; exact DataW.trod_lt m _ _ _ hm
  have w0 : Has W (.slice .str) [.slice a0 len0 cap0] := by obtain ⟨m, hm⟩ := h0; exact op26 _ _ _ _ _ _ _ _ _ hm
  obtain ⟨a1, rfl, rfl, rfl, w1⟩ := open_string Try.underlying9 (hval 1 9 v1 rfl rfl) h1
  clear hA0 hval0
  refine (walk a0 len0 cap0 a1 W w0 w1).mono fun e W' ⟨he, bel⟩ => ?_
  subst he
  exact ⟨_, rfl, _, _, _, [], _, [], hW', trodAll_mk1 (shut_bool Try.underlying4 _), (trodAll_cons_mk (Below.trod laidOut (by kernel_rfl) (of_decide_eq_true (by kernel_rfl)) k0 bel lt0) (trodAll_cons_mk (shut_string Try.underlying9 w1) trodAll_mk0)), rfl, bel.frame _, fun h => by cases h⟩

theorem over : Rows.wordsJoinsRow.holds Try.pinned (OpenSpec.ofChange Rows.wordsJoinsSpec) :=
  OpenClaim.holds_of_wide 4 Try.f4 rfl rfl rfl rfl rfl rfl rfl ⟨rfl, rfl, rfl, rfl, rfl⟩ rfl rfl rfl rfl rfl (by kernel_rfl) Try.func4 (by kernel_rfl)
    (of_decide_eq_true (by kernel_rfl)) (by unfold Func.isWrapper; first | (rw [if_pos (by decide +kernel)]; kernel_rfl) | (rw [if_neg (by decide +kernel)]; exact ⟨rfl, rfl⟩))
    (fun os started H enc _ => lifted os started H enc)

/-- ████ THE STATEMENT ████ -/
theorem proved : Rows.WordsJoinsSaid := over
end Go.Proofs.Ytfbglehoopkfkaa.wordsJoins
