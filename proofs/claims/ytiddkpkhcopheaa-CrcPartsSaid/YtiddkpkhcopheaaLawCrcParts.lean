/- The law CrcParts of the repository answers true for every input. No conditions. -/
import Derived.Test.YtiddkpkhcopheaaCrcAwake
import Derived.Test.YtiddkpkhcopheaaArgs
import Derived.Test.YtiddkpkhcopheaaRows
import Derived.WalkKit
import Derived.ProofKit
import Derived.OpenShut
import Derived.Below
import Derived.ShutString
import Derived.Carry
import Derived.Test.YtiddkpkhcopheaaArgs
namespace Go.Proofs.Ytiddkpkhcopheaa.crcParts
open Go.ChangeShapes Go.WideShapes Go.ChangeAt Go.RowKit
open Go.ChangeMaps (open_string shut_string)
set_option linter.unusedVariables false
set_option linter.unusedSimpArgs false

theorem own : ownKnob Try.prog.godebug = none := by kernel_rfl
theorem laidOut : laidOutB Try.prog = true := by kernel_rfl
theorem op9 : Opens Try.prog 9 .str := opens_str Try.underlying9
theorem op49 : Opens Try.prog 49 (.slice .str) := opens_slice Try.underlying49 (by kernel_rfl) (by decide) op9

/-- The first k texts, one behind the other. -/
def catL (Z : Nat → ByteArray) : Nat → List UInt8
  | 0 => []
  | k + 1 => catL Z k ++ (Z k).data.toList
theorem cat_step (Z : Nat → ByteArray) (k : Nat) : bs (catL Z k) ++ Z k = bs (catL Z (k + 1)) := by
  rw [catL, ← bs_append, bs_of]

set_option maxRecDepth 100000 in
set_option maxHeartbeats 4000000 in
theorem walk (a0 : Option Addr) (len0 cap0 : Nat) (w : World) (w0 : Has w (.slice .str) [.slice a0 len0 cap0]) :
    Calls Try.prog 4 #[.slice a0 len0 cap0] w fun e w' => e = .returned (.bool true) ∧ Below w.heap.size w w' := by
  obtain ⟨hlc0, hcm0, hcase0⟩ := has_strs w0
  unfold maxLen at hcm0
  clear w0
  by_cases hg1 : 20 < len0
  · go_enter Try.func4, Try.ntmps4
    go_wp2_with (go_at_call 6; refine (awake_any _).mono ?_; rintro e w' ⟨rfl, hb⟩)
    go_ret
    exact ⟨rfl, by assumption⟩
  have d1 : decide ((20 : Int) < len0) = false := decide_eq_false (by omega)
  obtain ⟨b0, off0, Z, hA0, hE0⟩ : ∃ b off, ∃ Z : Nat → ByteArray, (0 < len0 → a0 = some ⟨b, off, none⟩) ∧ ∀ i, i < len0 → b < w.heap.size ∧ (Z i).size ≤ maxLen ∧ w.cell? ⟨b, off + i, none⟩ = some (.string (Z i)) := by
    rcases hcase0 with h0 | ⟨b, off, Z, h0, hA, hb, hE⟩
    · exact ⟨0, 0, fun _ => ByteArray.empty, fun h => absurd h (by omega), fun i hi => absurd hi (by omega)⟩
    · exact ⟨b, off, Z, fun _ => hA, fun i hi => ⟨hb, (hE i hi).1, (hE i hi).2⟩⟩
  have HA0 := Lib.hid hA0
  have HE0 := Lib.hid hE0
  clear hA0 hE0 hcase0
  have t1 := tab_new w
  have b1 := (Below.refl w.heap.size w).alloc (Nat.le_refl _) (.cells (cellsC 0 0 0 0) 42)
  have hB : w.heap.size ≤ (w.alloc (.cells (cellsC 0 0 0 0) 42)).heap.size := b1.size
  have N := Lib.hid (new_any w)
  generalize w.alloc (.cells (cellsC 0 0 0 0) 42) = w1 at *
  have S1 := Lib.hid (sum_any _ false { data := #[] } w1 (by decide) t1)
  clear t1
  have hm0 : more 0 ({ data := #[] } : ByteArray).data.toList = 0 := more_nil 0
  rw [hm0] at S1
  clear hm0
  go_enter Try.func4, Try.ntmps4
  go_wp2_with fail
  refine N.out.mono ?_
  rintro e w' ⟨rfl, rfl⟩
  go_wp2_with fail
  refine S1.out.mono ?_
  rintro e w2 ⟨rfl, t2, o2⟩
  have b2 := b1.trans (o2.below (Nat.le_refl _) hB)
  generalize hBB : w.heap.size = B at *
  have HB := Lib.hid hBB
  clear hBB o2 b1 N S1 hB
  go_wp2_with fail
  go_loopw [4, 5, 6] (fun s a i wr => ∃ k : Nat, k ≤ len0 ∧ i = .int .i64 k ∧ s = .int .u32 (more 0 (catL Z k) : Nat) ∧ a = .string (bs (catL Z k)) ∧ (catL Z k).length ≤ k * 100 ∧ Tab wr B true ∧ Below B w wr) (fun _ _ i _ => len0 - (intOf i).toNat)
  case atStart => exact ⟨0, by omega, rfl, by rw [catL, more_nil]; rfl, rfl, by simp [catL], t2, b2⟩
  case round =>
    obtain ⟨k, hk, rfl, rfl, rfl, hlen, ht, hb⟩ := hrel
    clear t2 b2
    by_cases hlt : k < len0
    · obtain ⟨hbl, f0, c0⟩ := HE0.out k hlt
      obtain rfl : a0 = some ⟨b0, off0, none⟩ := HA0.out (by omega)
      have c := c0
      rw [← (bcell hb).1 b0 _ hbl] at c
      unfold maxLen at f0
      have HT := Lib.hid ht
      have HST := Lib.hid (cat_step Z k)
      have HL := Lib.hid (show (catL Z (k + 1)).length = (catL Z k).length + (Z k).size from by rw [catL, List.length_append, data_len])
      have HM := Lib.hid (show more 0 (catL Z (k + 1)) = more (more 0 (catL Z k)) (Z k).data.toList from by rw [catL, more_append])
      have hn : more 0 (catL Z k) < 4294967296 := more_lt (by omega) _
      by_cases hg : 100 < (Z k).size
      · clear ht hn
        generalize more 0 (catL Z k) = n at *
        generalize Z k = z at *
        go_wp2_with (go_at_call 6; refine (awake_any _).mono ?_; rintro e w' ⟨rfl, hb2⟩)
        go_ret
        exact ⟨rfl, by rw [HB.out]; exact hb.trans (hb2.mono (by have := hb.size; rw [HB.out] at this; exact this))⟩
      · have M := Lib.hid (more_any B true _ (Z k) wr hn (by omega) ht)
        have dz : decide ((100 : Int) < (Z k).size) = false := decide_eq_false (by omega)
        have hX : (bs (catL Z k)).size ≤ 2000 := by rw [bs_size]; omega
        have hz1 : (Z k).size ≤ 100 := by omega
        clear ht hn f0
        rw [← HM.out] at M
        generalize more 0 (catL Z k) = n at *
        go_wp2_with fail
        refine M.out.mono ?_
        rintro e w3 ⟨rfl, t3, o3⟩
        have b3 := hb.trans (o3.below (Nat.le_refl _) (by have := hb.size; have := HB.out; omega))
        have c3 := c0
        rw [← (bcell b3).1 b0 _ hbl] at c3
        have T3 := Lib.hid t3
        clear t3 c
        go_wp2_with fail
        go_roundw
        case measure => simp [intOf]; omega
        case rel => exact ⟨k + 1, by omega, by go_num, rfl, by rw [HST.out], by rw [HL.out]; omega, T3.out, b3⟩
    · obtain rfl : k = len0 := by omega
      have M := Lib.hid (sum_any B true (bs (catL Z k)) wr (by rw [bs_size]; omega) ht)
      rw [bs_list] at M
      clear ht
      generalize more 0 (catL Z k) = n at *
      have e1 : ((n : Int) == n) = true := by simp
      go_wp2_with fail
      refine M.out.mono ?_
      rintro e w3 ⟨rfl, t3, o3⟩
      have b3 := hb.trans (o3.below (Nat.le_refl _) (by have := hb.size; have := HB.out; omega))
      clear t3 o3
      go_wp2_with fail
      refine (awake_any _).mono ?_
      rintro e w4 ⟨rfl, b4⟩
      go_wp2_with fail
      go_ret
      exact ⟨rfl, by rw [HB.out]; exact b3.trans (b4.mono (by have := b3.size; have := HB.out; omega))⟩

set_option maxRecDepth 100000 in
theorem lifted (os : Os) (started : os.Started) (H : Type) (enc : TypeId × Value → H) :
    ReturnsInHanded {} Try.checked os 4 .any (Rows.crcPartsSpec.pre6 enc Try.prog Try.f4 Rows.crcPartsRow.domain false) (Rows.crcPartsSpec.post enc Try.prog Try.f4 false true false false) := by
  refine returnsInHanded_of_change (C := Try.checked) own started (by kernel_rfl) Try.func4
    (ChangeSpec.witness6 (enc := enc) (C := Try.checked) false ⟨#[], #[.slice none 0 0], []⟩ 8 (by kernel_rfl) (by kernel_rfl) (by kernel_rfl) (by kernel_rfl)) ?_
  intro W base args ds gs before hval0 hW hcnd _
  have hval : ∀ (j : Nat) t v, Try.f4.params[j]? = some t → args[j]? = some v → Value.okWide Try.prog W .any base t v := hval0
  have hW' := hW
  obtain ⟨p, q, hA0, hV, rfl, hfz, hnd⟩ := hW
  have hA : DataW.TrodAll enc Try.prog W 0 (fun _ => true) true Try.f4.params.toList args.toList ds p := hA0
  rw [Try.params4] at hA hval
  obtain ⟨v0, vs0, d0, ds0, p0, q0, hargs, rfl, rfl, h0, r0⟩ := trodAll_cons hA
  obtain ⟨rfl, rfl, rfl⟩ := trodAll_nil r0
  obtain rfl : args = #[v0] := by cases args; simp_all
  obtain ⟨rfl, rfl⟩ := trodVars_none hV
  obtain ⟨a0, len0, cap0, rfl⟩ := okWide_slice Try.underlying49 (hval 0 49 v0 rfl rfl)
  have k0 := h0
  have lt0 : ∀ x ∈ p0, x.block < W.heap.size := by obtain ⟨m, hm⟩ := k0; exact DataW.trod_lt m _ _ _ hm
  have w0 : Has W (.slice .str) [.slice a0 len0 cap0] := by obtain ⟨m, hm⟩ := h0; exact op49 _ _ _ _ _ _ _ _ _ hm
  clear hA0 hval0
  refine (walk a0 len0 cap0 W w0).mono fun e W' ⟨he, bel⟩ => ?_
  subst he
  exact ⟨_, rfl, _, _, _, [], _, [], hW', trodAll_mk1 (shut_bool Try.underlying4 _), (trodAll_cons_mk (Below.trod laidOut (by kernel_rfl) (of_decide_eq_true (by kernel_rfl)) k0 bel lt0) trodAll_mk0), rfl, bel.frame _, fun h => by cases h⟩

theorem over : Rows.crcPartsRow.holds Try.pinned (OpenSpec.ofChange Rows.crcPartsSpec) :=
  OpenClaim.holds_of_wide 4 Try.f4 rfl rfl rfl rfl rfl rfl rfl ⟨rfl, rfl, rfl, rfl, rfl⟩ rfl rfl rfl rfl rfl (by kernel_rfl) Try.func4 (by kernel_rfl)
    (of_decide_eq_true (by kernel_rfl)) (by unfold Func.isWrapper; first | (rw [if_pos (by decide +kernel)]; kernel_rfl) | (rw [if_neg (by decide +kernel)]; exact ⟨rfl, rfl⟩))
    (fun os started H enc _ => lifted os started H enc)

/-- ████ THE STATEMENT ████ -/
theorem proved : Rows.CrcPartsSaid := over
end Go.Proofs.Ytiddkpkhcopheaa.crcParts
