/- The law OctetTakes of the repository answers true for every input. No conditions. -/
import Derived.Test.YtflbogaknjdfjaaOctAwake
import Derived.Test.YtflbogaknjdfjaaArgs
import Derived.Test.YtflbogaknjdfjaaRows
import Derived.WalkKit
import Derived.ProofKit
import Derived.OpenShut
import Derived.Below
import Derived.ShutString
import Derived.Carry
import Derived.Test.YtflbogaknjdfjaaArgs
namespace Go.Proofs.Ytflbogaknjdfjaa.octetTakes
open Go.ChangeShapes Go.WideShapes Go.ChangeAt Go.RowKit
open Go.ChangeMaps (open_string shut_string)
set_option linter.unusedVariables false
set_option linter.unusedSimpArgs false

theorem own : ownKnob Try.prog.godebug = none := by kernel_rfl
theorem laidOut : laidOutB Try.prog = true := by kernel_rfl
theorem op3 : Opens Try.prog 3 (.int .i64) := opens_int Try.underlying3
theorem op33 : Opens Try.prog 33 (.pair (.int .i64) (.pair (.int .i64) .unit)) := opens_struct Try.underlying33 (by kernel_rfl) (fields_cons rfl (by kernel_rfl) op3 (fields_cons rfl (by kernel_rfl) op3 fields_nil))
theorem op28 : Opens Try.prog 28 (.slice (.pair (.int .i64) (.pair (.int .i64) .unit))) := opens_slice Try.underlying28 (by kernel_rfl) (by decide) op33

theorem has_take {w : World} {cs : List Value} (h : Has w (.pair (.int .i64) (.pair (.int .i64) .unit)) cs) : ∃ x y : Int, cs = [.int .i64 x, .int .i64 y] ∧ (Lit.int .i64 x).wf = true ∧ (Lit.int .i64 y).wf = true := by
  obtain ⟨a, b, rfl, ⟨x, rfl, hx⟩, c, d, rfl, ⟨y, rfl, hy⟩, rfl⟩ := h
  exact ⟨x, y, rfl, hx, hy⟩
theorem tfM_le (l : List UInt8) (n : Int) : tfM l n ≤ l.length := by
  unfold tfM; split
  · rename_i h
    unfold tfE at h
    split at h
    · simp at h
    · split at h
      · simp at h
      · omega
  · omega
/-- What a cursor that nobody made tells. -/
theorem zero_text (b B : Nat) (w : World) (hB : B ≤ b) (hc : Cur w b (bs []) 0) :
    Calls Try.prog 18 #[.pointer (some ⟨b, 0, none⟩), .int .i64 9] w fun e w' => e = .returned (.tuple #[.string (bs []), .int .i64 3]) ∧ Cur w' b (bs []) 0 ∧ Below B w w' := by
  have h := text_cur b (bs []) 0 B 9 w (by decide) hB hc
  have e : ttE (rest (bs []) 0) 9 = 3 := by
    unfold ttE
    rw [show rest (bs []) 0 = [] from rfl, leadN_nil.2.2]; rfl
  obtain ⟨e1, e2⟩ := ttE_ne (l := rest (bs []) 0) (most := 9) (by omega)
  rw [e, e1, e2] at h
  exact h
set_option maxRecDepth 100000 in
set_option maxHeartbeats 4000000 in
/-- What stands behind the loop: a nil cursor and a zero cursor. -/
theorem rest_step (s : ByteArray) (k m : Nat) (R : ByteArray) (hR : R.data.toList = rest s k) (hm : m ≤ R.size) : (R.extract m R.size).data.toList = rest s (k + m) ∧ (R.extract m R.size).size = s.size - (k + m) := by
  have e : (R.extract m R.size).data.toList = rest s (k + m) := by
    rw [extract_list, ← data_len, List.take_length, hR, rest, rest, List.drop_drop]
  exact ⟨e, by rw [← data_len, e, rest_len]⟩

set_option maxRecDepth 100000 in
set_option maxHeartbeats 4000000 in
theorem walk (a0 : ByteArray) (a1 : Option Addr) (len1 cap1 : Nat) (w : World) (w0 : a0.size ≤ maxLen) (w1 : Has w (.slice (.pair (.int .i64) (.pair (.int .i64) .unit))) [.slice a1 len1 cap1]) :
    Calls Try.prog 4 #[.string a0, .slice a1 len1 cap1] w fun e w' => e = .returned (.bool true) ∧ Below w.heap.size w w' := by
  unfold maxLen at w0
  obtain ⟨hlc, hcm, hcase⟩ := has_slice w1
  unfold maxLen at hcm
  clear w1
  by_cases hg1 : 300 < a0.size
  · go_enter Try.func4, Try.ntmps4
    go_wp2_with (go_at_call 6; refine (awake_any _).mono ?_; rintro e w' ⟨rfl, hb⟩)
    go_ret
    exact ⟨rfl, by assumption⟩
  by_cases hg2 : 40 < len1
  · go_enter Try.func4, Try.ntmps4
    go_wp2_with (go_at_call 6; refine (awake_any _).mono ?_; rintro e w' ⟨rfl, hb⟩)
    go_ret
    exact ⟨rfl, by assumption⟩
  have hsz : a0.size ≤ 300 := by omega
  have hln : len1 ≤ 40 := by omega
  have d1 : decide ((300 : Int) < a0.size) = false := decide_eq_false (by omega)
  have d2 : decide ((40 : Int) < len1) = false := decide_eq_false (by omega)
  obtain ⟨bl, off, KK, NN, hA, hE⟩ : ∃ bl off, ∃ KK NN : Nat → Int, (0 < len1 → a1 = some ⟨bl, off, none⟩) ∧ ∀ i, i < len1 → bl < w.heap.size ∧ w.cell? ⟨bl, off + i * 2, none⟩ = some (.int .i64 (KK i)) ∧ w.cell? ⟨bl, off + i * 2 + 1, none⟩ = some (.int .i64 (NN i)) ∧ (Lit.int .i64 (KK i)).wf = true ∧ (Lit.int .i64 (NN i)).wf = true := by
    rcases hcase with h0 | ⟨bl, off, E, h0, hA, hb, hE⟩
    · exact ⟨0, 0, fun _ => 0, fun _ => 0, fun h => absurd h (by omega), fun i hi => absurd hi (by omega)⟩
    · obtain ⟨Q, hQ⟩ := Deep.choose_lt (n := len1) (α := Int × Int) (p := fun i q => E i = [.int .i64 q.1, .int .i64 q.2] ∧ (Lit.int .i64 q.1).wf = true ∧ (Lit.int .i64 q.2).wf = true) (fun i hi => by
        obtain ⟨x, y, h1, h2, h3⟩ := has_take (hE i hi).1
        exact ⟨(x, y), h1, h2, h3⟩)
      refine ⟨bl, off, fun i => (Q i).1, fun i => (Q i).2, fun _ => hA, fun i hi => ⟨hb, ?_, ?_, (hQ i hi).2.1, (hQ i hi).2.2⟩⟩
      · exact (hE i hi).2 0 _ (by rw [(hQ i hi).1]; rfl)
      · exact (hE i hi).2 1 _ (by rw [(hQ i hi).1]; rfl)
  have HA := Lib.hid hA
  have HE := Lib.hid hE
  clear hA hE hcase
  go_enter Try.func4, Try.ntmps4
  go_wp2_with fail
  refine (new_any _ _).mono ?_; rintro e w1 ⟨rfl, hc, b1⟩
  have HC := Lib.hid hc
  clear hc
  generalize hB : w.heap.size = B at *
  have HB := Lib.hid hB
  clear hB
  go_wp2_with fail
  go_loopw [6, 7] (fun L i wr => ∃ (k j : Nat) (R : ByteArray), k ≤ len1 ∧ i = .int .i64 k ∧ L = .string R ∧ R.data.toList = rest a0 j ∧ Cur wr B a0 j ∧ Below B w wr) (fun _ i _ => len1 - (intOf i).toNat)
  case atStart => exact ⟨0, 0, a0, by omega, rfl, rfl, rfl, HC.out, b1⟩
  case round =>
    obtain ⟨k, j, R, hk, rfl, rfl, hR, hc, hb⟩ := hrel
    by_cases hlt : k < len1
    · obtain ⟨hbl, c0, c1, f0, f1⟩ := HE.out k hlt
      obtain rfl : a1 = some ⟨bl, off, none⟩ := HA.out (by omega)
      have g0 := bounds_i64 f0
      have g1 := bounds_i64 f1
      have g01 := g0.1
      have g02 := g0.2
      have g11 := g1.1
      have g12 := g1.2
      clear g0 g1 f0 f1
      rw [← (bcell hb).1 bl _ (by omega)] at c0 c1
      generalize KK k = K at *
      generalize NN k = N at *
      have HR := Lib.hid hR
      have HC := Lib.hid hc
      clear hR hc
      by_cases h1 : K = 1
      · subst h1
        have hRs : R.size = a0.size - j := by rw [← data_len, HR.out, rest_len]
        have hf := fixed_cur B a0 j B N wr (by omega) (Nat.le_refl _) HC.out
        have hr := fun w => rtakeFixed_any R N w (by omega)
        have hm := tfM_le (rest a0 j) N
        rw [rest_len, ← hRs] at hm
        rw [HR.out] at hr
        generalize tfV (rest a0 j) N = v at *
        generalize tfE (rest a0 j) N = ee at *
        generalize tfM (rest a0 j) N = m at *
        have HF := Lib.hid hf
        have HRR := Lib.hid hr
        clear hf hr hRs

        obtain ⟨hr1, hr2⟩ := rest_step a0 j m R HR.out (by omega)
        have hsl := fun w => run_slice_string_l (P := Try.prog) w 9 R (by kernel_rfl) .i64 (m : Int) (by omega) (by omega)
        rw [Int.toNat_natCast] at hsl
        generalize R.extract m R.size = R' at *
        have HR' := Lib.hid hr1
        have hl := fun w (h : Cur w B a0 (j + m)) => left_cur B a0 (j + m) B w (by omega) h
        rw [← hr2] at hl
        have HL := Lib.hid hl
        have hm2 : R'.size ≤ 300 := by omega
        clear hr1 hr2 hl
        go_wp2_with fail
        refine HF.out.mono ?_; rintro e w2 ⟨rfl, hc3, b2⟩
        have c2 := c1
        rw [← (bcell b2).1 bl _ (by omega)] at c2
        go_wp2_with fail
        refine (HRR.out _).mono ?_; rintro e w3 ⟨rfl, rfl⟩
        have HC3 := Lib.hid hc3
        clear hc3
        go_wp2_with fail
        refine (HL.out _ HC3.out).mono ?_; rintro ee w5 ⟨rfl, hc5, b5⟩
        have HC5 := Lib.hid hc5
        clear hc5
        go_wp2_with fail
        go_roundw
        case rel => exact ⟨k + 1, j + m, R', by omega, by go_num, rfl, HR'.out, HC5.out, (hb.trans b2).trans b5⟩
        case measure => simp [intOf]; omega
      by_cases h2 : K = 2
      · subst h2
        have hRs : R.size = a0.size - j := by rw [← data_len, HR.out, rest_len]
        have hf := var_cur B a0 j B wr (by omega) (Nat.le_refl _) HC.out
        have hr := fun w => rtakeVar_any R w (by omega)
        have hm := tvM_le (rest a0 j)
        rw [rest_len, ← hRs] at hm
        rw [HR.out] at hr
        generalize tvV (rest a0 j) = v at *
        generalize tvE (rest a0 j) = ee at *
        generalize tvM (rest a0 j) = m at *
        have HF := Lib.hid hf
        have HRR := Lib.hid hr
        clear hf hr hRs

        obtain ⟨hr1, hr2⟩ := rest_step a0 j m R HR.out (by omega)
        have hsl := fun w => run_slice_string_l (P := Try.prog) w 9 R (by kernel_rfl) .i64 (m : Int) (by omega) (by omega)
        rw [Int.toNat_natCast] at hsl
        generalize R.extract m R.size = R' at *
        have HR' := Lib.hid hr1
        have hl := fun w (h : Cur w B a0 (j + m)) => left_cur B a0 (j + m) B w (by omega) h
        rw [← hr2] at hl
        have HL := Lib.hid hl
        have hm2 : R'.size ≤ 300 := by omega
        clear hr1 hr2 hl
        go_wp2_with fail
        refine HF.out.mono ?_; rintro e w2 ⟨rfl, hc2, b2⟩
        have HC2 := Lib.hid hc2
        clear hc2
        go_wp2_with fail
        refine (HRR.out _).mono ?_; rintro e w3 ⟨rfl, b3⟩
        have hc3 := cur_below HC2.out b3 (lt_of_block HC2.out.1)
        have b4 := b3.mono (show B ≤ w2.heap.size from Nat.le_of_lt (lt_of_block HC2.out.1))
        have HC3 := Lib.hid hc3
        clear hc3
        go_wp2_with fail
        refine (HL.out _ HC3.out).mono ?_; rintro ee w5 ⟨rfl, hc5, b5⟩
        have HC5 := Lib.hid hc5
        clear hc5
        go_wp2_with fail
        go_roundw
        case rel => exact ⟨k + 1, j + m, R', by omega, by go_num, rfl, HR'.out, HC5.out, ((hb.trans b2).trans b4).trans b5⟩
        case measure => simp [intOf]; omega
      · have k1 : ((K : Int) == 1) = false := by simpa using h1
        have k2 : ((K : Int) == 2) = false := by simpa using h2
        clear h1 h2
        have hRs : R.size = a0.size - j := by rw [← data_len, HR.out, rest_len]
        have hf := text_cur B a0 j B N wr (by omega) (Nat.le_refl _) HC.out
        have hr := fun w => rtakeText_any R N w (by omega)
        have hm := ttE_le (rest a0 j) N
        rw [rest_len, ← hRs] at hm
        rw [HR.out] at hr
        generalize ttT (rest a0 j) N = v at *
        generalize ttE (rest a0 j) N = ee at *
        generalize ttM (rest a0 j) N = m at *
        have HF := Lib.hid hf
        have HRR := Lib.hid hr
        have e1 := fun (x : ByteArray) => beq_self_eq_true x.toList
        clear hf hr hRs

        obtain ⟨hr1, hr2⟩ := rest_step a0 j m R HR.out (by omega)
        have hsl := fun w => run_slice_string_l (P := Try.prog) w 9 R (by kernel_rfl) .i64 (m : Int) (by omega) (by omega)
        rw [Int.toNat_natCast] at hsl
        generalize R.extract m R.size = R' at *
        have HR' := Lib.hid hr1
        have hl := fun w (h : Cur w B a0 (j + m)) => left_cur B a0 (j + m) B w (by omega) h
        rw [← hr2] at hl
        have HL := Lib.hid hl
        have hm2 : R'.size ≤ 300 := by omega
        clear hr1 hr2 hl
        go_wp2_with fail
        refine HF.out.mono ?_; rintro e w2 ⟨rfl, hc2, b2⟩
        have HC2 := Lib.hid hc2
        have c2 := c1
        rw [← (bcell b2).1 bl _ (by omega)] at c2
        clear hc2
        go_wp2_with fail
        refine (HRR.out _).mono ?_; rintro e w3 ⟨rfl, b3⟩
        have hc3 := cur_below HC2.out b3 (lt_of_block HC2.out.1)
        have b4 := b3.mono (show B ≤ w2.heap.size from Nat.le_of_lt (lt_of_block HC2.out.1))
        have HC3 := Lib.hid hc3
        clear hc3
        go_wp2_with fail
        refine (HL.out _ HC3.out).mono ?_; rintro ee w5 ⟨rfl, hc5, b5⟩
        have HC5 := Lib.hid hc5
        clear hc5
        go_wp2_with fail
        go_roundw
        case rel => exact ⟨k + 1, j + m, R', by omega, by go_num, rfl, HR'.out, HC5.out, ((hb.trans b2).trans b4).trans b5⟩
        case measure => simp [intOf]; omega
    · obtain rfl : k = len1 := by omega
      clear HA HE
      go_wp2_with fail
      refine (var_nil _).mono ?_; rintro e w2 ⟨rfl, b2⟩
      have hz : B ≤ wr.heap.size := by have := hb.size; have := HB.out; omega
      have hcz : Cur (wr.alloc (Obj.cells #[Value.string { data := #[] }, Value.int IntKind.i64 0] 48)) wr.heap.size (bs []) 0 := ⟨blk_new _ _, by simp⟩
      have hcz2 := Lib.hid (cur_below hcz b2 (by rw [World.size_alloc]; omega))
      have b3 := (hb.alloc hz (Obj.cells #[Value.string { data := #[] }, Value.int IntKind.i64 0] 48)).trans (b2.mono (show B ≤ _ by rw [World.size_alloc]; omega))
      generalize wr.heap.size = z at *
      clear hcz b2 hc hR hb
      go_wp2_with fail
      refine (zero_text z B w2 hz hcz2.out).mono ?_; rintro e w3 ⟨rfl, hc3, b4⟩
      have HC3 := Lib.hid hc3
      clear hc3
      go_wp2_with fail
      refine (left_nil _).mono ?_; rintro e w4 ⟨rfl, rfl⟩
      have hl := left_cur z (bs []) 0 B w3 (by decide) HC3.out
      rw [show (bs []).size - 0 = 0 from rfl] at hl
      have HL := Lib.hid hl
      clear hl
      go_wp2_with fail
      refine HL.out.mono ?_; rintro e w5 ⟨rfl, _, b5⟩
      go_wp2_with fail
      refine (awake_any _).mono ?_; rintro e w6 ⟨rfl, b6⟩
      go_wp2_with fail
      go_ret
      have bb := (b3.trans b4).trans b5
      rw [HB.out]
      exact ⟨rfl, bb.trans (b6.mono (by have := bb.size; have := HB.out; omega))⟩

set_option maxRecDepth 100000 in
theorem lifted (os : Os) (started : os.Started) (H : Type) (enc : TypeId × Value → H) :
    ReturnsInHanded {} Try.checked os 4 .any (Rows.octetTakesSpec.pre6 enc Try.prog Try.f4 Rows.octetTakesRow.domain false) (Rows.octetTakesSpec.post enc Try.prog Try.f4 false true false false) := by
  refine returnsInHanded_of_change (C := Try.checked) own started (by kernel_rfl) Try.func4
    (ChangeSpec.witness6 (enc := enc) (C := Try.checked) false ⟨#[], #[.string ByteArray.empty, .slice none 0 0], []⟩ 8 (by kernel_rfl) (by kernel_rfl) (by kernel_rfl) (by kernel_rfl)) ?_
  intro W base args ds gs before hval0 hW hcnd _
  have hval : ∀ (j : Nat) t v, Try.f4.params[j]? = some t → args[j]? = some v → Value.okWide Try.prog W .any base t v := hval0
  have hW' := hW
  obtain ⟨p, q, hA0, hV, rfl, hfz, hnd⟩ := hW
  have hA : DataW.TrodAll enc Try.prog W 0 (fun _ => true) true Try.f4.params.toList args.toList ds p := hA0
  rw [Try.params4] at hA hval
  obtain ⟨v0, vs0, d0, ds0, p0, q0, hargs, rfl, rfl, h0, r0⟩ := trodAll_cons hA
  obtain ⟨v1, vs1, d1, ds1, p1, q1, rfl, rfl, rfl, h1, r1⟩ := trodAll_cons r0
  obtain ⟨rfl, rfl, rfl⟩ := trodAll_nil r1
  obtain rfl : args = #[v0, v1] := by cases args; simp_all
  obtain ⟨rfl, rfl⟩ := trodVars_none hV
  obtain ⟨a0, rfl, rfl, rfl, w0⟩ := open_string Try.underlying9 (hval 0 9 v0 rfl rfl) h0
  obtain ⟨a1, len1, cap1, rfl⟩ := okWide_slice Try.underlying28 (hval 1 28 v1 rfl rfl)
  have k1 := h1
  have lt1 : ∀ x ∈ p1, x.block < W.heap.size := by obtain ⟨m, hm⟩ := k1; exact DataW.trod_lt m _ _ _ hm
  have w1 : Has W (.slice (.pair (.int .i64) (.pair (.int .i64) .unit))) [.slice a1 len1 cap1] := by obtain ⟨m, hm⟩ := h1; exact op28 _ _ _ _ _ _ _ _ _ hm
  clear hA0 hval0
  refine (walk a0 a1 len1 cap1 W w0 w1).mono fun e W' ⟨he, bel⟩ => ?_
  subst he
  exact ⟨_, rfl, _, _, _, [], _, [], hW', trodAll_mk1 (shut_bool Try.underlying4 _), (trodAll_cons_mk (shut_string Try.underlying9 w0) (trodAll_cons_mk (Below.trod laidOut (by kernel_rfl) (of_decide_eq_true (by kernel_rfl)) k1 bel lt1) trodAll_mk0)), rfl, bel.frame _, fun h => by cases h⟩

theorem over : Rows.octetTakesRow.holds Try.pinned (OpenSpec.ofChange Rows.octetTakesSpec) :=
  OpenClaim.holds_of_wide 4 Try.f4 rfl rfl rfl rfl rfl rfl rfl ⟨rfl, rfl, rfl, rfl, rfl⟩ rfl rfl rfl rfl rfl (by kernel_rfl) Try.func4 (by kernel_rfl)
    (of_decide_eq_true (by kernel_rfl)) (by unfold Func.isWrapper; first | (rw [if_pos (by decide +kernel)]; kernel_rfl) | (rw [if_neg (by decide +kernel)]; exact ⟨rfl, rfl⟩))
    (fun os started H enc _ => lifted os started H enc)

/-- ████ THE STATEMENT ████ -/
theorem proved : Rows.OctetTakesSaid := over
end Go.Proofs.Ytflbogaknjdfjaa.octetTakes
