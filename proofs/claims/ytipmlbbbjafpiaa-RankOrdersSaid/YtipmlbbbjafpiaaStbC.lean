/- What the library's merging in place comes to at elements of k cells: by halves, over any program that bears the functions of the sort. Conditions: as stated. -/
import Derived.Test.YtipmlbbbjafpiaaStbB
namespace Go.Proofs.Ytipmlbbbjafpiaa
open Go.RowKit
open Go.Sort (SWO HoldsK flatK Holds grow swp)
set_option linter.unusedVariables false
set_option maxRecDepth 100000
set_option linter.unusedSimpArgs false
set_option linter.unusedSectionVars false

section
variable {α : Type} [Inhabited α]
variable {P : Program} {enc : α → List Value} {k : Nat} {w0 : World} {blk off : Nat} {d0 : Array α}
theorem mrg_apart {lt : α → α → Bool} (L R : List α) (h : L.length = 0 ∨ R.length = 0) : mrg lt L R = L ++ R := by
  rcases h with h | h
  · obtain rfl := List.eq_nil_of_length_eq_zero h; simp
  · obtain rfl := List.eq_nil_of_length_eq_zero h; simp
set_option maxHeartbeats 8000000 in
theorem stb_merge (L : StL P) (aE : ∀ w, (isAgg 25).run P w = .ok true w) (zE : ∀ w, (Go.sizeOf 25).run P w = .ok k w) (R : RowK enc k w0 blk off d0) (cf : α → α → Int) (g : Nat) (cb : Array Value) (hO : SWO (ltOf cf)) (eg : ∀ args w, (callFunc g args).run P w = .ok (.enter g args) w) (hcmp : CmpLays P g cb enc k cf blk off d0.size w0) (cap N : Nat) (hN : N = d0.size) (hsz : N ≤ 1152921504606846976) : ∀ (D a m b : Nat) (A X Y B : List α) (W : World), b - a < D → A.length + X.length + Y.length + B.length = N → 0 < X.length → 0 < Y.length → a = A.length → m = A.length + X.length → b = A.length + X.length + Y.length → Asc (ltOf cf) X → Asc (ltOf cf) Y → SL enc k w0 blk off (A ++ X ++ Y ++ B) W →
    Calls P 31 #[.slice (some ⟨blk, off, none⟩) N cap, .int .i64 a, .int .i64 m, .int .i64 b, .func (.func g) #[] cb] W fun e w' => e = .returned (.tuple #[]) ∧ SL enc k w0 blk off (A ++ mrg (ltOf cf) X Y ++ B) w' := by
  intro D
  induction D with
  | zero => intro _ _ _ _ _ _ _ _ h; exact absurd h (Nat.not_lt_zero _)
  | succ D ih =>
    intro a m b A X Y B W hD hs hX hY ha hm hb hAX hAY h
    by_cases hX1 : X.length = 1
    · obtain ⟨x, rfl⟩ : ∃ x, X = [x] := List.length_eq_one_iff.1 hX1
      exact stb_merge1 L aE zE R cf g cb hO eg hcmp cap N hN hsz a m b A Y B x W hs hY ha hm hb hAY h
    by_cases hY1 : Y.length = 1
    · obtain ⟨y, rfl⟩ : ∃ y, Y = [y] := List.length_eq_one_iff.1 hY1
      exact stb_merge2 L aE zE R cf g cb hO eg hcmp cap N hN hsz a m b A X B y W hs (by omega) ha hm hb hAX h
    have hmx := L.mixed; have t0 := L.t0; have t3 := L.t3; have a3 := L.a3; have z3 := L.z3; have v3 := L.v3; have t4 := L.t4; have a4 := L.a4; have z4 := L.z4; have v4 := L.v4; have tS := L.tS; have aS := L.aS; have zS := L.zS; have vS := L.vS; have tF := L.tF; have aF := L.aF; have zF := L.zF; have vF := L.vF; have tU := L.tU; have aU := L.aU; have zU := L.zU; have vU := L.vU
    have RR : Aside _ := R
    have HC : Aside _ := hcmp
    have S0 : Aside (SL enc k w0 blk off (A ++ X ++ Y ++ B) W) := h
    have HDS := Lib.hid (show (A ++ X ++ Y ++ B).toArray.size = d0.size by simp; omega)
    have HND := Lib.hid hN
    obtain ⟨mid, hmid⟩ : ∃ mid : Nat, mid = (a + b) / 2 := ⟨_, rfl⟩
    obtain ⟨lo, hi, hc⟩ : ∃ lo hi, (mid < m ∧ lo + b = mid + m ∧ hi = mid) ∨ (m ≤ mid ∧ lo = a ∧ hi = m) := by
      by_cases hq : mid < m
      · exact ⟨mid + m - b, mid, .inl ⟨hq, by omega, rfl⟩⟩
      · exact ⟨a, m, .inr ⟨by omega, rfl, rfl⟩⟩
    have hcut : SymCut A X Y B a m b mid lo hi := ⟨ha, hm, hb, hmid, hX, hY, hc⟩
    obtain ⟨pp, hpp⟩ : ∃ pp : Nat, mid + m - 1 = pp := ⟨_, rfl⟩
    obtain ⟨nn, hnn⟩ : ∃ nn : Nat, mid + m = nn := ⟨_, rfl⟩
    have HM := Lib.hid (show MonoF (fun q => !(ltOf cf (A ++ X ++ Y ++ B).toArray[pp - q]! (A ++ X ++ Y ++ B).toArray[q]!)) lo hi from fun u v h1 h2 h3 h4 => by
      dsimp only at h4 ⊢
      rw [Bool.not_eq_true'] at h4 ⊢
      rw [← hpp] at h4 ⊢
      exact hcut.mono hO hAX hAY u v h1 h2 h3 h4)
    have HEND := Lib.hid (show ∀ s, lo ≤ s → s ≤ hi → UpF (fun q => !(ltOf cf (A ++ X ++ Y ++ B).toArray[pp - q]! (A ++ X ++ Y ++ B).toArray[q]!)) lo s → OffF (fun q => !(ltOf cf (A ++ X ++ Y ++ B).toArray[pp - q]! (A ++ X ++ Y ++ B).toArray[q]!)) s hi → mrg (ltOf cf) X Y = mrg (ltOf cf) (X.take (s - a)) (Y.take (mid - s)) ++ mrg (ltOf cf) (X.drop (s - a)) (Y.drop (mid - s)) from fun s h1 h2 hu hf => by
      refine hcut.cut hO hAX hAY s h1 h2 (fun q g1 g2 => ?_) (fun q g1 g2 => ?_)
      · have := hu q g1 g2; dsimp only at this; rw [Bool.not_eq_true', ← hpp] at this; exact this
      · have := hf q g1 g2; dsimp only at this; rw [Bool.not_eq_false', ← hpp] at this; exact this)
    have HRO := Lib.hid (show ∀ s w, lo ≤ s → s ≤ hi → s < m → s < mid → SL enc k w0 blk off (A ++ X ++ Y ++ B) w → Calls P 35 #[.slice (some ⟨blk, off, none⟩) N cap, .int .i64 s, .int .i64 m, .int .i64 (mid + m - s : Nat), .func (.func g) #[] cb] w fun e w' => e = .returned (.tuple #[]) ∧ SL enc k w0 blk off (A ++ X.take (s - a) ++ Y.take (mid - s) ++ (X.drop (s - a) ++ (Y.drop (mid - s) ++ B))) w' from fun s w h1 h2 h3 h4 hS => by
      have := stb_rotate L aE zE R (.func (.func g) #[] cb) w cap s m (mid + m - s) N (A ++ X.take (s - a)) (X.drop (s - a)) (Y.take (mid - s)) (Y.drop (mid - s) ++ B) hN (by simp; omega) (by simp; omega) (by simp; omega) (by simp; omega) (by simp; omega) (by simp; omega) hsz (by
        rw [show A ++ X.take (s - a) ++ X.drop (s - a) ++ Y.take (mid - s) ++ (Y.drop (mid - s) ++ B) = A ++ (X.take (s - a) ++ X.drop (s - a)) ++ (Y.take (mid - s) ++ Y.drop (mid - s)) ++ B by simp only [List.append_assoc], List.take_append_drop, List.take_append_drop]; exact hS)
      rw [show A ++ X.take (s - a) ++ Y.take (mid - s) ++ X.drop (s - a) ++ (Y.drop (mid - s) ++ B) = A ++ X.take (s - a) ++ Y.take (mid - s) ++ (X.drop (s - a) ++ (Y.drop (mid - s) ++ B)) by simp only [List.append_assoc]] at this
      exact this)
    have HRN := Lib.hid (show ∀ s w, lo ≤ s → s ≤ hi → (m ≤ s ∨ mid ≤ s) → SL enc k w0 blk off (A ++ X ++ Y ++ B) w → SL enc k w0 blk off (A ++ X.take (s - a) ++ Y.take (mid - s) ++ (X.drop (s - a) ++ (Y.drop (mid - s) ++ B))) w from fun s w h1 h2 h3 hS => by
      have e : A ++ X.take (s - a) ++ Y.take (mid - s) ++ (X.drop (s - a) ++ (Y.drop (mid - s) ++ B)) = A ++ X ++ Y ++ B := by
        rcases h3 with h3 | h3
        · rw [List.drop_eq_nil_of_le (show X.length ≤ s - a by omega), List.take_of_length_le (show X.length ≤ s - a by omega)]
          conv => rhs; rw [← List.take_append_drop (mid - s) Y]
          simp only [List.append_assoc, List.nil_append]
        · rw [show mid - s = 0 by omega, List.take_zero, List.drop_zero]
          conv => rhs; rw [← List.take_append_drop (s - a) X]
          simp only [List.append_assoc, List.nil_append, List.append_nil]
      rw [e]; exact hS)
    have HLO := Lib.hid (show ∀ s w, lo ≤ s → s ≤ hi → a < s → s < mid → SL enc k w0 blk off (A ++ X.take (s - a) ++ Y.take (mid - s) ++ (X.drop (s - a) ++ (Y.drop (mid - s) ++ B))) w → Calls P 31 #[.slice (some ⟨blk, off, none⟩) N cap, .int .i64 a, .int .i64 s, .int .i64 mid, .func (.func g) #[] cb] w fun e w' => e = .returned (.tuple #[]) ∧ SL enc k w0 blk off (A ++ mrg (ltOf cf) (X.take (s - a)) (Y.take (mid - s)) ++ (X.drop (s - a) ++ (Y.drop (mid - s) ++ B))) w' from fun s w h1 h2 h3 h4 hS =>
      ih a s mid A (X.take (s - a)) (Y.take (mid - s)) (X.drop (s - a) ++ (Y.drop (mid - s) ++ B)) w (by omega) (by simp; omega) (by simp; omega) (by simp; omega) ha (by simp; omega) (by simp; omega) (asc_take hAX _) (asc_take hAY _) hS)
    have HLN := Lib.hid (show ∀ s w, lo ≤ s → s ≤ hi → (s ≤ a ∨ mid ≤ s) → SL enc k w0 blk off (A ++ X.take (s - a) ++ Y.take (mid - s) ++ (X.drop (s - a) ++ (Y.drop (mid - s) ++ B))) w → SL enc k w0 blk off (A ++ mrg (ltOf cf) (X.take (s - a)) (Y.take (mid - s)) ++ (X.drop (s - a) ++ (Y.drop (mid - s) ++ B))) w from fun s w h1 h2 h3 hS => by
      rw [mrg_apart _ _ (by rcases h3 with h3 | h3; exact .inl (by simp; omega); exact .inr (by simp; omega)), ← List.append_assoc A]; exact hS)
    have HHI := Lib.hid (show ∀ s w, lo ≤ s → s ≤ hi → s < m → mid + m - s < b → SL enc k w0 blk off (A ++ mrg (ltOf cf) (X.take (s - a)) (Y.take (mid - s)) ++ (X.drop (s - a) ++ (Y.drop (mid - s) ++ B))) w → Calls P 31 #[.slice (some ⟨blk, off, none⟩) N cap, .int .i64 mid, .int .i64 (mid + m - s : Nat), .int .i64 b, .func (.func g) #[] cb] w fun e w' => e = .returned (.tuple #[]) ∧ SL enc k w0 blk off (A ++ (mrg (ltOf cf) (X.take (s - a)) (Y.take (mid - s)) ++ mrg (ltOf cf) (X.drop (s - a)) (Y.drop (mid - s))) ++ B) w' from fun s w h1 h2 h3 h4 hS => by
      have hl := mrg_length (lt := ltOf cf) (X.take (s - a)) (Y.take (mid - s))
      rw [List.length_take, List.length_take] at hl
      have := ih mid (mid + m - s) b (A ++ mrg (ltOf cf) (X.take (s - a)) (Y.take (mid - s))) (X.drop (s - a)) (Y.drop (mid - s)) B w (by omega) (by simp; omega) (by simp; omega) (by simp; omega) (by simp; omega) (by simp; omega) (by simp; omega) (asc_drop hAX _) (asc_drop hAY _) (by simpa only [List.append_assoc] using hS)
      simpa only [List.append_assoc] using this)
    have HHN := Lib.hid (show ∀ s w, lo ≤ s → s ≤ hi → (m ≤ s ∨ b ≤ mid + m - s) → SL enc k w0 blk off (A ++ mrg (ltOf cf) (X.take (s - a)) (Y.take (mid - s)) ++ (X.drop (s - a) ++ (Y.drop (mid - s) ++ B))) w → SL enc k w0 blk off (A ++ (mrg (ltOf cf) (X.take (s - a)) (Y.take (mid - s)) ++ mrg (ltOf cf) (X.drop (s - a)) (Y.drop (mid - s))) ++ B) w from fun s w h1 h2 h3 hS => by
      rw [mrg_apart (X.drop (s - a)) _ (by rcases h3 with h3 | h3; exact .inl (by simp; omega); exact .inr (by simp; omega))]
      simpa only [List.append_assoc] using hS)
    have hmb : m + 1 < b := by omega
    have ham : a + 1 < m := by omega
    have hbN : b ≤ N := by omega
    have hamid : a < mid := by omega
    have hmidb : mid < b := by omega
    have hlob : mid + m ≤ lo + b := by omega
    have halo : a ≤ lo := by omega
    have hhim : hi ≤ m := by omega
    have hhi2 : hi ≤ mid := by omega
    have hlohi : lo ≤ hi := by omega
    have hab2 : (a + b) / 2 = mid := hmid.symm
    have e0 : ((m : Int) - (a : Int) == 1) = false := by simp; omega
    have e00 : IntKind.i64.wrap ((m : Int) - (a : Int)) = (m : Int) - (a : Int) := IntWalk.i64_in _ (by omega)
    have e1 : ((b : Int) - (m : Int) == 1) = false := by simp; omega
    have e11 : IntKind.i64.wrap ((b : Int) - (m : Int)) = (b : Int) - (m : Int) := IntWalk.i64_in _ (by omega)
    have f0 : IntKind.i64.wrap ((a : Int) + (b : Int)) = (a : Int) + (b : Int) := IntWalk.i64_in _ (by omega)
    have f1 := half_even a b (by omega)
    have f2 : ((a : Int) + (b : Int)) / 2 = (mid : Int) := by omega
    have f3 : IntKind.i64.wrap (mid : Int) = (mid : Int) := IntWalk.i64_in _ (by omega)
    have f4 : IntKind.i64.wrap ((mid : Int) + (m : Int)) = (nn : Int) := by rw [IntWalk.i64_in _ (by omega)]; omega
    have f5 : IntKind.i64.wrap ((nn : Int) - 1) = (pp : Int) := by rw [IntWalk.i64_in _ (by omega)]; omega
    have HCUT := Lib.hid hc
    have HPP := Lib.hid hpp
    have HNN := Lib.hid hnn
    have FG := L.fSY
    have eSY : ∀ args w, (callFunc 31 args).run P w = .ok (.enter 31 args) w := enters_of L.fSY (by kernel_rfl) rfl
    have eRO : ∀ args w, (callFunc 35 args).run P w = .ok (.enter 35 args) w := enters_of L.fRO (by kernel_rfl) rfl
    clear h R hcmp ha hm hb hAX hAY hO hs hX hN hY hX1 hY1 ih hcut hc hpp hnn hmid hD hab2
    go_enter FG, Try.ntmps31
    go_upto_if 140 with (fail)
    go_cut [20, 21] from 141 to 146 (fun s20 s21 wx => s20 = .int .i64 lo ∧ s21 = .int .i64 hi ∧ W = wx)
    case first =>
      rcases HCUT.out with ⟨h1, h2, h3⟩ | ⟨h1, h2, h3⟩
      · have d1 : decide ((mid : Int) < (m : Int)) = true := decide_eq_true (by omega)
        have d2 : decide ((m : Int) > (mid : Int)) = true := decide_eq_true (by omega)
        have d3 : IntKind.i64.wrap ((nn : Int) - (b : Int)) = (lo : Int) := by have := HNN.out; rw [IntWalk.i64_in _ (by omega)]; omega
        have HH := Lib.hid h3
        clear h2 h3
        go_wp2_with fail
        go_meet
        exact ⟨rfl, by rw [HH.out], rfl⟩
      · have d1 : decide ((mid : Int) < (m : Int)) = false := decide_eq_false (by omega)
        have d2 : decide ((m : Int) > (mid : Int)) = false := decide_eq_false (by omega)
        have HH := Lib.hid (show lo = a ∧ hi = m from ⟨h2, h3⟩)
        clear h2 h3
        go_wp2_with fail
        go_meet
        exact ⟨by rw [HH.out.1], by rw [HH.out.2], rfl⟩
    case rest =>
      obtain ⟨rfl, rfl, rfl⟩ := hcut
      clear e0 e00 e1 e11 f0 f1 f2 f3 f4 HCUT
      have hNs := HND.out
      have hpN : pp ≤ 2 * N := by have := HPP.out; omega
      have hpl : lo + N ≥ pp + 1 := by have := HPP.out; omega
      have HPL := Lib.hid (show ∀ h : Nat, lo ≤ h → h < hi → pp - h < N ∧ h ≤ pp from fun h h1 h2 => by have := HPP.out; omega)
      clear hNs
      go_wp2_with fail
      go_loopg [20, 21] (hi - (lo)) (fun gk s10 s11 wr => ∃ i j : Nat, s10 = .int .i64 i ∧ s11 = .int .i64 j ∧ lo ≤ i ∧ i ≤ j ∧ j ≤ hi ∧ j - i ≤ gk ∧ Aside (SL enc k w0 blk off (A ++ X ++ Y ++ B) wr) ∧ Aside (UpF (fun q => !(ltOf cf (A ++ X ++ Y ++ B).toArray[pp - q]! (A ++ X ++ Y ++ B).toArray[q]!)) (lo) i) ∧ Aside (OffF (fun q => !(ltOf cf (A ++ X ++ Y ++ B).toArray[pp - q]! (A ++ X ++ Y ++ B).toArray[q]!)) j (hi)))
      case atStart => exact ⟨lo, hi, by go_num, by go_num, Nat.le_refl _, by omega, Nat.le_refl _, Nat.le_refl _, S0, fun q h1 h2 => absurd h2 (by omega), fun q h1 h2 => absurd h2 (by omega)⟩
      case round =>
        obtain ⟨i, j, rfl, rfl, hmi, hij, hjb, hgk, S1, I1, I2⟩ := hrel
        clear S0
        by_cases hlt : i < j
        · have dk : decide ((i : Int) < (j : Int)) = true := decide_eq_true (by omega)
          obtain ⟨h, hh⟩ : ∃ h : Nat, (i + j) / 2 = h := ⟨_, rfl⟩
          have hih : i ≤ h := by omega
          have hhj : h < j := by omega
          have p0 : IntKind.i64.wrap ((i : Int) + (j : Int)) = (i : Int) + (j : Int) := IntWalk.i64_in _ (by omega)
          have p1 := half_even i j (by omega)
          have p2 : ((i : Int) + (j : Int)) / 2 = (h : Int) := by omega
          have p3 : IntKind.i64.wrap (h : Int) = (h : Int) := IntWalk.i64_in _ (by omega)
          have p4 : IntKind.i64.wrap ((h : Int) + 1) = (h : Int) + 1 := IntWalk.i64_in _ (by omega)
          have b1 : (0 : Int) ≤ (h : Int) := by omega
          have b2 : (h : Int) < (N : Int) := by omega
          have hq := HPL.out h (by omega) (by omega)
          have hq1 := hq.1
          have hq2 := hq.2
          clear hq
          have b3 : (0 : Int) ≤ (pp : Int) - (h : Int) := by omega
          have b4 : (pp : Int) - (h : Int) < (N : Int) := by omega
          have b5 : ((pp : Int) - (h : Int)).toNat = pp - h := by omega
          have b6 : IntKind.i64.wrap ((pp : Int) - (h : Int)) = (pp : Int) - (h : Int) := IntWalk.i64_in _ (by omega)
          clear hh
          cases hp : (fun q => !(ltOf cf (A ++ X ++ Y ++ B).toArray[pp - q]! (A ++ X ++ Y ++ B).toArray[q]!)) h with
          | true =>
            have hv : ltOf cf (A ++ X ++ Y ++ B).toArray[pp - h]! (A ++ X ++ Y ++ B).toArray[h]! = false := by have := hp; simpa using this
            have I3 : Aside (UpF (fun q => !(ltOf cf (A ++ X ++ Y ++ B).toArray[pp - q]! (A ++ X ++ Y ++ B).toArray[q]!)) (lo) (h + 1)) := bs_up HM.out (by omega) (by omega) hp
            clear hp
            have la := SWK.ld S1.out RR.out HDS.out P (pp - h) (by rw [HDS.out, ← HND.out]; omega)
            have lb := SWK.ld S1.out RR.out HDS.out P (h) (by rw [HDS.out, ← HND.out]; omega)
            obtain ⟨x1, hx1⟩ : ∃ z, (A ++ X ++ Y ++ B).toArray[pp - h]! = z := ⟨_, rfl⟩
            obtain ⟨y1, hy1⟩ : ∃ z, (A ++ X ++ Y ++ B).toArray[h]! = z := ⟨_, rfl⟩
            rw [hx1] at la
            rw [hy1] at lb
            have hc := SWK.cmp S1.out HC.out HDS.out x1 y1
            have hd : decide (cf x1 y1 < 0) = false := by have := hv; rw [hx1, hy1] at this; exact this
            clear hx1 hy1 hv
            have hd1 : ¬ cf x1 y1 < 0 := of_decide_eq_false hd
            go_wp2_with fail
            go_quiet_grown (first | (go_at_fn g; refine Calls.grown_of (hc _ _)))
            have S2 : Aside (SL enc k w0 blk off (A ++ X ++ Y ++ B) (grow (wr.drewN nq) osq)) := SWK.grown S1.out nq osq
            clear la lb hc S1
            generalize grow (wr.drewN nq) osq = w2 at S2 ⊢
            clear nq osq
            go_wp2_with fail
            go_roundg (j - (h + 1))
            case measure => omega
            case rel => exact ⟨h + 1, j, by go_num, rfl, by omega, by omega, by omega, Nat.le_refl _, S2, I3, I2⟩
          | false =>
            have hv : ltOf cf (A ++ X ++ Y ++ B).toArray[pp - h]! (A ++ X ++ Y ++ B).toArray[h]! = true := by have := hp; simpa using this
            have I3 : Aside (OffF (fun q => !(ltOf cf (A ++ X ++ Y ++ B).toArray[pp - q]! (A ++ X ++ Y ++ B).toArray[q]!)) h (hi)) := bs_off HM.out (by omega) (by omega) hp
            clear hp
            have la := SWK.ld S1.out RR.out HDS.out P (pp - h) (by rw [HDS.out, ← HND.out]; omega)
            have lb := SWK.ld S1.out RR.out HDS.out P (h) (by rw [HDS.out, ← HND.out]; omega)
            obtain ⟨x1, hx1⟩ : ∃ z, (A ++ X ++ Y ++ B).toArray[pp - h]! = z := ⟨_, rfl⟩
            obtain ⟨y1, hy1⟩ : ∃ z, (A ++ X ++ Y ++ B).toArray[h]! = z := ⟨_, rfl⟩
            rw [hx1] at la
            rw [hy1] at lb
            have hc := SWK.cmp S1.out HC.out HDS.out x1 y1
            have hd : decide (cf x1 y1 < 0) = true := by have := hv; rw [hx1, hy1] at this; exact this
            clear hx1 hy1 hv
            have hd1 : cf x1 y1 < 0 := of_decide_eq_true hd
            go_wp2_with fail
            go_quiet_grown (first | (go_at_fn g; refine Calls.grown_of (hc _ _)))
            have S2 : Aside (SL enc k w0 blk off (A ++ X ++ Y ++ B) (grow (wr.drewN nq) osq)) := SWK.grown S1.out nq osq
            clear la lb hc S1
            generalize grow (wr.drewN nq) osq = w2 at S2 ⊢
            clear nq osq
            go_wp2_with fail
            go_roundg (h - i)
            case measure => omega
            case rel => exact ⟨i, h, rfl, rfl, by omega, by omega, by omega, Nat.le_refl _, S2, I1, I3⟩
        · obtain rfl : i = j := by omega
          have dk : decide ((i : Int) < (i : Int)) = false := decide_eq_false (by omega)
          obtain ⟨ee, hee⟩ : ∃ ee : Nat, mid + m - i = ee := ⟨_, rfl⟩
          have g1 : IntKind.i64.wrap ((nn : Int) - (i : Int)) = (ee : Int) := by have := HNN.out; rw [IntWalk.i64_in _ (by omega)]; omega
          have HEE := Lib.hid hee
          have hME := Lib.hid (HEND.out i hmi hjb I1.out I2.out)
          have h1 : lo ≤ i := hmi
          have h2 : i ≤ hi := hjb
          have hRO := fun w => HRO.out i w h1 h2
          have hRN := fun w => HRN.out i w h1 h2
          have hLO := fun w => HLO.out i w h1 h2
          have hLN := fun w => HLN.out i w h1 h2
          have hHI := fun w => HHI.out i w h1 h2
          have hHN := fun w => HHN.out i w h1 h2
          rw [hee] at hRO hHI hHN
          have hmm : (m < ee) ↔ (i < mid) := by omega
          have hmi2 : (mid < ee) ↔ (i < m) := by omega
          obtain ⟨T1, ht1⟩ : ∃ t, A ++ X.take (i - a) ++ Y.take (mid - i) ++ (X.drop (i - a) ++ (Y.drop (mid - i) ++ B)) = t := ⟨_, rfl⟩
          obtain ⟨T2, ht2⟩ : ∃ t, A ++ mrg (ltOf cf) (X.take (i - a)) (Y.take (mid - i)) ++ (X.drop (i - a) ++ (Y.drop (mid - i) ++ B)) = t := ⟨_, rfl⟩
          obtain ⟨T3, ht3⟩ : ∃ t, A ++ (mrg (ltOf cf) (X.take (i - a)) (Y.take (mid - i)) ++ mrg (ltOf cf) (X.drop (i - a)) (Y.drop (mid - i))) ++ B = t := ⟨_, rfl⟩
          rw [ht1] at hRO hRN hLO hLN
          rw [ht2] at hLO hLN hHI hHN
          rw [ht3] at hHI hHN
          have HT3 := Lib.hid (show A ++ mrg (ltOf cf) X Y ++ B = T3 by rw [hME.out, ht3])
          have KRO := Lib.hid hRO
          have KRN := Lib.hid hRN
          have KLO := Lib.hid hLO
          have KLN := Lib.hid hLN
          have KHI := Lib.hid hHI
          have KHN := Lib.hid hHN
          clear hRO hRN hLO hLN hHI hHN ht1 ht2 ht3 HRO HRN HLO HLN HHI HHN hME HEND HM I1 I2 hee hij hgk hlt hmi hjb f5
          by_cases c1 : i < m
          · by_cases c2 : i < mid
            · by_cases c3 : a < i
              · by_cases c4 : ee < b
                · have cM : m < ee := hmm.2 c2
                  have cD : mid < ee := hmi2.2 c1
                  have hC := KRO.out wr c1 c2 S1.out
                  clear S1
                  go_wp2_with fail
                  refine hC.mono ?_; rintro e w1 ⟨rfl, S2q⟩
                  have S2 : Aside _ := S2q
                  clear S2q hC
                  go_wp2_with fail
                  have hC := KLO.out w1 c3 c2 S2.out
                  clear S2
                  refine hC.mono ?_; rintro e w2 ⟨rfl, S3q⟩
                  have S3 : Aside _ := S3q
                  clear S3q hC
                  go_wp2_with fail
                  have hC := KHI.out w2 c1 c4 S3.out
                  clear S3
                  refine hC.mono ?_; rintro e w3 ⟨rfl, S4q⟩
                  have S4 : Aside _ := S4q
                  clear S4q hC
                  go_wp2_with fail
                  go_end0
                  exact ⟨rfl, by rw [HT3.out]; exact S4.out⟩
                · have cM : m < ee := hmm.2 c2
                  have cD : mid < ee := hmi2.2 c1
                  have hC := KRO.out wr c1 c2 S1.out
                  clear S1
                  go_wp2_with fail
                  refine hC.mono ?_; rintro e w1 ⟨rfl, S2q⟩
                  have S2 : Aside _ := S2q
                  clear S2q hC
                  go_wp2_with fail
                  have hC := KLO.out w1 c3 c2 S2.out
                  clear S2
                  refine hC.mono ?_; rintro e w2 ⟨rfl, S3q⟩
                  have S3 : Aside _ := S3q
                  clear S3q hC
                  go_wp2_with fail
                  have S4 : Aside _ := KHN.out w2 (.inr (by omega)) S3.out
                  clear S3
                  go_end0
                  exact ⟨rfl, by rw [HT3.out]; exact S4.out⟩
              · by_cases c4 : ee < b
                · have cM : m < ee := hmm.2 c2
                  have cD : mid < ee := hmi2.2 c1
                  have hC := KRO.out wr c1 c2 S1.out
                  clear S1
                  go_wp2_with fail
                  refine hC.mono ?_; rintro e w1 ⟨rfl, S2q⟩
                  have S2 : Aside _ := S2q
                  clear S2q hC
                  go_wp2_with fail
                  have S3 : Aside _ := KLN.out w1 (.inl (by omega)) S2.out
                  clear S2
                  have hC := KHI.out w1 c1 c4 S3.out
                  clear S3
                  refine hC.mono ?_; rintro e w3 ⟨rfl, S4q⟩
                  have S4 : Aside _ := S4q
                  clear S4q hC
                  go_wp2_with fail
                  go_end0
                  exact ⟨rfl, by rw [HT3.out]; exact S4.out⟩
                · have cM : m < ee := hmm.2 c2
                  have cD : mid < ee := hmi2.2 c1
                  have hC := KRO.out wr c1 c2 S1.out
                  clear S1
                  go_wp2_with fail
                  refine hC.mono ?_; rintro e w1 ⟨rfl, S2q⟩
                  have S2 : Aside _ := S2q
                  clear S2q hC
                  go_wp2_with fail
                  have S3 : Aside _ := KLN.out w1 (.inl (by omega)) S2.out
                  clear S2
                  have S4 : Aside _ := KHN.out w1 (.inr (by omega)) S3.out
                  clear S3
                  go_end0
                  exact ⟨rfl, by rw [HT3.out]; exact S4.out⟩
            · by_cases c3 : a < i
              · by_cases c4 : ee < b
                · have cM : ¬ m < ee := fun h => c2 (hmm.1 h)
                  have cD : mid < ee := hmi2.2 c1
                  have S2 : Aside _ := KRN.out wr (.inr (by omega)) S1.out
                  clear S1
                  have S3 : Aside _ := KLN.out wr (.inr (by omega)) S2.out
                  clear S2
                  have hC := KHI.out wr c1 c4 S3.out
                  clear S3
                  go_wp2_with fail
                  refine hC.mono ?_; rintro e w3 ⟨rfl, S4q⟩
                  have S4 : Aside _ := S4q
                  clear S4q hC
                  go_wp2_with fail
                  go_end0
                  exact ⟨rfl, by rw [HT3.out]; exact S4.out⟩
                · have cM : ¬ m < ee := fun h => c2 (hmm.1 h)
                  have cD : mid < ee := hmi2.2 c1
                  have S2 : Aside _ := KRN.out wr (.inr (by omega)) S1.out
                  clear S1
                  have S3 : Aside _ := KLN.out wr (.inr (by omega)) S2.out
                  clear S2
                  have S4 : Aside _ := KHN.out wr (.inr (by omega)) S3.out
                  clear S3
                  go_wp2_with fail
                  go_end0
                  exact ⟨rfl, by rw [HT3.out]; exact S4.out⟩
              · by_cases c4 : ee < b
                · have cM : ¬ m < ee := fun h => c2 (hmm.1 h)
                  have cD : mid < ee := hmi2.2 c1
                  have S2 : Aside _ := KRN.out wr (.inr (by omega)) S1.out
                  clear S1
                  have S3 : Aside _ := KLN.out wr (.inl (by omega)) S2.out
                  clear S2
                  have hC := KHI.out wr c1 c4 S3.out
                  clear S3
                  go_wp2_with fail
                  refine hC.mono ?_; rintro e w3 ⟨rfl, S4q⟩
                  have S4 : Aside _ := S4q
                  clear S4q hC
                  go_wp2_with fail
                  go_end0
                  exact ⟨rfl, by rw [HT3.out]; exact S4.out⟩
                · have cM : ¬ m < ee := fun h => c2 (hmm.1 h)
                  have cD : mid < ee := hmi2.2 c1
                  have S2 : Aside _ := KRN.out wr (.inr (by omega)) S1.out
                  clear S1
                  have S3 : Aside _ := KLN.out wr (.inl (by omega)) S2.out
                  clear S2
                  have S4 : Aside _ := KHN.out wr (.inr (by omega)) S3.out
                  clear S3
                  go_wp2_with fail
                  go_end0
                  exact ⟨rfl, by rw [HT3.out]; exact S4.out⟩
          · by_cases c2 : i < mid
            · by_cases c3 : a < i
              · by_cases c4 : ee < b
                · have cM : m < ee := hmm.2 c2
                  have cD : ¬ mid < ee := fun h => c1 (hmi2.1 h)
                  have S2 : Aside _ := KRN.out wr (.inl (by omega)) S1.out
                  clear S1
                  have hC := KLO.out wr c3 c2 S2.out
                  clear S2
                  go_wp2_with fail
                  refine hC.mono ?_; rintro e w2 ⟨rfl, S3q⟩
                  have S3 : Aside _ := S3q
                  clear S3q hC
                  go_wp2_with fail
                  have S4 : Aside _ := KHN.out w2 (.inl (by omega)) S3.out
                  clear S3
                  go_end0
                  exact ⟨rfl, by rw [HT3.out]; exact S4.out⟩
                · have cM : m < ee := hmm.2 c2
                  have cD : ¬ mid < ee := fun h => c1 (hmi2.1 h)
                  have S2 : Aside _ := KRN.out wr (.inl (by omega)) S1.out
                  clear S1
                  have hC := KLO.out wr c3 c2 S2.out
                  clear S2
                  go_wp2_with fail
                  refine hC.mono ?_; rintro e w2 ⟨rfl, S3q⟩
                  have S3 : Aside _ := S3q
                  clear S3q hC
                  go_wp2_with fail
                  have S4 : Aside _ := KHN.out w2 (.inl (by omega)) S3.out
                  clear S3
                  go_end0
                  exact ⟨rfl, by rw [HT3.out]; exact S4.out⟩
              · by_cases c4 : ee < b
                · have cM : m < ee := hmm.2 c2
                  have cD : ¬ mid < ee := fun h => c1 (hmi2.1 h)
                  have S2 : Aside _ := KRN.out wr (.inl (by omega)) S1.out
                  clear S1
                  have S3 : Aside _ := KLN.out wr (.inl (by omega)) S2.out
                  clear S2
                  have S4 : Aside _ := KHN.out wr (.inl (by omega)) S3.out
                  clear S3
                  go_wp2_with fail
                  go_end0
                  exact ⟨rfl, by rw [HT3.out]; exact S4.out⟩
                · have cM : m < ee := hmm.2 c2
                  have cD : ¬ mid < ee := fun h => c1 (hmi2.1 h)
                  have S2 : Aside _ := KRN.out wr (.inl (by omega)) S1.out
                  clear S1
                  have S3 : Aside _ := KLN.out wr (.inl (by omega)) S2.out
                  clear S2
                  have S4 : Aside _ := KHN.out wr (.inl (by omega)) S3.out
                  clear S3
                  go_wp2_with fail
                  go_end0
                  exact ⟨rfl, by rw [HT3.out]; exact S4.out⟩
            · by_cases c3 : a < i
              · by_cases c4 : ee < b
                · have cM : ¬ m < ee := fun h => c2 (hmm.1 h)
                  have cD : ¬ mid < ee := fun h => c1 (hmi2.1 h)
                  have S2 : Aside _ := KRN.out wr (.inl (by omega)) S1.out
                  clear S1
                  have S3 : Aside _ := KLN.out wr (.inr (by omega)) S2.out
                  clear S2
                  have S4 : Aside _ := KHN.out wr (.inl (by omega)) S3.out
                  clear S3
                  go_wp2_with fail
                  go_end0
                  exact ⟨rfl, by rw [HT3.out]; exact S4.out⟩
                · have cM : ¬ m < ee := fun h => c2 (hmm.1 h)
                  have cD : ¬ mid < ee := fun h => c1 (hmi2.1 h)
                  have S2 : Aside _ := KRN.out wr (.inl (by omega)) S1.out
                  clear S1
                  have S3 : Aside _ := KLN.out wr (.inr (by omega)) S2.out
                  clear S2
                  have S4 : Aside _ := KHN.out wr (.inl (by omega)) S3.out
                  clear S3
                  go_wp2_with fail
                  go_end0
                  exact ⟨rfl, by rw [HT3.out]; exact S4.out⟩
              · by_cases c4 : ee < b
                · have cM : ¬ m < ee := fun h => c2 (hmm.1 h)
                  have cD : ¬ mid < ee := fun h => c1 (hmi2.1 h)
                  have S2 : Aside _ := KRN.out wr (.inl (by omega)) S1.out
                  clear S1
                  have S3 : Aside _ := KLN.out wr (.inl (by omega)) S2.out
                  clear S2
                  have S4 : Aside _ := KHN.out wr (.inl (by omega)) S3.out
                  clear S3
                  go_wp2_with fail
                  go_end0
                  exact ⟨rfl, by rw [HT3.out]; exact S4.out⟩
                · have cM : ¬ m < ee := fun h => c2 (hmm.1 h)
                  have cD : ¬ mid < ee := fun h => c1 (hmi2.1 h)
                  have S2 : Aside _ := KRN.out wr (.inl (by omega)) S1.out
                  clear S1
                  have S3 : Aside _ := KLN.out wr (.inl (by omega)) S2.out
                  clear S2
                  have S4 : Aside _ := KHN.out wr (.inl (by omega)) S3.out
                  clear S3
                  go_wp2_with fail
                  go_end0
                  exact ⟨rfl, by rw [HT3.out]; exact S4.out⟩
end
end Go.Proofs.Ytipmlbbbjafpiaa
