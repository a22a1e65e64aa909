/- What the library's stable sort comes to at elements of k cells, over any program that bears its functions. Conditions: as stated. -/
import Derived.Test.YtipmlbbbjafpiaaStbPlain
import Derived.Test.YtipmlbbbjafpiaaProg
import Derived.Shelf.SlSortCmp.KitK
import Derived.WalkKit
import Derived.ProofKit
import Derived.Handy
import Derived.IntWalk
import Derived.Lib.Hide
import Derived.Deep.DeepCutAuto
import Derived.Deep.CutBlock
namespace Go.Proofs.Ytipmlbbbjafpiaa
open Go.RowKit
open Go.Sort (SWO HoldsK flatK Holds grow swp)
set_option linter.unusedVariables false
set_option maxRecDepth 100000
set_option linter.unusedSimpArgs false
set_option linter.unusedSectionVars false

/-- A program that bears the functions of the sort. -/
structure StL (P : Program) : Prop where
  mixed : P.follows .mixedOrders = true
  fSW : P.funcs[36]? = some Try.f36
  fRO : P.funcs[35]? = some Try.f35
  fSY : P.funcs[31]? = some Try.f31
  fST : P.funcs[27]? = some Try.f27
  t0 : P.underlying 0 = some (.tuple #[])
  t3 : P.underlying 3 = some (.int .i64)
  a3 : ∀ w, (isAgg 3).run P w = .ok false w
  z3 : ∀ w, (Go.sizeOf 3).run P w = .ok 1 w
  v3 : ∀ w, (zeroValue 3).run P w = .ok (.int .i64 0) w
  t4 : P.underlying 4 = some (.bool)
  a4 : ∀ w, (isAgg 4).run P w = .ok false w
  z4 : ∀ w, (Go.sizeOf 4).run P w = .ok 1 w
  v4 : ∀ w, (zeroValue 4).run P w = .ok (.bool false) w
  tS : P.underlying 26 = some (.slice 25)
  aS : ∀ w, (isAgg 26).run P w = .ok false w
  zS : ∀ w, (Go.sizeOf 26).run P w = .ok 1 w
  vS : ∀ w, (zeroValue 26).run P w = .ok (.slice none 0 0) w
  tF : P.underlying 47 = some (.func #[25, 25] #[3] false)
  aF : ∀ w, (isAgg 47).run P w = .ok false w
  zF : ∀ w, (Go.sizeOf 47).run P w = .ok 1 w
  vF : ∀ w, (zeroValue 47).run P w = .ok (.nilFunc) w
  tU : P.underlying 59 = some (.int .u64)
  aU : ∀ w, (isAgg 59).run P w = .ok false w
  zU : ∀ w, (Go.sizeOf 59).run P w = .ok 1 w
  vU : ∀ w, (zeroValue 59).run P w = .ok (.int .u64 0) w
theorem stL_here : StL Try.prog := ⟨by kernel_rfl, Try.func36, Try.func35, Try.func31, Try.func27, Try.underlying0, Try.underlying3, Try.isAgg3, Try.sizeOf3, Try.zeroValue3, Try.underlying4, Try.isAgg4, Try.sizeOf4, Try.zeroValue4, Try.underlying26, Try.isAgg26, Try.sizeOf26, Try.zeroValue26, Try.underlying47, Try.isAgg47, Try.sizeOf47, Try.zeroValue47, Try.underlying59, Try.isAgg59, Try.sizeOf59, Try.zeroValue59⟩
section
variable {α : Type} [Inhabited α]
/-- The row, in some world of the sort's. -/
def SL (enc : α → List Value) (k : Nat) (w0 : World) (blk off : Nat) (l : List α) (W : World) : Prop := SWK enc k w0 blk off l.toArray W
/-- Ranges of which the first i are exchanged. -/
def mixL (A X M Y B : List α) (i : Nat) : List α := (A ++ Y.take i) ++ X.drop i ++ M ++ X.take i ++ Y.drop i ++ B
theorem mixL_zero (A X M Y B : List α) : mixL A X M Y B 0 = A ++ X ++ M ++ Y ++ B := by simp [mixL]
theorem mixL_all (A X M Y B : List α) (h : X.length = Y.length) : mixL A X M Y B X.length = A ++ Y ++ M ++ X ++ B := by
  unfold mixL
  rw [List.drop_length, List.take_length, h, List.drop_length, List.take_length]; simp
theorem mixL_len (A X M Y B : List α) (i : Nat) (h : X.length = Y.length) (hk : i ≤ X.length) : (mixL A X M Y B i).length = A.length + X.length + M.length + Y.length + B.length := by
  unfold mixL; simp; omega
theorem mixL_next (A X M Y B : List α) (i : Nat) (h : X.length = Y.length) (hk : i < X.length) : swp (mixL A X M Y B i).toArray (A.length + i) (A.length + X.length + M.length + i) = (mixL A X M Y B (i + 1)).toArray := by
  have e1 : X.drop i = X[i] :: X.drop (i + 1) := List.drop_eq_getElem_cons hk
  have hk2 : i < Y.length := by omega
  have e2 : Y.drop i = Y[i] :: Y.drop (i + 1) := List.drop_eq_getElem_cons hk2
  have e3 : mixL A X M Y B i = (A ++ Y.take i) ++ X[i] :: (X.drop (i + 1) ++ M ++ X.take i) ++ Y[i] :: (Y.drop (i + 1) ++ B) := by
    unfold mixL; rw [e1, e2]; simp only [List.append_assoc, List.cons_append, List.nil_append]
  rw [e3, swp_list _ _ _ _ _ _ _ (by simp; omega) (by simp; omega)]
  unfold mixL
  rw [List.take_succ_eq_append_getElem hk, List.take_succ_eq_append_getElem hk2]
  simp only [List.append_assoc, List.cons_append, List.nil_append]
variable {P : Program} {enc : α → List Value} {k : Nat} {w0 : World} {blk off : Nat} {d0 : Array α}
set_option maxHeartbeats 4000000 in
theorem stb_swap (L : StL P) (aE : ∀ w, (isAgg 25).run P w = .ok true w) (zE : ∀ w, (Go.sizeOf 25).run P w = .ok k w) (R : RowK enc k w0 blk off d0) (fv : Value) (W : World) (cap a b n N : Nat) (A X M Y B : List α) (hN : N = d0.size) (hs : A.length + X.length + M.length + Y.length + B.length = N) (hXY : X.length = Y.length) (ha : a = A.length) (hb : b = A.length + X.length + M.length) (hn : n = X.length) (hsz : N ≤ 1152921504606846976) (h : SL enc k w0 blk off (A ++ X ++ M ++ Y ++ B) W) :
    Calls P 36 #[.slice (some ⟨blk, off, none⟩) N cap, .int .i64 a, .int .i64 b, .int .i64 n, fv] W fun e w' => e = .returned (.tuple #[]) ∧ SL enc k w0 blk off (A ++ Y ++ M ++ X ++ B) w' := by
  have hmx := L.mixed; have t0 := L.t0; have t3 := L.t3; have a3 := L.a3; have z3 := L.z3; have v3 := L.v3; have t4 := L.t4; have a4 := L.a4; have z4 := L.z4; have v4 := L.v4; have tS := L.tS; have aS := L.aS; have zS := L.zS; have vS := L.vS; have tF := L.tF; have aF := L.aF; have zF := L.zF; have vF := L.vF; have tU := L.tU; have aU := L.aU; have zU := L.zU; have vU := L.vU
  have RR : Aside _ := R
  have HM := Lib.hid (show ∀ i, i < n → swp (mixL A X M Y B i).toArray (a + i) (b + i) = (mixL A X M Y B (i + 1)).toArray from fun i hk => by rw [ha, hb]; exact mixL_next A X M Y B i hXY (by omega))
  have HS := Lib.hid (show ∀ i, i ≤ n → (mixL A X M Y B i).toArray.size = d0.size from fun i hk => by rw [List.size_toArray, mixL_len A X M Y B i hXY (by omega)]; omega)
  have S0 : Aside (SL enc k w0 blk off (mixL A X M Y B 0) W) := by rw [mixL_zero]; exact h
  have HE := Lib.hid (show mixL A X M Y B n = A ++ Y ++ M ++ X ++ B by rw [hn]; exact mixL_all A X M Y B hXY)
  have hab : a + n ≤ b := by omega
  have hbN : b + n ≤ N := by omega
  clear h R ha hb hn hXY hs
  have FG := L.fSW
  go_enter FG, Try.ntmps36
  go_wp2_with fail
  go_loopg [10] n (fun g i wr => ∃ q : Nat, q ≤ n ∧ n - q ≤ g ∧ i = .int .i64 q ∧ Aside (SL enc k w0 blk off (mixL A X M Y B q) wr))
  case atStart => exact ⟨0, by omega, by omega, rfl, S0⟩
  case round =>
    obtain ⟨q, hk, hg, rfl, S1⟩ := hrel
    clear S0
    by_cases hlt : q < n
    · have dk : decide ((q : Int) < (n : Int)) = true := decide_eq_true (by omega)
      have hds : (mixL A X M Y B q).toArray.size = d0.size := HS.out q hk
      have p1 : (0 : Int) ≤ (a : Int) + (q : Int) := by omega
      have p2 : (a : Int) + (q : Int) < (N : Int) := by omega
      have p3 : (0 : Int) ≤ (b : Int) + (q : Int) := by omega
      have p4 : (b : Int) + (q : Int) < (N : Int) := by omega
      have p5 : ((a : Int) + (q : Int)).toNat = a + q := by omega
      have p6 : ((b : Int) + (q : Int)).toNat = b + q := by omega
      have r5 : IntKind.i64.wrap ((a : Int) + (q : Int)) = (a : Int) + (q : Int) := IntWalk.i64_in _ (by omega)
      have r6 : IntKind.i64.wrap ((b : Int) + (q : Int)) = (b : Int) + (q : Int) := IntWalk.i64_in _ (by omega)
      have hi : a + q < (mixL A X M Y B q).toArray.size := by rw [hds]; omega
      have hj : b + q < (mixL A X M Y B q).toArray.size := by rw [hds]; omega
      have S2 : Aside (SL enc k w0 blk off (mixL A X M Y B (q + 1)) ((wr.drew.setCells blk (off + (a + q) * k) (enc (mixL A X M Y B q).toArray[b + q]!)).setCells blk (off + (b + q) * k) (enc (mixL A X M Y B q).toArray[a + q]!))) := by
        have := SWK.swapped S1.out RR.out (a + q) (b + q) hi hj
        rw [HM.out q hlt] at this
        exact this
      have la := SWK.ld1 S1.out RR.out hds P (a + q) hi
      have lb := SWK.ld1 S1.out RR.out hds P (b + q) hj
      have sa := SWK.st1 S1.out RR.out hds P (a + q) hi (mixL A X M Y B q).toArray[b + q]!
      have sb := SWK.st2 S1.out RR.out hds P (a + q) (b + q) hi hj (mixL A X M Y B q).toArray[b + q]! (mixL A X M Y B q).toArray[a + q]!
      have na : (enc (mixL A X M Y B q).toArray[a + q]!).length = k := RR.out.hk _
      have nb : (enc (mixL A X M Y B q).toArray[b + q]!).length = k := RR.out.hk _
      clear hi hj hds
      generalize enc (mixL A X M Y B q).toArray[a + q]! = cI at *
      generalize enc (mixL A X M Y B q).toArray[b + q]! = cJ at *
      clear S1
      go_wp2_with fail
      go_big_region_o
      clear la lb sa sb na nb
      generalize (wr.drew.setCells blk (off + (a + q) * k) cJ).setCells blk (off + (b + q) * k) cI = w2 at *
      go_wp2_with fail
      go_roundg (n - (q + 1))
      case measure => omega
      case rel => exact ⟨q + 1, by omega, by omega, by go_num, S2⟩
    · obtain rfl : q = n := by omega
      have dk : decide ((q : Int) < (q : Int)) = false := decide_eq_false (by omega)
      have HQ : Aside (SL enc k w0 blk off (A ++ Y ++ M ++ X ++ B) wr) := by have := S1.out; rw [HE.out] at this; exact this
      clear S1
      go_wp2_with fail
      go_end0
      exact ⟨rfl, HQ.out⟩
set_option maxHeartbeats 4000000 in
theorem stb_rotate (L : StL P) (aE : ∀ w, (isAgg 25).run P w = .ok true w) (zE : ∀ w, (Go.sizeOf 25).run P w = .ok k w) (R : RowK enc k w0 blk off d0) (fv : Value) (W : World) (cap a m b N : Nat) (A X Y B : List α) (hN : N = d0.size) (hs : A.length + X.length + Y.length + B.length = N) (hX : 0 < X.length) (hY : 0 < Y.length) (ha : a = A.length) (hm : m = A.length + X.length) (hb : b = A.length + X.length + Y.length) (hsz : N ≤ 1152921504606846976) (h : SL enc k w0 blk off (A ++ X ++ Y ++ B) W) :
    Calls P 35 #[.slice (some ⟨blk, off, none⟩) N cap, .int .i64 a, .int .i64 m, .int .i64 b, fv] W fun e w' => e = .returned (.tuple #[]) ∧ SL enc k w0 blk off (A ++ Y ++ X ++ B) w' := by
  have hmx := L.mixed; have t0 := L.t0; have t3 := L.t3; have a3 := L.a3; have z3 := L.z3; have v3 := L.v3; have t4 := L.t4; have a4 := L.a4; have z4 := L.z4; have v4 := L.v4; have tS := L.tS; have aS := L.aS; have zS := L.zS; have vS := L.vS; have tF := L.tF; have aF := L.aF; have zF := L.zF; have vF := L.vF; have tU := L.tU; have aU := L.aU; have zU := L.zU; have vU := L.vU
  have eSW : ∀ args w, (callFunc 36 args).run P w = .ok (.enter 36 args) w := enters_of L.fSW (by kernel_rfl) rfl
  have CS := Lib.hid (fun W a b n A X M Y B => stb_swap L aE zE R fv W cap a b n N A X M Y B hN)
  have S0 : Aside (∃ A' X' Y' B' : List α, A'.length + X.length = m ∧ X'.length = X.length ∧ Y'.length = Y.length ∧ A'.length + X'.length + Y'.length + B'.length = N ∧ A' ++ Y' ++ X' ++ B' = A ++ Y ++ X ++ B ∧ SL enc k w0 blk off (A' ++ X' ++ Y' ++ B') W) := ⟨A, X, Y, B, hm.symm, rfl, rfl, hs, rfl, h⟩
  have FG := L.fRO
  have e1 : (m : Int) - (a : Int) = (X.length : Int) := by omega
  have e2 : (b : Int) - (m : Int) = (Y.length : Int) := by omega
  have w1 : IntKind.i64.wrap ((m : Int) - (a : Int)) = (X.length : Int) := by rw [e1]; exact IntWalk.i64_in _ (by omega)
  have w2 : IntKind.i64.wrap ((b : Int) - (m : Int)) = (Y.length : Int) := by rw [e2]; exact IntWalk.i64_in _ (by omega)
  have hmN : m ≤ N := by omega
  obtain ⟨x0, hx0⟩ : ∃ x, X.length = x := ⟨_, rfl⟩
  obtain ⟨y0, hy0⟩ : ∃ x, Y.length = x := ⟨_, rfl⟩
  rw [hx0, hy0] at S0
  rw [hx0] at w1 hX
  rw [hy0] at w2 hY
  have hxy : x0 + y0 ≤ N := by omega
  clear h R ha hm hb hs e1 e2 hx0 hy0 hN
  go_enter FG, Try.ntmps35
  go_wp2_with fail
  go_loopg [10, 11] (x0 + y0) (fun g s10 s11 wr => ∃ i j : Nat, i + j ≤ g ∧ i + j ≤ N ∧ 0 < i ∧ 0 < j ∧ s10 = .int .i64 i ∧ s11 = .int .i64 j ∧ Aside (∃ A' X' Y' B' : List α, A'.length + i = m ∧ X'.length = i ∧ Y'.length = j ∧ A'.length + X'.length + Y'.length + B'.length = N ∧ A' ++ Y' ++ X' ++ B' = A ++ Y ++ X ++ B ∧ SL enc k w0 blk off (A' ++ X' ++ Y' ++ B') wr))
  case atStart => exact ⟨x0, y0, by omega, by omega, hX, hY, rfl, rfl, S0⟩
  case round =>
    obtain ⟨i, j, hg, hij, hi0, hj0, rfl, rfl, S1⟩ := hrel
    clear S0 w1 w2
    obtain ⟨A', X', Y', B', l1, l2, l3, l4, heq, hSL⟩ := S1.out
    clear S1
    have HEQ := Lib.hid heq
    clear heq
    have v1 : IntKind.i64.wrap ((m : Int) - (i : Int)) = (m : Int) - (i : Int) := IntWalk.i64_in _ (by omega)
    have c1 : ((A'.length : Nat) : Int) = (m : Int) - (i : Int) := by omega
    rcases Nat.lt_trichotomy i j with hlt | heq | hgt
    · have v2 : IntKind.i64.wrap ((m : Int) + (j : Int)) = (m : Int) + (j : Int) := IntWalk.i64_in _ (by omega)
      have v3 : IntKind.i64.wrap ((m : Int) + (j : Int) - (i : Int)) = (m : Int) + (j : Int) - (i : Int) := IntWalk.i64_in _ (by omega)
      have v4 : IntKind.i64.wrap ((j : Int) - (i : Int)) = ((j - i : Nat) : Int) := by rw [IntWalk.i64_in _ (by omega)]; omega
      have d1 : ((i : Int) != (j : Int)) = true := by simp; omega
      have d2 : decide ((j : Int) < (i : Int)) = false := decide_eq_false (by omega)
      have c2 : ((m + j - i : Nat) : Int) = (m : Int) + (j : Int) - (i : Int) := by omega
      have hC := CS.out wr A'.length (m + j - i) i A' X' (Y'.take (j - i)) (Y'.drop (j - i)) B' (by rw [List.length_take, List.length_drop]; omega) (by rw [List.length_drop]; omega) rfl (by rw [List.length_take]; omega) l2.symm hsz (by rw [show A' ++ X' ++ Y'.take (j - i) ++ Y'.drop (j - i) ++ B' = A' ++ X' ++ Y' ++ B' by rw [List.append_assoc (A' ++ X'), List.take_append_drop]]; exact hSL)
      rw [c1, c2] at hC
      have HN : Aside (∀ w', SL enc k w0 blk off (A' ++ Y'.drop (j - i) ++ Y'.take (j - i) ++ X' ++ B') w' → ∃ A2 X2 Y2 B2 : List α, A2.length + i = m ∧ X2.length = i ∧ Y2.length = j - i ∧ A2.length + X2.length + Y2.length + B2.length = N ∧ A2 ++ Y2 ++ X2 ++ B2 = A ++ Y ++ X ++ B ∧ SL enc k w0 blk off (A2 ++ X2 ++ Y2 ++ B2) w') := fun w' hw =>
        ⟨A', Y'.drop (j - i), Y'.take (j - i), X' ++ B', l1, by rw [List.length_drop]; omega, by rw [List.length_take]; omega, by rw [List.length_take, List.length_drop, List.length_append]; omega, by
          rw [← HEQ.out]
          conv => rhs; rw [← List.take_append_drop (j - i) Y']
          simp only [List.append_assoc], by simpa only [List.append_assoc] using hw⟩
      clear hSL l1 l2 l3 l4 c1 c2 CS
      go_wp2_with (go_at_fn 36; refine hC.mono ?_; rintro e w1 ⟨rfl, S2⟩)
      have S3 : Aside _ := HN.out _ S2
      clear S2 HN hC
      go_roundg (i + (j - i))
      case measure => omega
      case rel => exact ⟨i, j - i, by omega, by omega, hi0, by omega, rfl, rfl, S3⟩
    · subst heq
      have d1 : ((i : Int) != (i : Int)) = false := by simp
      have hC := CS.out wr A'.length m i A' X' [] Y' B' (by simp; omega) (by omega) rfl (by simp; omega) l2.symm hsz (by simpa using hSL)
      rw [c1] at hC
      have HN : Aside (∀ w', SL enc k w0 blk off (A' ++ Y' ++ [] ++ X' ++ B') w' → SL enc k w0 blk off (A ++ Y ++ X ++ B) w') := fun w' hw => by rw [← HEQ.out]; simpa using hw
      clear hSL l1 l2 l3 l4 c1 CS
      go_wp2_with (go_at_fn 36; refine hC.mono ?_; rintro e w1 ⟨rfl, S2⟩)
      have S3 : Aside _ := HN.out _ S2
      go_end0
      exact ⟨rfl, S3.out⟩
    · have v4 : IntKind.i64.wrap ((i : Int) - (j : Int)) = ((i - j : Nat) : Int) := by rw [IntWalk.i64_in _ (by omega)]; omega
      have d1 : ((i : Int) != (j : Int)) = true := by simp; omega
      have d2 : decide ((j : Int) < (i : Int)) = true := decide_eq_true (by omega)
      have hC := CS.out wr A'.length m j A' (X'.take j) (X'.drop j) Y' B' (by rw [List.length_take, List.length_drop]; omega) (by rw [List.length_take]; omega) rfl (by rw [List.length_take, List.length_drop]; omega) (by rw [List.length_take]; omega) hsz (by rw [List.append_assoc A', List.take_append_drop]; exact hSL)
      rw [c1] at hC
      have HN : Aside (∀ w', SL enc k w0 blk off (A' ++ Y' ++ X'.drop j ++ X'.take j ++ B') w' → ∃ A2 X2 Y2 B2 : List α, A2.length + (i - j) = m ∧ X2.length = i - j ∧ Y2.length = j ∧ A2.length + X2.length + Y2.length + B2.length = N ∧ A2 ++ Y2 ++ X2 ++ B2 = A ++ Y ++ X ++ B ∧ SL enc k w0 blk off (A2 ++ X2 ++ Y2 ++ B2) w') := fun w' hw =>
        ⟨A' ++ Y', X'.drop j, X'.take j, B', by rw [List.length_append]; omega, by rw [List.length_drop]; omega, by rw [List.length_take]; omega, by rw [List.length_take, List.length_drop, List.length_append]; omega, by
          rw [← HEQ.out]
          conv => rhs; rw [← List.take_append_drop j X']
          simp only [List.append_assoc], hw⟩
      clear hSL l1 l2 l3 l4 c1 CS
      go_wp2_with (go_at_fn 36; refine hC.mono ?_; rintro e w1 ⟨rfl, S2⟩)
      have S3 : Aside _ := HN.out _ S2
      clear S2 HN hC
      go_roundg ((i - j) + j)
      case measure => omega
      case rel => exact ⟨i - j, j, by omega, by omega, by omega, hj0, rfl, rfl, S3⟩
end
end Go.Proofs.Ytipmlbbbjafpiaa
