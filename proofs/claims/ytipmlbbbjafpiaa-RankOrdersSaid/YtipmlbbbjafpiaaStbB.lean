/- What the library's merging in place comes to at elements of k cells, over any program that bears the functions of the sort. Conditions: as stated. -/
import Derived.Test.YtipmlbbbjafpiaaStbA
namespace Go.Proofs.Ytipmlbbbjafpiaa
open Go.RowKit
open Go.Sort (SWO HoldsK flatK Holds grow swp)
set_option linter.unusedVariables false
set_option maxRecDepth 100000
set_option linter.unusedSimpArgs false
set_option linter.unusedSectionVars false

section
/-- Those from lo on, ahead of u, do; those from u on, ahead of hi, don't. -/
def UpF (p : Nat → Bool) (lo u : Nat) : Prop := ∀ q, lo ≤ q → q < u → p q = true
def OffF (p : Nat → Bool) (u hi : Nat) : Prop := ∀ q, u ≤ q → q < hi → p q = false
def MonoF (p : Nat → Bool) (lo hi : Nat) : Prop := ∀ u v, lo ≤ u → u ≤ v → v < hi → p v = true → p u = true
theorem bs_up {p : Nat → Bool} {lo hi h : Nat} (hm : MonoF p lo hi) (hl : lo ≤ h) (hh : h < hi) (e : p h = true) : UpF p lo (h + 1) := fun q h1 h2 => hm q h h1 (by omega) hh e
theorem bs_off {p : Nat → Bool} {lo hi h : Nat} (hm : MonoF p lo hi) (hl : lo ≤ h) (hh : h < hi) (e : p h = false) : OffF p h hi := fun q h1 h2 => by
  cases hq : p q
  · rfl
  · have := hm h q hl h1 h2 hq; rw [e] at this; cases this
theorem half_even (i j : Nat) (h : i + j < 9223372036854775808) : IntKind.u64.wrap ((i : Int) + (j : Int)) = (i : Int) + (j : Int) := by simp [IntKind.wrap, IntKind.bits, IntKind.signed]; omega
variable {α : Type} [Inhabited α]
/-- One thing on its way through a row. -/
def thr (A : List α) (x : α) (Y B : List α) (q : Nat) : List α := A ++ Y.take q ++ x :: (Y.drop q ++ B)
theorem thr_len (A : List α) (x : α) (Y B : List α) (q : Nat) (h : q ≤ Y.length) : (thr A x Y B q).length = A.length + 1 + Y.length + B.length := by unfold thr; simp; omega
theorem thr_next (A : List α) (x : α) (Y B : List α) (q : Nat) (h : q < Y.length) : swp (thr A x Y B q).toArray (A.length + q) (A.length + q + 1) = (thr A x Y B (q + 1)).toArray := by
  unfold thr
  rw [List.drop_eq_getElem_cons h, List.cons_append, swp_list2 _ _ _ _ _ _ (by simp; omega) (by simp; omega), List.take_succ_eq_append_getElem h]
  simp only [List.append_assoc, List.cons_append, List.nil_append]
theorem thr_back (A : List α) (x : α) (Y B : List α) (q : Nat) (h : q < Y.length) : swp (thr A x Y B (q + 1)).toArray (A.length + q + 1) (A.length + q) = (thr A x Y B q).toArray := by
  have e : thr A x Y B (q + 1) = A ++ Y.take q ++ Y[q] :: x :: (Y.drop (q + 1) ++ B) := by
    unfold thr; rw [List.take_succ_eq_append_getElem h]; simp only [List.append_assoc, List.cons_append, List.nil_append]
  rw [e, swp_list3 _ _ _ _ _ _ (by simp; omega) (by simp; omega)]
  unfold thr
  rw [List.drop_eq_getElem_cons h, List.cons_append]
variable {P : Program} {enc : α → List Value} {k : Nat} {w0 : World} {blk off : Nat} {d0 : Array α}
set_option maxHeartbeats 4000000 in
theorem stb_merge1 (L : StL P) (aE : ∀ w, (isAgg 25).run P w = .ok true w) (zE : ∀ w, (Go.sizeOf 25).run P w = .ok k w) (R : RowK enc k w0 blk off d0) (cf : α → α → Int) (g : Nat) (cb : Array Value) (hO : SWO (ltOf cf)) (eg : ∀ args w, (callFunc g args).run P w = .ok (.enter g args) w) (hcmp : CmpLays P g cb enc k cf blk off d0.size w0) (cap N : Nat) (hN : N = d0.size) (hsz : N ≤ 1152921504606846976) (a m b : Nat) (A Y B : List α) (x : α) (W : World) (hs : A.length + 1 + Y.length + B.length = N) (hY : 0 < Y.length) (ha : a = A.length) (hm : m = A.length + 1) (hb : b = A.length + 1 + Y.length) (hAY : Asc (ltOf cf) Y) (h : SL enc k w0 blk off (A ++ [x] ++ Y ++ B) W) :
    Calls P 31 #[.slice (some ⟨blk, off, none⟩) N cap, .int .i64 a, .int .i64 m, .int .i64 b, .func (.func g) #[] cb] W fun e w' => e = .returned (.tuple #[]) ∧ SL enc k w0 blk off (A ++ mrg (ltOf cf) [x] Y ++ B) w' := by
  have hmx := L.mixed; have t0 := L.t0; have t3 := L.t3; have a3 := L.a3; have z3 := L.z3; have v3 := L.v3; have t4 := L.t4; have a4 := L.a4; have z4 := L.z4; have v4 := L.v4; have tS := L.tS; have aS := L.aS; have zS := L.zS; have vS := L.vS; have tF := L.tF; have aF := L.aF; have zF := L.zF; have vF := L.vF; have tU := L.tU; have aU := L.aU; have zU := L.zU; have vU := L.vU
  have RR : Aside _ := R
  have HC : Aside _ := hcmp
  have S0 : Aside (SL enc k w0 blk off (A ++ [x] ++ Y ++ B) W) := h
  have HDS := Lib.hid (show (A ++ [x] ++ Y ++ B).toArray.size = d0.size by simp; omega)
  have HND := Lib.hid hN
  have gx : (A ++ [x] ++ Y ++ B).toArray[a]! = x := by rw [show A ++ [x] ++ Y ++ B = A ++ x :: (Y ++ B) by simp]; exact get_at _ _ _ _ ha
  have gy : ∀ i (h : i < Y.length), (A ++ [x] ++ Y ++ B).toArray[m + i]! = Y[i] := fun i hi => by
    have := get_third A [x] Y B (m + i) (by simp; omega) (by simp; omega)
    rw [this]; congr 1; simp; omega
  have HM := Lib.hid (show MonoF (fun q => ltOf cf (A ++ [x] ++ Y ++ B).toArray[q]! (A ++ [x] ++ Y ++ B).toArray[a]!) m b from fun u v h1 h2 h3 h4 => by
    dsimp only at h4 ⊢
    have eu := gy (u - m) (by omega)
    have ev := gy (v - m) (by omega)
    rw [show m + (u - m) = u by omega] at eu
    rw [show m + (v - m) = v by omega] at ev
    rw [eu]; rw [ev] at h4
    exact lt_left hO (asc_at hAY (by omega) (by omega) hO) h4)
  have HEND := Lib.hid (show ∀ i, m ≤ i → i ≤ b → UpF (fun q => ltOf cf (A ++ [x] ++ Y ++ B).toArray[q]! (A ++ [x] ++ Y ++ B).toArray[a]!) m i → OffF (fun q => ltOf cf (A ++ [x] ++ Y ++ B).toArray[q]! (A ++ [x] ++ Y ++ B).toArray[a]!) i b → thr A x Y B (i - m) = A ++ mrg (ltOf cf) [x] Y ++ B from fun i h1 h2 hu hf => by
    have e := mrg_one (lt := ltOf cf) x (Y.take (i - m)) (Y.drop (i - m)) (fun y hy => by
      obtain ⟨q, hq, rfl⟩ := List.getElem_of_mem hy
      rw [List.length_take] at hq
      rw [List.getElem_take]
      have := hu (m + q) (by omega) (by omega)
      dsimp only at this
      rw [gy q (by omega), gx] at this; exact this) (fun y hy => by
      obtain ⟨q, hq, rfl⟩ := List.getElem_of_mem hy
      rw [List.length_drop] at hq
      rw [List.getElem_drop]
      have := hf (m + (i - m + q)) (by omega) (by omega)
      dsimp only at this
      rw [gy (i - m + q) (by omega), gx] at this; exact this)
    rw [List.take_append_drop] at e
    rw [e]; unfold thr; simp)
  have HSTART := Lib.hid (show A ++ [x] ++ Y ++ B = thr A x Y B 0 by unfold thr; simp)
  have HTH := Lib.hid (show ∀ kk, a ≤ kk → kk + 1 < b → swp (thr A x Y B (kk - a)).toArray kk (kk + 1) = (thr A x Y B (kk + 1 - a)).toArray from fun kk h1 h2 => by
    have := thr_next A x Y B (kk - a) (by omega)
    rw [show A.length + (kk - a) = kk by omega] at this
    rw [this, show kk - a + 1 = kk + 1 - a by omega])
  have HTL := Lib.hid (show ∀ kk, kk < b → (thr A x Y B (kk - a)).toArray.size = d0.size from fun kk hq => by rw [List.size_toArray, thr_len A x Y B _ (by omega)]; omega)
  have hmb : m < b := by omega
  have HAM := Lib.hid (show m = a + 1 by omega)
  have hbN : b ≤ N := by omega
  have haN : a < N := by omega
  have e1 : IntKind.i64.wrap ((m : Int) - (a : Int)) = 1 := by rw [IntWalk.i64_in _ (by omega)]; omega
  have FG := L.fSY
  clear h R hcmp ha hm hb hAY hO gx gy hs hY hN
  go_enter FG, Try.ntmps31
  go_wp2_with fail
  go_loopg [10, 11] (b - (m)) (fun gk s10 s11 wr => ∃ i j : Nat, s10 = .int .i64 i ∧ s11 = .int .i64 j ∧ m ≤ i ∧ i ≤ j ∧ j ≤ b ∧ j - i ≤ gk ∧ Aside (SL enc k w0 blk off (A ++ [x] ++ Y ++ B) wr) ∧ Aside (UpF (fun q => ltOf cf (A ++ [x] ++ Y ++ B).toArray[q]! (A ++ [x] ++ Y ++ B).toArray[a]!) (m) i) ∧ Aside (OffF (fun q => ltOf cf (A ++ [x] ++ Y ++ B).toArray[q]! (A ++ [x] ++ Y ++ B).toArray[a]!) j (b)))
  case atStart => exact ⟨m, b, by go_num, by go_num, Nat.le_refl _, by omega, Nat.le_refl _, Nat.le_refl _, S0, fun q h1 h2 => absurd h2 (by omega), fun q h1 h2 => absurd h2 (by omega)⟩
  case round =>
    obtain ⟨i, j, rfl, rfl, hmi, hij, hjb, hgk, S1, I1, I2⟩ := hrel
    clear S0
    by_cases hlt : i < j
    · have dk : decide ((i : Int) < (j : Int)) = true := decide_eq_true (by omega)
      obtain ⟨h, hh⟩ : ∃ h : Nat, (i + j) / 2 = h := ⟨_, rfl⟩
      have hih : i ≤ h := by omega
      have hhj : h < j := by omega
      have p0 : IntKind.i64.wrap ((i : Int) + (j : Int)) = (i : Int) + (j : Int) := IntWalk.i64_in _ (by omega)
      have p1 := half_even i j (by omega)
      have p2 : ((i : Int) + (j : Int)) / 2 = (h : Int) := by omega
      have p3 : IntKind.i64.wrap (h : Int) = (h : Int) := IntWalk.i64_in _ (by omega)
      have p4 : IntKind.i64.wrap ((h : Int) + 1) = (h : Int) + 1 := IntWalk.i64_in _ (by omega)
      have b1 : (0 : Int) ≤ (h : Int) := by omega
      have b2 : (h : Int) < (N : Int) := by omega
      have b3 : (0 : Int) ≤ (a : Int) := by omega
      have b4 : (a : Int) < (N : Int) := by omega
      have HDN := HDS.out.trans HND.out.symm
      clear hh
      cases hp : (fun q => ltOf cf (A ++ [x] ++ Y ++ B).toArray[q]! (A ++ [x] ++ Y ++ B).toArray[a]!) h with
      | true =>
        have hv : ltOf cf (A ++ [x] ++ Y ++ B).toArray[h]! (A ++ [x] ++ Y ++ B).toArray[a]! = true := by have := hp; simpa using this
        have I3 : Aside (UpF (fun q => ltOf cf (A ++ [x] ++ Y ++ B).toArray[q]! (A ++ [x] ++ Y ++ B).toArray[a]!) (m) (h + 1)) := bs_up HM.out (by omega) (by omega) hp
        clear hp
        have la := SWK.ld S1.out RR.out HDS.out P (h) (by rw [HDS.out, ← HND.out]; omega)
        have lb := SWK.ld S1.out RR.out HDS.out P (a) (by rw [HDS.out, ← HND.out]; omega)
        obtain ⟨x1, hx1⟩ : ∃ z, (A ++ [x] ++ Y ++ B).toArray[h]! = z := ⟨_, rfl⟩
        obtain ⟨y1, hy1⟩ : ∃ z, (A ++ [x] ++ Y ++ B).toArray[a]! = z := ⟨_, rfl⟩
        rw [hx1] at la
        rw [hy1] at lb
        have hc := SWK.cmp S1.out HC.out HDS.out x1 y1
        have hd : decide (cf x1 y1 < 0) = true := by have := hv; rw [hx1, hy1] at this; exact this
        clear hx1 hy1 hv
        have hd1 : cf x1 y1 < 0 := of_decide_eq_true hd
        go_wp2_with fail
        go_quiet_grown (first | (go_at_fn g; refine Calls.grown_of (hc _ _)))
        have S2 : Aside (SL enc k w0 blk off (A ++ [x] ++ Y ++ B) (grow (wr.drewN nq) osq)) := SWK.grown S1.out nq osq
        clear la lb hc S1
        generalize grow (wr.drewN nq) osq = w2 at S2 ⊢
        clear nq osq
        go_wp2_with fail
        go_roundg (j - (h + 1))
        case measure => omega
        case rel => exact ⟨h + 1, j, by go_num, rfl, by omega, by omega, by omega, Nat.le_refl _, S2, I3, I2⟩
      | false =>
        have hv : ltOf cf (A ++ [x] ++ Y ++ B).toArray[h]! (A ++ [x] ++ Y ++ B).toArray[a]! = false := by have := hp; simpa using this
        have I3 : Aside (OffF (fun q => ltOf cf (A ++ [x] ++ Y ++ B).toArray[q]! (A ++ [x] ++ Y ++ B).toArray[a]!) h (b)) := bs_off HM.out (by omega) (by omega) hp
        clear hp
        have la := SWK.ld S1.out RR.out HDS.out P (h) (by rw [HDS.out, ← HND.out]; omega)
        have lb := SWK.ld S1.out RR.out HDS.out P (a) (by rw [HDS.out, ← HND.out]; omega)
        obtain ⟨x1, hx1⟩ : ∃ z, (A ++ [x] ++ Y ++ B).toArray[h]! = z := ⟨_, rfl⟩
        obtain ⟨y1, hy1⟩ : ∃ z, (A ++ [x] ++ Y ++ B).toArray[a]! = z := ⟨_, rfl⟩
        rw [hx1] at la
        rw [hy1] at lb
        have hc := SWK.cmp S1.out HC.out HDS.out x1 y1
        have hd : decide (cf x1 y1 < 0) = false := by have := hv; rw [hx1, hy1] at this; exact this
        clear hx1 hy1 hv
        have hd1 : ¬ cf x1 y1 < 0 := of_decide_eq_false hd
        go_wp2_with fail
        go_quiet_grown (first | (go_at_fn g; refine Calls.grown_of (hc _ _)))
        have S2 : Aside (SL enc k w0 blk off (A ++ [x] ++ Y ++ B) (grow (wr.drewN nq) osq)) := SWK.grown S1.out nq osq
        clear la lb hc S1
        generalize grow (wr.drewN nq) osq = w2 at S2 ⊢
        clear nq osq
        go_wp2_with fail
        go_roundg (h - i)
        case measure => omega
        case rel => exact ⟨i, h, rfl, rfl, by omega, by omega, by omega, Nat.le_refl _, S2, I1, I3⟩
    · obtain rfl : i = j := by omega
      have dk : decide ((i : Int) < (i : Int)) = false := decide_eq_false (by omega)
      have HAM2 := HAM.out
      have HE := Lib.hid (HEND.out i hmi hjb I1.out I2.out)
      have S0 : Aside (SL enc k w0 blk off (thr A x Y B (a - a)) wr) := by rw [Nat.sub_self, ← HSTART.out]; exact S1.out
      have hai : a ≤ i - 1 := by omega
      have hib : i ≤ b := hjb
      have hi1 : 1 ≤ i := by omega
      have q1 : IntKind.i64.wrap ((i : Int) - 1) = (i : Int) - 1 := IntWalk.i64_in _ (by omega)
      clear HAM2 hmi hij hjb hgk hlt I1 I2 S1 HEND HSTART dk
      go_wp2_with fail
      go_loopg [13] (i - 1 - a) (fun gk s13 wr => ∃ kk : Nat, s13 = .int .i64 kk ∧ a ≤ kk ∧ kk ≤ i - 1 ∧ i - 1 - kk ≤ gk ∧ Aside (SL enc k w0 blk off (thr A x Y B (kk - a)) wr))
      case atStart => exact ⟨a, rfl, Nat.le_refl _, hai, Nat.le_refl _, S0⟩
      case round =>
        obtain ⟨kk, rfl, hak, hki, hgk, S1⟩ := hrel
        clear S0
        by_cases hlt : kk < i - 1
        · have dk : decide ((kk : Int) < (i : Int) - 1) = true := decide_eq_true (by omega)
          have hds : (thr A x Y B (kk - a)).toArray.size = d0.size := HTL.out kk (by omega)
          have hsz2 : kk + 1 < d0.size := by have := HND.out; omega
          have p1 : (0 : Int) ≤ (kk : Int) + 1 := by omega
          have p2 : (kk : Int) + 1 < (N : Int) := by omega
          have p3 : (0 : Int) ≤ (kk : Int) := by omega
          have p4 : (kk : Int) < (N : Int) := by omega
          have p5 : ((kk : Int) + 1).toNat = kk + 1 := by omega
          have r5 : IntKind.i64.wrap ((kk : Int) + 1) = (kk : Int) + 1 := IntWalk.i64_in _ (by omega)
          have hi : kk < (thr A x Y B (kk - a)).toArray.size := by rw [hds]; omega
          have hj : kk + 1 < (thr A x Y B (kk - a)).toArray.size := by rw [hds]; omega
          have S2 : Aside (SL enc k w0 blk off (thr A x Y B (kk + 1 - a)) ((wr.drew.setCells blk (off + (kk) * k) (enc (thr A x Y B (kk - a)).toArray[kk + 1]!)).setCells blk (off + (kk + 1) * k) (enc (thr A x Y B (kk - a)).toArray[kk]!))) := by
            have := SWK.swapped S1.out RR.out (kk) (kk + 1) hi hj
            rw [HTH.out kk hak (by omega)] at this
            exact this
          have la := SWK.ld1 S1.out RR.out hds P (kk) hi
          have lb := SWK.ld1 S1.out RR.out hds P (kk + 1) hj
          have sa := SWK.st1 S1.out RR.out hds P (kk) hi (thr A x Y B (kk - a)).toArray[kk + 1]!
          have sb := SWK.st2 S1.out RR.out hds P (kk) (kk + 1) hi hj (thr A x Y B (kk - a)).toArray[kk + 1]! (thr A x Y B (kk - a)).toArray[kk]!
          have na : (enc (thr A x Y B (kk - a)).toArray[kk]!).length = k := RR.out.hk _
          have nb : (enc (thr A x Y B (kk - a)).toArray[kk + 1]!).length = k := RR.out.hk _
          clear hi hj hds
          generalize enc (thr A x Y B (kk - a)).toArray[kk]! = cI at *
          generalize enc (thr A x Y B (kk - a)).toArray[kk + 1]! = cJ at *
          clear S1
          go_wp2_with fail
          go_big_region_o
          clear la lb sa sb na nb
          generalize (wr.drew.setCells blk (off + (kk) * k) cJ).setCells blk (off + (kk + 1) * k) cI = w2 at *
          go_wp2_with fail
          go_roundg (i - 1 - (kk + 1))
          case measure => omega
          case rel => exact ⟨kk + 1, by go_num, by omega, by omega, Nat.le_refl _, S2⟩
        · obtain rfl : kk = i - 1 := by omega
          have dk : decide (((i - 1 : Nat) : Int) < (i : Int) - 1) = false := decide_eq_false (by omega)
          have HQ : Aside (SL enc k w0 blk off (A ++ mrg (ltOf cf) [x] Y ++ B) wr) := by
            have h1 := S1.out
            have h2 := HAM.out
            rw [show i - 1 - a = i - m by omega, HE.out] at h1
            exact h1
          clear S1
          go_wp2_with fail
          refine bodyPost_ret (results_none rfl _ _ _) rfl ?_
          exact ⟨rfl, HQ.out⟩
set_option maxHeartbeats 4000000 in
theorem stb_merge2 (L : StL P) (aE : ∀ w, (isAgg 25).run P w = .ok true w) (zE : ∀ w, (Go.sizeOf 25).run P w = .ok k w) (R : RowK enc k w0 blk off d0) (cf : α → α → Int) (g : Nat) (cb : Array Value) (hO : SWO (ltOf cf)) (eg : ∀ args w, (callFunc g args).run P w = .ok (.enter g args) w) (hcmp : CmpLays P g cb enc k cf blk off d0.size w0) (cap N : Nat) (hN : N = d0.size) (hsz : N ≤ 1152921504606846976) (a m b : Nat) (A X B : List α) (y : α) (W : World) (hs : A.length + X.length + 1 + B.length = N) (hX : 1 < X.length) (ha : a = A.length) (hm : m = A.length + X.length) (hb : b = A.length + X.length + 1) (hAX : Asc (ltOf cf) X) (h : SL enc k w0 blk off (A ++ X ++ [y] ++ B) W) :
    Calls P 31 #[.slice (some ⟨blk, off, none⟩) N cap, .int .i64 a, .int .i64 m, .int .i64 b, .func (.func g) #[] cb] W fun e w' => e = .returned (.tuple #[]) ∧ SL enc k w0 blk off (A ++ mrg (ltOf cf) X [y] ++ B) w' := by
  have hmx := L.mixed; have t0 := L.t0; have t3 := L.t3; have a3 := L.a3; have z3 := L.z3; have v3 := L.v3; have t4 := L.t4; have a4 := L.a4; have z4 := L.z4; have v4 := L.v4; have tS := L.tS; have aS := L.aS; have zS := L.zS; have vS := L.vS; have tF := L.tF; have aF := L.aF; have zF := L.zF; have vF := L.vF; have tU := L.tU; have aU := L.aU; have zU := L.zU; have vU := L.vU
  have RR : Aside _ := R
  have HC : Aside _ := hcmp
  have S0 : Aside (SL enc k w0 blk off (A ++ X ++ [y] ++ B) W) := h
  have HDS := Lib.hid (show (A ++ X ++ [y] ++ B).toArray.size = d0.size by simp; omega)
  have HND := Lib.hid hN
  have gy : (A ++ X ++ [y] ++ B).toArray[m]! = y := by rw [show A ++ X ++ [y] ++ B = (A ++ X) ++ y :: B by simp]; exact get_at _ _ _ _ (by simp; omega)
  have gx : ∀ i (h : i < X.length), (A ++ X ++ [y] ++ B).toArray[a + i]! = X[i] := fun i hi => by
    have := get_second A X ([y] ++ B) (a + i) (by omega) (by omega)
    rw [show A ++ X ++ [y] ++ B = A ++ X ++ ([y] ++ B) by simp, this]; congr 1; omega
  have HM := Lib.hid (show MonoF (fun q => !(ltOf cf (A ++ X ++ [y] ++ B).toArray[m]! (A ++ X ++ [y] ++ B).toArray[q]!)) a m from fun u v h1 h2 h3 h4 => by
    dsimp only at h4 ⊢
    rw [Bool.not_eq_true'] at h4 ⊢
    have eu := gx (u - a) (by omega)
    have ev := gx (v - a) (by omega)
    rw [show a + (u - a) = u by omega] at eu
    rw [show a + (v - a) = v by omega] at ev
    rw [eu]; rw [ev] at h4
    exact hO.ntrans _ _ _ h4 (asc_at hAX (by omega) (by omega) hO))
  have HEND := Lib.hid (show ∀ i, a ≤ i → i ≤ m → UpF (fun q => !(ltOf cf (A ++ X ++ [y] ++ B).toArray[m]! (A ++ X ++ [y] ++ B).toArray[q]!)) a i → OffF (fun q => !(ltOf cf (A ++ X ++ [y] ++ B).toArray[m]! (A ++ X ++ [y] ++ B).toArray[q]!)) i m → thr A y X B (i - a) = A ++ mrg (ltOf cf) X [y] ++ B from fun i h1 h2 hu hf => by
    have e := mrg_one2 (lt := ltOf cf) y (X.take (i - a)) (X.drop (i - a)) (fun z hz => by
      obtain ⟨q, hq, rfl⟩ := List.getElem_of_mem hz
      rw [List.length_drop] at hq
      rw [List.getElem_drop]
      have := hf (a + (i - a + q)) (by omega) (by omega)
      dsimp only at this
      rw [gx (i - a + q) (by omega), gy, Bool.not_eq_false'] at this; exact this) (fun z hz => by
      obtain ⟨q, hq, rfl⟩ := List.getElem_of_mem hz
      rw [List.length_take] at hq
      rw [List.getElem_take]
      have := hu (a + q) (by omega) (by omega)
      dsimp only at this
      rw [gx q (by omega), gy, Bool.not_eq_true'] at this; exact this)
    rw [List.take_append_drop] at e
    rw [e]; unfold thr; simp)
  have HSTART := Lib.hid (show A ++ X ++ [y] ++ B = thr A y X B (m - a) by
    unfold thr; rw [show m - a = X.length by omega, List.take_length, List.drop_length]; simp)
  have HTH := Lib.hid (show ∀ kk, a < kk → kk ≤ m → swp (thr A y X B (kk - a)).toArray kk (kk - 1) = (thr A y X B (kk - 1 - a)).toArray from fun kk h1 h2 => by
    have := thr_back A y X B (kk - 1 - a) (by omega)
    rw [show A.length + (kk - 1 - a) + 1 = kk by omega, show A.length + (kk - 1 - a) = kk - 1 by omega, show kk - 1 - a + 1 = kk - a by omega] at this
    exact this)
  have HTL := Lib.hid (show ∀ kk, kk ≤ m → (thr A y X B (kk - a)).toArray.size = d0.size from fun kk hq => by rw [List.size_toArray, thr_len A y X B _ (by omega)]; omega)
  have hmb : m < b := by omega
  have ham : a < m := by omega
  have HAM := Lib.hid (show b = m + 1 by omega)
  have hbN : b ≤ N := by omega
  have haN : m < N := by omega
  have e0 : ((m : Int) - (a : Int) == 1) = false := by simp; omega
  have e00 : IntKind.i64.wrap ((m : Int) - (a : Int)) = (m : Int) - (a : Int) := IntWalk.i64_in _ (by omega)
  have e1 : IntKind.i64.wrap ((b : Int) - (m : Int)) = 1 := by rw [IntWalk.i64_in _ (by omega)]; omega
  have FG := L.fSY
  clear h R hcmp ha hm hb hAX hO gx gy hs hX hN
  go_enter FG, Try.ntmps31
  go_wp2_with fail
  go_loopg [14, 15] (m - (a)) (fun gk s10 s11 wr => ∃ i j : Nat, s10 = .int .i64 i ∧ s11 = .int .i64 j ∧ a ≤ i ∧ i ≤ j ∧ j ≤ m ∧ j - i ≤ gk ∧ Aside (SL enc k w0 blk off (A ++ X ++ [y] ++ B) wr) ∧ Aside (UpF (fun q => !(ltOf cf (A ++ X ++ [y] ++ B).toArray[m]! (A ++ X ++ [y] ++ B).toArray[q]!)) (a) i) ∧ Aside (OffF (fun q => !(ltOf cf (A ++ X ++ [y] ++ B).toArray[m]! (A ++ X ++ [y] ++ B).toArray[q]!)) j (m)))
  case atStart => exact ⟨a, m, by go_num, by go_num, Nat.le_refl _, by omega, Nat.le_refl _, Nat.le_refl _, S0, fun q h1 h2 => absurd h2 (by omega), fun q h1 h2 => absurd h2 (by omega)⟩
  case round =>
    obtain ⟨i, j, rfl, rfl, hmi, hij, hjb, hgk, S1, I1, I2⟩ := hrel
    clear S0
    by_cases hlt : i < j
    · have dk : decide ((i : Int) < (j : Int)) = true := decide_eq_true (by omega)
      obtain ⟨h, hh⟩ : ∃ h : Nat, (i + j) / 2 = h := ⟨_, rfl⟩
      have hih : i ≤ h := by omega
      have hhj : h < j := by omega
      have p0 : IntKind.i64.wrap ((i : Int) + (j : Int)) = (i : Int) + (j : Int) := IntWalk.i64_in _ (by omega)
      have p1 := half_even i j (by omega)
      have p2 : ((i : Int) + (j : Int)) / 2 = (h : Int) := by omega
      have p3 : IntKind.i64.wrap (h : Int) = (h : Int) := IntWalk.i64_in _ (by omega)
      have p4 : IntKind.i64.wrap ((h : Int) + 1) = (h : Int) + 1 := IntWalk.i64_in _ (by omega)
      have b1 : (0 : Int) ≤ (h : Int) := by omega
      have b2 : (h : Int) < (N : Int) := by omega
      have b3 : (0 : Int) ≤ (m : Int) := by omega
      have b4 : (m : Int) < (N : Int) := by omega
      have HDN := HDS.out.trans HND.out.symm
      clear hh
      cases hp : (fun q => !(ltOf cf (A ++ X ++ [y] ++ B).toArray[m]! (A ++ X ++ [y] ++ B).toArray[q]!)) h with
      | true =>
        have hv : ltOf cf (A ++ X ++ [y] ++ B).toArray[m]! (A ++ X ++ [y] ++ B).toArray[h]! = false := by have := hp; simpa using this
        have I3 : Aside (UpF (fun q => !(ltOf cf (A ++ X ++ [y] ++ B).toArray[m]! (A ++ X ++ [y] ++ B).toArray[q]!)) (a) (h + 1)) := bs_up HM.out (by omega) (by omega) hp
        clear hp
        have la := SWK.ld S1.out RR.out HDS.out P (m) (by rw [HDS.out, ← HND.out]; omega)
        have lb := SWK.ld S1.out RR.out HDS.out P (h) (by rw [HDS.out, ← HND.out]; omega)
        obtain ⟨x1, hx1⟩ : ∃ z, (A ++ X ++ [y] ++ B).toArray[m]! = z := ⟨_, rfl⟩
        obtain ⟨y1, hy1⟩ : ∃ z, (A ++ X ++ [y] ++ B).toArray[h]! = z := ⟨_, rfl⟩
        rw [hx1] at la
        rw [hy1] at lb
        have hc := SWK.cmp S1.out HC.out HDS.out x1 y1
        have hd : decide (cf x1 y1 < 0) = false := by have := hv; rw [hx1, hy1] at this; exact this
        clear hx1 hy1 hv
        have hd1 : ¬ cf x1 y1 < 0 := of_decide_eq_false hd
        go_wp2_with fail
        go_quiet_grown (first | (go_at_fn g; refine Calls.grown_of (hc _ _)))
        have S2 : Aside (SL enc k w0 blk off (A ++ X ++ [y] ++ B) (grow (wr.drewN nq) osq)) := SWK.grown S1.out nq osq
        clear la lb hc S1
        generalize grow (wr.drewN nq) osq = w2 at S2 ⊢
        clear nq osq
        go_wp2_with fail
        go_roundg (j - (h + 1))
        case measure => omega
        case rel => exact ⟨h + 1, j, by go_num, rfl, by omega, by omega, by omega, Nat.le_refl _, S2, I3, I2⟩
      | false =>
        have hv : ltOf cf (A ++ X ++ [y] ++ B).toArray[m]! (A ++ X ++ [y] ++ B).toArray[h]! = true := by have := hp; simpa using this
        have I3 : Aside (OffF (fun q => !(ltOf cf (A ++ X ++ [y] ++ B).toArray[m]! (A ++ X ++ [y] ++ B).toArray[q]!)) h (m)) := bs_off HM.out (by omega) (by omega) hp
        clear hp
        have la := SWK.ld S1.out RR.out HDS.out P (m) (by rw [HDS.out, ← HND.out]; omega)
        have lb := SWK.ld S1.out RR.out HDS.out P (h) (by rw [HDS.out, ← HND.out]; omega)
        obtain ⟨x1, hx1⟩ : ∃ z, (A ++ X ++ [y] ++ B).toArray[m]! = z := ⟨_, rfl⟩
        obtain ⟨y1, hy1⟩ : ∃ z, (A ++ X ++ [y] ++ B).toArray[h]! = z := ⟨_, rfl⟩
        rw [hx1] at la
        rw [hy1] at lb
        have hc := SWK.cmp S1.out HC.out HDS.out x1 y1
        have hd : decide (cf x1 y1 < 0) = true := by have := hv; rw [hx1, hy1] at this; exact this
        clear hx1 hy1 hv
        have hd1 : cf x1 y1 < 0 := of_decide_eq_true hd
        go_wp2_with fail
        go_quiet_grown (first | (go_at_fn g; refine Calls.grown_of (hc _ _)))
        have S2 : Aside (SL enc k w0 blk off (A ++ X ++ [y] ++ B) (grow (wr.drewN nq) osq)) := SWK.grown S1.out nq osq
        clear la lb hc S1
        generalize grow (wr.drewN nq) osq = w2 at S2 ⊢
        clear nq osq
        go_wp2_with fail
        go_roundg (h - i)
        case measure => omega
        case rel => exact ⟨i, h, rfl, rfl, by omega, by omega, by omega, Nat.le_refl _, S2, I1, I3⟩
    · obtain rfl : i = j := by omega
      have dk : decide ((i : Int) < (i : Int)) = false := decide_eq_false (by omega)
      have HE := Lib.hid (HEND.out i hmi hjb I1.out I2.out)
      have S0 : Aside (SL enc k w0 blk off (thr A y X B (m - a)) wr) := by rw [← HSTART.out]; exact S1.out
      have him : i ≤ m := hjb
      have hai : a ≤ i := hmi
      clear hmi hij hjb hgk hlt I1 I2 S1 HEND HSTART dk
      go_wp2_with fail
      go_loopg [17] (m - i) (fun gk s13 wr => ∃ kk : Nat, s13 = .int .i64 kk ∧ i ≤ kk ∧ kk ≤ m ∧ kk - i ≤ gk ∧ Aside (SL enc k w0 blk off (thr A y X B (kk - a)) wr))
      case atStart => exact ⟨m, rfl, him, Nat.le_refl _, Nat.le_refl _, S0⟩
      case round =>
        obtain ⟨kk, rfl, hak, hki, hgk, S1⟩ := hrel
        clear S0
        by_cases hlt : i < kk
        · have dk : decide ((i : Int) < (kk : Int)) = true := decide_eq_true (by omega)
          have dk' : decide ((kk : Int) > (i : Int)) = true := decide_eq_true (by omega)
          have hds : (thr A y X B (kk - a)).toArray.size = d0.size := HTL.out kk (by omega)
          have hsz2 : kk < d0.size := by have := HND.out; omega
          have p1 : (0 : Int) ≤ (kk : Int) - 1 := by omega
          have p2 : (kk : Int) - 1 < (N : Int) := by omega
          have p3 : (0 : Int) ≤ (kk : Int) := by omega
          have p4 : (kk : Int) < (N : Int) := by omega
          have p5 : ((kk : Int) - 1).toNat = kk - 1 := by omega
          have r5 : IntKind.i64.wrap ((kk : Int) - 1) = (kk : Int) - 1 := IntWalk.i64_in _ (by omega)
          have hi : kk < (thr A y X B (kk - a)).toArray.size := by rw [hds]; omega
          have hj : kk - 1 < (thr A y X B (kk - a)).toArray.size := by rw [hds]; omega
          have S2 : Aside (SL enc k w0 blk off (thr A y X B (kk - 1 - a)) ((wr.drew.setCells blk (off + (kk) * k) (enc (thr A y X B (kk - a)).toArray[kk - 1]!)).setCells blk (off + (kk - 1) * k) (enc (thr A y X B (kk - a)).toArray[kk]!))) := by
            have := SWK.swapped S1.out RR.out (kk) (kk - 1) hi hj
            rw [HTH.out kk (by omega) hki] at this
            exact this
          have la := SWK.ld1 S1.out RR.out hds P (kk) hi
          have lb := SWK.ld1 S1.out RR.out hds P (kk - 1) hj
          have sa := SWK.st1 S1.out RR.out hds P (kk) hi (thr A y X B (kk - a)).toArray[kk - 1]!
          have sb := SWK.st2 S1.out RR.out hds P (kk) (kk - 1) hi hj (thr A y X B (kk - a)).toArray[kk - 1]! (thr A y X B (kk - a)).toArray[kk]!
          have na : (enc (thr A y X B (kk - a)).toArray[kk]!).length = k := RR.out.hk _
          have nb : (enc (thr A y X B (kk - a)).toArray[kk - 1]!).length = k := RR.out.hk _
          clear hi hj hds
          generalize enc (thr A y X B (kk - a)).toArray[kk]! = cI at *
          generalize enc (thr A y X B (kk - a)).toArray[kk - 1]! = cJ at *
          clear S1
          go_wp2_with fail
          go_big_region_o
          clear la lb sa sb na nb
          generalize (wr.drew.setCells blk (off + (kk) * k) cJ).setCells blk (off + (kk - 1) * k) cI = w2 at *
          go_wp2_with fail
          go_roundg (kk - 1 - i)
          case measure => omega
          case rel => exact ⟨kk - 1, by go_num, by omega, by omega, Nat.le_refl _, S2⟩
        · obtain rfl : kk = i := by omega
          have dk : decide ((kk : Int) < (kk : Int)) = false := decide_eq_false (by omega)
          have HQ : Aside (SL enc k w0 blk off (A ++ mrg (ltOf cf) X [y] ++ B) wr) := by
            have h1 := S1.out
            rw [HE.out] at h1
            exact h1
          clear S1
          go_wp2_with fail
          refine bodyPost_ret (results_none rfl _ _ _) rfl ?_
          exact ⟨rfl, HQ.out⟩
end
end Go.Proofs.Ytipmlbbbjafpiaa
