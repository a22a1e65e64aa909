/- What the library's stable sort comes to at elements of k cells, over any program that bears its functions. Conditions: as stated. -/
import Derived.Test.YtipmlbbbjafpiaaStbC
import Derived.Test.YtipmlbbbjafpiaaShelfS
namespace Go.Proofs.Ytipmlbbbjafpiaa
open Go.RowKit
open Go.Sort (SWO HoldsK flatK Holds grow swp)
set_option linter.unusedVariables false
set_option maxRecDepth 100000
set_option linter.unusedSimpArgs false
set_option linter.unusedSectionVars false

section
variable {α : Type} [Inhabited α]
variable {P : Program} {enc : α → List Value} {k : Nat} {w0 : World} {blk off : Nat} {d0 : Array α}
theorem stb_insert (L : StL P) (LI : SlLaysF0.n20 P Try.insJob_ren) (aE : ∀ w, (isAgg 25).run P w = .ok true w) (zE : ∀ w, (Go.sizeOf 25).run P w = .ok k w) (R : RowK enc k w0 blk off d0) (cf : α → α → Int) (g : Nat) (cb : Array Value) (hO : SWO (ltOf cf)) (eg : ∀ args w, (callFunc g args).run P w = .ok (.enter g args) w) (hcmp : CmpLays P g cb enc k cf blk off d0.size w0) (cap N a b : Nat) (A X B : List α) (W : World) (hN : N = d0.size) (hsz : N ≤ 288230376151711744) (hs : A.length + X.length + B.length = N) (ha : a = A.length) (hb : b = A.length + X.length) (h : SL enc k w0 blk off (A ++ X ++ B) W) :
    Calls P 30 #[.slice (some ⟨blk, off, none⟩) N cap, .int .i64 a, .int .i64 b, .func (.func g) #[] cb] W fun e w' => e = .returned (.tuple #[]) ∧ SL enc k w0 blk off (A ++ stb (ltOf cf) X ++ B) w' := by
  have hds : (A ++ X ++ B).toArray.size = d0.size := by simp; omega
  have hC : CmpLays P g cb enc k cf blk off (A ++ X ++ B).toArray.size W := fun m os dk hs x y => by
    obtain ⟨n, os2, e⟩ := SWK.on h R.hblk m dk os hs
    rw [e]
    exact hcmp n os2 dk (hs.trans hds) x y
  have hcon := AnyQ.insertionSortCmpFunc LI k aE zE enc R.hk R.h1 cf g cb blk off cap a b (A ++ X ++ B).toArray W eg hC (SWK.holds h R.hblk R.hH hds) (SWK.lt h R.hblk) (by omega) (by rw [hds]; omega) (by rw [hds]; omega)
  change Calls P 30 _ _ _ at hcon
  rw [insertion_list hO A X B a b ha hb, hds, ← hN] at hcon
  refine hcon.mono fun e w' hh => ?_
  obtain ⟨he, n, os, rfl⟩ := hh
  refine ⟨he, SWK.on h R.hblk n _ os ?_⟩
  simp [stb_len]
set_option maxHeartbeats 8000000 in
theorem stb_stable (L : StL P) (LI : SlLaysF0.n20 P Try.insJob_ren) (aE : ∀ w, (isAgg 25).run P w = .ok true w) (zE : ∀ w, (Go.sizeOf 25).run P w = .ok k w) (R : RowK enc k w0 blk off d0) (cf : α → α → Int) (g : Nat) (cb : Array Value) (hO : SWO (ltOf cf)) (eg : ∀ args w, (callFunc g args).run P w = .ok (.enter g args) w) (hcmp : CmpLays P g cb enc k cf blk off d0.size w0) (cap N : Nat) (l : List α) (W : World) (hN : N = d0.size) (hl : l.length = N) (hsz : N ≤ 288230376151711744) (h : SL enc k w0 blk off l W) :
    Calls P 27 #[.slice (some ⟨blk, off, none⟩) N cap, .int .i64 N, .func (.func g) #[] cb] W fun e w' => e = .returned (.tuple #[]) ∧ SL enc k w0 blk off (stb (ltOf cf) l) w' := by
  have hmx := L.mixed; have t0 := L.t0; have t3 := L.t3; have a3 := L.a3; have z3 := L.z3; have v3 := L.v3; have t4 := L.t4; have a4 := L.a4; have z4 := L.z4; have v4 := L.v4; have tS := L.tS; have aS := L.aS; have zS := L.zS; have vS := L.vS; have tF := L.tF; have aF := L.aF; have zF := L.zF; have vF := L.vF; have tU := L.tU; have aU := L.aU; have zU := L.zU; have vU := L.vU
  have CI := Lib.hid (fun a b A X B W => stb_insert L LI aE zE R cf g cb hO eg hcmp cap N a b A X B W hN hsz)
  have CM := Lib.hid (fun a m b A X Y B W => stb_merge L aE zE R cf g cb hO eg hcmp cap N hN (by omega) (b + 1) a m b A X Y B W (by omega))
  have HO := Lib.hid hO
  have S0 : Aside (SL enc k w0 blk off ([] ++ l.drop 0) W) := show SL enc k w0 blk off ([] ++ l.drop 0) W by simpa using h
  have FG := L.fST
  have HL := Lib.hid hl
  have eSY : ∀ args w, (callFunc 31 args).run P w = .ok (.enter 31 args) w := enters_of L.fSY (by kernel_rfl) rfl
  have eIN : ∀ args w, (callFunc 30 args).run P w = .ok (.enter 30 args) w := SlLaysF0.n20.f20 LI |>.enters rfl
  clear h R hcmp hO hN hl
  go_enter FG, Try.ntmps27
  go_wp2_with fail
  go_loopg [7, 8] N (fun gk s7 s8 wr => ∃ (a : Nat) (D : List α), s7 = .int .i64 a ∧ s8 = .int .i64 (a + 20 : Nat) ∧ a ≤ N ∧ N - a ≤ gk ∧ Aside (D.length = a ∧ D ++ full (ltOf cf) 20 (l.drop a) = full (ltOf cf) 20 l ∧ SL enc k w0 blk off (D ++ l.drop a) wr))
  case atStart => exact ⟨0, [], rfl, rfl, Nat.zero_le _, Nat.le_refl _, rfl, by simp, S0.out⟩
  case round =>
    clear S0
    obtain ⟨a, D, rfl, rfl, haN, hgk, S1⟩ := hrel
    have hlN := HL.out
    by_cases hlt : a + 20 ≤ N
    · have dk : decide (((a + 20 : Nat) : Int) ≤ (N : Int)) = true := decide_eq_true (by omega)
      have r1 : IntKind.i64.wrap (((a + 20 : Nat) : Int) + 20) = ((a + 20 + 20 : Nat) : Int) := by rw [IntWalk.i64_in _ (by omega)]; omega
      have hC := CI.out a (a + 20) D ((l.drop a).take 20) (l.drop (a + 20)) wr (by rw [S1.out.1, List.length_take, List.length_drop, List.length_drop]; omega) S1.out.1.symm (by rw [S1.out.1, List.length_take, List.length_drop]; omega) (by
        rw [List.append_assoc, ← List.drop_drop, List.take_append_drop]; exact S1.out.2.2)
      have HN : Aside (∀ w', SL enc k w0 blk off (D ++ stb (ltOf cf) ((l.drop a).take 20) ++ l.drop (a + 20)) w' → (D ++ stb (ltOf cf) ((l.drop a).take 20)).length = a + 20 ∧ (D ++ stb (ltOf cf) ((l.drop a).take 20)) ++ full (ltOf cf) 20 (l.drop (a + 20)) = full (ltOf cf) 20 l ∧ SL enc k w0 blk off ((D ++ stb (ltOf cf) ((l.drop a).take 20)) ++ l.drop (a + 20)) w') := fun w' hw => by
        refine ⟨by rw [List.length_append, stb_len, S1.out.1, List.length_take, List.length_drop]; omega, ?_, hw⟩
        rw [← S1.out.2.1, full_big (l := l.drop a) (by omega) (by rw [List.length_drop]; omega), List.drop_drop, List.append_assoc]
      clear S1 hlN
      go_wp2_with (go_at_fn 30; refine hC.mono ?_; rintro e w1 ⟨rfl, S2⟩)
      have S3 : Aside _ := HN.out _ S2
      clear S2 HN hC
      go_roundg (N - (a + 20))
      case measure => omega
      case rel => exact ⟨a + 20, _, rfl, by go_num, hlt, Nat.le_refl _, S3⟩
    · have dk : decide (((a + 20 : Nat) : Int) ≤ (N : Int)) = false := decide_eq_false (by omega)
      have hC := CI.out a N D (l.drop a) [] wr (by rw [S1.out.1, List.length_drop]; simp; omega) S1.out.1.symm (by rw [S1.out.1, List.length_drop]; omega) (by simpa using S1.out.2.2)
      have HN : Aside (∀ w', SL enc k w0 blk off (D ++ stb (ltOf cf) (l.drop a) ++ []) w' → SL enc k w0 blk off (full (ltOf cf) 20 l) w') := fun w' hw => by
        rw [← S1.out.2.1, full_small (l := l.drop a) (by rw [List.length_drop]; omega)]; simpa using hw
      clear S1 hlN
      go_wp2_with fail
      refine hC.mono ?_; rintro e w1 ⟨rfl, S2⟩
      have S0 : Aside _ := HN.out _ S2
      clear S2 HN hC hlt hgk haN
      go_wp2_with fail
      go_loopg [6] N (fun gk s6 wr => ∃ s : Nat, s6 = .int .i64 s ∧ 0 < s ∧ s ≤ 2 * N + 20 ∧ N - s ≤ gk ∧ Aside (SL enc k w0 blk off (full (ltOf cf) s l) wr))
      case atStart => exact ⟨20, rfl, by omega, by omega, by omega, S0⟩
      case round =>
        clear S0
        obtain ⟨s, rfl, hs0, hs2, hgk, S1⟩ := hrel
        have hlN := HL.out
        by_cases hlt : s < N
        · have dk : decide ((s : Int) < (N : Int)) = true := decide_eq_true (by omega)
          obtain ⟨t, ht⟩ : ∃ t : Nat, 2 * s = t := ⟨_, rfl⟩
          have r1 : IntKind.i64.wrap (2 * (s : Int)) = (t : Int) := by rw [IntWalk.i64_in _ (by omega)]; omega
          have r2 : IntKind.i64.wrap ((s : Int) * 2) = (t : Int) := by rw [IntWalk.i64_in _ (by omega)]; omega
          have S0 : Aside (([] : List α).length = 0 ∧ [] ++ full (ltOf cf) t (l.drop 0) = full (ltOf cf) t l ∧ SL enc k w0 blk off ([] ++ full (ltOf cf) s (l.drop 0)) wr) := ⟨rfl, by simp, by simpa using S1.out⟩
          have HT := Lib.hid ht
          clear S1 ht
          go_wp2_with fail
          go_loopg [7, 8] N (fun gk s7 s8 wr => ∃ (a b : Nat) (D : List α), s7 = .int .i64 a ∧ s8 = .int .i64 b ∧ a + t = b ∧ a ≤ N ∧ N - a ≤ gk ∧ Aside (D.length = a ∧ D ++ full (ltOf cf) t (l.drop a) = full (ltOf cf) t l ∧ SL enc k w0 blk off (D ++ full (ltOf cf) s (l.drop a)) wr))
          case atStart => exact ⟨0, t, [], rfl, rfl, by omega, Nat.zero_le _, Nat.le_refl _, S0⟩
          case round =>
            clear S0
            obtain ⟨a, b, D, rfl, rfl, hab, haN, hgk2, S1⟩ := hrel
            have htE := HT.out
            have r3 : IntKind.i64.wrap ((a : Int) + (s : Int)) = ((a + s : Nat) : Int) := by rw [IntWalk.i64_in _ (by omega)]; omega
            by_cases hlb : b ≤ N
            · have dk : decide ((b : Int) ≤ (N : Int)) = true := decide_eq_true (by omega)
              have r4 : IntKind.i64.wrap ((b : Int) + (t : Int)) = ((b + t : Nat) : Int) := by rw [IntWalk.i64_in _ (by omega)]; omega
              have hl' : 2 * s ≤ (l.drop a).length := by rw [List.length_drop]; omega
              have e2 := full_two (lt := ltOf cf) hs0 hl'
              have e3 := mrg_blocks HO.out s (l.drop a) hl'
              have hC := CM.out a (a + s) b D (stb (ltOf cf) ((l.drop a).take s)) (stb (ltOf cf) (((l.drop a).drop s).take s)) (full (ltOf cf) s ((l.drop a).drop (2 * s))) wr
                (by simp only [stb_len, full_length hs0, List.length_take, List.length_drop, List.length_nil, S1.out.1]; omega)
                (by simp only [stb_len, full_length hs0, List.length_take, List.length_drop, List.length_nil, S1.out.1]; omega) (by simp only [stb_len, full_length hs0, List.length_take, List.length_drop, List.length_nil, S1.out.1]; omega)
                S1.out.1.symm (by simp only [stb_len, full_length hs0, List.length_take, List.length_drop, List.length_nil, S1.out.1]; omega) (by simp only [stb_len, full_length hs0, List.length_take, List.length_drop, List.length_nil, S1.out.1]; omega)
                (asc_stb HO.out _) (asc_stb HO.out _) (by have := S1.out.2.2; rw [e2] at this; simpa only [List.append_assoc] using this)
              rw [e3] at hC
              have HN : Aside (∀ w', SL enc k w0 blk off (D ++ stb (ltOf cf) ((l.drop a).take (2 * s)) ++ full (ltOf cf) s ((l.drop a).drop (2 * s))) w' → (D ++ stb (ltOf cf) ((l.drop a).take (2 * s))).length = b ∧ (D ++ stb (ltOf cf) ((l.drop a).take (2 * s))) ++ full (ltOf cf) t (l.drop b) = full (ltOf cf) t l ∧ SL enc k w0 blk off ((D ++ stb (ltOf cf) ((l.drop a).take (2 * s))) ++ full (ltOf cf) s (l.drop b)) w') := fun w' hw => by
                refine ⟨by rw [List.length_append, stb_len, S1.out.1, List.length_take, List.length_drop]; omega, ?_, ?_⟩
                · rw [← S1.out.2.1, full_big (s := t) (l := l.drop a) (by omega) (by omega), List.drop_drop, htE, hab, List.append_assoc]
                · rw [List.drop_drop, htE, hab] at hw; exact (htE ▸ hw)
              clear S1 htE hl' e2 e3
              go_wp2_with fail
              refine hC.mono ?_; rintro e w1 ⟨rfl, S2⟩
              have S3 : Aside _ := HN.out _ S2
              clear S2 HN hC
              go_wp2_with fail
              go_roundg (N - b)
              case measure => have := HT.out; omega
              case rel => exact ⟨b, b + t, _, rfl, by go_num, rfl, hlb, Nat.le_refl _, S3⟩
            · have dk : decide ((b : Int) ≤ (N : Int)) = false := decide_eq_false (by omega)
              have hE : Aside (∀ w', SL enc k w0 blk off (D ++ stb (ltOf cf) (l.drop a)) w' → SL enc k w0 blk off (full (ltOf cf) t l) w') := fun w' hw => by
                rw [← S1.out.2.1, full_small (s := t) (l := l.drop a) (by rw [List.length_drop]; omega)]; exact hw
              by_cases hm : a + s < N
              · have dm : decide (((a + s : Nat) : Int) < (N : Int)) = true := decide_eq_true (by omega)
                have e2 := full_big (lt := ltOf cf) (l := l.drop a) hs0 (by rw [List.length_drop]; omega)
                rw [full_small (s := s) (l := (l.drop a).drop s) (by rw [List.length_drop, List.length_drop]; omega)] at e2
                have e3 := mrg_last HO.out s (l.drop a)
                have hC := CM.out a (a + s) N D (stb (ltOf cf) ((l.drop a).take s)) (stb (ltOf cf) ((l.drop a).drop s)) [] wr
                  (by simp only [stb_len, full_length hs0, List.length_take, List.length_drop, List.length_nil, S1.out.1]; omega)
                  (by simp only [stb_len, full_length hs0, List.length_take, List.length_drop, List.length_nil, S1.out.1]; omega) (by simp only [stb_len, full_length hs0, List.length_take, List.length_drop, List.length_nil, S1.out.1]; omega)
                  S1.out.1.symm (by simp only [stb_len, full_length hs0, List.length_take, List.length_drop, List.length_nil, S1.out.1]; omega) (by simp only [stb_len, full_length hs0, List.length_take, List.length_drop, List.length_nil, S1.out.1]; omega)
                  (asc_stb HO.out _) (asc_stb HO.out _) (by have := S1.out.2.2; rw [e2] at this; simpa only [List.append_assoc, List.append_nil] using this)
                rw [e3] at hC
                clear S1 htE e2 e3
                go_wp2_with fail
                refine hC.mono ?_; rintro e w1 ⟨rfl, S2⟩
                have S3 : Aside _ := hE.out _ (by simpa only [List.append_nil] using S2)
                clear S2 hE hC
                go_wp2_with fail
                go_roundg (N - t)
                case measure => have := HT.out; omega
                case rel => exact ⟨t, by go_num, by have := HT.out; omega, by have := HT.out; omega, Nat.le_refl _, S3⟩
              · have dm : decide (((a + s : Nat) : Int) < (N : Int)) = false := decide_eq_false (by omega)
                have S3 : Aside _ := hE.out wr (by have := S1.out.2.2; rw [full_small (s := s) (l := l.drop a) (by rw [List.length_drop]; omega)] at this; exact this)
                clear S1 hE htE
                go_wp2_with fail
                go_roundg (N - t)
                case measure => have := HT.out; omega
                case rel => exact ⟨t, by go_num, by have := HT.out; omega, by have := HT.out; omega, Nat.le_refl _, S3⟩
        · have dk : decide ((s : Int) < (N : Int)) = false := decide_eq_false (by omega)
          have HQ : Aside (SL enc k w0 blk off (stb (ltOf cf) l) wr) := by have := S1.out; rw [full_small (by omega)] at this; exact this
          clear S1
          go_wp2_with fail
          go_end0
          exact ⟨rfl, HQ.out⟩
end
end Go.Proofs.Ytipmlbbbjafpiaa
