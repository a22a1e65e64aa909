/- A round of ClockGoes, put together of its regions, and the loop. Conditions: as stated. -/
import Derived.Test.YtejepnjgkflooaaCplD
import Derived.Deep.LoopGhost
namespace Go.Proofs.Ytejepnjgkflooaa
open Go.ChangeShapes Go.WideShapes Go.ChangeAt Go.RowKit
set_option linter.unusedVariables false
set_option maxRecDepth 100000
set_option linter.unusedSimpArgs false
set_option maxHeartbeats 4000000

theorem then_q {K : Act → World → Prop} {Q : Exit → Act → World → Prop} {a : Act} {w : World} (h : K a w) : Exit.then K Q .normal a w := h
theorem inBlock_q {Q : Exit → Act → World → Prop} {a : Act} {w : World} {id : Nat} (h : Q .normal a w) : Exit.inBlock id Q .normal a w := h
theorem cround (A : Act) (w wx : World) (Q : Exit → Act → World → Prop) (K : Act → World → Prop) (k n cap ba oa bh bz g : Nat) (st y : Int) (c : Ck) (hlt : k < n) (hn : n ≤ 60) (HC : ∀ w', Below wx.heap.size wx w' → w'.cell? ⟨ba, oa + k, none⟩ = some (.int .i64 y))
    (L : LD A (.slice (some ⟨ba, oa, none⟩) n cap) st (ptrB bh) (ptrB bz) g) (f8 : sl A.tmps 8 = .int .i64 (k : Int)) (HI : XI wx g (ptrB bh) c (ptrB bz) c c w)
    (hK : ∀ A' w' c', LD A' (.slice (some ⟨ba, oa, none⟩) n cap) st (ptrB bh) (ptrB bz) g → sl A'.tmps 8 = .int .i64 ((k : Int) + 1) → XI wx g (ptrB bh) c' (ptrB bz) c' c' w' → K A' w') :
    Code.wp Try.prog cpLp (Exit.then K Q) A w := by
  conv => arg 2; whnf
  repeat refine wp_seq ?_
  refine c6t _ _ _ k n cap _ st (ptrB bh) (ptrB bz) g (decide_eq_true hlt) L f8 (fun A0 n0 f21 => ?_)
  repeat first | with_reducible refine then_q ?_ | with_reducible refine inBlock_q ?_
  replace f8 := n0.at_ f8 (by omega) (by omega)
  replace L := L.keep n0 (by omega) (by omega)
  repeat refine wp_seq ?_
  refine wp_cond_true (by exact f21) ?_
  refine wp_skip ?_
  repeat first | with_reducible refine then_q ?_ | with_reducible refine inBlock_q ?_
  repeat refine wp_seq ?_
  try refine wp_block ?_
  repeat refine wp_seq ?_
  refine c8 _ _ _ k st _ _ _ g (by omega) L f8 (fun A1 bb n1 f28 => ?_)
  repeat first | with_reducible refine then_q ?_ | with_reducible refine inBlock_q ?_
  replace f8 := n1.at_ f8 (by omega) (by omega)
  replace L := L.keep n1 (by omega) (by omega)
  repeat refine wp_seq ?_
  refine fv_cut (fun A' w' => ∃ c', LD A' (.slice (some ⟨ba, oa, none⟩) n cap) st (ptrB bh) (ptrB bz) g ∧ sl A'.tmps 8 = .int .i64 (k : Int) ∧ XI wx g (ptrB bh) c' (ptrB bz) c' c' w') ?_ ?_
  · cases bb with
    | true =>
      repeat refine wp_seq ?_
      refine wp_cond_true (by exact f28) ?_
      repeat refine wp_seq ?_
      refine c9 _ _ _ wx bh bz g st (.slice (some ⟨ba, oa, none⟩) n cap) L c HI (fun A2 w2 n2 f40 HI2 => ?_)
      repeat first | with_reducible refine then_q ?_ | with_reducible refine inBlock_q ?_
      replace f8 := n2.at_ f8 (by omega) (by omega)
      replace L := L.keep n2 (by omega) (by omega)
      repeat refine wp_seq ?_
      refine wp_cond_false (by exact f40) ?_
      refine wp_skip ?_
      repeat first | with_reducible refine then_q ?_ | with_reducible refine inBlock_q ?_
      repeat refine wp_seq ?_
      refine c11 _ _ _ wx bh bz g st (.slice (some ⟨ba, oa, none⟩) n cap) L _ c HI2 (fun A3 w3 n3 HI3 => ?_)
      repeat first | with_reducible refine then_q ?_ | with_reducible refine inBlock_q ?_
      replace f8 := n3.at_ f8 (by omega) (by omega)
      replace L := L.keep n3 (by omega) (by omega)
      exact ⟨rfl, _, L, f8, HI3⟩
    | false =>
      repeat refine wp_seq ?_
      refine wp_cond_false (by exact f28) ?_
      repeat refine wp_seq ?_
      refine c12 _ _ _ wx k n cap ba oa bh bz g st y hlt hn HC L f8 c c HI (fun A2 w2 n2 HI2 => ?_)
      repeat first | with_reducible refine then_q ?_ | with_reducible refine inBlock_q ?_
      replace f8 := n2.at_ f8 (by omega) (by omega)
      replace L := L.keep n2 (by omega) (by omega)
      repeat refine wp_seq ?_
      refine c13 _ _ _ wx k n cap ba oa bh bz g st y hlt hn HC L f8 c HI2 (fun A3 w3 n3 f67 HI3 => ?_)
      repeat first | with_reducible refine then_q ?_ | with_reducible refine inBlock_q ?_
      replace f8 := n3.at_ f8 (by omega) (by omega)
      replace L := L.keep n3 (by omega) (by omega)
      repeat refine wp_seq ?_
      refine wp_cond_false (by exact f67) ?_
      refine wp_skip ?_
      repeat first | with_reducible refine then_q ?_ | with_reducible refine inBlock_q ?_
      exact ⟨rfl, _, L, f8, HI3⟩
  · rintro Ac wc ⟨c', Lc, c8', HIc⟩
    clear L f8 HI
    rename LD Ac _ _ _ _ _ => L
    rename sl Ac.tmps 8 = _ => f8
    repeat first | with_reducible refine then_q ?_ | with_reducible refine inBlock_q ?_
    repeat refine wp_seq ?_
    refine c15 _ _ _ wx bh bz g st (.slice (some ⟨ba, oa, none⟩) n cap) L c' HIc (fun A5' w5' n5' f86 HI5 => ?_)
    repeat first | with_reducible refine then_q ?_ | with_reducible refine inBlock_q ?_
    replace f8 := n5'.at_ f8 (by omega) (by omega)
    replace L := L.keep n5' (by omega) (by omega)
    repeat refine wp_seq ?_
    refine wp_cond_false (by exact f86) ?_
    refine wp_skip ?_
    repeat first | with_reducible refine then_q ?_ | with_reducible refine inBlock_q ?_
    repeat refine wp_seq ?_
    refine c7 _ _ _ k (by omega) L.bs L.bd f8 (fun A9' n9' f8' => ?_)
    repeat first | with_reducible refine then_q ?_ | with_reducible refine inBlock_q ?_
    exact hK _ _ c' (L.keep n9' (by omega) (by omega)) f8' HI5
theorem cloop (A : Act) (w wx : World) (Q : Exit → Act → World → Prop) (cap bh bz g : Nat) (st : Int) (c : Ck) (a0 : Option Addr) (ls : List Int) (hn : ls.length ≤ 60) (HA : ∀ k (hk : k < ls.length), ∃ b o, a0 = some ⟨b, o, none⟩ ∧ ∀ w', Below wx.heap.size wx w' → w'.cell? ⟨b, o + k, none⟩ = some (.int .i64 ls[k]))
    (L : LD A (.slice a0 ls.length cap) st (ptrB bh) (ptrB bz) g) (f8 : sl A.tmps 8 = .int .i64 0) (HI : XI wx g (ptrB bh) c (ptrB bz) c c w)
    (hQ : ∀ A' w' c', LD A' (.slice a0 ls.length cap) st (ptrB bh) (ptrB bz) g → XI wx g (ptrB bh) c' (ptrB bz) c' c' w' → Q (.exit 0) A' w') : Code.wp Try.prog (.loop cpLp) Q A w := by
  refine wp_loop_ghost (fun q A w => ∃ k c, k + q = ls.length ∧ LD A (.slice a0 ls.length cap) st (ptrB bh) (ptrB bz) g ∧ sl A.tmps 8 = .int .i64 (k : Int) ∧ XI wx g (ptrB bh) c (ptrB bz) c c w) ls.length ⟨0, c, by omega, L, f8, HI⟩ ?_
  rintro q A w ⟨k, c, hkg, L, f8, HI⟩
  by_cases hlt : k < ls.length
  · obtain ⟨ba, oa, rfl, HC⟩ := HA k hlt
    exact cround A w wx Q _ k ls.length cap ba oa bh bz g st ls[k] c hlt hn HC L f8 HI (fun A' w' c' L' g8 HI' => ⟨ls.length - (k + 1), by omega, k + 1, c', by omega, L', by rw [g8]; rfl, HI'⟩)
  · conv => arg 2; whnf
    repeat refine wp_seq ?_
    refine c6f _ _ _ k ls.length cap a0 st (ptrB bh) (ptrB bz) g (decide_eq_false hlt) L f8 (fun A0 n0 h21 => ?_)
    repeat first | with_reducible refine then_q ?_ | with_reducible refine inBlock_q ?_
    repeat refine wp_seq ?_
    refine wp_cond_false (by exact h21) ?_
    refine wp_exit ?_
    exact hQ _ _ _ (L.keep n0 (by omega) (by omega)) HI
end Go.Proofs.Ytejepnjgkflooaa
