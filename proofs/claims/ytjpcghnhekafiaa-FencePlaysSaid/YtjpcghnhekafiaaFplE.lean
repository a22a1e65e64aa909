/- A round of FencePlays, put together of its regions, and the loop. Conditions: as stated. -/
import Derived.Test.YtjpcghnhekafiaaFplD
import Derived.Deep.LoopGhost
namespace Go.Proofs.Ytjpcghnhekafiaa
open Go.ChangeShapes Go.WideShapes Go.ChangeAt Go.RowKit
set_option linter.unusedVariables false
set_option maxRecDepth 100000
set_option linter.unusedSimpArgs false
set_option maxHeartbeats 4000000

theorem fround (A : Act) (w wx : World) (Q : Exit → Act → World → Prop) (K : Act → World → Prop) (k n cap ba oa bz gx : Nat) (v : Value) (x : Fe) (ep : Int) (hlt : k < n) (hn : n ≤ 100) (hin : inI ep) (HC : ∀ w', Below wx.heap.size wx w' → w'.cell? ⟨ba, oa + k, none⟩ = some (.int .i64 ep))
    (L : LD A (.slice (some ⟨ba, oa, none⟩) n cap) v bz gx) (f7 : sl A.tmps 7 = .int .i64 (k : Int)) (hx : x.y + x.n ≤ k) (HI : TF wx [(gx, feX x)] v x bz x w)
    (hK : ∀ A' w', LD A' (.slice (some ⟨ba, oa, none⟩) n cap) v bz gx → sl A'.tmps 7 = .int .i64 ((k : Int) + 1) → TF wx [(gx, feX (passF x ep))] v (passF x ep) bz (passF x ep) w' → K A' w') :
    Code.wp Try.prog fpLp (Exit.then K Q) A w := by
  conv => arg 2; whnf
  repeat refine wp_seq ?_
  refine fe7t _ _ _ k n cap _ v bz gx (decide_eq_true hlt) L f7 (fun A0 n0 f27 => ?_)
  repeat first | with_reducible refine then_q ?_ | with_reducible refine inBlock_q ?_
  replace f7 := n0.at_ f7 (by omega) (by omega)
  replace L := L.keep n0 (by omega) (by omega)
  repeat refine wp_seq ?_
  refine wp_cond_true (by exact f27) ?_
  refine wp_skip ?_
  repeat first | with_reducible refine then_q ?_ | with_reducible refine inBlock_q ?_
  repeat refine wp_seq ?_
  refine wp_block ?_
  repeat refine wp_seq ?_
  refine fe9 _ _ _ wx k n cap ba oa bz gx v ep hlt hn HC L f7 x (by omega) HI (fun A1 w1 gn n1 f8 f9 HI1 => ?_)
  repeat first | with_reducible refine then_q ?_ | with_reducible refine inBlock_q ?_
  replace f7 := n1.at_ f7 (by omega) (by omega)
  replace L := L.keep n1 (by omega) (by omega)
  repeat refine wp_seq ?_
  refine fe10 _ _ _ wx _ v bz gx L x (passF x ep) x gn f8 HI1 (fun A2 w2 n2 HI2 => ?_)
  repeat first | with_reducible refine then_q ?_ | with_reducible refine inBlock_q ?_
  replace f7 := n2.at_ f7 (by omega) (by omega)
  replace f9 := n2.at_ f9 (by omega) (by omega)
  replace L := L.keep n2 (by omega) (by omega)
  repeat refine wp_seq ?_
  refine fe11 _ _ _ wx k n cap ba oa bz gx v ep hlt hn HC L f7 x (passF x ep) (by omega) hin HI2 (fun A3 w3 n3 f10 f11 HI3 => ?_)
  repeat first | with_reducible refine then_q ?_ | with_reducible refine inBlock_q ?_
  replace f7 := n3.at_ f7 (by omega) (by omega)
  replace f9 := n3.at_ f9 (by omega) (by omega)
  replace L := L.keep n3 (by omega) (by omega)
  repeat refine wp_seq ?_
  refine fe12 _ _ _ wx _ v bz gx L (passF x ep) (passF x ep) _ HI3 (fun A4 w4 n4 f12 f13 HI4 => ?_)
  repeat first | with_reducible refine then_q ?_ | with_reducible refine inBlock_q ?_
  replace f7 := n4.at_ f7 (by omega) (by omega)
  replace f9 := n4.at_ f9 (by omega) (by omega)
  replace f10 := n4.at_ f10 (by omega) (by omega)
  replace f11 := n4.at_ f11 (by omega) (by omega)
  replace L := L.keep n4 (by omega) (by omega)
  repeat refine wp_seq ?_
  refine fe13 _ _ _ wx k n cap ba oa bz gx v ep hlt hn HC L f7 (passF x ep) _ f9 f10 f11 f12 f13 HI4 (fun A5 w5 n5 f98 HI5 => ?_)
  repeat first | with_reducible refine then_q ?_ | with_reducible refine inBlock_q ?_
  replace f7 := n5.at_ f7 (by omega) (by omega)
  replace L := L.keep n5 (by omega) (by omega)
  repeat refine wp_seq ?_
  refine wp_cond_false (by exact f98) ?_
  refine wp_skip ?_
  repeat first | with_reducible refine then_q ?_ | with_reducible refine inBlock_q ?_
  repeat refine wp_seq ?_
  refine fe8 _ _ _ k (by omega) L.bs L.bd f7 (fun A6 n6 f7' => ?_)
  repeat first | with_reducible refine then_q ?_ | with_reducible refine inBlock_q ?_
  exact hK _ _ (L.keep n6 (by omega) (by omega)) f7' HI5
theorem floop (A : Act) (w wx : World) (Q : Exit → Act → World → Prop) (cap bz gx : Nat) (v : Value) (a0 : Option Addr) (ls : List Int) (hn : ls.length ≤ 100) (hin : ∀ n ∈ ls, inI n) (HA : ∀ k (hk : k < ls.length), ∃ b o, a0 = some ⟨b, o, none⟩ ∧ ∀ w', Below wx.heap.size wx w' → w'.cell? ⟨b, o + k, none⟩ = some (.int .i64 ls[k]))
    (L : LD A (.slice a0 ls.length cap) v bz gx) (f7 : sl A.tmps 7 = .int .i64 0) (HI : TF wx [(gx, feX fen0)] v fen0 bz fen0 w)
    (hQ : ∀ A' w' x, LD A' (.slice a0 ls.length cap) v bz gx → TF wx [(gx, feX x)] v x bz x w' → Q (.exit 0) A' w') : Code.wp Try.prog (.loop fpLp) Q A w := by
  refine wp_loop_ghost (fun q A w => ∃ (k : Nat) (x : Fe), k + q = ls.length ∧ x.y + x.n ≤ (k : Int) ∧ LD A (.slice a0 ls.length cap) v bz gx ∧ sl A.tmps 7 = .int .i64 (k : Int) ∧ TF wx [(gx, feX x)] v x bz x w) ls.length ⟨0, fen0, by omega, by decide, L, f7, HI⟩ ?_
  clear L f7 HI A w
  rintro q A w ⟨k, x, hkg, hx, L, f7, HI⟩
  by_cases hlt : k < ls.length
  · obtain ⟨ba, oa, rfl, HC⟩ := HA k hlt
    exact fround A w wx Q _ k ls.length cap ba oa bz gx v x ls[k] hlt hn (hin _ (List.getElem_mem hlt)) HC L f7 hx HI (fun A' w' L' g7 HI' => ⟨ls.length - (k + 1), by omega, k + 1, _, by omega, by have := passF_more x ls[k]; omega, L', by rw [g7]; rfl, HI'⟩)
  · conv => arg 2; whnf
    repeat refine wp_seq ?_
    refine fe7f _ _ _ k ls.length cap a0 v bz gx (decide_eq_false hlt) L f7 (fun A0 n0 h27 => ?_)
    repeat first | with_reducible refine then_q ?_ | with_reducible refine inBlock_q ?_
    repeat refine wp_seq ?_
    refine wp_cond_false (by exact h27) ?_
    refine wp_exit ?_
    exact hQ _ _ _ (L.keep n0 (by omega) (by omega)) HI
end Go.Proofs.Ytjpcghnhekafiaa
