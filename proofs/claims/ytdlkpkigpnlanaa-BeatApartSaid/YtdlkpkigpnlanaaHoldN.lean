/- A region that draws, in a round of a range over a function, by the rule for regions outside of one: what holds of it there holds here. Of any program. Conditions: as stated. -/
import Derived.Test.YtdlkpkigpnlanaaHoldV
import Derived.Test.YtdlkpkigpnlanaaRngF
import Derived.OrdersIn
namespace Go.Proofs.Ytdlkpkigpnlanaa
open Go.RowKit
set_option linter.unusedVariables false
variable {P : Program} {ops : Array Oper} {Q : Exit → Act → World → Prop}

theorem rows_wide {row : String} {args : Array Value} {w : World} {R : Value → World → Prop} {l : Nat} (h : Rows P row args w R) : RowsIn (Fence.wide.inRound l) 0 P row args w R :=
  fun c cs _ => let ⟨v, w', r, s⟩ := h c cs; ⟨v, w', r, stepsIn_wide.2 s⟩
def Oper.noDefer (o : Oper) : Bool := match o.op with
  | .defer _ => false
  | _ => true
theorem op_inRound {o : Oper} {a : Act} {w : World} {K : Act → World → Prop} {l : Nat} (hd : Oper.noDefer o = true) (h : o.wp P a w K Q) : o.wpIn (Fence.wide.inRound l) 0 P a w K Q := by
  refine ⟨fun f _ => trivial, ?_⟩
  have hs : o.semAt (Fence.wide.inRound l).round a.eval = execOp a.eval o := Oper.semAt_plain (Fence.wide.inRound l) _ _ (fun c hc => by unfold Oper.noDefer at hd; rw [hc] at hd; cases hd)
  rw [hs]
  unfold Oper.wp at h
  generalize (execOp a.eval o).run P w = r at *
  cases r with
  | ok n w' =>
    cases n <;> simp only [Oper.upon, Oper.uponIn] at h ⊢ <;>
      first
        | exact h
        | exact ⟨(fun h => by cases h), Calls.inRound l (Calls.mono h (fun e w'' he => by cases e <;> exact he))⟩
        | exact ⟨(fun h => by cases h), rows_wide h⟩
  | halt x w' => cases x <;> simp only [Oper.upon, Oper.uponIn] at h ⊢ <;> exact h
theorem wpAny_inRound {md : Region.Mode} {l : Nat} (hd : ops.all Oper.noDefer = true) (hQ : ¬ LetsOut Q) : ∀ (fuel : Nat) (L : Array Bool) (a : Act) (w : World), wpAny P md ops Q fuel L a w → wpAnyIn (Fence.wide.inRound l) 0 P md ops Q fuel L a w
  | 0, _, _, _, h => h
  | fuel + 1, L, a, w, h => by
    refine ⟨h.1, fun i hi => ?_⟩
    have h1 := h.2 i hi
    unfold wpOp at h1
    unfold wpOpIn
    split
    · rename_i ho
      simp only [ho] at h1
      exact wpAny_inRound hd hQ fuel _ _ _ h1
    · rename_i o ho
      simp only [ho] at h1
      split
      · rename_i hw
        simp only [hw, if_true] at h1
        rcases h1 with h1 | ⟨_, h1⟩
        · have hdo : Oper.noDefer o = true := by
            rw [Array.all_eq_true_iff_forall_mem] at hd
            exact hd o (Array.mem_of_getElem? ho)
          exact op_inRound hdo (Oper.wp_mono (fun a w hh => wpAny_inRound hd hQ fuel _ _ _ hh) h1)
        · exact absurd h1 hQ
      · rename_i hw
        simp only [hw] at h1
        exact ⟨fun f _ => trivial, wpAny_inRound hd hQ fuel _ _ _ h1⟩
theorem wpIn_region_of_any {id l : Nat} {a : Act} {w : World} (hm : P.follows .mixedOrders = true) (hd : ops.all Oper.noDefer = true) (hQ : ¬ LetsOut Q)
    (h : wpAny P .any ops Q ops.size (Array.replicate ops.size false) a w.drew) : (Code.region id ops true).wpIn (Fence.wide.inRound l) 0 P Q a w :=
  wpIn_region_any hm (wpAny_inRound hd hQ _ _ _ _ h)
/-- THE BEGINNING, in a round. -/
theorem wpIn_region_holdP {cl : List Nat} {id l : Nat} {os : List Oper} {a : Act} {w : World} (hm : P.follows .mixedOrders = true) (hd : os.toArray.all Oper.noDefer = true) (hQ : ¬ LetsOut Q) (C : Nat → World → Prop) (hB : holdPOk cl os.toArray = true) (hS : C 0 w.drew)
    (h : HoldP P cl os.toArray (fun a C => ∀ w, C cl.length w → Q .normal a w) 0 os a C) : (Code.region id os.toArray true).wpIn (Fence.wide.inRound l) 0 P Q a w :=
  wpIn_region_of_any hm hd hQ (any_holdP cl C hB hS h)
end Go.Proofs.Ytdlkpkigpnlanaa
