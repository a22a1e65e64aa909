/- The frame behind a name, all through a walk: what is asked of a frame is its size, that nothing is deferred, and what the live slots hold; so a function of hundreds of slots costs what one of ten costs. Conditions: as stated. -/
import Derived.WalkKit
import Derived.ProofKit
import Derived.Deep.LoopGhost
namespace Go.Proofs.YtgooepfhapaenaaGreat
open Go.ChangeShapes Go.WideShapes Go.ChangeAt Go.RowKit
set_option linter.unusedVariables false

theorem fv_env {P : Program} {c : Code} {Q : Exit → Act → World → Prop} {a : Act} {w : World} (h : ∀ A, A = a → c.wp P Q A w) : c.wp P Q a w := h a rfl
/-- What a slot holds. -/
def sl (t : Array Value) (i : Nat) : Value := t.getD i undef
theorem sl_ne {t : Array Value} {d i : Nat} (v : Value) (h : d ≠ i) : sl (t.setIfInBounds d v) i = sl t i := by
  unfold sl
  rw [Array.getD_eq_getD_getElem?, Array.getD_eq_getD_getElem?, Array.getElem?_setIfInBounds]
  simp [h]
theorem sl_eq {t : Array Value} {i : Nat} (v : Value) (h : i < t.size) : sl (t.setIfInBounds i v) i = v := by
  unfold sl
  rw [Array.getD_eq_getD_getElem?, Array.getElem?_setIfInBounds]
  simp [h]
theorem sl_get {t : Array Value} {i : Nat} {v : Value} (h : sl t i = v) : ∀ hi : i < t.size, t[i]'hi = v := fun hi => by
  unfold sl at h
  simpa [hi] using h
theorem sl_of {t : Array Value} {i : Nat} {v : Value} (hs : i < t.size) (h : ∀ hi : i < t.size, t[i]'hi = v) : sl t i = v := by
  unfold sl
  simpa [hs] using h hs
theorem put_tmps (A : Act) (d : Option Tmp) (v : Value) : (A.put d v).tmps = match d with | some d => A.tmps.setIfInBounds d v | none => A.tmps := by cases d <;> rfl
theorem put_defers (A : Act) (d : Option Tmp) (v : Value) : (A.put d v).defers = A.defers := by cases d <;> rfl
/-- A piece of a body: a region by its number, the first loop's body. -/
def codeAt (n : Nat) : Code → Option Code
  | .region id ops d => if id = n then some (.region id ops d) else none
  | .loop c => codeAt n c
  | .seq a b => match codeAt n a with
    | some c => some c
    | none => codeAt n b
  | .block _ c => codeAt n c
  | .scope c => codeAt n c
  | .cond _ a b => match codeAt n a with
    | some c => some c
    | none => codeAt n b
  | _ => none
def loopAt : Code → Option Code
  | .loop c => some c
  | .seq a b => match loopAt a with
    | some c => some c
    | none => loopAt b
  | .block _ c => loopAt c
  | .scope c => loopAt c
  | .cond _ a b => match loopAt a with
    | some c => some c
    | none => loopAt b
  | _ => none
/-- All ways meet: behind the piece holds J. -/
theorem fv_cut {P : Program} {c : Code} {Q : Exit → Act → World → Prop} {a : Act} {w : World} (J : Act → World → Prop) (h1 : c.wp P (fun e a w => e = .normal ∧ J a w) a w) (h2 : ∀ a w, J a w → Q .normal a w) : c.wp P Q a w :=
  Code.wp_mono (fun e a w h => by obtain ⟨rfl, h⟩ := h; exact h2 a w h) h1
theorem fv_ret {P : Program} {fn : Func} {R : Ending → World → Prop} {A : Act} {w : World} {i : Nat} {v : Value} (hr : fn.results = #[.tmp i]) (hv : A.tmps.getD i undef = v) (hd : A.defers = []) (hR : R (.returned v) w) : bodyPost P fn R .ret A w :=
  bodyPost_ret (by simp [results, hr]; simpa using hv) hd hR
end Go.Proofs.YtgooepfhapaenaaGreat
