/- An atomic pointer to a fence.state, nil too: Load, Store, CompareAndSwap that hits. Conditions: what the cell holds; what it points at is a fence.state. -/
import Derived.Test.YtjpcghnhekafiaaAtm
import Derived.Test.YtjpcghnhekafiaaProg
import Derived.Lib.Builder
namespace Go.Proofs.Ytjpcghnhekafiaa
open Go.ChangeShapes Go.WideShapes Go.ChangeAt Go.RowKit
set_option linter.unusedVariables false
set_option maxRecDepth 100000
set_option linter.unusedSimpArgs false

/-- A pointer to the first cell of a block, or none. -/
def fpO (o : Option Nat) : Value := .pointer (o.map fun b => ⟨b, 0, none⟩)
def FpAt (w : World) (b : Nat) : Prop := ∃ cs fr, w.heap[b]? = some (.cells cs 45 fr) ∧ cs.size = 3
def FpOn (w : World) (o : Option Nat) : Prop := ∀ b, o = some b → FpAt w b
theorem fp_shape {w : World} {b : Nat} (h : FpAt w b) : w.shape? b = some (45, 3) := by
  obtain ⟨cs, fr, h1, h2⟩ := h
  unfold World.shape?
  rw [h1]
  show some (_, cs.size) = _
  rw [h2]
theorem fp_to {w : World} {o : Option Nat} (h : FpOn w o) : (convert 26 30 (fpO o)).run Try.prog w = .ok (fpO o) w := by
  cases o with
  | none => simp [fpO, convert, run_underlying Try.underlying30, run_underlying Try.underlying26, Conv.unsafePointer]
  | some b =>
    obtain ⟨i, hi, hz⟩ := Option.map_eq_some_iff.1 (show (Try.prog.info? 45).map (fun i => i.size) = some 3 by kernel_rfl)
    exact Lib.run_to_unsafe w ⟨b, 0, none⟩ Try.underlying26 Try.underlying30 hi (by omega) (fp_shape (h b rfl)) (show 0 < 3 by decide)
theorem fp_from {w : World} {o : Option Nat} (h : FpOn w o) : (convert 30 26 (fpO o)).run Try.prog w = .ok (fpO o) w := by
  cases o with
  | none => simp [fpO, convert, run_underlying Try.underlying30, run_underlying Try.underlying26, Conv.unsafePointer]
  | some b =>
    obtain ⟨i, hi, hz⟩ := Option.map_eq_some_iff.1 (show (Try.prog.info? 45).map (fun i => i.size) = some 3 by kernel_rfl)
    exact Lib.run_from_unsafe w ⟨b, 0, none⟩ Try.underlying30 Try.underlying26 hi (fp_shape (h b rfl)) (by kernel_rfl)
theorem fpload_any (a : Addr) (o : Option Nat) (w : World) (h : w.cell? a = some (fpO o)) (hb : FpOn w o) :
    Calls Try.prog 14 #[.pointer (some a)] w fun e w' => e = .returned (fpO o) ∧ w = w' := by
  have hl := run_call_loadP (P := Try.prog) Try.func17 (by kernel_rfl) (by kernel_rfl) (by kernel_rfl) (by kernel_rfl) h
  have hc := fp_from hb
  unfold fpO at *
  generalize (o.map fun b => (⟨b, 0, none⟩ : Addr)) = x at *
  clear h hb
  go_enter Try.func14, Try.ntmps14
  go_wp2
  go_ret
  exact ⟨rfl, rfl⟩
theorem fpcas_run {f : FuncId} {fn : Func} (hf : Try.prog.funcs[f]? = some fn) (hname : (fn.name == "runtime.NumGoroutine") = false) (hb : fn.body.isNone = true) (hn : Extern.findNext fn = none)
    (he : Extern.find fn = some (Extern.Atomic.casT .ptr)) {a : Addr} {x y : Option Addr} {w : World} (hc : w.cell? a = some (.pointer x)) (hz : w.frozen? a = false) :
    (callFunc f #[.pointer (some a), .pointer x, .pointer y]).run Try.prog w = .ok (.value (.bool true)) (w.setCell a (.pointer y)) := by
  cases x with
  | some x => exact run_call_casP hf hname hb hn he hc hz
  | none =>
    rw [run_callFunc_extern hf hname hb hn he]
    change (Sem.run Try.prog (do
      let a' ← asAddr (.pointer (some a))
      if ← Extern.Atomic.touchesFrozen a' then unsupported (.unsafePointer "a write to bytes that a string shares")
      let eq ← match Extern.Atomic.T.ptr, ← Extern.Atomic.read .ptr a', Value.pointer none with
        | _, .int _ x, .int _ y => pure (x == y)
        | .ptr, .pointer x, .pointer y => samePointer x y
        | .int _, .pointer (some _), .int _ 0 | .int _, .int _ 0, .pointer (some _) => pure false
        | .int _, .pointer (some _), _ | .int _, _, .pointer (some _) => unsupported .addressObserved
        | _, _, _ => stuck "atomic.CompareAndSwap: old is no T"
      if eq then store a' (.pointer y) .atomic
      pure (Value.bool eq)) w).andThen _ = _
    simp [Extern.Atomic.touchesFrozen, Extern.Atomic.read, asAddr, viewAt, World.shape?_isSome_of_cell? hc, hc, hz, samePointer, run_store Try.prog w a (.pointer y) .atomic rfl, Result.andThen]
theorem fpcas_hit (a : Addr) (o q : Option Nat) (w : World) (h : w.cell? a = some (fpO o)) (hz : w.frozen? a = false) (hb : FpOn w o) (hd : FpOn w q) :
    Calls Try.prog 13 #[.pointer (some a), fpO o, fpO q] w fun e w' => e = .returned (.bool true) ∧ w.setCell a (fpO q) = w' := by
  have hc := fp_to hb
  have hc2 := fp_to hd
  unfold fpO at *
  generalize (o.map fun b => (⟨b, 0, none⟩ : Addr)) = x at *
  generalize (q.map fun b => (⟨b, 0, none⟩ : Addr)) = y at *
  have hl := fpcas_run Try.func16 (by kernel_rfl) (by kernel_rfl) (by kernel_rfl) (by kernel_rfl) (y := y) h hz
  clear h hb hz hd
  go_enter Try.func13, Try.ntmps13
  go_wp2
  go_ret
  exact ⟨rfl, rfl⟩
end Go.Proofs.Ytjpcghnhekafiaa
