/- sync/atomic's Int64, Bool and pointers, for one goroutine; a once of any function. Conditions: the once is not held. -/
import Derived.Test.YtejepnjgkflooaaOnce
import Derived.LaidEql
namespace Go.Proofs.Ytejepnjgkflooaa
open Go.ChangeShapes Go.WideShapes Go.ChangeAt Go.RowKit
set_option linter.unusedVariables false
set_option maxRecDepth 100000
set_option linter.unusedSimpArgs false

section
variable {P : Program} {f : FuncId} {fn : Func}
theorem run_call_loadP (hf : P.funcs[f]? = some fn) (hname : (fn.name == "runtime.NumGoroutine") = false) (hb : fn.body.isNone = true) (hn : Extern.findNext fn = none)
    (he : Extern.find fn = some (Extern.Atomic.loadT .ptr)) {a : Addr} {x : Option Addr} {w : World} (hc : w.cell? a = some (.pointer x)) :
    (callFunc f #[.pointer (some a)]).run P w = .ok (.value (.pointer x)) w := by
  rw [run_callFunc_extern hf hname hb hn he]
  change (Sem.run P (do Extern.Atomic.read .ptr (← asAddr (.pointer (some a)))) w).andThen _ = _
  simp [Extern.Atomic.read, asAddr, hc, Result.andThen]
theorem run_call_storeP (hf : P.funcs[f]? = some fn) (hname : (fn.name == "runtime.NumGoroutine") = false) (hb : fn.body.isNone = true) (hn : Extern.findNext fn = none)
    (he : Extern.find fn = some Extern.Atomic.storeT) {a : Addr} {y : Option Addr} {u : Value} {w : World} (hc : w.cell? a = some u) (hz : w.frozen? a = false) :
    (callFunc f #[.pointer (some a), .pointer y]).run P w = .ok (.value (.tuple #[])) (w.setCell a (.pointer y)) := by
  rw [run_callFunc_extern hf hname hb hn he]
  change (Sem.run P (do
    store (← asAddr (.pointer (some a))) (.pointer y) .atomic
    pure Extern.Atomic.none_) w).andThen _ = _
  simp [asAddr, hc, hz, run_store P w a (.pointer y) .atomic rfl, Result.andThen, Extern.Atomic.none_]
theorem run_call_casP (hf : P.funcs[f]? = some fn) (hname : (fn.name == "runtime.NumGoroutine") = false) (hb : fn.body.isNone = true) (hn : Extern.findNext fn = none)
    (he : Extern.find fn = some (Extern.Atomic.casT .ptr)) {a x : Addr} {y : Option Addr} {w : World} (hc : w.cell? a = some (.pointer (some x))) (hz : w.frozen? a = false) :
    (callFunc f #[.pointer (some a), .pointer (some x), .pointer y]).run P w = .ok (.value (.bool true)) (w.setCell a (.pointer y)) := by
  rw [run_callFunc_extern hf hname hb hn he]
  change (Sem.run P (do
    let a' ← asAddr (.pointer (some a))
    if ← Extern.Atomic.touchesFrozen a' then unsupported (.unsafePointer "a write to bytes that a string shares")
    let eq ← match Extern.Atomic.T.ptr, ← Extern.Atomic.read .ptr a', Value.pointer (some x) with
      | _, .int _ x, .int _ y => pure (x == y)
      | .ptr, .pointer x, .pointer y => samePointer x y
      | .int _, .pointer (some _), .int _ 0 | .int _, .int _ 0, .pointer (some _) => pure false
      | .int _, .pointer (some _), _ | .int _, _, .pointer (some _) => unsupported .addressObserved
      | _, _, _ => stuck "atomic.CompareAndSwap: old is no T"
    if eq then store a' (.pointer y) .atomic
    pure (Value.bool eq)) w).andThen _ = _
  simp [Extern.Atomic.touchesFrozen, Extern.Atomic.read, asAddr, viewAt, World.shape?_isSome_of_cell? hc, hc, hz, samePointer, run_sameAddr_same, run_store P w a (.pointer y) .atomic rfl, Result.andThen]
end
/-- '(*sync/atomic.Int64).Load'. -/
theorem i64load_any (a : Addr) (x : Int) (w : World) (h : w.cell? a = some (.int .i64 x)) :
    Calls Try.prog 23 #[.pointer (some a)] w fun e w' => e = .returned (.int .i64 x) ∧ w = w' := by
  have hl := run_call_load (P := Try.prog) Try.func30 (by kernel_rfl) (by kernel_rfl) (by kernel_rfl) .i64 (by kernel_rfl) h
  go_enter Try.func23, Try.ntmps23
  go_wp2
  go_ret
  exact ⟨rfl, rfl⟩
/-- '(*sync/atomic.Int64).Add'. -/
theorem i64add_any (a : Addr) (x y s : Int) (w : World) (h : w.cell? a = some (.int .i64 x)) (hz : w.frozen? a = false) (hs : IntKind.i64.wrap (x + y) = s) :
    Calls Try.prog 14 #[.pointer (some a), .int .i64 y] w fun e w' => e = .returned (.int .i64 s) ∧ w.setCell a (.int .i64 s) = w' := by
  have hl := run_call_add (P := Try.prog) Try.func21 (by kernel_rfl) (by kernel_rfl) (by kernel_rfl) .i64 (by kernel_rfl) (y := y) (s := s) h hz (by simp [go_sem]; exact hs)
  go_enter Try.func14, Try.ntmps14
  go_wp2
  go_ret
  exact ⟨rfl, rfl⟩
/-- '(*sync/atomic.Int64).CompareAndSwap', where it hits. -/
theorem i64cas_hit (a : Addr) (x y : Int) (w : World) (h : w.cell? a = some (.int .i64 x)) (hz : w.frozen? a = false) :
    Calls Try.prog 18 #[.pointer (some a), .int .i64 x, .int .i64 y] w fun e w' => e = .returned (.bool true) ∧ w.setCell a (.int .i64 y) = w' := by
  have hl := run_call_cas_hit (P := Try.prog) Try.func25 (by kernel_rfl) (by kernel_rfl) (by kernel_rfl) .i64 (by kernel_rfl) (y := y) h hz
  go_enter Try.func18, Try.ntmps18
  go_wp2
  go_ret
  exact ⟨rfl, rfl⟩
def bit32 (b : Bool) : Int := if b then 1 else 0
theorem b32_any (b : Bool) (w : World) : Calls Try.prog 34 #[.bool b] w fun e w' => e = .returned (.int .u32 (bit32 b)) ∧ w = w' := by
  cases b
  all_goals
    go_enter Try.func34, Try.ntmps34
    go_wp2
    go_ret
    exact ⟨rfl, rfl⟩
/-- '(*sync/atomic.Bool).Store'. -/
theorem bstore_any (a : Addr) (b : Bool) (x : Value) (w : World) (hc : w.cell? a = some x) (hz : w.frozen? a = false) :
    Calls Try.prog 29 #[.pointer (some a), .bool b] w fun e w' => e = .returned (.tuple #[]) ∧ w.drew.setCell a (.int .u32 (bit32 b)) = w' := by
  have hc' : w.drew.cell? a = some x := by go_simp
  have hz' : w.drew.frozen? a = false := by go_simp
  cases b
  · have hst := run_call_store (P := Try.prog) Try.func33 (by kernel_rfl) (by kernel_rfl) (by kernel_rfl) (by kernel_rfl) (k := .u32) (y := 0) hc' hz'
    go_enter Try.func29, Try.ntmps29
    go_wp2
    go_region_calls
    all_goals (go_end0; exact ⟨rfl, rfl⟩)
  · have hst := run_call_store (P := Try.prog) Try.func33 (by kernel_rfl) (by kernel_rfl) (by kernel_rfl) (by kernel_rfl) (k := .u32) (y := 1) hc' hz'
    go_enter Try.func29, Try.ntmps29
    go_wp2
    go_region_calls
    all_goals (go_end0; exact ⟨rfl, rfl⟩)
/-! ### A once of any function: its first cell at o in the block b -/
/-- What the once leaves, the function's own work being done (in w). -/
def oncedW (b o : Nat) (w : World) : World := (w.drew.setCell ⟨b, o, none⟩ (.int .u32 1)).setCell ⟨b, o + 1, none⟩ (.int .i32 0)
/-- The once's cells, as its lock stands. -/
structure OnceC (w : World) (b o : Nat) (d lk : Int) : Prop where
  c0 : w.cell? ⟨b, o, none⟩ = some (.int .u32 d)
  c1 : w.cell? ⟨b, o + 1, none⟩ = some (.int .i32 lk)
  f0 : w.frozen? ⟨b, o, none⟩ = false
  f1 : w.frozen? ⟨b, o + 1, none⟩ = false
set_option maxHeartbeats 2000000 in
theorem slow_once (b o n : Nat) (cs : Array Value) (R : World → Prop) (w : World) (hen : ∀ w, (callFunc n cs).run Try.prog w = .ok (.enter n cs) w) (h : OnceC w b o 0 0)
    (hF : Calls Try.prog n cs (w.setCell ⟨b, o + 1, none⟩ (.int .i32 1)) fun e w' => e = .returned (.tuple #[]) ∧ R w') (hR : ∀ w', R w' → OnceC w' b o 0 1) :
    Calls Try.prog 20 #[.pointer (some ⟨b, o, none⟩), .func (.func n) #[] cs] w fun e w' => e = .returned (.tuple #[]) ∧ ∃ w2, R w2 ∧ w' = oncedW b o w2 := by
  have L := Lib.hid (lock_free ⟨b, o + 1, none⟩ w h.c1 h.f1)
  have h0 : (w.setCell ⟨b, o + 1, none⟩ (.int .i32 1)).cell? ⟨b, o, none⟩ = some (.int .u32 0) := by
    exact (World.cell?_setCell_other w ⟨b, o + 1, none⟩ ⟨b, o, none⟩ _ (by simp)).trans h.c0
  have B := Lib.hid (bload_any ⟨b, o, none⟩ 0 false rfl _ h0)
  have hnot : ∀ (x : Bool) (w : World), (Op.unary .not (.bool x)).run Try.prog w = .ok (.bool (!x)) w := fun _ _ => rfl
  have F := Lib.hid hF
  clear h h0 hF
  go_enter_defers Try.func20, Try.ntmps20
  go_wp2_with fail
  refine L.out.mono ?_
  rintro e w' ⟨rfl, rfl⟩
  go_wp2_with fail
  refine B.out.mono ?_
  rintro e w' ⟨rfl, rfl⟩
  go_wp2_with fail
  refine F.out.mono ?_
  rintro e w' ⟨rfl, hr⟩
  have h2 := hR _ hr
  have HR := Lib.hid hr
  clear hR hr L B F
  go_wp2_with fail
  try go_end0
  refine leaves_cons (f := 29) (args := #[.pointer (some ⟨b, o, none⟩), .bool true]) (by simp) (by simp [go_sem]) ?_
  refine (store_deferred ⟨b, o, none⟩ (.int .u32 0) .returning _ h2.c0 h2.f0).mono ?_
  rintro e u' w'' ⟨rfl, rfl, rfl⟩
  have c1 : (w'.drew.setCell ⟨b, o, none⟩ (.int .u32 1)).cell? ⟨b, o + 1, none⟩ = some (.int .i32 1) := by
    exact (World.cell?_setCell_other w'.drew ⟨b, o, none⟩ ⟨b, o + 1, none⟩ _ (by simp)).trans h2.c1
  have z1 : (w'.drew.setCell ⟨b, o, none⟩ (.int .u32 1)).frozen? ⟨b, o + 1, none⟩ = false := by
    have := h2.f1
    go_simp
  refine leaves_cons (f := 28) (args := #[.pointer (some ⟨b, o + 1, none⟩)]) (by simp [settle]) (by simp [go_sem]) ?_
  refine (unlock_deferred ⟨b, o + 1, none⟩ _ _ c1 z1).mono ?_
  rintro e u' w'' ⟨rfl, rfl, rfl⟩
  simp [Leaves, settle, results, Try.results20]
  exact ⟨w', HR.out, rfl⟩
theorem do_once (b o n : Nat) (cs : Array Value) (R : World → Prop) (w : World) (hen : ∀ w, (callFunc n cs).run Try.prog w = .ok (.enter n cs) w) (h : OnceC w b o 0 0)
    (hF : Calls Try.prog n cs (w.setCell ⟨b, o + 1, none⟩ (.int .i32 1)) fun e w' => e = .returned (.tuple #[]) ∧ R w') (hR : ∀ w', R w' → OnceC w' b o 0 1) :
    Calls Try.prog 12 #[.pointer (some ⟨b, o, none⟩), .func (.func n) #[] cs] w fun e w' => e = .returned (.tuple #[]) ∧ ∃ w2, R w2 ∧ w' = oncedW b o w2 := by
  have hnot : ∀ (x : Bool) (w : World), (Op.unary .not (.bool x)).run Try.prog w = .ok (.bool (!x)) w := fun _ _ => rfl
  have B := Lib.hid (bload_any ⟨b, o, none⟩ 0 false rfl w h.c0)
  have F := Lib.hid (slow_once b o n cs R w hen h hF hR)
  clear h hF hR hen
  go_enter Try.func12, Try.ntmps12
  go_wp2_with fail
  refine B.out.mono ?_
  rintro e w' ⟨rfl, rfl⟩
  go_wp2_with fail
  refine F.out.mono ?_
  rintro e w' ⟨rfl, h2⟩
  go_wp2_with fail
  go_end0
  exact ⟨rfl, h2⟩
end Go.Proofs.Ytejepnjgkflooaa
