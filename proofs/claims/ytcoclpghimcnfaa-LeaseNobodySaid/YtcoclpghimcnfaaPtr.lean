/- An atomic pointer to a lease: Load, Store, CompareAndSwap that hits. Conditions: what the cell holds; what it points at is a lease. -/
import Derived.Test.YtcoclpghimcnfaaAtm
import Derived.Test.YtcoclpghimcnfaaProg
import Derived.Lib.Builder
namespace Go.Proofs.Ytcoclpghimcnfaa
open Go.ChangeShapes Go.WideShapes Go.ChangeAt Go.RowKit
set_option linter.unusedVariables false
set_option maxRecDepth 100000
set_option linter.unusedSimpArgs false

/-- A lease's block. -/
def LsAt (w : World) (b : Nat) : Prop := ∃ cs fr, w.heap[b]? = some (.cells cs 29 fr) ∧ cs.size = 3
theorem ls_shape {w : World} {b : Nat} (h : LsAt w b) : w.shape? b = some (29, 3) := by
  obtain ⟨cs, fr, h1, h2⟩ := h
  unfold World.shape?
  rw [h1]
  show some (_, cs.size) = _
  rw [h2]
theorem ls_to {w : World} {b : Nat} (h : LsAt w b) : (convert 47 51 (.pointer (some ⟨b, 0, none⟩))).run Try.prog w = .ok (.pointer (some ⟨b, 0, none⟩)) w := by
  obtain ⟨i, hi, hz⟩ := Option.map_eq_some_iff.1 (show (Try.prog.info? 29).map (fun i => i.size) = some 3 by kernel_rfl)
  exact Lib.run_to_unsafe w ⟨b, 0, none⟩ Try.underlying47 Try.underlying51 hi (by omega) (ls_shape h) (show 0 < 3 by decide)
theorem ls_from {w : World} {b : Nat} (h : LsAt w b) : (convert 51 47 (.pointer (some ⟨b, 0, none⟩))).run Try.prog w = .ok (.pointer (some ⟨b, 0, none⟩)) w := by
  obtain ⟨i, hi, hz⟩ := Option.map_eq_some_iff.1 (show (Try.prog.info? 29).map (fun i => i.size) = some 3 by kernel_rfl)
  exact Lib.run_from_unsafe w ⟨b, 0, none⟩ Try.underlying51 Try.underlying47 hi (ls_shape h) (by kernel_rfl)
theorem pload_any (a : Addr) (b : Nat) (w : World) (h : w.cell? a = some (.pointer (some ⟨b, 0, none⟩))) (hb : LsAt w b) :
    Calls Try.prog 38 #[.pointer (some a)] w fun e w' => e = .returned (.pointer (some ⟨b, 0, none⟩)) ∧ w = w' := by
  have hl := run_call_loadP (P := Try.prog) Try.func40 (by kernel_rfl) (by kernel_rfl) (by kernel_rfl) (by kernel_rfl) h
  have hc := ls_from hb
  clear h hb
  go_enter Try.func38, Try.ntmps38
  go_wp2
  go_ret
  exact ⟨rfl, rfl⟩
theorem pstore_any (a : Addr) (b : Nat) (u : Value) (w : World) (h : w.cell? a = some u) (hz : w.frozen? a = false) (hb : LsAt w b) :
    Calls Try.prog 20 #[.pointer (some a), .pointer (some ⟨b, 0, none⟩)] w fun e w' => e = .returned (.tuple #[]) ∧ w.setCell a (.pointer (some ⟨b, 0, none⟩)) = w' := by
  have hl := run_call_storeP (P := Try.prog) Try.func32 (by kernel_rfl) (by kernel_rfl) (by kernel_rfl) (by kernel_rfl) (y := some ⟨b, 0, none⟩) h hz
  have hc := ls_to hb
  clear h hb hz
  go_enter Try.func20, Try.ntmps20
  go_wp2
  go_end0
  exact ⟨rfl, rfl⟩
theorem pcas_hit (a : Addr) (b c : Nat) (w : World) (h : w.cell? a = some (.pointer (some ⟨b, 0, none⟩))) (hz : w.frozen? a = false) (hb : LsAt w b) (hd : LsAt w c) :
    Calls Try.prog 34 #[.pointer (some a), .pointer (some ⟨b, 0, none⟩), .pointer (some ⟨c, 0, none⟩)] w fun e w' => e = .returned (.bool true) ∧ w.setCell a (.pointer (some ⟨c, 0, none⟩)) = w' := by
  have hl := run_call_casP (P := Try.prog) Try.func39 (by kernel_rfl) (by kernel_rfl) (by kernel_rfl) (by kernel_rfl) (y := some ⟨c, 0, none⟩) h hz
  have hc := ls_to hb
  have hc2 := ls_to hd
  clear h hb hz hd
  go_enter Try.func34, Try.ntmps34
  go_wp2
  go_ret
  exact ⟨rfl, rfl⟩
end Go.Proofs.Ytcoclpghimcnfaa
