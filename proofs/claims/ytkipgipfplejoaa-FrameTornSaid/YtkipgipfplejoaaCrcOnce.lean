/- The once of a table: done the first time, or done already. Conditions: none. -/
import Derived.Test.YtkipgipfplejoaaCrcTab
namespace Go.Proofs.Ytkipgipfplejoaa
open Go.ChangeShapes Go.WideShapes Go.ChangeAt Go.RowKit
set_option linter.unusedVariables false
set_option maxRecDepth 100000
set_option linter.unusedSimpArgs false

set_option maxRecDepth 100000 in
set_option maxHeartbeats 2000000 in
theorem slow_any (b pl : Nat) (w : World) (hne : pl ≠ b) (hp : w.heap[pl]? = some (.cells #[.pointer (some ⟨b, 0, none⟩)] 44 (0, 0))) (ht : TabC w b 0 0 0 0) :
    Calls Try.prog 49 #[.pointer (some ⟨b, 0, none⟩), .func (.func 43) #[] #[.pointer (some ⟨pl, 0, none⟩)]] w fun e w' => e = .returned (.tuple #[]) ∧ TabC w' b 1 0 1 256 ∧ Only b w w' := by
  have t1 := ht.s1 1
  have hp1 := blk_far (p := ⟨b, 1, none⟩) (.int .i32 1) hp hne
  have o1 := (Only.refl b w).setCell 1 (.int .i32 1)
  have B := Lib.hid (bload_any ⟨b, 0, none⟩ 0 false rfl _ t1.c0)
  have hnot : ∀ (x : Bool) (w : World), (Op.unary .not (.bool x)).run Try.prog w = .ok (.bool (!x)) w := fun _ _ => rfl
  have L := Lib.hid (lock_free ⟨b, 1, none⟩ w ht.c1 (ht.fr 1))
  have F := Lib.hid (fill_any b pl 0 1 (w.setCell ⟨b, 1, none⟩ (.int .i32 1)) hne hp1 t1)
  clear ht t1 hp hp1
  go_enter_defers Try.func49, Try.ntmps49
  go_wp2_with fail
  refine L.out.mono ?_
  rintro e w' ⟨rfl, rfl⟩
  go_wp2_with fail
  refine B.out.mono ?_
  rintro e w' ⟨rfl, rfl⟩
  go_wp2_with fail
  refine F.out.mono ?_
  rintro e w' ⟨rfl, t2, o2⟩
  go_wp2_with fail
  have o3 : Only b w w' := o1.trans o2
  clear L B F o1 o2
  try go_end0
  refine leaves_cons (f := 54) (args := #[.pointer (some ⟨b, 0, none⟩), .bool true]) (by simp) (by simp [go_sem]) ?_
  refine (store_deferred ⟨b, 0, none⟩ (.int .u32 0) .returning _ t2.c0 (t2.fr 0)).mono ?_
  rintro e u' w'' ⟨rfl, rfl, rfl⟩
  have t3 : TabC (w'.drew.setCell ⟨b, 0, none⟩ (.int .u32 1)) b 1 1 1 256 := TabC.s0 (w := w'.drew) t2 1
  have o4 : Only b w (w'.drew.setCell ⟨b, 0, none⟩ (.int .u32 1)) := o3.drew.setCell _ _
  refine leaves_cons (f := 53) (args := #[.pointer (some ⟨b, 1, none⟩)]) (by simp [settle]) (by simp [go_sem]) ?_
  refine (unlock_deferred ⟨b, 1, none⟩ _ _ t3.c1 (t3.fr 1)).mono ?_
  rintro e u' w'' ⟨rfl, rfl, rfl⟩
  have t5 := t3.s1 0
  have o5 := o4.setCell 1 (.int .i32 0)
  simp [Leaves, settle, results, Try.results49]
  exact ⟨t5, o5⟩
set_option maxRecDepth 100000 in
theorem do_first (b pl : Nat) (w : World) (hne : pl ≠ b) (hp : w.heap[pl]? = some (.cells #[.pointer (some ⟨b, 0, none⟩)] 44 (0, 0))) (ht : TabC w b 0 0 0 0) :
    Calls Try.prog 42 #[.pointer (some ⟨b, 0, none⟩), .func (.func 43) #[] #[.pointer (some ⟨pl, 0, none⟩)]] w fun e w' => e = .returned (.tuple #[]) ∧ TabC w' b 1 0 1 256 ∧ Only b w w' := by
  have hnot : ∀ (x : Bool) (w : World), (Op.unary .not (.bool x)).run Try.prog w = .ok (.bool (!x)) w := fun _ _ => rfl
  have B := Lib.hid (bload_any ⟨b, 0, none⟩ 0 false rfl w ht.c0)
  have F := Lib.hid (slow_any b pl w hne hp ht)
  clear ht hp
  go_enter Try.func42, Try.ntmps42
  go_wp2_with fail
  refine B.out.mono ?_
  rintro e w' ⟨rfl, rfl⟩
  go_wp2_with fail
  refine F.out.mono ?_
  rintro e w' ⟨rfl, t2, o2⟩
  go_wp2_with fail
  go_end0
  exact ⟨rfl, t2, o2⟩
/-- A table: new (false), or its entries reckoned (true). -/
def Tab (w : World) (b : Nat) (d : Bool) : Prop := match d with
  | false => TabC w b 0 0 0 0
  | true => TabC w b 1 0 1 256
theorem tab_new0 (w : World) : Tab (w.alloc (.cells (cellsC 0 0 0 0) 68)) w.heap.size false := blk_new _ _
theorem tab_drewN {w : World} {b : Nat} {d : Bool} (k : Nat) (h : Tab w b d) : Tab (w.drewN k) b d := by cases d <;> exact h
theorem tab_lt {w : World} {b : Nat} {d : Bool} (h : Tab w b d) : b < w.heap.size := by cases d <;> exact lt_of_block h
theorem tab_below {w w' : World} {B b : Nat} {d : Bool} (h : Tab w b d) (hb : Below B w w') (hB : b < B) : Tab w' b d := by cases d <;> exact blk_below hb h hB
set_option maxRecDepth 100000 in
theorem ready_any (b : Nat) (d : Bool) (w : World) (ht : Tab w b d) :
    Calls Try.prog 38 #[.pointer (some ⟨b, 0, none⟩)] w fun e w' => e = .returned (.tuple #[]) ∧ Tab w' b true ∧ Only b w w' := by
  have hb : b < w.heap.size := by cases d <;> exact lt_of_block ht
  have hmf : ∀ (fn : Fn) (first cap : Array Value) (w : World), (Instr.makeFunc fn first cap).run Try.prog w = .ok (.func fn first cap) w := fun _ _ _ _ => rfl
  have o1 : Only b w (w.alloc (.cells #[.pointer (some ⟨b, 0, none⟩)] 44)) := (Only.refl _ _).alloc _
  cases d with
  | false =>
    have F := Lib.hid (do_first b w.heap.size (w.alloc (.cells #[.pointer (some ⟨b, 0, none⟩)] 44)) (by omega) (blk_new _ _) (blk_old _ ht))
    clear ht
    go_enter Try.func38, Try.ntmps38
    go_wp2_with fail
    refine F.out.mono ?_
    rintro e w' ⟨rfl, t2, o2⟩
    go_wp2_with fail
    go_end0
    exact ⟨rfl, t2, o1.trans o2⟩
  | true =>
    have t1 : TabC (w.alloc (.cells #[.pointer (some ⟨b, 0, none⟩)] 44)) b 1 0 1 256 := blk_old _ ht
    have F := fun fv => Lib.hid (do_done ⟨b, 0, none⟩ 1 (by decide) fv _ t1.c0)
    clear ht
    go_enter Try.func38, Try.ntmps38
    go_wp2_with fail
    refine (F _).out.mono ?_
    rintro e w' ⟨rfl, rfl⟩
    go_wp2_with fail
    go_end0
    exact ⟨rfl, t1, o1⟩
end Go.Proofs.Ytkipgipfplejoaa
