/- Pieces of the walk of HeapPlays: what Top and Take tell, held against the row (region 15). Conditions: as stated. UNDER WAY. -/
import Derived.Test.YtfknmokidjgeiaaHpA
namespace Go.Proofs.Ytfknmokidjgeiaa
open Go.ChangeShapes Go.WideShapes Go.ChangeAt Go.RowKit
set_option linter.unusedVariables false
set_option maxRecDepth 100000
set_option linter.unusedSimpArgs false
set_option maxHeartbeats 4000000

theorem t15_nil (A : Act) (w wx : World) (Q : Exit → Act → World → Prop) (vh vz : Value) (b15 c : Nat) (AR : Option Addr) (l1 l2 : List Thg) (G : Nat → Prop) (bs : A.tmps.size = 317) (bd : A.defers = [])
    (f11 : ∀ h : 11 < A.tmps.size, A.tmps[11]'h = .slice AR ([] : List Thg).length c) (f14 : ∀ h : 14 < A.tmps.size, A.tmps[14]'h = .int .i64 0)
    (f15 : ∀ h : 15 < A.tmps.size, A.tmps[15]'h = .pointer (some ⟨b15, 0, none⟩)) (f16 : ∀ h : 16 < A.tmps.size, A.tmps[16]'h = .bool false)
    (h15 : w.heap[b15]? = some (.cells #[.int .i64 0, .int .i64 0, .int .i64 0] 24 (0, 0)))
    (HI : Inv3 wx G vh l1 vz l2 (.slice AR ([] : List Thg).length c) [] w)
    (hQ : ∀ A' w', A'.tmps.size = 317 → A'.defers = [] → sl A'.tmps 126 = .bool false → (∀ i, i < 90 → sl A'.tmps i = sl A.tmps i) → Below w.heap.size w w' → Q .normal A' w') :
    Code.wp Try.prog (hpR 15) Q A w := by
  have E1 := fun w => eqK_run w zero3 zero3
  rw [show eq3 zero3 zero3 = true from rfl] at E1
  unfold zero3 at E1
  dsimp only at E1
  simp only [List.length_nil] at f11
  have HL := Lib.hid (show ∀ w', Below w.heap.size w w' → (w'.cell? ⟨b15, 0, none⟩ = some (.int .i64 0) ∧ w'.cell? ⟨b15, 1, none⟩ = some (.int .i64 0) ∧ w'.cell? ⟨b15, 2, none⟩ = some (.int .i64 0)) from fun w' hb => kb_cells (v := zero3) ((hb.block _ (lt_of_block h15)).trans h15))
  have HQ := Lib.hid hQ
  clear hQ HI h15
  conv => arg 2; whnf
  refine wp_region_hold (fun w' => Below w.heap.size w w') (by kernel_rfl) (by kernel_rfl) ⟨rfl, rfl, rfl, Nat.le_refl _, fun _ _ => rfl⟩ ?_
  repeat
    first
    | (refine hold_val (v := ?_) ?_ ?_ ?_
       rotate_left
       · first
         | (simp [Region.wanted]; done)
         | (simp [Region.wanted, yielded, Act.put, bs, undef]; done)
       · (intro w' hS
          obtain ⟨_, _, _⟩ := HL.out w' hS
          go_simp
          try with_reducible rfl))
    | (refine hold_skip ?_ ?_
       · (simp [Region.wanted, yielded, Act.put, bs, undef]; done))
  refine hold_nil ?_
  intro w6 hS
  refine HQ.out _ _ ?_ ?_ ?_ (fun i hi => ?_) hS
  · simp only [put_tmps, Array.size_setIfInBounds, bs]
  · simp only [put_defers, bd]
  · simp only [put_tmps]
    repeat first | rw [sl_ne _ (by decide)] | rw [sl_eq _ (by simp only [Array.size_setIfInBounds, bs]; decide)]
  · simp only [put_tmps]
    repeat rw [sl_ne _ (by omega)]
theorem t15_cons (A : Act) (w wx : World) (Q : Exit → Act → World → Prop) (vh vz : Value) (b15 c : Nat) (AR : Option Addr) (t : Thg) (r : List Thg) (l1 l2 : List Thg) (G : Nat → Prop) (bs : A.tmps.size = 317) (bd : A.defers = [])
    (f11 : ∀ h : 11 < A.tmps.size, A.tmps[11]'h = .slice AR ((t :: r) : List Thg).length c) (f14 : ∀ h : 14 < A.tmps.size, A.tmps[14]'h = .int .i64 t.id)
    (f15 : ∀ h : 15 < A.tmps.size, A.tmps[15]'h = .pointer (some ⟨b15, 0, none⟩)) (f16 : ∀ h : 16 < A.tmps.size, A.tmps[16]'h = .bool true)
    (h15 : w.heap[b15]? = some (.cells #[.int .i64 t.key.a, .int .i64 t.key.b, .int .i64 t.key.c] 24 (0, 0)))
    (HI : Inv3 wx G vh l1 vz l2 (.slice AR ((t :: r) : List Thg).length c) (t :: r) w)
    (hQ : ∀ A' w', A'.tmps.size = 317 → A'.defers = [] → sl A'.tmps 126 = .bool false → (∀ i, i < 90 → sl A'.tmps i = sl A.tmps i) → Below w.heap.size w w' → Q .normal A' w') :
    Code.wp Try.prog (hpR 15) Q A w := by
  obtain ⟨br, or, hAR, hrow⟩ := inv_head HI
  cases hAR
  have HRW := Lib.hid hrow
  have E1 := fun w => eqK_run w t.key t.key
  rw [show eq3 t.key t.key = true by unfold eq3; simp] at E1
  simp only [List.length_cons] at f11
  have dlen2 : decide ((0 : Int) < ((r.length + 1 : Nat) : Int)) = true := decide_eq_true (by omega)
  have dlen3 : (0 : Int) < ((r.length + 1 : Nat) : Int) := by omega
  have dlen4 : (0 : Int) < (r.length : Int) + 1 := by omega
  have dlen5 : decide ((0 : Int) < (r.length : Int) + 1) = true := decide_eq_true dlen4
  have HL := Lib.hid (show ∀ w', Below w.heap.size w w' → (w'.cell? ⟨b15, 0, none⟩ = some (.int .i64 t.key.a) ∧ w'.cell? ⟨b15, 1, none⟩ = some (.int .i64 t.key.b) ∧ w'.cell? ⟨b15, 2, none⟩ = some (.int .i64 t.key.c)) from fun w' hb => kb_cells (v := t.key) ((hb.block _ (lt_of_block h15)).trans h15))
  have HQ := Lib.hid hQ
  clear hQ HI h15 hrow
  conv => arg 2; whnf
  refine wp_region_hold (fun w' => Below w.heap.size w w') (by kernel_rfl) (by kernel_rfl) ⟨rfl, rfl, rfl, Nat.le_refl _, fun _ _ => rfl⟩ ?_
  repeat
    first
    | (refine hold_val (v := ?_) ?_ ?_ ?_
       rotate_left
       · first
         | (simp [Region.wanted]; done)
         | (simp [Region.wanted, yielded, Act.put, bs, undef]; done)
       · (intro w' hS
          obtain ⟨_, _, _⟩ := HL.out w' hS
          obtain ⟨_, _, _, _⟩ := HRW.out w' hS
          go_simp
          try with_reducible rfl))
    | (refine hold_skip ?_ ?_
       · (simp [Region.wanted, yielded, Act.put, bs, undef]; done))
  refine hold_nil ?_
  intro w6 hS
  refine HQ.out _ _ ?_ ?_ ?_ (fun i hi => ?_) hS
  · simp only [put_tmps, Array.size_setIfInBounds, bs]
  · simp only [put_defers, bd]
  · simp only [put_tmps]
    repeat first | rw [sl_ne _ (by decide)] | rw [sl_eq _ (by simp only [Array.size_setIfInBounds, bs]; decide)]
  · simp only [put_tmps]
    repeat rw [sl_ne _ (by omega)]
end Go.Proofs.Ytfknmokidjgeiaa
