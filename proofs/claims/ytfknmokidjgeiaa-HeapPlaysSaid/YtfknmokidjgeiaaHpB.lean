/- Pieces of the walk of HeapPlays: the great comparison behind each call (region 29). Conditions: as stated. UNDER WAY. -/
import Derived.Test.YtfknmokidjgeiaaHpA
namespace Go.Proofs.Ytfknmokidjgeiaa
open Go.ChangeShapes Go.WideShapes Go.ChangeAt Go.RowKit
set_option linter.unusedVariables false
set_option maxRecDepth 100000
set_option linter.unusedSimpArgs false
set_option maxHeartbeats 4000000

/-- The number is not there. -/
theorem t29_none (A : Act) (w wx : World) (Q : Exit → Act → World → Prop) (bh bz b17 c : Nat) (AR : Option Addr) (l : List Thg) (hl : l.length ≤ 1000) (bs : A.tmps.size = 317) (bd : A.defers = [])
    (f9 : ∀ h : 9 < A.tmps.size, A.tmps[9]'h = .pointer (some ⟨bh, 0, none⟩)) (f10 : ∀ h : 10 < A.tmps.size, A.tmps[10]'h = .pointer (some ⟨bz, 0, none⟩)) (f11 : ∀ h : 11 < A.tmps.size, A.tmps[11]'h = .slice AR l.length c)
    (f17 : ∀ h : 17 < A.tmps.size, A.tmps[17]'h = .pointer (some ⟨b17, 0, none⟩)) (f18 : ∀ h : 18 < A.tmps.size, A.tmps[18]'h = .bool false) (f19 : ∀ h : 19 < A.tmps.size, A.tmps[19]'h = .int .i64 (-1))
    (h17 : w.heap[b17]? = some (.cells #[.int .i64 0, .int .i64 0, .int .i64 0] 24 (0, 0)))
    (HI : Inv3 wx (fun _ => False) (.pointer (some ⟨bh, 0, none⟩)) l (.pointer (some ⟨bz, 0, none⟩)) l (.slice AR l.length c) l w)
    (hQ : ∀ A' w', A'.tmps.size = 317 → A'.defers = [] → sl A'.tmps 271 = .bool false → (∀ i, i < 225 → sl A'.tmps i = sl A.tmps i) → Below w.heap.size w w' → Q .normal A' w') :
    Code.wp Try.prog (hpR 29) Q A w := by
  have hl1 : l.length ≤ 100000 := by omega
  have L1 := Lib.hid fun w' (h : Below w.heap.size w w') => blen_h hl1 (HI.below h)
  have L2 := Lib.hid fun w' (h : Below w.heap.size w w') => blen_z hl1 (HI.below h)
  have A1 := Lib.hid (show ∀ w', Below w.heap.size w w' → Calls Try.prog 20 #[.pointer (some ⟨bh, 0, none⟩)] w' fun e w2 => ∃ v, e = .returned v ∧ Rd w2 w2.heap.size v (ints (idsT l)) ∧ Below w'.heap.size w' w2 from fun w' h => ball_h hl1 (HI.below h))
  have A2 := Lib.hid fun w' (h : Below w.heap.size w w') => bids hl1 (HI.below h)
  have S1 := Lib.hid fun v1 v2 (w' : World) (h1 : Rd w' w'.heap.size v1 (ints (idsT l))) h2 => isame_below v1 v2 (idsT l) w'.heap.size w' (by rw [idsT_len]; omega) h1 h2
  have E1 := fun w => eqK_run w zero3 zero3
  rw [show eq3 zero3 zero3 = true from rfl] at E1
  unfold zero3 at E1
  dsimp only at E1
  have HL := Lib.hid (show ∀ w', Below w.heap.size w w' → (w'.cell? ⟨b17, 0, none⟩ = some (.int .i64 0) ∧ w'.cell? ⟨b17, 1, none⟩ = some (.int .i64 0) ∧ w'.cell? ⟨b17, 2, none⟩ = some (.int .i64 0)) from fun w' hb => kb_cells (v := zero3) ((hb.block _ (lt_of_block h17)).trans h17))
  have HQ := Lib.hid hQ
  clear hQ HI h17
  conv => arg 2; whnf
  refine wp_region_holdY (fun w' => Below w.heap.size w w') (by kernel_rfl) (by kernel_rfl) (kept_below w) ⟨rfl, rfl, rfl, Nat.le_refl _, fun _ _ => rfl⟩ (fun hK => ?_)
  repeat
    first
    | (refine holdY_val (v := ?_) hK (by rfl) ?_ ?_ ?_
       rotate_left
       · first
         | (simp [Region.wanted]; done)
         | (simp [Region.wanted, yielded, Act.put, bs]; done)
       · (intro w' hS
          obtain ⟨_, _, _⟩ := HL.out w' hS
          go_simp
          try with_reducible rfl))
    | (refine holdY_skip hK (by rfl) ?_ ?_
       · (simp [Region.wanted, yielded, Act.put, bs]; done))
    | (refine holdY_call (by rfl) hK (by rfl) ?_ ?_ (fun w' hS => L1.out w' hS) ?_
       · first
         | (simp [Region.wanted]; done)
         | (simp [Region.wanted, yielded, Act.put, bs]; done)
       · (intro w' hS; go_simp; done))
    | (refine holdY_call (by rfl) hK (by rfl) ?_ ?_ (fun w' hS => L2.out w' hS) ?_
       · first
         | (simp [Region.wanted]; done)
         | (simp [Region.wanted, yielded, Act.put, bs]; done)
       · (intro w' hS; go_simp; done))
    | (refine holdY_some (fun v w => Rd w w.heap.size v (ints (idsT l))) (fun v => kept_rd v _) (by rfl) hK (by rfl) ?_ ?_ (fun w' hS => A1.out w' hS) ?_
       · first
         | (simp [Region.wanted]; done)
         | (simp [Region.wanted, yielded, Act.put, bs]; done)
       · (intro w' hS; go_simp; done)
       clear hK
       intro v1 hK)
    | (refine holdY_some (fun v w => Rd w w.heap.size v (ints (idsT l))) (fun v => kept_rd v _) (by rfl) hK (by rfl) ?_ ?_ (fun w' hS => A2.out w' hS) ?_
       · first
         | (simp [Region.wanted]; done)
         | (simp [Region.wanted, yielded, Act.put, bs]; done)
       · (intro w' hS; go_simp; done)
       clear hK
       intro v2 hK)
    | (refine holdY_call2 34 36 _ _ rfl (List.mem_cons_of_mem _ (List.mem_cons_self ..)) (List.mem_cons_self ..) (by kernel_rfl) (by kernel_rfl) (by rfl) hK (by rfl) ?_ ?_ (fun w' hS h1 h2 => S1.out _ _ w' h1 h2) ?_
       · first
         | (simp [Region.wanted]; done)
         | (simp [Region.wanted, yielded, Act.put, bs]; done)
       · (intro w' hS; go_simp; done))
  refine holdY_nil ?_
  intro w6 hS _
  refine HQ.out _ _ ?_ ?_ ?_ (fun i hi => ?_) hS
  · simp only [put_tmps, Array.size_setIfInBounds, bs]
  · simp only [put_defers, bd]
  · simp only [put_tmps]
    repeat first | rw [sl_ne _ (by decide)] | rw [sl_eq _ (by simp only [Array.size_setIfInBounds, bs]; decide)]
  · simp only [put_tmps]
    repeat rw [sl_ne _ (by omega)]
/-- The number is there. -/
theorem t29_some (A : Act) (w wx : World) (Q : Exit → Act → World → Prop) (bh bz b17 c j : Nat) (AR : Option Addr) (l : List Thg) (hj : j < l.length) (K : V3) (hK0 : l[j].key = K) (hl : l.length ≤ 1000) (bs : A.tmps.size = 317) (bd : A.defers = [])
    (f9 : ∀ h : 9 < A.tmps.size, A.tmps[9]'h = .pointer (some ⟨bh, 0, none⟩)) (f10 : ∀ h : 10 < A.tmps.size, A.tmps[10]'h = .pointer (some ⟨bz, 0, none⟩)) (f11 : ∀ h : 11 < A.tmps.size, A.tmps[11]'h = .slice AR l.length c)
    (f17 : ∀ h : 17 < A.tmps.size, A.tmps[17]'h = .pointer (some ⟨b17, 0, none⟩)) (f18 : ∀ h : 18 < A.tmps.size, A.tmps[18]'h = .bool true) (f19 : ∀ h : 19 < A.tmps.size, A.tmps[19]'h = .int .i64 j)
    (h17 : w.heap[b17]? = some (.cells #[.int .i64 K.a, .int .i64 K.b, .int .i64 K.c] 24 (0, 0)))
    (HI : Inv3 wx (fun _ => False) (.pointer (some ⟨bh, 0, none⟩)) l (.pointer (some ⟨bz, 0, none⟩)) l (.slice AR l.length c) l w)
    (hQ : ∀ A' w', A'.tmps.size = 317 → A'.defers = [] → sl A'.tmps 271 = .bool false → (∀ i, i < 225 → sl A'.tmps i = sl A.tmps i) → Below w.heap.size w w' → Q .normal A' w') :
    Code.wp Try.prog (hpR 29) Q A w := by
  have hl1 : l.length ≤ 100000 := by omega
  have L1 := Lib.hid fun w' (h : Below w.heap.size w w') => blen_h hl1 (HI.below h)
  have L2 := Lib.hid fun w' (h : Below w.heap.size w w') => blen_z hl1 (HI.below h)
  have A1 := Lib.hid (show ∀ w', Below w.heap.size w w' → Calls Try.prog 20 #[.pointer (some ⟨bh, 0, none⟩)] w' fun e w2 => ∃ v, e = .returned v ∧ Rd w2 w2.heap.size v (ints (idsT l)) ∧ Below w'.heap.size w' w2 from fun w' h => ball_h hl1 (HI.below h))
  have A2 := Lib.hid fun w' (h : Below w.heap.size w w') => bids hl1 (HI.below h)
  have S1 := Lib.hid fun v1 v2 (w' : World) (h1 : Rd w' w'.heap.size v1 (ints (idsT l))) h2 => isame_below v1 v2 (idsT l) w'.heap.size w' (by rw [idsT_len]; omega) h1 h2
  obtain ⟨br, or, hAR', hrow⟩ := inv_key HI hj
  cases hAR'
  rw [hK0] at hrow
  have HRW := Lib.hid hrow
  have ij1 : (0 : Int) ≤ (j : Int) := by omega
  have ij2 : (j : Int) < (l.length : Int) := by omega
  have ij3 : decide ((0 : Int) ≤ (j : Int)) = true := decide_eq_true ij1
  have ij4 : decide ((j : Int) ≥ 0) = true := decide_eq_true ij1
  have E1 := fun w => eqK_run w K K
  rw [show eq3 K K = true by unfold eq3; simp] at E1
  have HL := Lib.hid (show ∀ w', Below w.heap.size w w' → (w'.cell? ⟨b17, 0, none⟩ = some (.int .i64 K.a) ∧ w'.cell? ⟨b17, 1, none⟩ = some (.int .i64 K.b) ∧ w'.cell? ⟨b17, 2, none⟩ = some (.int .i64 K.c)) from fun w' hb => kb_cells (v := K) ((hb.block _ (lt_of_block h17)).trans h17))
  have HQ := Lib.hid hQ
  clear hQ HI h17 hrow
  conv => arg 2; whnf
  refine wp_region_holdY (fun w' => Below w.heap.size w w') (by kernel_rfl) (by kernel_rfl) (kept_below w) ⟨rfl, rfl, rfl, Nat.le_refl _, fun _ _ => rfl⟩ (fun hK => ?_)
  repeat
    first
    | (refine holdY_val (v := ?_) hK (by rfl) ?_ ?_ ?_
       rotate_left
       · first
         | (simp [Region.wanted]; done)
         | (simp [Region.wanted, yielded, Act.put, bs]; done)
       · (intro w' hS
          obtain ⟨_, _, _⟩ := HL.out w' hS
          obtain ⟨_, _, _⟩ := HRW.out w' hS
          go_simp
          try with_reducible rfl))
    | (refine holdY_skip hK (by rfl) ?_ ?_
       · (simp [Region.wanted, yielded, Act.put, bs]; done))
    | (refine holdY_call (by rfl) hK (by rfl) ?_ ?_ (fun w' hS => L1.out w' hS) ?_
       · first
         | (simp [Region.wanted]; done)
         | (simp [Region.wanted, yielded, Act.put, bs]; done)
       · (intro w' hS; go_simp; done))
    | (refine holdY_call (by rfl) hK (by rfl) ?_ ?_ (fun w' hS => L2.out w' hS) ?_
       · first
         | (simp [Region.wanted]; done)
         | (simp [Region.wanted, yielded, Act.put, bs]; done)
       · (intro w' hS; go_simp; done))
    | (refine holdY_some (fun v w => Rd w w.heap.size v (ints (idsT l))) (fun v => kept_rd v _) (by rfl) hK (by rfl) ?_ ?_ (fun w' hS => A1.out w' hS) ?_
       · first
         | (simp [Region.wanted]; done)
         | (simp [Region.wanted, yielded, Act.put, bs]; done)
       · (intro w' hS; go_simp; done)
       clear hK
       intro v1 hK)
    | (refine holdY_some (fun v w => Rd w w.heap.size v (ints (idsT l))) (fun v => kept_rd v _) (by rfl) hK (by rfl) ?_ ?_ (fun w' hS => A2.out w' hS) ?_
       · first
         | (simp [Region.wanted]; done)
         | (simp [Region.wanted, yielded, Act.put, bs]; done)
       · (intro w' hS; go_simp; done)
       clear hK
       intro v2 hK)
    | (refine holdY_call2 34 36 _ _ rfl (List.mem_cons_of_mem _ (List.mem_cons_self ..)) (List.mem_cons_self ..) (by kernel_rfl) (by kernel_rfl) (by rfl) hK (by rfl) ?_ ?_ (fun w' hS h1 h2 => S1.out _ _ w' h1 h2) ?_
       · first
         | (simp [Region.wanted]; done)
         | (simp [Region.wanted, yielded, Act.put, bs]; done)
       · (intro w' hS; go_simp; done))
  refine holdY_nil ?_
  intro w6 hS _
  refine HQ.out _ _ ?_ ?_ ?_ (fun i hi => ?_) hS
  · simp only [put_tmps, Array.size_setIfInBounds, bs]
  · simp only [put_defers, bd]
  · simp only [put_tmps]
    repeat first | rw [sl_ne _ (by decide)] | rw [sl_eq _ (by simp only [Array.size_setIfInBounds, bs]; decide)]
  · simp only [put_tmps]
    repeat rw [sl_ne _ (by omega)]
end Go.Proofs.Ytfknmokidjgeiaa
