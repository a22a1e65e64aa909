/- What must come of package rank, whatever the arguments are. Conditions: none. -/
import Derived.Test.YtipmlbbbjafpiaaRnkE
import Derived.Test.YtipmlbbbjafpiaaHoldZ
namespace Go.Proofs.Ytipmlbbbjafpiaa
open Go.ChangeShapes Go.WideShapes Go.ChangeAt Go.RowKit
set_option linter.unusedVariables false
set_option maxRecDepth 100000
set_option linter.unusedSimpArgs false

/-- A slice that reads as jobs. -/
def RdJ (l : List Jb) (v : Value) (w : World) : Prop := RdK 8 w (fun _ => True) v (rowsJ l)
theorem kept_rdj (l : List Jb) (v : Value) : Kept (RdJ l v) := fun w w' h hb => h.below hb
theorem kept_bel (W : World) : Kept (fun w => Below W.heap.size W w) := fun w w' h hb => h.trans (hb.mono h.size)
theorem rdj_lit (w : World) (l : List Jb) (cs : Array Value) (hc : cs.toList = (rowsJ l).flatten) (hm : l.length ≤ maxLen) : RdJ l (.slice (some ⟨w.heap.size, 0, none⟩) l.length l.length) (w.alloc (.cells cs 25)) := by
  refine ⟨some ⟨w.heap.size, 0, none⟩, l.length, by rw [rowsJ_len], by rw [rowsJ_len]; exact Nat.le_refl _, hm, fun h0 => ⟨w.heap.size, 0, rfl, by simp, trivial, fun i r hi j x hj => ?_⟩⟩
  have := flat_get 8 (rowsJ l) (rowsJ_eight l) i r hi j x hj
  rw [← hc] at this
  rw [blk_cell (blk_new w (.cells cs 25))]
  rw [Nat.zero_add]
  simpa using this
def awA : Jb := ⟨1, 3, 1, 0, 0, zero3⟩
def awB : Jb := ⟨2, 5, 9, 0, 0, zero3⟩
def awC : Jb := ⟨3, 3, 2, 0, 0, zero3⟩
def awN : Nd := ⟨2, 0, 0, ⟨4, 4, 4⟩, ⟨1, 5, 0⟩, true⟩
def awW (w : World) : World := (((w.alloc (.cells awA.row.toArray 25)).alloc (.cells awB.row.toArray 25)).alloc (.cells awC.row.toArray 25)).alloc (.cells awN.row.toArray 36)
theorem awW_blk (w : World) : BJob w.heap.size awA (awW w) ∧ BJob (w.heap.size + 1) awB (awW w) ∧ BJob (w.heap.size + 1 + 1) awC (awW w) ∧ BNod (w.heap.size + 1 + 1 + 1) awN (awW w) ∧ Below w.heap.size w (awW w) := by
  refine ⟨blk_old _ (blk_old _ (blk_old _ (blk_new w _))), blk_old _ (blk_old _ ?_), blk_old _ ?_, ?_, ((((Below.refl w.heap.size w).alloc (Nat.le_refl _) _).alloc (by simp) _).alloc (by simp; omega) _).alloc (by simp; omega) _⟩
  · have := blk_new (w.alloc (.cells awA.row.toArray 25)) (.cells awB.row.toArray 25)
    rw [show (w.alloc (.cells awA.row.toArray 25)).heap.size = w.heap.size + 1 by simp] at this
    exact this
  · have := blk_new ((w.alloc (.cells awA.row.toArray 25)).alloc (.cells awB.row.toArray 25)) (.cells awC.row.toArray 25)
    rw [show ((w.alloc (.cells awA.row.toArray 25)).alloc (.cells awB.row.toArray 25)).heap.size = w.heap.size + 1 + 1 by simp] at this
    exact this
  · have := blk_new (((w.alloc (.cells awA.row.toArray 25)).alloc (.cells awB.row.toArray 25)).alloc (.cells awC.row.toArray 25)) (.cells awN.row.toArray 36)
    rw [show (((w.alloc (.cells awA.row.toArray 25)).alloc (.cells awB.row.toArray 25)).alloc (.cells awC.row.toArray 25)).heap.size = w.heap.size + 1 + 1 + 1 by simp] at this
    exact this
theorem aw_sort : stb jobB [awC, awA, awB] = [awB, awA, awC] := by rfl
theorem aw_free : freeV awN = ⟨3, 0, 4⟩ := by rfl
theorem aw_three : (⟨3, 0, 1⟩ : V3).ok ∧ (⟨0, 1, 0⟩ : V3).ok := by unfold V3.ok inI; decide
/-- What is known of the slices written out. -/
def awG (i : Nat) (v : Value) (w : World) : Prop := if i = 13 then RdJ [awC, awA, awB] v w else RdJ [awB, awA, awC] v w
theorem kept_awG (i : Nat) (v : Value) : Kept (awG i v) := by
  unfold awG
  split
  · exact kept_rdj _ v
  · exact kept_rdj _ v
theorem grw_call {P : Program} {f : FuncId} {args : Array Value} {w : World} {e0 : Ending} (h : Calls P f args w fun e w' => e = e0 ∧ Grw w w') : Calls P f args w fun e w' => e = e0 ∧ Below w.heap.size w w' := h.mono fun e w' h => ⟨h.1, h.2.below⟩
set_option maxHeartbeats 8000000 in
theorem rank_awake (w : World) : Calls Try.prog 6 #[] w fun e w' => e = .returned (.bool true) ∧ Below w.heap.size w w' := by
  have hw := awW_blk w
  have HW := Lib.hid hw
  clear hw
  have J1 := fun w => grw_call (rjob_any awB awA w)
  rw [show jobB awB awA = true by decide] at J1
  have J2 := fun w => grw_call (rjob_any awA awB w)
  rw [show jobB awA awB = false by decide] at J2
  have S1 := Lib.hid (show ∀ v (w : World), RdJ [awC, awA, awB] v w → Calls Try.prog 12 #[v] w fun e w' => ∃ v', e = .returned v' ∧ RdJ [awB, awA, awC] v' w' ∧ Below w.heap.size w w' from fun v w h => by
    have := jjobs_any v [awC, awA, awB] _ w (by decide) h
    rw [aw_sort] at this
    exact this.mono fun e w' ⟨v', he, hr, hb⟩ => ⟨v', he, hr.imp (fun _ _ _ => trivial), hb⟩)
  have S2 := Lib.hid (show ∀ v u (w : World), RdJ [awB, awA, awC] v w → RdJ [awB, awA, awC] u w → Calls Try.prog 11 #[v, u] w fun e w' => e = .returned (.bool true) ∧ Below w.heap.size w w' from fun v u w h1 h2 => ksame_any v u [awB, awA, awC] _ _ w (by decide) h1 h2)
  have F1 := fun w => rfree_any awN w
  rw [aw_free] at F1
  have T1 := fun w => rtakes_any awN ⟨3, 0, 1⟩ w aw_three.1
  rw [show ndTakes awN ⟨3, 0, 1⟩ = true by decide] at T1
  have T2 := fun w => rtakes_any awN ⟨0, 1, 0⟩ w aw_three.2
  rw [show ndTakes awN ⟨0, 1, 0⟩ = false by decide] at T2
  simp only [awA, awB, awC, awN, Jb.val, Nd.val, V3.val, zero3] at J1 J2 F1 T1 T2
  replace J1 := Lib.hid J1
  replace J2 := Lib.hid J2
  replace F1 := Lib.hid F1
  replace T1 := Lib.hid T1
  replace T2 := Lib.hid T2
  have E1 := fun w => eq3_run w 3 0 4 3 0 4
  go_enter Try.func6, Try.ntmps6
  go_wp2_with fail
  change Code.wp _ _ _ _ (awW w)
  generalize awW w = W at *
  have HL := Lib.hid (show ∀ w', Below W.heap.size W w' → (w'.cell? ⟨w.heap.size, 0, none⟩ = some (.int .i64 1) ∧ w'.cell? ⟨w.heap.size, 1, none⟩ = some (.int .i64 3) ∧ w'.cell? ⟨w.heap.size, 2, none⟩ = some (.int .i64 1) ∧ w'.cell? ⟨w.heap.size, 3, none⟩ = some (.int .i64 0) ∧ w'.cell? ⟨w.heap.size, 4, none⟩ = some (.int .i64 0) ∧ w'.cell? ⟨w.heap.size, 5, none⟩ = some (.int .i64 0) ∧ w'.cell? ⟨w.heap.size, 6, none⟩ = some (.int .i64 0) ∧ w'.cell? ⟨w.heap.size, 7, none⟩ = some (.int .i64 0)) ∧ (w'.cell? ⟨w.heap.size + 1, 0, none⟩ = some (.int .i64 2) ∧ w'.cell? ⟨w.heap.size + 1, 1, none⟩ = some (.int .i64 5) ∧ w'.cell? ⟨w.heap.size + 1, 2, none⟩ = some (.int .i64 9) ∧ w'.cell? ⟨w.heap.size + 1, 3, none⟩ = some (.int .i64 0) ∧ w'.cell? ⟨w.heap.size + 1, 4, none⟩ = some (.int .i64 0) ∧ w'.cell? ⟨w.heap.size + 1, 5, none⟩ = some (.int .i64 0) ∧ w'.cell? ⟨w.heap.size + 1, 6, none⟩ = some (.int .i64 0) ∧ w'.cell? ⟨w.heap.size + 1, 7, none⟩ = some (.int .i64 0)) ∧ (w'.cell? ⟨w.heap.size + 1 + 1, 0, none⟩ = some (.int .i64 3) ∧ w'.cell? ⟨w.heap.size + 1 + 1, 1, none⟩ = some (.int .i64 3) ∧ w'.cell? ⟨w.heap.size + 1 + 1, 2, none⟩ = some (.int .i64 2) ∧ w'.cell? ⟨w.heap.size + 1 + 1, 3, none⟩ = some (.int .i64 0) ∧ w'.cell? ⟨w.heap.size + 1 + 1, 4, none⟩ = some (.int .i64 0) ∧ w'.cell? ⟨w.heap.size + 1 + 1, 5, none⟩ = some (.int .i64 0) ∧ w'.cell? ⟨w.heap.size + 1 + 1, 6, none⟩ = some (.int .i64 0) ∧ w'.cell? ⟨w.heap.size + 1 + 1, 7, none⟩ = some (.int .i64 0)) ∧ (w'.cell? ⟨w.heap.size + 1 + 1 + 1, 0, none⟩ = some (.int .i64 2) ∧ w'.cell? ⟨w.heap.size + 1 + 1 + 1, 1, none⟩ = some (.int .i64 0) ∧ w'.cell? ⟨w.heap.size + 1 + 1 + 1, 2, none⟩ = some (.int .i64 0) ∧ w'.cell? ⟨w.heap.size + 1 + 1 + 1, 3, none⟩ = some (.int .i64 4) ∧ w'.cell? ⟨w.heap.size + 1 + 1 + 1, 4, none⟩ = some (.int .i64 4) ∧ w'.cell? ⟨w.heap.size + 1 + 1 + 1, 5, none⟩ = some (.int .i64 4) ∧ w'.cell? ⟨w.heap.size + 1 + 1 + 1, 6, none⟩ = some (.int .i64 1) ∧ w'.cell? ⟨w.heap.size + 1 + 1 + 1, 7, none⟩ = some (.int .i64 5) ∧ w'.cell? ⟨w.heap.size + 1 + 1 + 1, 8, none⟩ = some (.int .i64 0) ∧ w'.cell? ⟨w.heap.size + 1 + 1 + 1, 9, none⟩ = some (.bool true)) from fun w' hb => ⟨(HW.out.1.below hb HW.out.1.lt).cells, (HW.out.2.1.below hb HW.out.2.1.lt).cells, (HW.out.2.2.1.below hb HW.out.2.2.1.lt).cells, (HW.out.2.2.2.1.below hb HW.out.2.2.2.1.lt).cells⟩)
  refine wp_region_holdW awG kept_awG (fun w' => Below W.heap.size W w') (by kernel_rfl) (by kernel_rfl) (kept_bel W) ⟨rfl, rfl, rfl, Nat.le_refl _, fun _ _ => rfl⟩ (fun hK => ?_)
  repeat
    first
    | (refine holdW_val (v := ?_) (by rfl) hK (by rfl) (by rfl) ?_ ?_
       rotate_left
       · (intro w' hS
          obtain ⟨⟨_, _, _, _, _, _, _, _⟩, ⟨_, _, _, _, _, _, _, _⟩, ⟨_, _, _, _, _, _, _, _⟩, _, _, _, _, _, _, _, _, _, _⟩ := HL.out w' hS
          go_simp
          try with_reducible rfl)
       simp only [Act.put, List.setIfInBounds_toArray, List.set_cons_zero, List.set_cons_succ])
    | (refine holdW_skip hK (by rfl) (by rfl) ?_
       simp only [Act.put, List.setIfInBounds_toArray, List.set_cons_zero, List.set_cons_succ])
    | (refine holdW_call (by rfl) hK (by rfl) (by rfl) ?_ (fun w' hS => J1.out w') ?_
       · (intro w' hS; go_simp; done)
       simp only [Act.put, List.setIfInBounds_toArray, List.set_cons_zero, List.set_cons_succ])
    | (refine holdW_call (by rfl) hK (by rfl) (by rfl) ?_ (fun w' hS => J2.out w') ?_
       · (intro w' hS; go_simp; done)
       simp only [Act.put, List.setIfInBounds_toArray, List.set_cons_zero, List.set_cons_succ])
    | (refine holdW_call (by rfl) hK (by rfl) (by rfl) ?_ (fun w' hS => F1.out w') ?_
       · (intro w' hS; go_simp; done)
       simp only [Act.put, List.setIfInBounds_toArray, List.set_cons_zero, List.set_cons_succ])
    | (refine holdW_call (by rfl) hK (by rfl) (by rfl) ?_ (fun w' hS => T1.out w') ?_
       · (intro w' hS; go_simp; done)
       simp only [Act.put, List.setIfInBounds_toArray, List.set_cons_zero, List.set_cons_succ])
    | (refine holdW_call (by rfl) hK (by rfl) (by rfl) ?_ (fun w' hS => T2.out w') ?_
       · (intro w' hS; go_simp; done)
       simp only [Act.put, List.setIfInBounds_toArray, List.set_cons_zero, List.set_cons_succ])
    | (refine holdW_make (kept_awG _) (by rfl) hK (by rfl) (by rfl) (fun w' hS => ?_) ?_
       · first
         | (refine ⟨.slice (some ⟨w'.heap.size, 0, none⟩) 3 3, w'.alloc (.cells #[.int .i64 3, .int .i64 3, .int .i64 2, .int .i64 0, .int .i64 0, .int .i64 0, .int .i64 0, .int .i64 0, .int .i64 1, .int .i64 3, .int .i64 1, .int .i64 0, .int .i64 0, .int .i64 0, .int .i64 0, .int .i64 0, .int .i64 2, .int .i64 5, .int .i64 9, .int .i64 0, .int .i64 0, .int .i64 0, .int .i64 0, .int .i64 0] 25), ?_, (Below.refl _ _).alloc (Nat.le_refl _) _, ?_⟩
            · (go_simp; done)
            · exact rdj_lit w' [awC, awA, awB] _ rfl (by unfold maxLen; decide))
         | (refine ⟨.slice (some ⟨w'.heap.size, 0, none⟩) 3 3, w'.alloc (.cells #[.int .i64 2, .int .i64 5, .int .i64 9, .int .i64 0, .int .i64 0, .int .i64 0, .int .i64 0, .int .i64 0, .int .i64 1, .int .i64 3, .int .i64 1, .int .i64 0, .int .i64 0, .int .i64 0, .int .i64 0, .int .i64 0, .int .i64 3, .int .i64 3, .int .i64 2, .int .i64 0, .int .i64 0, .int .i64 0, .int .i64 0, .int .i64 0] 25), ?_, (Below.refl _ _).alloc (Nat.le_refl _) _, ?_⟩
            · (go_simp; done)
            · exact rdj_lit w' [awB, awA, awC] _ rfl (by unfold maxLen; decide))
       clear hK
       intro vx hK
       simp only [Act.put, List.setIfInBounds_toArray, List.set_cons_zero, List.set_cons_succ])
    | (refine holdW_some1 13 _ (fun v w => RdJ [awB, awA, awC] v w) (fun v => kept_rdj _ v) rfl (List.mem_cons_self ..) (by kernel_rfl) (by rfl) hK (by rfl) (by rfl) ?_ (fun w' hS h1 => S1.out _ w' h1) ?_
       · (intro w' hS; go_simp; done)
       clear hK
       intro vy hK
       simp only [Act.put, List.setIfInBounds_toArray, List.set_cons_zero, List.set_cons_succ])
    | (refine holdW_call2 14 18 _ _ rfl (List.mem_cons_of_mem _ (List.mem_cons_self ..)) (List.mem_cons_self ..) (by kernel_rfl) (by kernel_rfl) (by rfl) hK (by rfl) (by rfl) ?_ (fun w' hS h1 h2 => S2.out _ _ w' h1 h2) ?_
       · (intro w' hS; go_simp; done)
       simp only [Act.put, List.setIfInBounds_toArray, List.set_cons_zero, List.set_cons_succ])
  refine holdW_nil ?_
  intro wz hS _
  have HF := Lib.hid (HW.out.2.2.2.2.trans (hS.mono HW.out.2.2.2.2.size))
  clear hS
  go_wp2_with fail
  go_ret
  exact ⟨rfl, HF.out⟩
end Go.Proofs.Ytipmlbbbjafpiaa
