/- The marks in order (slices.Sorted of maps.Keys), and Drain. Conditions: as stated. -/
import Derived.Test.YtjncccongbfoiaaDirA
import Derived.Test.YtjncccongbfoiaaShelfI
import Derived.Shelf.SlIterI.Nil
import Derived.Shelf.SlIterI.Sorted
import Derived.Shelf.SortM.Plain
import Derived.Shelf.SortM.SortNone
namespace Go.Proofs
open Go.RowKit Go.Maps Go.Sort Go.Shelf
set_option linter.unusedVariables false
set_option maxRecDepth 100000
/-- slices.Sort's two contracts at this dump. -/
theorem Ytjncccongbfoiaa.sorts_any (m : Nat) : AnyZI.SortsIn Try.prog Try.sortedA_ren Fence.wide m :=
  ⟨fun blk off cap ss W hH hblk hsz => callsIn_wide.2 (AnyM.slices_Sort_int Try.sortA blk off cap ss W hH hblk hsz),
   fun p cap W => callsIn_wide.2 (AnyM.slices_Sort_int_none Try.sortA p cap W)⟩
set_option maxHeartbeats 1000000 in
/-- A map's numbers, sorted. -/
theorem Ytjncccongbfoiaa.inorder_some {H : Type} (b nn : Nat) (D0 : DataW H) (R : Value → Option (DataW H × List MemPlace)) (w : World) (hown : w.ownsMap Try.prog 3 R b nn D0) (hmax : Maps.size D0 ≤ maxLen) (hbytes : Maps.size D0 * 8 ≤ 140737488355328) :
    Calls Try.prog 16 #[.map (some b)] w fun e w' => ∃ (v : Value) (ss : List Int), e = .returned v ∧ ss.Perm (intKeys D0) ∧
      w'.ownsRow w.heap.size 3 1 v ss.length ((ss.mergeSort (fun x y => decide (x ≤ y))).map encZ) ∧ (v = .slice none 0 0 ↔ ss = []) ∧ Below w.heap.size w w' := by
  refine (callsIn_wide (n := 6)).1 ?_
  have hbl := hown.lt
  have hseq : SeqGives Fence.wide 2 Try.prog 21 #[.pointer (some ⟨w.heap.size, 0, none⟩)] encZ (fun ss => ss.Perm (intKeys D0)) (Maps.size D0) (w.alloc (.cells #[.map (some b)] 26)) :=
    AnyZI.keys_gives (ρ := Try.keysA_ren) { Try.keysA with } Fence.wide _ trivial rfl (by omega) w.heap.size b nn D0 _ (by simp) (by simp) (by
      obtain ⟨es, clock, hb, Ft, hs, hD⟩ := hown
      exact ⟨es, clock, (Below.heap_alloc _ _ b hbl).trans hb, Ft, hs, hD⟩)
  have cK : ∀ mb W, CallsIn Fence.wide 5 Try.prog 18 #[.map mb] W fun e w' => e = .returned (.func (.func 21) #[] #[.pointer (some ⟨W.heap.size, 0, none⟩)]) ∧ w' = W.alloc (.cells #[.map mb] 26) := fun mb W => AnyZI.keys_in Try.keysA Fence.wide 5 trivial rfl mb W
  have cS := AnyZI.sorted_in Try.sortedA Fence.wide 5 trivial trivial trivial trivial rfl (by omega) (Ytjncccongbfoiaa.sorts_any _) (enters_of Try.func20 (by kernel_rfl) rfl) 21 #[.pointer (some ⟨w.heap.size, 0, none⟩)] trivial (enters_of Try.func21 (by kernel_rfl) rfl) _ _ hmax hbytes _ hseq
  change CallsIn _ _ Try.prog 17 _ _ _ at cS
  have hfK : Fence.wide.fn 18 := trivial
  have hfS : Fence.wide.fn 17 := trivial
  refine callsIn_of_wp Try.func16 rfl trivial ?_ rfl
  simp only [Try.ntmps16, List.size_toArray, List.length_cons, List.length_nil, Nat.reduceAdd, Nat.reduceSub, Array.replicate_succ, Array.replicate_zero, List.push_toArray, List.append_toArray, List.nil_append, List.cons_append]
  gi_wp2_with (first
    | (gi_at_call 18; refine (cK _ _).mono ?_; rintro e w' ⟨rfl, rfl⟩)
    | (gi_at_call 17; refine cS.mono ?_; rintro e w' ⟨v, ss, rfl, hS, hrow, hnil, hb⟩))
  go_ret
  exact ⟨v, ss, rfl, hS, ownsRow_base_a hrow (by simp), hnil, ((Below.refl _ w).alloc (Nat.le_refl _) _).trans (hb.mono (by simp))⟩
set_option maxHeartbeats 1000000 in
/-- .. of a nil map. -/
theorem Ytjncccongbfoiaa.inorder_nil (w : World) : Calls Try.prog 16 #[.map none] w fun e w' => e = .returned (.slice none 0 0) ∧ Below w.heap.size w w' := by
  refine (callsIn_wide (n := 6)).1 ?_
  have hseq : SeqGives Fence.wide 2 Try.prog 21 #[.pointer (some ⟨w.heap.size, 0, none⟩)] encZ (fun ss : List Int => ss = []) 0 (w.alloc (.cells #[.map none] 26)) :=
    AnyZI.keys_gives_nil (ρ := Try.keysA_ren) { Try.keysA with } Fence.wide _ trivial rfl w.heap.size _ (by simp) (by simp)
  have cK : ∀ mb W, CallsIn Fence.wide 5 Try.prog 18 #[.map mb] W fun e w' => e = .returned (.func (.func 21) #[] #[.pointer (some ⟨W.heap.size, 0, none⟩)]) ∧ w' = W.alloc (.cells #[.map mb] 26) := fun mb W => AnyZI.keys_in Try.keysA Fence.wide 5 trivial rfl mb W
  have cS := AnyZI.sorted_in Try.sortedA Fence.wide 5 trivial trivial trivial trivial rfl (by omega) (Ytjncccongbfoiaa.sorts_any _) (enters_of Try.func20 (by kernel_rfl) rfl) 21 #[.pointer (some ⟨w.heap.size, 0, none⟩)] trivial (enters_of Try.func21 (by kernel_rfl) rfl) _ 0 (Nat.zero_le _) (by omega) _ hseq
  change CallsIn _ _ Try.prog 17 _ _ _ at cS
  have hfK : Fence.wide.fn 18 := trivial
  have hfS : Fence.wide.fn 17 := trivial
  refine callsIn_of_wp Try.func16 rfl trivial ?_ rfl
  simp only [Try.ntmps16, List.size_toArray, List.length_cons, List.length_nil, Nat.reduceAdd, Nat.reduceSub, Array.replicate_succ, Array.replicate_zero, List.push_toArray, List.append_toArray, List.nil_append, List.cons_append]
  gi_wp2_with (first
    | (gi_at_call 18; refine (cK _ _).mono ?_; rintro e w' ⟨rfl, rfl⟩)
    | (gi_at_call 17; refine cS.mono ?_; rintro e w' ⟨v, ss, rfl, rfl, hrow, hnil, hb⟩; obtain rfl : v = .slice none 0 0 := hnil.2 rfl))
  go_ret
  exact ⟨rfl, ((Below.refl _ w).alloc (Nat.le_refl _) _).trans (hb.mono (by simp))⟩
end Go.Proofs
namespace Go.Proofs.Ytjncccongbfoiaa
open Go.ChangeShapes Go.WideShapes Go.ChangeAt Go.RowKit
set_option linter.unusedVariables false
set_option maxRecDepth 100000
set_option linter.unusedSimpArgs false

theorem inorder_any (mv : Value) (l : List Int) (w : World) (hl : l.length ≤ 100000) (hr : Rise l) (hin : ∀ x ∈ l, inI x) (h : SMap w mv l) :
    Calls Try.prog 16 #[mv] w fun e w' => ∃ v, e = .returned v ∧ w'.ownsRow w.heap.size 3 1 v l.length (ints l) ∧ Below w.heap.size w w' := by
  rcases h with ⟨rfl, rfl⟩ | ⟨m, rfl, h⟩
  · exact (inorder_nil w).mono fun e w' ⟨he, hb⟩ => ⟨_, he, ⟨rfl, .inl ⟨rfl, rfl⟩⟩, hb⟩
  · obtain ⟨D, h1, h2, h3⟩ := MapF.keys h Try.underlying3 hr.nodup (fun x => by
      rw [inF_some]; unfold hasI
      constructor
      · exact fun hx => ⟨hin x hx, by simpa using hx⟩
      · exact fun hx => by simpa using hx.2)
    refine (inorder_some m _ D _ w h1 (by unfold maxLen; omega) (by omega)).mono fun e w' ⟨v, ss, he, hp, hrow, hnil, hb⟩ => ⟨v, he, ?_, hb⟩
    have hq : ss.Perm l := hp.trans h3.symm
    have e1 := rise_perm hr hq
    rw [e1, hq.length_eq] at hrow
    exact hrow
theorem sdrain_any (F : Nat → Prop) (v : Value) (l : List Int) (w : World) (hl : l.length ≤ 100000) (h : SP F v l w) :
    Calls Try.prog 13 #[v] w fun e w' => ∃ u, e = .returned u ∧ RdI w' (fun k => w.heap.size ≤ k) u l ∧ SP F v [] w' ∧ Turned F w w' := by
  have h0 := h
  obtain ⟨b, mv, rfl, h2, h3, h4, h5, h6, h7⟩ := h
  have C := Lib.hid (inorder_any mv l w hl h5 h6 h3)
  have c0 : w.cell? ⟨b, 0, none⟩ = some mv := blk_cell h2 0
  have HC := Lib.hid (show ∀ w', Below w.heap.size w w' → w'.cell? ⟨b, 0, none⟩ = some mv from fun w' hb => blk_cell ((hb.block b (lt_of_block h2)).trans h2) 0)
  rcases h3 with ⟨rfl, rfl⟩ | ⟨m, rfl, h3⟩
  · have hc := fun w => nomap_clear (P := Try.prog) (w := w) (k := 3) (t := 26) (e := 4) Try.underlying26 0
    have HP := Lib.hid (show ∀ w', Below w.heap.size w w' → SP F (.pointer (some ⟨b, 0, none⟩)) [] w' ∧ Turned F w w' from fun w' hb => ⟨sp_below h0 hb, Turned.of hb⟩)
    clear h0 h2 h4 h5 h6 h7
    go_enter Try.func13, Try.ntmps13
    go_wp2_with fail
    refine C.out.mono ?_; rintro e w1 ⟨u, rfl, ho, hb⟩
    have c1 := HC.out w1 hb
    have HO := Lib.hid ho
    have HB := Lib.hid hb
    clear ho hb
    go_wp2_with fail
    go_ret
    exact ⟨_, rfl, RdI.own HO.out rfl, HP.out _ HB.out⟩
  · have HM := Lib.hid (show ∀ w', Below w.heap.size w w' → MapB w' m l.length (inF l) from fun w' hb => h3.keep (hb.block m h3.lt))
    have HP := Lib.hid (show ∀ w1 w', Below w.heap.size w w1 → MapB w' m 0 (fun _ => none) → Only m w1 w' → SP F (.pointer (some ⟨b, 0, none⟩)) [] w' ∧ Turned F w w' from fun w1 w' hb hm ho =>
      ⟨⟨b, .map (some m), rfl, ho.old ((hb.block b (lt_of_block h2)).trans h2) (fun e => h4 (by rw [e])), .inr ⟨m, rfl, mapB_same hm (fun i => by simp [inF]) rfl⟩, h4, Rise.nil, (fun x hx => by cases hx), h7⟩,
        (Turned.of hb : Turned F w w1).trans (G := fun k => k = m) ⟨ho.os, ho.tape, ho.output, ho.size, fun k hk hf => ho.block k hk hf⟩ (fun k e => .inl ((h7 k).2 (.inr (by rw [e]))))⟩)
    have hml : m < w.heap.size := h3.lt
    clear h0 h2 h3 h4 h5 h6 h7
    go_enter Try.func13, Try.ntmps13
    go_wp2_with fail
    refine C.out.mono ?_; rintro e w1 ⟨u, rfl, ho, hb⟩
    have c1 := HC.out w1 hb
    have hm1 := HM.out w1 hb
    have HO := Lib.hid ho
    have HB := Lib.hid hb
    clear ho hb
    go_wp2_with (first | (refine wpList_clear_mapF rfl _ _ rfl 3 4 Try.underlying26 m _ rfl hm1 ?_; intro w2 hm2 ho2))
    go_ret
    exact ⟨_, rfl, RdI.own (owns_only HO.out ho2 hml) rfl, HP.out _ _ HB.out hm2 ho2⟩
end Go.Proofs.Ytjncccongbfoiaa
