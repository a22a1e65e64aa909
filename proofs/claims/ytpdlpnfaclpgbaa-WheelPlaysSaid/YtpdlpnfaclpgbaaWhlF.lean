/- What a wheel's compare comes to, and its sort. Conditions: as stated. -/
import Derived.Test.YtpdlpnfaclpgbaaHpqA
import Derived.Test.YtpdlpnfaclpgbaaHpqB
import Derived.Test.YtpdlpnfaclpgbaaWhlPlain
import Derived.Test.YtpdlpnfaclpgbaaHolds
import Derived.Test.YtpdlpnfaclpgbaaShelfG
import Derived.Test.YtpdlpnfaclpgbaaRdA
namespace Go.Proofs.Ytpdlpnfaclpgbaa
open Go.ChangeShapes Go.WideShapes Go.ChangeAt Go.RowKit
open Go.Sort (SWO HoldsK flatK Holds grow)
set_option linter.unusedVariables false
set_option maxRecDepth 100000
set_option linter.unusedSimpArgs false

def Tm.val (x : Tm) : Value := .agg #[.int .i64 x.id, .int .i64 x.tick]
def cmpW (x y : Tm) : Int := orI (ordI x.tick y.tick) (ordI x.id y.id)
theorem cmpW_lt (x y : Tm) : decide (cmpW x y < 0) = tmB x y := by
  rw [Bool.eq_iff_iff, decide_eq_true_iff]
  unfold cmpW orI tmB
  have h1 := ordI_eq x.tick y.tick
  have h2 := ordI_lt x.tick y.tick
  have h3 := ordI_lt x.id y.id
  simp only [Bool.or_eq_true, Bool.and_eq_true, decide_eq_true_eq, beq_iff_eq]
  split <;> omega
def twoW (w : World) (x y : Tm) : World := (w.alloc (.cells #[.int .i64 x.id, .int .i64 x.tick] 62)).alloc (.cells #[.int .i64 y.id, .int .i64 y.tick] 62)
def TwoC (w : World) (b : Nat) (x y : Tm) : Prop := w.cell? ⟨b, 0, none⟩ = some (.int .i64 x.id) ∧ w.cell? ⟨b, 1, none⟩ = some (.int .i64 x.tick) ∧ w.cell? ⟨b + 1, 0, none⟩ = some (.int .i64 y.id) ∧ w.cell? ⟨b + 1, 1, none⟩ = some (.int .i64 y.tick)
theorem twoW_cells (w : World) (x y : Tm) : TwoC (twoW w x y) w.heap.size x y := by
  obtain ⟨h1, h2⟩ := blk_pair w (.cells #[.int .i64 x.id, .int .i64 x.tick] 62) (.cells #[.int .i64 y.id, .int .i64 y.tick] 62)
  exact ⟨blk_cell h1 0, blk_cell h1 1, blk_cell h2 0, blk_cell h2 1⟩
set_option maxHeartbeats 2000000 in
theorem wcompare_any (x y : Tm) (w : World) : Calls Try.prog 23 #[x.val, y.val] w fun e w' => e = .returned (.int .i64 (cmpW x y)) ∧ Grw w w' := by
  have c0 := twoW_cells w x y
  have hs : (twoW w x y).heap.size = w.heap.size + 1 + 1 := by unfold twoW; simp
  have HG := Lib.hid (show ∀ o, Grw w ((twoW w x y).drew.alloc o) from fun o => ⟨1, #[_] ++ #[_] ++ #[o], by
    unfold twoW
    rw [Go.Sort.alloc_eq_grow, Go.Sort.alloc_eq_grow, Go.Sort.alloc_eq_grow, Go.Sort.drew_grow, Go.Sort.drew_grow, Go.Sort.grow_grow, Go.Sort.grow_grow]; rfl⟩)
  have HC := Lib.hid (show cmpW x y = orI (ordI x.tick y.tick) (ordI x.id y.id) from rfl)
  unfold Tm.val
  go_enter Try.func23, Try.ntmps23
  go_wp2_with fail
  show Code.wp _ _ _ _ (twoW w x y)
  generalize twoW w x y = W at *
  have hd1 : W.drew.heap.size = W.heap.size := rfl
  have e1 : ∀ w', w' = W.drew ∨ w' = W.drew.alloc (.cells #[.int .i64 (ordI x.tick y.tick), .int .i64 (ordI x.id y.id)] 3) → TwoC w' w.heap.size x y := by
    rintro w' (rfl | rfl)
    · exact c0
    · have hb := (Below.refl W.drew.heap.size W.drew).alloc (Nat.le_refl _) (.cells #[.int .i64 (ordI x.tick y.tick), .int .i64 (ordI x.id y.id)] 3)
      exact ⟨(hb.cell (p := ⟨w.heap.size, 0, none⟩) (by show w.heap.size < W.heap.size; omega)).trans c0.1, (hb.cell (p := ⟨w.heap.size, 1, none⟩) (by show w.heap.size < W.heap.size; omega)).trans c0.2.1, (hb.cell (p := ⟨w.heap.size + 1, 0, none⟩) (by show w.heap.size + 1 < W.heap.size; omega)).trans c0.2.2.1, (hb.cell (p := ⟨w.heap.size + 1, 1, none⟩) (by show w.heap.size + 1 < W.heap.size; omega)).trans c0.2.2.2⟩
  have E1 := Lib.hid e1
  have hz : W.drew.heap.size = w.heap.size + 1 + 1 := hs
  have HO := Lib.hid (show ∀ m w', m[0]? = some true → oneC W.drew (W.drew.alloc (.cells #[.int .i64 (ordI x.tick y.tick), .int .i64 (ordI x.id y.id)] 3)) m w' → w'.cell? ⟨w.heap.size + 1 + 1, 0, none⟩ = some (.int .i64 (ordI x.tick y.tick)) ∧ w'.cell? ⟨w.heap.size + 1 + 1, 1, none⟩ = some (.int .i64 (ordI x.id y.id)) from fun m w' hm hC => by
    obtain rfl := oneC_on hm hC
    have hb := blk_new W.drew (.cells #[.int .i64 (ordI x.tick y.tick), .int .i64 (ordI x.id y.id)] 3)
    rw [hz] at hb
    exact ⟨blk_cell hb 0, blk_cell hb 1⟩)
  clear e1 c0 hd1 hs
  refine wp_region_holdC [10] (oneC W.drew (W.drew.alloc (.cells #[.int .i64 (ordI x.tick y.tick), .int .i64 (ordI x.id y.id)] 3))) (by kernel_rfl) (by kernel_rfl) (by kernel_rfl) (oneC_start _ _) ?_
  repeat
    first
    | (refine holdC_val (v := ?_) (by rfl) (by rfl) ?_ ?_
       rotate_left
       · (intro m w' hC
          obtain ⟨_, _, _, _⟩ := E1.out w' (oneC_any hC)
          go_simp
          try with_reducible rfl)
       simp only [Act.put, List.setIfInBounds_toArray, List.set_cons_zero, List.set_cons_succ])
    | ((first
        | (refine holdC_call (by rfl) (by rfl) ?_ (fun m w' hC => (icmp_any x.tick y.tick w').mono fun e w2 h => ⟨h.1, by rw [← h.2]; exact hC⟩) ?_; focus (intro m w' hC; go_simp; done))
        | (refine holdC_call (by rfl) (by rfl) ?_ (fun m w' hC => (icmp_any x.id y.id w').mono fun e w2 h => ⟨h.1, by rw [← h.2]; exact hC⟩) ?_; focus (intro m w' hC; go_simp; done))
        | (refine holdC_callP [0] (by rfl) (by rfl) (by rfl) (by kernel_rfl) ?_ (fun m w' hm hC => (ior_any (ordI x.tick y.tick) (ordI x.id y.id) (w.heap.size + 1 + 1) w' (HO.out _ w' (hm 0 (by simp)) hC).1 (HO.out _ w' (hm 0 (by simp)) hC).2).mono fun e w2 h => ⟨h.1, by rw [← h.2]; exact hC⟩) ?_; focus (intro m w' hC; go_simp; done)))
       simp only [Act.put, List.setIfInBounds_toArray, List.set_cons_zero, List.set_cons_succ])
    | (refine holdC_make (v := .slice (some ⟨w.heap.size + 1 + 1, 0, none⟩) 2 2) 0 [] (by rfl) (by rfl) (by decide) (by rfl) (by rfl) (fun m w' hm _ hC => ?_) ?_
       · (obtain rfl := oneC_off hm hC
          refine ⟨_, ?_, oneC_set hm⟩
          go_simp
          try with_reducible rfl)
       simp only [Act.put, List.setIfInBounds_toArray, List.set_cons_zero, List.set_cons_succ])
  refine holdC_nil (fun w' hC => ?_)
  have hw := oneC_on rfl hC
  subst hw
  have HF := Lib.hid (HG.out (.cells #[.int .i64 (ordI x.tick y.tick), .int .i64 (ordI x.id y.id)] 3))
  clear hC
  go_wp2_with fail
  go_ret
  exact ⟨intq HC.out.symm, HF.out⟩
instance : Inhabited Tm := ⟨⟨0, 0⟩⟩
def rowsW (l : List Tm) : List (List Value) := l.map Tm.row
theorem rowsW_len (l : List Tm) : (rowsW l).length = l.length := List.length_map _
theorem rowsW_two (l : List Tm) : ∀ r ∈ rowsW l, r.length = 2 := by
  intro r hr
  obtain ⟨x, _, rfl⟩ := List.mem_map.1 hr
  rfl
theorem rowsW_get (l : List Tm) (k : Nat) (h : k < l.length) : (rowsW l)[k]? = some l[k].row := by unfold rowsW; rw [List.getElem?_map, List.getElem?_eq_getElem h]; rfl
theorem row_one (x : Tm) : ∀ u ∈ x.row, u.oneCell' = true := by
  intro u hu
  unfold Tm.row at hu
  simp only [List.mem_cons, List.not_mem_nil, or_false] at hu
  rcases hu with rfl | rfl <;> rfl
theorem rowsW_one (l : List Tm) : ∀ u ∈ (rowsW l).flatten, u.oneCell' = true := by
  intro u hu
  obtain ⟨r, hr, hu⟩ := List.mem_flatten.1 hu
  obtain ⟨x, _, rfl⟩ := List.mem_map.1 hr
  exact row_one x u hu
theorem ltW_ahead (x y : Tm) : ltOf cmpW x y = tmB x y := cmpW_lt x y
theorem tmB_self (x : Tm) : tmB x x = false := by unfold tmB; simp
theorem swoW : SWO (ltOf cmpW) where
  irrefl x := by rw [ltW_ahead]; exact tmB_self x
  trans x y z h1 h2 := by rw [ltW_ahead] at *; exact tmB_trans h1 h2
  ntrans x y z h1 h2 := by
    rw [ltW_ahead] at *
    unfold tmB at *
    simp only [Bool.or_eq_false_iff, Bool.and_eq_false_iff, decide_eq_false_iff_not, beq_eq_false_iff_ne, ne_eq] at *
    omega
def nthW (l : List Tm) (i : Nat) : Tm := l.getD i default
theorem getW_eq (d : List Tm) (i : Nat) : d.toArray[i]! = nthW d i := by
  unfold nthW
  rw [Array.getElem!_eq_getD, Array.getD_eq_getD_getElem?, List.getElem?_toArray, List.getD_eq_getElem?_getD]
theorem nthW_eq (l : List Tm) (k : Nat) (h : k < l.length) : nthW l k = l[k] := by unfold nthW; rw [List.getD_eq_getElem?_getD, List.getElem?_eq_getElem h]; rfl
theorem rowW_holds {w : World} {base g cap : Nat} {l : List Tm} (h : w.ownsRow base 62 2 (.slice (some ⟨g, 0, none⟩) l.length cap) l.length (rowsW l).flatten) : HoldsK Tm.row 2 w g 0 l.toArray := by
  intro j hj
  rw [Go.Sort.size_flatK, List.size_toArray] at hj
  rw [Go.Sort.get_flatK _ _ _ _ (by simpa using hj), getW_eq]
  have hq : j / 2 < l.length := by omega
  have hm : j % 2 < 2 := by omega
  have hfl := flat_get 2 (rowsW l) (rowsW_two l) (j / 2) _ (rowsW_get l _ hq) (j % 2) (l[j / 2].row[j % 2]'(by show j % 2 < 2; exact hm)) (List.getElem?_eq_getElem _)
  have hc := h.cells (g := g) rfl (j / 2 * 2 + j % 2) _ hfl
  rw [show j / 2 * 2 + j % 2 = j by omega] at hc
  rw [show ((⟨g, 0, none⟩ : Addr).add j) = ⟨g, 0 + j, none⟩ by unfold Addr.add; split <;> simp_all] at hc
  refine ⟨?_, ?_⟩
  · rw [hc, nthW_eq l _ hq]
    have : (l[j / 2].row)[j % 2]! = l[j / 2].row[j % 2]'(by show j % 2 < 2; exact hm) := getElem!_pos _ _ _
    rw [this]; rfl
  · rcases h.2 with ⟨h, _⟩ | ⟨g', c, cur, hv, h0, hg, _⟩
    · cases h
    · cases hv; exact blk_free hg _
theorem sortV_blk {w : World} {g n k : Nat} {os : Array Obj} (d : Array Tm) (hk : k < w.heap.size) (hne : k ≠ g) : (Go.Proofs.sortWorldK Tm.row 2 w g 0 n d os).heap[k]? = w.heap[k]? := by
  unfold Go.Proofs.sortWorldK
  rw [Go.Sort.heap_grow_old _ _ (by simpa [Go.Sort.putRowK, Go.Sort.putRow, Go.Sort.mapBlock, Go.Sort.ahead] using hk)]
  simp [Go.Sort.putRowK, Go.Sort.putRow, Go.Sort.mapBlock, Go.Sort.ahead, Array.getElem?_modify]
  exact fun e => absurd e.symm hne
theorem sortV_size {w : World} {g n : Nat} {os : Array Obj} (d : Array Tm) : w.heap.size ≤ (Go.Proofs.sortWorldK Tm.row 2 w g 0 n d os).heap.size := by
  unfold Go.Proofs.sortWorldK
  simp [Go.Sort.putRowK, Go.Sort.putRow, Go.Sort.mapBlock, Go.Sort.ahead]
theorem srtW_eq {its l : List Tm} (h : its.Perm l) (hs : l.Pairwise fun x y => tmB x y = true) : (its.mergeSort fun x y => !(tmB y x)) = l := by
  have hp : (its.mergeSort fun x y => !(tmB y x)).Perm l := (List.mergeSort_perm its _).trans h
  have h1 : (its.mergeSort fun x y => !(tmB y x)).Pairwise (fun x y => (!(tmB y x)) = true) := List.pairwise_mergeSort (le := fun x y => !(tmB y x))
    (fun a b c hab hbc => by
      unfold tmB at *
      simp only [Bool.not_eq_true', Bool.or_eq_false_iff, Bool.and_eq_false_iff, decide_eq_false_iff_not, beq_eq_false_iff_ne, ne_eq] at *
      omega)
    (fun a b => by
      unfold tmB
      simp only [Bool.or_eq_true, Bool.not_eq_true', Bool.or_eq_false_iff, Bool.and_eq_false_iff, decide_eq_false_iff_not, beq_eq_false_iff_ne, ne_eq]
      omega) its
  have hasym : ∀ {a b : Tm}, tmB a b = true → (!(tmB b a)) = true := fun {a b} e => by
    unfold tmB at *
    simp only [Bool.not_eq_true', Bool.or_eq_true, Bool.and_eq_true, decide_eq_true_eq, beq_iff_eq, Bool.or_eq_false_iff, Bool.and_eq_false_iff, decide_eq_false_iff_not, beq_eq_false_iff_ne, ne_eq] at *
    omega
  have h2 : l.Pairwise (fun x y => (!(tmB y x)) = true) := hs.imp hasym
  refine List.Perm.eq_of_pairwise (le := fun x y => (!(tmB y x)) = true) (fun a b _ _ hab hba => ?_) h1 h2 hp
  cases a; cases b
  unfold tmB at hab hba
  simp only [Bool.not_eq_true', Bool.or_eq_false_iff, Bool.and_eq_false_iff, decide_eq_false_iff_not, beq_eq_false_iff_ne, ne_eq] at hab hba
  simp only [Tm.mk.injEq]
  omega
theorem wsort_any (base g cap : Nat) (its l : List Tm) (w : World) (hn : its.length ≤ 1000000) (hp : its.Perm l) (hs : l.Pairwise fun x y => tmB x y = true) (h : w.ownsRow base 62 2 (.slice (some ⟨g, 0, none⟩) its.length cap) its.length (rowsW its).flatten) :
    Calls Try.prog 22 #[.slice (some ⟨g, 0, none⟩) its.length cap, .func (.func 23) #[] #[]] w fun e w' => e = .returned (.tuple #[]) ∧ (∀ i, i < l.length → w'.cell? ⟨g, i * 2, none⟩ = some (.int .i64 (nthW l i).id) ∧ w'.cell? ⟨g, i * 2 + 1, none⟩ = some (.int .i64 (nthW l i).tick)) ∧ Only g w w' := by
  have hg : g < w.heap.size := (h.lt g rfl).2
  have hH := rowW_holds h
  have hl : its.length = l.length := hp.length_eq
  have hcon := AnyQ.slices_SortFunc_total Try.sortItem 2 Try.isAgg62 Try.sizeOf62 Tm.row (fun _ => rfl) (fun x v hv => row_one x v hv) cmpW swoW 23 #[] g 0 cap its.toArray w
    (enters_of Try.func23 (by kernel_rfl) rfl) (fun m os dk _ x y => wcompare_any x y _) hH hg (by simp; omega) (fun x y h1 h2 => by
      rw [ltW_ahead] at h1 h2
      cases x; cases y
      unfold tmB at h1 h2
      simp only [Bool.or_eq_false_iff, Bool.and_eq_false_iff, decide_eq_false_iff_not, beq_eq_false_iff_ne, ne_eq] at h1 h2
      simp only [Tm.mk.injEq]
      omega)
  change Calls Try.prog 22 _ _ _ at hcon
  rw [show its.toArray.size = its.length from rfl] at hcon
  refine hcon.mono fun e w' hh => ?_
  obtain ⟨he, n, os, rfl⟩ := hh
  have e1 : (its.toArray.toList.mergeSort fun x y => !(ltOf cmpW) y x) = l := by
    have e2 : (fun x y : Tm => !(ltOf cmpW) y x) = fun x y => !(tmB y x) := by funext x y; rw [ltW_ahead]
    rw [e2]; exact srtW_eq hp hs
  rw [e1]
  refine ⟨he, fun i hi => ?_, ⟨rfl, rfl, rfl, sortV_size _, fun k hk hne => sortV_blk _ hk hne⟩⟩
  have hK := Go.Proofs.holdsK_sortWorldK_c Tm.row 2 w g 0 its.toArray l.toArray n os hH hg (by simp [hl])
  have hc : ∀ c, c < 2 → (Go.Proofs.sortWorldK Tm.row 2 w g 0 n l.toArray os).cell? ⟨g, i * 2 + c, none⟩ = some ((nthW l i).row[c]!) := fun c hc => by
    have := (hK.cell (i := i) (c := c) (by simpa using hi) hc).1
    rwa [getW_eq, Nat.zero_add] at this
  exact ⟨hc 0 (by omega), hc 1 (by omega)⟩
/-- Of a nil slice nothing is sorted. -/
theorem wsort_nil (c : Nat) (w : World) :
    Calls Try.prog 22 #[.slice none 0 c, .func (.func 23) #[] #[]] w fun e w' => e = .returned (.tuple #[]) ∧ w' = w :=
  AnyF.slices_SortFunc_none Try.sortItem none c _ w
end Go.Proofs.Ytpdlpnfaclpgbaa
