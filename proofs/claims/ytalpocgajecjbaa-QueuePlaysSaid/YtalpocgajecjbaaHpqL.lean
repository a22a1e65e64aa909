/- What All of a heap comes to. Conditions: as stated. -/
import Derived.Test.YtalpocgajecjbaaHpqK
import Derived.Test.YtalpocgajecjbaaShelfG
import Derived.Test.YtalpocgajecjbaaThgRef2
namespace Go.Proofs.Ytalpocgajecjbaa
open Go.ChangeShapes Go.WideShapes Go.ChangeAt Go.RowKit
open Go.Sort (SWO HoldsK flatK Holds grow)
set_option linter.unusedVariables false
set_option maxRecDepth 100000
set_option linter.unusedSimpArgs false
variable {X : List Value × TypeId}

instance : Inhabited Thg := ⟨⟨0, zero3⟩⟩
theorem lt_ahead (x y : Thg) : ltOf cmpT x y = aheadT x y := cmpT_ahead x y
theorem swoT : SWO (ltOf cmpT) where
  irrefl x := by rw [lt_ahead]; exact ahead_self x
  trans x y z h1 h2 := by rw [lt_ahead] at *; exact ahead_trans h1 h2
  ntrans x y z h1 h2 := by rw [lt_ahead] at *; exact leT_trans (x := z) (y := y) (z := x) h2 h1
theorem getT_eq (d : List Thg) (i : Nat) : d.toArray[i]! = nth d i := by
  unfold nth
  rw [Array.getElem!_eq_getD, Array.getD_eq_getD_getElem?, List.getElem?_toArray, List.getD_eq_getElem?_getD]; rfl
theorem row_holds {w : World} {base g cap : Nat} {l : List Thg} (h : w.ownsRow base 66 4 (.slice (some ⟨g, 0, none⟩) l.length cap) l.length (rowsT l).flatten) : HoldsK Thg.row 4 w g 0 l.toArray := by
  intro j hj
  rw [Go.Sort.size_flatK, List.size_toArray] at hj
  rw [Go.Sort.get_flatK _ _ _ _ (by simpa using hj), getT_eq]
  have hq : j / 4 < l.length := by omega
  have hm : j % 4 < 4 := by omega
  have hfl := flat_get 4 (rowsT l) (rowsT_four l) (j / 4) _ (rowsT_get l _ hq) (j % 4) (l[j / 4].row[j % 4]'(by show j % 4 < 4; exact hm)) (List.getElem?_eq_getElem _)
  have hc := h.cells (g := g) rfl (j / 4 * 4 + j % 4) _ hfl
  rw [show j / 4 * 4 + j % 4 = j by omega] at hc
  rw [show ((⟨g, 0, none⟩ : Addr).add j) = ⟨g, 0 + j, none⟩ by unfold Addr.add; split <;> simp_all] at hc
  refine ⟨?_, ?_⟩
  · rw [hc, nth_eq l _ hq]
    have : (l[j / 4].row)[j % 4]! = l[j / 4].row[j % 4]'(by show j % 4 < 4; exact hm) := getElem!_pos _ _ _
    rw [this]; rfl
  · rcases h.2 with ⟨h, _⟩ | ⟨g', c, cur, hv, h0, hg, _⟩
    · cases h
    · cases hv; exact blk_free hg _
theorem sortW_blk {w : World} {g n k : Nat} {os : Array Obj} (d : Array Thg) (hk : k < w.heap.size) (hne : k ≠ g) : (Go.Proofs.sortWorldK Thg.row 4 w g 0 n d os).heap[k]? = w.heap[k]? := by
  unfold Go.Proofs.sortWorldK
  rw [Go.Sort.heap_grow_old _ _ (by simpa [Go.Sort.putRowK, Go.Sort.putRow, Go.Sort.mapBlock, Go.Sort.ahead] using hk)]
  simp [Go.Sort.putRowK, Go.Sort.putRow, Go.Sort.mapBlock, Go.Sort.ahead, Array.getElem?_modify]
  exact fun e => absurd e.symm hne
theorem sortW_size {w : World} {g n : Nat} {os : Array Obj} (d : Array Thg) : w.heap.size ≤ (Go.Proofs.sortWorldK Thg.row 4 w g 0 n d os).heap.size := by
  unfold Go.Proofs.sortWorldK
  simp [Go.Sort.putRowK, Go.Sort.putRow, Go.Sort.mapBlock, Go.Sort.ahead]
/-- In order, by the sort. -/
def srtT (l : List Thg) : List Thg := l.mergeSort fun x y => !(aheadT y x)
theorem srt_len (l : List Thg) : (srtT l).length = l.length := List.length_mergeSort _
theorem srt_eq {its l : List Thg} (h : its.Perm l) (hs : Sorted l) : srtT its = l := by
  have hp : (srtT its).Perm l := (List.mergeSort_perm its _).trans h
  have h1 : (srtT its).Pairwise (fun x y => (!(aheadT y x)) = true) := List.pairwise_mergeSort (le := fun x y => !(aheadT y x))
    (fun a b c hab hbc => by
      have h1 : aheadT b a = false := by simpa using hab
      have h2 : aheadT c b = false := by simpa using hbc
      have := leT_trans (x := a) (y := b) (z := c) h1 h2
      unfold leT at this
      simp [this])
    (fun a b => by
      cases hq : aheadT b a
      · rfl
      · simp [ahead_asymm hq]) its
  have h2 : l.Pairwise (fun x y => (!(aheadT y x)) = true) := hs.1.imp fun {a b} e => by simp [ahead_asymm e]
  refine List.Perm.eq_of_pairwise (le := fun x y => (!(aheadT y x)) = true) (fun a b _ _ hab hba => ?_) h1 h2 hp
  exact ahead_total (by simpa using hba) (by simpa using hab)
theorem hsort_any (base g cap : Nat) (its l : List Thg) (w : World) (hn : its.length ≤ 1000000) (hp : its.Perm l) (hs : Sorted l) (h : w.ownsRow base 66 4 (.slice (some ⟨g, 0, none⟩) its.length cap) its.length (rowsT its).flatten) :
    Calls Try.prog 29 #[.slice (some ⟨g, 0, none⟩) its.length cap, .func (.func 30) #[] #[]] w fun e w' => e = .returned (.tuple #[]) ∧ (∀ i, i < l.length → w'.cell? ⟨g, i * 4, none⟩ = some (.int .i64 (nth l i).id) ∧ w'.cell? ⟨g, i * 4 + 1, none⟩ = some (.int .i64 (nth l i).key.a) ∧ w'.cell? ⟨g, i * 4 + 2, none⟩ = some (.int .i64 (nth l i).key.b) ∧ w'.cell? ⟨g, i * 4 + 3, none⟩ = some (.int .i64 (nth l i).key.c)) ∧ Only g w w' := by
  have hg : g < w.heap.size := (h.lt g rfl).2
  have hH := row_holds h
  have hl : its.length = l.length := hp.length_eq
  have hcon := AnyQ.slices_SortFunc_total Try.sortItem 4 Try.isAgg66 Try.sizeOf66 Thg.row (fun _ => rfl) (fun x v hv => row_four2 x v hv) cmpT swoT 30 #[] g 0 cap its.toArray w
    (enters_of Try.func30 (by kernel_rfl) rfl) (fun m os dk _ x y => hcompare_any x y _) hH hg (by simp; omega) (fun x y h1 h2 => by rw [lt_ahead] at h1 h2; exact ahead_total h1 h2)
  change Calls Try.prog 29 _ _ _ at hcon
  rw [show its.toArray.size = its.length from rfl] at hcon
  refine hcon.mono fun e w' hh => ?_
  obtain ⟨he, n, os, rfl⟩ := hh
  have e1 : (its.toArray.toList.mergeSort fun x y => !(ltOf cmpT) y x) = l := by
    have e2 : (fun x y : Thg => !(ltOf cmpT) y x) = fun x y => !(aheadT y x) := by funext x y; rw [lt_ahead]
    rw [e2]; exact srt_eq hp hs
  rw [e1]
  refine ⟨he, fun i hi => ?_, ⟨rfl, rfl, rfl, sortW_size _, fun k hk hne => sortW_blk _ hk hne⟩⟩
  have hK := Go.Proofs.holdsK_sortWorldK_c Thg.row 4 w g 0 its.toArray l.toArray n os hH hg (by simp [hl])
  have hc : ∀ c, c < 4 → (Go.Proofs.sortWorldK Thg.row 4 w g 0 n l.toArray os).cell? ⟨g, i * 4 + c, none⟩ = some ((nth l i).row[c]!) := fun c hc => by
    have := (hK.cell (i := i) (c := c) (by simpa using hi) hc).1
    rwa [getT_eq, Nat.zero_add] at this
  exact ⟨hc 0 (by omega), hc 1 (by omega), hc 2 (by omega), hc 3 (by omega)⟩
set_option maxHeartbeats 1000000 in
theorem hclone_any (g cap : Nat) (its : List Thg) (w : World) (h0 : 0 < its.length) (hn : its.length ≤ 1000000) (h : RowW w (.slice (some ⟨g, 0, none⟩) its.length cap) its) :
    Calls Try.prog 28 #[.slice (some ⟨g, 0, none⟩) its.length cap] w fun e w' => ∃ v, e = .returned v ∧ w'.ownsRow w.heap.size 66 4 v its.length (rowsT its).flatten ∧ Below w.heap.size w w' := by
  obtain ⟨i0, hi, hz0, hz1, hz2⟩ := info_parts infoIt
  have HR := Lib.hid h
  have hcl : ∀ j u, (rowsT its).flatten[j]? = some u → w.cell? ((⟨g, 0, none⟩ : Addr).add j) = some u := fun j u hj => h.cells (g := g) rfl j u hj
  have hB := Below.refl w.heap.size w
  have HCL := Lib.hid (show ∀ j u, (rowsT its).flatten[j]? = some u → (w.alloc (.cells #[] 66)).cell? ((⟨g, 0, none⟩ : Addr).add j) = some u from fun j u hj => by
    rw [← hcl j u hj]
    have hlt := row_lt h
    exact (hB.alloc (Nat.le_refl _) (.cells #[] 66)).cell (p := (⟨g, 0, none⟩ : Addr).add j) (by unfold Addr.add; split <;> simp_all))
  have HO := Lib.hid (show (w.alloc (.cells #[] 66)).ownsRow w.heap.size 66 4 (.slice (some ⟨w.heap.size, 0, none⟩) 0 0) 0 [] from ⟨rfl, .inr ⟨w.heap.size, 0, #[], rfl, Nat.le_refl _, blk_new _ _, Nat.le_refl _, by unfold maxLen; omega, rfl, rfl⟩⟩)
  have HBB := Lib.hid (hB.alloc (Nat.le_refl _) (.cells #[] 66))
  have HLN := Lib.hid (show (rowsT its).flatten.length = its.length * 4 by rw [flat_len 4 _ (rowsT_four _), rowsT_len])
  have HON := Lib.hid (show ∀ u ∈ (rowsT its).flatten, u.oneCell' = true from rows_one _)
  have e1 : ∀ w, (binOp .eql 26 (.slice (some ⟨g, 0, none⟩) its.length cap) (.slice none 0 0)).run Try.prog w = .ok (.bool false) w := fun w => by kernel_rfl
  clear h hcl hB
  go_enter Try.func28, Try.ntmps28
  go_wp2_with (at_builtin; refine wpList_append_own _ rfl _ _ 26 rfl w.heap.size 66 i0 (.agg #[.int .i64 0, .int .i64 0, .int .i64 0, .int .i64 0]) 4 32 Try.underlying26 hi hz0 hz1 hz2 rfl (by decide) _ _ _ rfl HO.out ⟨g, 0, none⟩ its.length cap (rowsT its).flatten rfl HLN.out HCL.out HON.out ?c3 ?c4 ?c5 ?_)
  case c3 => unfold maxLen; omega
  case c4 => omega
  case c5 => simp
  intro v' w4 hown hgrow _
  have HB := Lib.hid (grown_below HBB.out hgrow (fun g hg => owns_row HO.out hg) (by simp))
  have HQ := Lib.hid hown
  clear hown hgrow
  go_wp2_with fail
  go_ret
  exact ⟨v', rfl, HQ.out, HB.out⟩
theorem ids_at (l : List Thg) (k : Nat) (h : k < l.length) (h2 : k < (idsT l).length) : (nth l k).id = (idsT l)[k] := by
  rw [nth_eq l k h]; simp [idsT]
theorem madeI (n : Nat) : (madeCells #[Value.int .i64 0] n).toList = ints (List.replicate n 0) := by
  unfold madeCells ints
  refine List.ext_getElem (by simp) fun i h1 h2 => ?_
  simp [Nat.mod_one]
/-- Numbers of which the first k are in place. -/
def upTo (ns : List Int) (k : Nat) : List Int := ns.take k ++ List.replicate (ns.length - k) 0
theorem upTo_len (ns : List Int) (k : Nat) (h : k ≤ ns.length) : (upTo ns k).length = ns.length := by unfold upTo; simp; omega
theorem upTo_set (ns : List Int) (k : Nat) (h : k < ns.length) : (upTo ns k).set k ns[k] = upTo ns (k + 1) := by
  unfold upTo
  rw [List.set_append_right _ _ (by rw [List.length_take]; omega), List.length_take, show k - min k ns.length = 0 by omega, show ns.length - k = (ns.length - (k + 1)) + 1 by omega, List.replicate_succ, List.set_cons_zero, List.take_succ_eq_append_getElem h, List.append_assoc]
  rfl
theorem upTo_end (ns : List Int) : upTo ns ns.length = ns := by unfold upTo; simp
theorem own_set1 {w : World} {base g n : Nat} {ns : List Int} {k : Nat} {x : Int} (h : w.ownsRow base 3 1 (.slice (some ⟨g, 0, none⟩) n n) n (ints ns)) (hk : k < n) : (w.setCell ⟨g, k, none⟩ (.int .i64 x)).ownsRow base 3 1 (.slice (some ⟨g, 0, none⟩) n n) n (ints (ns.set k x)) := by
  have h1 := h.1
  rcases h.2 with ⟨h, _⟩ | ⟨g', c, cur, hv, h0, hg, hc, hm, hs, ht⟩
  · cases h
  · cases hv
    refine ⟨by rw [ints_len, List.length_set]; rw [ints_len] at h1; exact h1, .inr ⟨g, n, _, rfl, h0, blk_set hg _ _, hc, hm, by simpa using hs, ?_⟩⟩
    rw [Array.toList_setIfInBounds, List.take_set, ht]
    unfold ints; rw [List.map_set]
set_option maxHeartbeats 2000000 in
theorem hall_any (F : Nat → Prop) (v : Value) (l : List Thg) (w : World) (hn : l.length ≤ 100000) (h : HPX X F v l w) :
    Calls Try.prog 25 #[v] w (IntsN (idsT l) w) := by
  obtain ⟨b, sv, mv, its, m, rfl, h2, h3, h4, h5⟩ := h
  have LE := Lib.hid (hlen_b w h2)
  have hlen := h3.length_eq
  by_cases h0 : its.length = 0
  · obtain rfl : its = [] := List.eq_nil_of_length_eq_zero h0
    obtain rfl : l = [] := List.eq_nil_of_length_eq_zero hlen.symm
    have HQ := Lib.hid (show IntsN (idsT []) w (.returned (.slice none 0 0)) w from ⟨_, rfl, Rd.nil _ _, Below.refl _ _⟩)
    clear h2 h3 h4 h5 h0 hlen
    go_enter Try.func25, Try.ntmps25
    go_wp2_with fail
    refine LE.out.mono ?_; rintro e w1 ⟨rfl, rfl⟩
    go_wp2_with fail
    go_ret
    exact HQ.out
  · obtain ⟨bi, cap, bm, rfl, rfl, hS⟩ := h2.full (by omega)
    obtain ⟨i0, hi, hz0, hz1, hz2⟩ := info_parts infoI64
    have c0 := hS.cells.1
    have dl : ((its.length : Int) == 0) = false := beq_false_of_ne (by omega)
    have CL := Lib.hid (hclone_any bi cap its w (by omega) (by omega) hS.row)
    have HPM := Lib.hid h3
    have HSO := Lib.hid h4
    have HLN := Lib.hid hlen
    have H0 := Lib.hid (show 0 < its.length by omega)
    clear h2 h3 h4 h5 h0 hS hlen
    go_enter Try.func25, Try.ntmps25
    go_wp2_with fail
    refine LE.out.mono ?_; rintro e w1 ⟨rfl, rfl⟩
    go_wp2_with fail
    refine CL.out.mono ?_; rintro e w1 ⟨v1, rfl, hown, b1⟩
    rcases own_form hown with rfl | ⟨g, o, n', cp, rfl⟩
    · have := hown.1; rcases hown.2 with ⟨_, e⟩ | ⟨_, _, _, e, _⟩
      · have := H0.out; omega
      · cases e
    have hform : o = 0 ∧ n' = its.length ∧ w.heap.size ≤ g ∧ its.length ≤ cp ∧ cp ≤ maxLen := by
      rcases hown.2 with ⟨e, _⟩ | ⟨_, _, _, e, q1, _, q2, q3, _⟩
      · cases e
      · cases e; exact ⟨rfl, rfl, q1, q2, q3⟩
    obtain ⟨rfl, rfl, hgw, hcp1, hcp2⟩ := hform
    have SR := Lib.hid (hsort_any w.heap.size g cp its l w1 (by have := HLN.out; omega) HPM.out HSO.out hown)
    have hg1 := (hown.lt g rfl).2
    have HB1 := Lib.hid b1
    have HG := Lib.hid (⟨hgw, hg1, hcp1, hcp2⟩ : w.heap.size ≤ g ∧ g < w1.heap.size ∧ its.length ≤ cp ∧ cp ≤ maxLen)
    clear b1 CL c0 hown hgw hg1 hcp1 hcp2
    go_wp2_with fail
    refine SR.out.mono ?_; rintro e w2 ⟨rfl, hc, ho⟩
    have HC := Lib.hid hc
    have HB2 := Lib.hid (show Below w.heap.size w w2 from HB1.out.trans (ho.below HG.out.1 HB1.out.size))
    have HG2 := Lib.hid (show g < w2.heap.size from Nat.lt_of_lt_of_le HG.out.2.1 ho.size)
    clear hc ho SR
    go_wp2_with (at_make; refine wpList_make_full _ rfl _ _ 60 rfl w2.heap.size 3 i0 (.int .i64 0) 1 Try.underlying60 hi hz0 hz1 .i64 .i64 _ _ its.length rfl rfl rfl rfl ?m1 ?m2 (Nat.le_refl _) ?_)
    case m1 => have := HLN.out; rw [hz2]; omega
    case m2 => have := HLN.out; unfold maxLen; omega
    intro w3 hown3 hgr3
    rw [madeI] at hown3
    have HIL := Lib.hid (show (idsT l).length = its.length by unfold idsT; rw [List.length_map]; exact HLN.out.symm)
    have HO3 := Lib.hid (show w3.ownsRow w2.heap.size 3 1 (.slice (some ⟨w2.heap.size, 0, none⟩) its.length its.length) its.length (ints (upTo (idsT l) 0)) by
      unfold upTo; rw [HIL.out]; simpa using hown3)
    have HB3 := Lib.hid (show Below w2.heap.size w2 w3 from ⟨hgr3.os, hgr3.tape, hgr3.output, hgr3.size, fun k hk => hgr3.block k hk (by simp)⟩)
    clear hown3 hgr3
    go_wp2_with fail
    go_loopw [22] (fun i wr => ∃ k : Nat, k ≤ its.length ∧ i = .int .i64 (k : Int) ∧ wr.ownsRow w2.heap.size 3 1 (.slice (some ⟨w2.heap.size, 0, none⟩) its.length its.length) its.length (ints (upTo (idsT l) k)) ∧ Below w2.heap.size w2 wr) (fun i _ => its.length - (intOf i).toNat)
    case atStart => exact ⟨0, by omega, rfl, HO3.out, HB3.out⟩
    case round =>
      clear HO3 HB3
      obtain ⟨k, hk, rfl, hown, hb⟩ := hrel
      by_cases hlt : k < its.length
      · have dk : decide (k < its.length) = true := decide_eq_true hlt
        have dk2 : decide ((k : Int) < (its.length : Int)) = true := decide_eq_true (by omega)
        have i0k : (0 : Int) ≤ (k : Int) := by omega
        have i1k : (k : Int) < (its.length : Int) := by omega
        have i2k : (its.length : Int) ≤ 100000 := by have := HLN.out; omega
        have hkl : k < l.length := by have := HLN.out; omega
        obtain ⟨r0, r1, r2, r3⟩ := HC.out k hkl
        have hcc : ∀ o, wr.cell? ⟨g, o, none⟩ = w2.cell? ⟨g, o, none⟩ := fun o => hb.cell (p := ⟨g, o, none⟩) HG2.out
        rw [← hcc] at r0 r1 r2 r3
        have hgw := hb.size
        have ha : Below wr.heap.size wr (wr.alloc (.cells #[.int .i64 (nth l k).id, .int .i64 (nth l k).key.a, .int .i64 (nth l k).key.b, .int .i64 (nth l k).key.c] 66)) := (Below.refl _ _).alloc (Nat.le_refl _) _
        have hown2 := hown.alloc (.cells #[.int .i64 (nth l k).id, .int .i64 (nth l k).key.a, .int .i64 (nth l k).key.b, .int .i64 (nth l k).key.c] 66)
        have hcur : ∃ cur : Array Value, (wr.alloc (.cells #[.int .i64 (nth l k).id, .int .i64 (nth l k).key.a, .int .i64 (nth l k).key.b, .int .i64 (nth l k).key.c] 66)).heap[w2.heap.size]? = some (.cells cur 3 (0, 0)) ∧ cur.size = its.length := by
          rcases hown2.2 with ⟨e, _⟩ | ⟨_, _, cur, e, _, q1, _, _, q2, _⟩
          · cases e
          · cases e; exact ⟨cur, q1, by omega⟩
        obtain ⟨cur, hq1, hq2⟩ := hcur
        have y0 := blk_cell hq1 k
        obtain ⟨cv, hcv⟩ : ∃ cv, cur[k]? = some cv := ⟨_, Array.getElem?_eq_getElem (by omega)⟩
        rw [hcv] at y0
        have yf := blk_free hq1 k
        have HN := Lib.hid (show ((wr.alloc (.cells #[.int .i64 (nth l k).id, .int .i64 (nth l k).key.a, .int .i64 (nth l k).key.b, .int .i64 (nth l k).key.c] 66)).setCell ⟨w2.heap.size, k, none⟩ (.int .i64 (nth l k).id)).ownsRow w2.heap.size 3 1 (.slice (some ⟨w2.heap.size, 0, none⟩) its.length its.length) its.length (ints (upTo (idsT l) (k + 1))) from by
          have h1 := own_set1 (x := (nth l k).id) hown2 hlt
          have hki : k < (idsT l).length := by rw [HIL.out]; exact hlt
          have e : (nth l k).id = (idsT l)[k]'hki := ids_at l k hkl hki
          rw [e] at h1 ⊢
          rw [upTo_set _ _ hki] at h1
          exact h1)
        have HNB := Lib.hid (show Below w2.heap.size w2 ((wr.alloc (.cells #[.int .i64 (nth l k).id, .int .i64 (nth l k).key.a, .int .i64 (nth l k).key.b, .int .i64 (nth l k).key.c] 66)).setCell ⟨w2.heap.size, k, none⟩ (.int .i64 (nth l k).id)) from
          (hb.alloc hb.size _).setCell (Nat.le_refl _) _)
        clear hown hb hown2 ha hq1 hq2 hcc hkl hcv
        generalize nth l k = t at *
        go_wp2_with fail
        go_roundw
        case rel => exact ⟨k + 1, by omega, by go_num, HN.out, HNB.out⟩
        case measure => simp [intOf]; omega
      · obtain rfl : k = its.length := by omega
        have dk : decide (its.length < its.length) = false := decide_eq_false (by omega)
        have HQ := Lib.hid (show IntsN (idsT l) w (.returned (.slice (some ⟨w2.heap.size, 0, none⟩) its.length its.length)) wr from by
          rw [← HIL.out, upTo_end] at hown
          exact ⟨_, rfl, by rw [← HIL.out]; exact Rd.own hown, HB2.out.trans (hb.mono HB2.out.size)⟩)
        clear hown hb
        go_wp2_with fail
        go_ret
        exact HQ.out
theorem nall_any (w : World) : Calls Try.prog 25 #[.pointer none] w fun e w' => (∃ A c, e = .returned (.slice A 0 c)) ∧ Below w.heap.size w w' := by
  have LE := Lib.hid (nlen_w w)
  have HQ := Lib.hid (Below.refl w.heap.size w)
  have h : Calls Try.prog 25 #[.pointer none] w fun e w' => e = .returned (.slice none 0 0) ∧ Below w.heap.size w w' := by
    go_enter Try.func25, Try.ntmps25
    go_wp2_with fail
    refine LE.out.mono ?_; rintro e w1 ⟨rfl, rfl⟩
    go_wp2_with fail
    go_ret
    exact ⟨rfl, HQ.out⟩
  exact h.mono fun e w' hh => ⟨⟨none, 0, hh.1⟩, hh.2⟩
end Go.Proofs.Ytalpocgajecjbaa
