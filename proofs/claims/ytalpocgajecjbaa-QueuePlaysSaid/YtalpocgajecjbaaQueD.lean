/- What a queue's Drop and Take come to. Conditions: numbers that an int holds; at most 100,000 jobs. -/
import Derived.Test.YtalpocgajecjbaaQueC
namespace Go.Proofs.Ytalpocgajecjbaa
open Go.ChangeShapes Go.WideShapes Go.ChangeAt Go.RowKit
set_option linter.unusedVariables false
set_option maxRecDepth 100000
set_option linter.unusedSimpArgs false

/-- What the heap's call leaves is what the queue's call leaves. -/
theorem q_end {F F1 : Nat → Prop} {b : Nat} {mv : Value} {l : List Jb} {w0 w w' : World} (hm : JMap w mv l) (hnf : ∀ k, mv = .map (some k) → ¬ F1 k) (ht : Turned F w0 w) (hown : ∀ k, (F1 k ∨ mv = .map (some k)) → F k ∨ w0.heap.size ≤ k) (hs : SortedJ l)
    (hp : HPostX (XQ mv) F1 (.pointer (some ⟨b, 0, none⟩)) (thgs l) w w') : QPost F (.pointer (some ⟨b, 0, none⟩)) l w0 w' := by
  obtain ⟨F', p1, p2, p3⟩ := hp
  have hsz := ht.size
  have hnf' : ∀ k, mv = .map (some k) → ¬ F' k := fun k e hf => by
    rcases p3 k hf with q | q
    · exact hnf k e q
    · have := hm.lt e; omega
  refine ⟨fun k => F' k ∨ mv = .map (some k), ⟨b, mv, F', rfl, p1, hm.keep fun g hg => p2.block g (hm.lt hg) (hnf g hg), hnf', hs, fun k => Iff.rfl⟩, ht.trans (G := F1) p2 (fun k hk => hown k (.inl hk)), fun k hk => ?_⟩
  rcases hk with hk | hk
  · rcases p3 k hk with q | q
    · exact hown k (.inl q)
    · exact .inr (by omega)
  · exact hown k (.inr hk)
set_option maxHeartbeats 1000000 in
theorem qdrop_any (F : Nat → Prop) (v : Value) (l : List Jb) (id : Int) (w : World) (hid : inI id) (hn : l.length ≤ 100000) (h : QP F v l w) :
    Calls Try.prog 10 #[v, .int .i64 id] w fun e w' => e = .returned (.bool (getJ l id).isSome) ∧ QPost F v (dropJ l id) w w' := by
  obtain ⟨b, mv, F1, rfl, h2, h3, h4, h5, h6⟩ := h
  obtain ⟨c2, _⟩ := hpx_third h2
  have HS := Lib.hid (dropJ_sorted h5 id)
  have HD := Lib.hid (show ∀ W, HPX (XQ mv) F1 (.pointer (some ⟨b, 0, none⟩)) (thgs l) W → JMap W mv (dropJ l id) → Turned F w W → Calls Try.prog 22 #[.pointer (some ⟨b, 0, none⟩), .int .i64 id] W fun e w' => e = .returned (.bool (getJ l id).isSome) ∧ QPost F (.pointer (some ⟨b, 0, none⟩)) (dropJ l id) w w' from fun W hp hm ht => by
    have := hdrop_any F1 _ (thgs l) id W hid (by rw [thgs_len]; exact hn) hp
    rw [find_thgs, drop_thgs] at this
    exact this.mono fun e w' ⟨he, hq⟩ => ⟨he, q_end hm h4 ht (fun k hk => .inl ((h6 k).2 hk)) (dropJ_sorted h5 id) hq⟩)
  have HID := Lib.hid hid
  rcases h3 with ⟨rfl, rfl⟩ | ⟨bj, rfl, hm⟩
  · have C := Lib.hid (HD.out w h2 (.inl ⟨rfl, rfl⟩) (Turned.refl _ _))
    clear h2 h4 h5 h6 HD HS hid
    go_enter Try.func10, Try.ntmps10
    go_wp2_with (at_delete; refine wpList_delete_nomap rfl _ _ 30 3 rfl 37 Try.underlying3 Try.underlying30 rfl id HID.out rfl ?_)
    refine C.out.mono ?_; rintro e w1 ⟨rfl, hq⟩
    have HQ := Lib.hid hq
    clear hq
    go_wp2_with fail
    go_ret
    exact ⟨rfl, HQ.out⟩
  · have HM := Lib.hid hm
    have HC := Lib.hid (show ∀ W, MapJ W bj (l.length - if (getJ l id).isSome = true then 1 else 0) (delF (getJ l) id) → Only bj w W → Calls Try.prog 22 #[.pointer (some ⟨b, 0, none⟩), .int .i64 id] W fun e w' => e = .returned (.bool (getJ l id).isSome) ∧ QPost F (.pointer (some ⟨b, 0, none⟩)) (dropJ l id) w w' from fun W hm' ho =>
      HD.out W (hp_keep h2 (fun k hk => ho.block k (hp_lt h2 k hk) (fun e => h4 bj rfl (e ▸ hk))) ho.size) (.inr ⟨bj, rfl, hm'.same (fun i => by rw [get_drop]; rfl) (dropJ_len h5).symm⟩)
        ⟨ho.os, ho.tape, ho.output, ho.size, fun k hk hne => ho.block k hk (fun e => hne ((h6 k).2 (.inr (by rw [e]))))⟩)
    obtain ⟨n', hn'⟩ : ∃ n', (l.length - if (getJ l id).isSome = true then 1 else 0) = n' := ⟨_, rfl⟩
    rw [hn'] at HC
    have HN := Lib.hid hn'
    clear h2 h4 h5 h6 HD HS hid hm hn'
    generalize (getJ l id).isSome = ok at HC ⊢
    go_enter Try.func10, Try.ntmps10
    go_wp2_with (at_delete; refine wpList_delete_mapF rfl _ _ 30 3 rfl 37 Try.underlying3 Try.underlying30 bj l.length rfl HM.out id HID.out rfl n' HN.out ?_)
    intro W hm' ho
    have C := Lib.hid (HC.out W hm' ho)
    clear hm' ho HC HM HID c2
    go_wp2_with fail
    refine C.out.mono ?_; rintro e w1 ⟨rfl, hq⟩
    have HQ := Lib.hid hq
    clear hq
    go_wp2_with fail
    go_ret
    exact ⟨rfl, HQ.out⟩
theorem head_nil (l : List Jb) (h : someJ l = false) : l = [] := by
  cases l
  · rfl
  · cases h
set_option maxHeartbeats 1000000 in
theorem qtake_any (F : Nat → Prop) (v : Value) (l : List Jb) (w : World) (hn : l.length ≤ 100000) (h : QP F v l w) :
    Calls Try.prog 13 #[v] w fun e w' => e = .returned (.tuple #[(headJ l).val, .bool (someJ l)]) ∧ QPost F v l.tail w w' := by
  obtain ⟨b, rfl⟩ := qp_ptr h
  have hb := jz_below w
  have hZ := jz_blk w
  have hP := qp_below h hb
  have NX := qnext_any F _ l (jz w) hn hP
  have HSO := Lib.hid (qp_sorted h)
  have HLT := Lib.hid (qp_lt h)
  cases l with
  | nil =>
    have NX := Lib.hid (show Calls Try.prog 12 #[.pointer (some ⟨b, 0, none⟩)] (jz w) fun e w' => e = .returned (.tuple #[.agg #[.int .i64 0, .int .i64 0, .int .i64 0, .int .i64 0, .int .i64 0, .int .i64 0, .int .i64 0, .int .i64 0], .bool false]) ∧ Below (jz w).heap.size (jz w) w' from NX)
    have HZ := Lib.hid hZ
    have HB := Lib.hid hb
    have HP := Lib.hid h
    clear hZ hb hP h
    go_enter Try.func13, Try.ntmps13
    go_wp2_with fail
    refine NX.out.mono ?_; rintro e w1 ⟨rfl, b1⟩
    have hz1 : BJob w.heap.size zeroJ w1 := HZ.out.below b1 (lt_of_block HZ.out)
    have hw1 := HB.out.trans (b1.mono HB.out.size)
    have hk := jz_blk w1
    have hz2 : BJob w.heap.size zeroJ (jz w1) := blk_old _ hz1
    obtain ⟨a0, a1, a2, a3, a4, a5, a6, a7⟩ := z8_of hk
    obtain ⟨e0, e1, e2, e3, e4, e5, e6, e7⟩ := hk.free
    obtain ⟨z0, z1, z2, z3, z4, z5, z6, z7⟩ := z8_of hz2
    obtain ⟨f0, f1, f2, f3, f4, f5, f6, f7⟩ := hz2.free
    have hbl : Below w.heap.size w (jz w1) := hw1.trans ((jz_below w1).mono hw1.size)
    have HR := Lib.hid (setJ8_blk zeroJ hz2)
    have HQ := Lib.hid (qpost_same HP.out (setJ8_below (w0 := w) (b := w.heap.size) zeroJ hbl (Nat.le_refl _)))
    clear b1 hz1 hw1 hk hz2 hbl NX HZ HB HP
    go_wp2_with fail
    exact bodyPost_ret (job_results2 rfl HR.out rfl) rfl ⟨rfl, HQ.out⟩
  | cons x r =>
    have NX := show Calls Try.prog 12 #[.pointer (some ⟨b, 0, none⟩)] (jz w) fun e w' => e = .returned (.tuple #[x.val, .bool true]) ∧ Below (jz w).heap.size (jz w) w' from NX
    show Calls _ _ _ _ fun e w' => e = .returned (.tuple #[x.val, .bool true]) ∧ QPost F _ r w w'
    unfold Jb.val at NX ⊢
    replace NX := Lib.hid NX
    have HZ := Lib.hid hZ
    have HB := Lib.hid hb
    have HP := Lib.hid h
    have HD := Lib.hid (show ∀ W, Below w.heap.size w W → Calls Try.prog 10 #[.pointer (some ⟨b, 0, none⟩), .int .i64 x.id] W fun e w' => e = .returned (.bool true) ∧ QPost F (.pointer (some ⟨b, 0, none⟩)) r W w' from fun W hb' => by
      have := qdrop_any F _ (x :: r) x.id W (HSO.out.2.1 x (by simp)).1.1 hn (qp_below HP.out hb')
      rw [head_get, tail_dropJ HSO.out] at this
      exact this)
    clear hZ hb hP h
    go_enter Try.func13, Try.ntmps13
    go_wp2_with fail
    refine NX.out.mono ?_; rintro e w1 ⟨rfl, b1⟩
    have hz1 : BJob w.heap.size zeroJ w1 := HZ.out.below b1 (lt_of_block HZ.out)
    have hw1 := HB.out.trans (b1.mono HB.out.size)
    have hk := jz_blk w1
    obtain ⟨a0, a1, a2, a3, a4, a5, a6, a7⟩ := z8_of hk
    obtain ⟨e0, e1, e2, e3, e4, e5, e6, e7⟩ := hk.free
    have hx1 := jv_blk w1 x
    obtain ⟨x0, x1, x2, x3, x4, x5, x6, x7⟩ := hx1.cells
    have hbl : Below w.heap.size w (jv w1 x) := hw1.trans ((jv_below w1 x).mono hw1.size)
    have DR := Lib.hid (HD.out (jv w1 x) hbl)
    have HZ2 := Lib.hid (show BJob w.heap.size zeroJ (jv w1 x) from blk_old _ hz1)
    have HX2 := Lib.hid hx1
    have HBL := Lib.hid hbl
    have hlt : w.heap.size < w1.heap.size := lt_of_block hz1
    clear b1 hz1 hw1 hk hx1 hbl NX HZ HB HD
    go_wp2_with fail
    refine DR.out.mono ?_; rintro e w2 ⟨rfl, hq⟩
    obtain ⟨F', q1, q2, q3⟩ := hq
    have hx2 : BJob w1.heap.size x w2 := (q2.block _ (lt_of_block HX2.out) (fun e => by have := HLT.out _ e; omega)).trans HX2.out
    have hz2 : BJob w.heap.size zeroJ w2 := (q2.block _ (lt_of_block HZ2.out) (fun e => by have := HLT.out _ e; omega)).trans HZ2.out
    obtain ⟨y0, y1, y2, y3, y4, y5, y6, y7⟩ := hx2.cells
    obtain ⟨z0, z1, z2, z3, z4, z5, z6, z7⟩ := z8_of hz2
    obtain ⟨f0, f1, f2, f3, f4, f5, f6, f7⟩ := hz2.free
    have HR := Lib.hid (setJ8_blk x hz2)
    have HQ := Lib.hid (show QPost F (.pointer (some ⟨b, 0, none⟩)) r w (setJ8 w2 w.heap.size x) from by
      have ho := setJ8_only w2 w.heap.size x
      have hnf : ¬ F' w.heap.size := fun e => by
        rcases q3 _ e with q | q
        · have := HLT.out _ q; omega
        · have := HBL.out.size; have : w.heap.size < (jv w1 x).heap.size := lt_of_block HZ2.out; omega
      have hs2 := HBL.out.size
      refine ⟨F', qp_keep q1 (fun k hk => ho.block k (qp_lt q1 k hk) (fun e => hnf (e ▸ hk))) ho.size, ((Turned.of HBL.out).trans (G := F) q2 (fun k hk => .inl hk)).trans (G := fun k => k = w.heap.size) ⟨ho.os, ho.tape, ho.output, ho.size, fun k hk hne => ho.block k hk hne⟩ (fun k hk => .inr (by omega)), fun k hk => ?_⟩
      rcases q3 k hk with q | q
      · exact .inl q
      · exact .inr (by omega))
    clear q1 q2 q3 hx2 hz2 hlt DR HZ2 HX2 HBL HP
    go_wp2_with fail
    exact bodyPost_ret (job_results2 rfl HR.out rfl) rfl ⟨rfl, HQ.out⟩
set_option maxHeartbeats 1000000 in
theorem nqtake_any (w : World) : Calls Try.prog 13 #[.pointer none] w fun e w' => e = .returned (.tuple #[zeroJ.val, .bool false]) ∧ Below w.heap.size w w' := by
  have NX := Lib.hid (show Calls Try.prog 12 #[.pointer none] (jz w) fun e w' => e = .returned (.tuple #[.agg #[.int .i64 0, .int .i64 0, .int .i64 0, .int .i64 0, .int .i64 0, .int .i64 0, .int .i64 0, .int .i64 0], .bool false]) ∧ Below (jz w).heap.size (jz w) w' from nqnext_any (jz w))
  have HZ := Lib.hid (jz_blk w)
  have HB := Lib.hid (jz_below w)
  go_enter Try.func13, Try.ntmps13
  go_wp2_with fail
  refine NX.out.mono ?_; rintro e w1 ⟨rfl, b1⟩
  have hz1 : BJob w.heap.size zeroJ w1 := HZ.out.below b1 (lt_of_block HZ.out)
  have hw1 := HB.out.trans (b1.mono HB.out.size)
  have hk := jz_blk w1
  have hz2 : BJob w.heap.size zeroJ (jz w1) := blk_old _ hz1
  obtain ⟨a0, a1, a2, a3, a4, a5, a6, a7⟩ := z8_of hk
  obtain ⟨e0, e1, e2, e3, e4, e5, e6, e7⟩ := hk.free
  obtain ⟨z0, z1, z2, z3, z4, z5, z6, z7⟩ := z8_of hz2
  obtain ⟨f0, f1, f2, f3, f4, f5, f6, f7⟩ := hz2.free
  have hbl : Below w.heap.size w (jz w1) := hw1.trans ((jz_below w1).mono hw1.size)
  have HR := Lib.hid (setJ8_blk zeroJ hz2)
  have HQ := Lib.hid (setJ8_below (w0 := w) (b := w.heap.size) zeroJ hbl (Nat.le_refl _))
  clear b1 hz1 hw1 hk hz2 hbl NX HZ HB
  go_wp2_with fail
  exact bodyPost_ret (job_results2 rfl HR.out rfl) rfl ⟨rfl, HQ.out⟩
end Go.Proofs.Ytalpocgajecjbaa
