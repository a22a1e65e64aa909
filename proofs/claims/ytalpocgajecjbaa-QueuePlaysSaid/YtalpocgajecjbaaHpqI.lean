/- What Put of a heap comes to. Conditions: as stated. -/
import Derived.Test.YtalpocgajecjbaaHpqH
import Derived.Maps.AppendAt
import Derived.OwnWalk
namespace Go.Proofs.Ytalpocgajecjbaa
open Go.ChangeShapes Go.WideShapes Go.ChangeAt Go.RowKit
set_option linter.unusedVariables false
set_option maxRecDepth 100000
set_option linter.unusedSimpArgs false
variable {X : List Value × TypeId}

theorem infoIt : (Try.prog.info? 66).map (fun i => (i.zero, i.size, i.bytes)) = some (some (.agg #[.int .i64 0, .int .i64 0, .int .i64 0, .int .i64 0]), 4, 32) := by kernel_rfl
theorem uniq_set {l : List Thg} (hu : Uniq l) {g : Nat} (hg : g < l.length) {x : Thg} (he : (nth l g).id = x.id) : Uniq (l.set g x) := by
  refine uniq_perm (set_rest l g x hg).symm ?_
  have h := List.pairwise_cons.1 (uniq_perm (self_rest l g hg) hu)
  exact List.pairwise_cons.2 ⟨fun t ht => by rw [← he]; exact h.1 t ht, h.2⟩
/-- What settle left is what a Put leaves. -/
theorem sorted_put {l : List Thg} {x : Thg} (h : Sorted l) (hx : x.ok) : Sorted (putT l x) := by
  obtain ⟨a, b, h1, h2⟩ := put_split l x
  have ha : a = (dropT l x.id).takeWhile fun t => aheadT t x := by
    have : putT l x = (dropT l x.id).takeWhile (fun t => aheadT t x) ++ x :: (dropT l x.id).dropWhile (fun t => aheadT t x) := rfl
    have e := List.takeWhile_append_dropWhile (p := fun t => aheadT t x) (l := dropT l x.id)
    have hl := congrArg List.length (h2.symm.trans this)
    have h3 : a ++ b = (dropT l x.id).takeWhile (fun t => aheadT t x) ++ (dropT l x.id).dropWhile (fun t => aheadT t x) := by rw [e, h1]
    have h4 : a ++ x :: b = (dropT l x.id).takeWhile (fun t => aheadT t x) ++ x :: (dropT l x.id).dropWhile (fun t => aheadT t x) := h2.symm.trans this
    have hne : ∀ t ∈ dropT l x.id, t ≠ x := fun t ht e => by
      unfold dropT at ht
      have := (List.mem_filter.1 ht).2
      rw [e] at this; simp at this
    clear hl this h2
    revert h3 h4 hne
    generalize (dropT l x.id).takeWhile (fun t => aheadT t x) = c
    generalize (dropT l x.id).dropWhile (fun t => aheadT t x) = d
    rw [h1]
    intro h3 h4 hne
    rcases List.append_eq_append_iff.1 h4 with ⟨q, hq1, hq2⟩ | ⟨q, hq1, hq2⟩
    · cases q with
      | nil => simpa using hq1.symm
      | cons y q =>
        simp at hq2
        exact absurd hq2.1.symm (by
          intro e
          have : y ∈ a ++ b := by rw [h3, hq1]; simp
          exact hne y this e.symm.symm)
    · cases q with
      | nil => simpa using hq1
      | cons y q =>
        simp at hq2
        exact absurd hq2.1 (by
          intro e
          have : y ∈ a ++ b := by rw [hq1]; simp
          exact hne y this e.symm)
  have hsub : ∀ t ∈ dropT l x.id, t ∈ l := fun t ht => (List.mem_filter.1 ht).1
  have hne : ∀ t ∈ dropT l x.id, t.id ≠ x.id := fun t ht => by
    have := (List.mem_filter.1 ht).2
    simpa using this
  have hs : (dropT l x.id).Pairwise (fun s t => aheadT s t = true) := h.1.filter _
  have hu : Uniq (dropT l x.id) := List.Pairwise.filter _ h.2.2
  have hu2 : Uniq (putT l x) := uniq_perm (put_perm l x).symm (List.pairwise_cons.2 ⟨fun t ht e => hne t ht e.symm, hu⟩)
  refine ⟨?_, fun t ht => ?_, hu2⟩
  · rw [h2]
    rw [h1] at hs hne
    obtain ⟨s1, s2, s3⟩ := List.pairwise_append.1 hs
    have hax : ∀ t ∈ a, aheadT t x = true := fun t ht => by
      rw [ha] at ht
      exact List.all_eq_true.1 (List.all_takeWhile (p := fun t => aheadT t x) (l := dropT l x.id)) t ht
    have hxb : ∀ t ∈ b, aheadT x t = true := fun t ht => by
      have hb : b = (dropT l x.id).dropWhile fun t => aheadT t x := by
        have e := List.takeWhile_append_dropWhile (p := fun t => aheadT t x) (l := dropT l x.id)
        rw [← ha, h1] at e
        have := List.append_cancel_left e
        rw [← this, h1]
      cases hbb : b with
      | nil => rw [hbb] at ht; cases ht
      | cons y r =>
        have hy : aheadT y x = false := by
          have := List.head?_dropWhile_not (fun t => aheadT t x) (dropT l x.id)
          rw [← hb, hbb] at this
          simpa using this
        have hxy : aheadT x y = true := by
          cases hq : aheadT x y
          · have := ahead_total hy hq
            exact absurd (by rw [this]) (hne y (by rw [hbb]; simp))
          · rfl
        rw [hbb] at ht
        rcases List.mem_cons.1 ht with rfl | ht
        · exact hxy
        · rw [hbb] at s2
          exact ahead_trans hxy ((List.pairwise_cons.1 s2).1 t ht)
    exact List.pairwise_append.2 ⟨s1, List.pairwise_cons.2 ⟨hxb, s2⟩, fun s hs' t ht => by
      rcases List.mem_cons.1 ht with rfl | ht
      · exact hax s hs'
      · exact s3 s hs' t ht⟩
  · rcases List.mem_cons.1 ((put_perm l x).mem_iff.1 ht) with rfl | ht
    · exact hx
    · exact h.2.1 t (hsub t ht)
/-- What there is once the map is there. -/
structure Mid (X : List Value × TypeId) (F : Nat → Prop) (b : Nat) (sv : Value) (bm : Nat) (its : List Thg) (m : PosM) (w0 w : World) : Prop where
  hb : HB X b sv (.map (some bm)) its m w
  turned : Turned F w0 w
  own : ∀ k, HF b sv (.map (some bm)) k → F k ∨ w0.heap.size ≤ k
theorem Mid.below {F : Nat → Prop} {b : Nat} {sv : Value} {bm : Nat} {its : List Thg} {m : PosM} {w0 w w' : World} (h : Mid X F b sv bm its m w0 w) (hb : Below w.heap.size w w') : Mid X F b sv bm its m w0 w' :=
  ⟨h.hb.below hb, h.turned.trans (G := fun _ => False) (Turned.of hb) (fun _ f => f.elim), h.own⟩
/-- What settle leaves is the heap. -/
theorem mid_end {F : Nat → Prop} {b : Nat} {l0 l' : List Thg} {bi cap bm n : Nat} {w0 w w' : World} (hF : ∀ k, k = b ∨ k = bi ∨ k = bm → F k ∨ w0.heap.size ≤ k) (ht : Turned F w0 w) (hs : Settled X b bi cap bm n l0 w w') (hp : l0.Perm l') (hn : n = l0.length) (hl : Sorted l') :
    HPostX X F (.pointer (some ⟨b, 0, none⟩)) l' w0 w' := by
  obtain ⟨l, m, h1, h2, h3, h4, h5⟩ := hs
  have hB := HB.of h1 (by rw [hn, h4.length_eq]) h3 h2
  have hff : ∀ k, HF b (.slice (some ⟨bi, 0, none⟩) l.length cap) (.map (some bm)) k → k = b ∨ k = bi ∨ k = bm := by
    intro k hk
    rcases hk with rfl | hk | hk
    · exact .inl rfl
    · cases hk; exact .inr (.inl rfl)
    · cases hk; exact .inr (.inr rfl)
  refine ⟨HF b (.slice (some ⟨bi, 0, none⟩) l.length cap) (.map (some bm)), ⟨b, _, _, l, m, rfl, hB, h4.trans hp, hl, fun k => Iff.rfl⟩, ht.trans (G := fun k => k = bi ∨ k = bm) h5 (fun k hk => hF k (.inr hk)), fun k hk => hF k (hff k hk)⟩
theorem row_four2 (x : Thg) : ∀ u ∈ x.row, u.oneCell' = true := by
  intro u hu
  simp [Thg.row] at hu
  rcases hu with rfl | rfl | rfl | rfl <;> rfl
theorem uniq_cons {x : Thg} {l : List Thg} (h : ∀ t ∈ l, x.id ≠ t.id) (hu : Uniq l) : Uniq (x :: l) := List.pairwise_cons.2 ⟨h, hu⟩
theorem says_empty {m : PosM} (h : ∀ id, m id = none) : SaysM (.map []) m := fun id _ => .inl ⟨h id, rfl, rfl⟩
/-- A map was made, and stored in the heap. -/
theorem mid_made {F : Nat → Prop} {b : Nat} {sv : Value} {its : List Thg} {m : PosM} {w0 V : World} (h0 : its.length = 0) (h : HB X b sv (.map none) its m V) (hw : Below w0.heap.size w0 V) (hF : ∀ k, F k ↔ HF b sv (.map none) k) (hl : ∀ k, HF b sv (.map none) k → k < w0.heap.size) (hm : ∀ id, m id = none) :
    Mid X F b sv V.heap.size its m w0 ((V.alloc (.map #[] 0)).setCell ⟨b, 1, none⟩ (.map (some V.heap.size))) := by
  have ha : Below V.heap.size V (V.alloc (.map #[] 0)) := (Below.refl _ _).alloc (Nat.le_refl _) _
  have hB := h.below ha
  have hb0 := hl b (.inl rfl)
  have hs := hw.size
  have hbk : ∀ k, k ≠ b → ((V.alloc (.map #[] 0)).setCell ⟨b, 1, none⟩ (.map (some V.heap.size))).heap[k]? = (V.alloc (.map #[] 0)).heap[k]? := fun k hk => Below.heap_setCell _ _ _ _ hk
  have hpos : PosW (V.alloc (.map #[] 0)) V.heap.size its.length m := by
    rw [h0]; exact ⟨.map [], World.ownsMap_made V _ _ _, rfl, says_empty hm⟩
  refine ⟨⟨hx_set1 hB.blk _, rowv_keep hB.row fun g hg => hbk g (fun e => h.ne1 (by rw [hg, e])), .inr ⟨_, rfl, hpos.keep (hbk _ (by omega))⟩, h.ne1, fun e => by cases e; omega, fun k hk e => by cases e; have := hl _ (.inr (.inl hk)); omega, h.pos, h.heap⟩, ?_, fun k hk => ?_⟩
  · have ht : Turned F w0 (V.alloc (.map #[] 0)) := Turned.of (hw.trans (ha.mono hs))
    exact ht.trans (G := fun k => k = b) ⟨rfl, rfl, rfl, by simp [World.setCell], fun k _ hk => hbk k hk⟩ fun k hk => .inl (by rw [hF, hk]; exact .inl rfl)
  · rcases hk with rfl | hk | hk
    · exact .inl ((hF _).2 (.inl rfl))
    · exact .inl ((hF _).2 (.inr (.inl hk)))
    · cases hk; exact .inr hs
/-- One more item was appended, and the row stored in the heap. -/
theorem mid_grown {F : Nat → Prop} {b bm : Nat} {sv v' : Value} {its : List Thg} {m : PosM} {w0 W W4 : World} {o : Obj} (h : Mid X F b sv bm its m w0 W) (hg : (W.alloc o).grownBy W4 sv.ownBlock) (hown : W4.ownsRow 0 66 4 v' (its.length + 1) ((rowsT its).flatten ++ [.int .i64 0, .int .i64 0, .int .i64 0, .int .i64 0]))
    (hloc : v'.ownBlock = sv.ownBlock ∨ v'.ownBlock = some (W.heap.size + 1)) :
    ∃ g cap, v' = .slice (some ⟨g, 0, none⟩) (its.length + 1) cap ∧ W4.heap[b]? = some (hX X sv (.map (some bm))) ∧ HS X b g cap bm its.length (its ++ [⟨0, zero3⟩]) m (W4.setCell ⟨b, 0, none⟩ v') ∧ Turned F w0 (W4.setCell ⟨b, 0, none⟩ v') ∧ (∀ k, k = b ∨ k = g ∨ k = bm → F k ∨ w0.heap.size ≤ k) := by
  have hsz : (W.alloc o).heap.size = W.heap.size + 1 := by simp
  have ha : Below W.heap.size W (W.alloc o) := (Below.refl _ _).alloc (Nat.le_refl _) _
  have hB := h.hb.below ha
  have hlt : ∀ k, HF b sv (.map (some bm)) k → k < W.heap.size := fun k hk => h.hb.lt hk
  have hb4 : W4.heap[b]? = some (hX X sv (.map (some bm))) := (hg.block b (lt_of_block hB.blk) (fun e => h.hb.ne1 e.symm)).trans hB.blk
  have hpos : PosW W bm its.length m := by
    rcases h.hb.map with ⟨e, _⟩ | ⟨q, e, hp⟩
    · cases e
    · cases e; exact hp
  have hbmlt := hlt bm (.inr (.inr rfl))
  have hbmsv : sv.ownBlock ≠ some bm := fun e => h.hb.ne3 bm e rfl
  have hbbm : b ≠ bm := fun e => h.hb.ne2 (by rw [e])
  have hp4 : PosW W4 bm its.length m := (hpos.keep (ha.block bm hbmlt)).keep (hg.block bm (by omega) (fun e => hbmsv e.symm))
  rcases hown.2 with ⟨_, e⟩ | ⟨g, cap, cur, rfl, z1, z2, z3⟩
  · omega
  have hgb : g ≠ b ∧ g ≠ bm ∧ (F g ∨ w0.heap.size ≤ g) := by
    rcases hloc with e | e
    · have e' : sv.ownBlock = some g := e.symm
      exact ⟨fun q => h.hb.ne1 (by rw [e', q]), fun q => hbmsv (by rw [e', q]), h.own g (.inr (.inl e'))⟩
    · have e' : g = W.heap.size + 1 := by cases e; rfl
      have := hlt b (.inl rfl)
      exact ⟨by omega, by omega, .inr (by have := h.turned.size; omega)⟩
  have hk : ∀ k, k ≠ b → (W4.setCell ⟨b, 0, none⟩ (.slice (some ⟨g, 0, none⟩) (its.length + 1) cap)).heap[k]? = W4.heap[k]? := fun k hk => Below.heap_setCell _ _ _ _ hk
  refine ⟨g, cap, rfl, hb4, ⟨?_, ?_, hp4.keep (hk bm (fun e => hbbm e.symm)), hgb.1.symm, hbbm, hgb.2.1⟩, ?_, fun k hk => ?_⟩
  · rw [show (its ++ [(⟨0, zero3⟩ : Thg)]).length = its.length + 1 by simp]; exact hx_set0 hb4 _
  · have hr : RowW W4 (.slice (some ⟨g, 0, none⟩) (its ++ [(⟨0, zero3⟩ : Thg)]).length cap) (its ++ [⟨0, zero3⟩]) := by
      rw [show (its ++ [(⟨0, zero3⟩ : Thg)]).length = its.length + 1 by simp]
      have e : (rowsT (its ++ [(⟨0, zero3⟩ : Thg)])).flatten = (rowsT its).flatten ++ [.int .i64 0, .int .i64 0, .int .i64 0, .int .i64 0] := by
        rw [rowsT_snoc]; simp [Thg.row, zero3]
      unfold RowW
      rw [show (its ++ [(⟨0, zero3⟩ : Thg)]).length = its.length + 1 by simp, e]
      exact hown
    exact row_keep hr (hk g hgb.1)
  · refine (h.turned.trans (G := fun _ => False) (Turned.of ha) (fun _ f => f.elim)).trans (G := fun k => sv.ownBlock = some k ∨ k = b) ⟨hg.os, hg.tape, hg.output, by simp [World.setCell]; have := hg.size; omega, fun k hk1 hk2 => ?_⟩ fun k hk => ?_
    · rw [hk k (fun e => hk2 (.inr e))]
      exact hg.block k hk1 (fun e => hk2 (.inl e.symm))
    · rcases hk with hk | rfl
      · exact h.own k (.inr (.inl hk))
      · exact h.own k (.inl rfl)
  · rcases hk with rfl | rfl | rfl
    · exact h.own k (.inl rfl)
    · exact hgb.2.2
    · exact h.own k (.inr (.inr rfl))
theorem heql_some (bm : Nat) (w : World) : (binOp .eql 27 (.map (some bm)) (.map none)).run Try.prog w = .ok (.bool false) w := by kernel_rfl
theorem heql_nil (w : World) : (binOp .eql 27 (.map none) (.map none)).run Try.prog w = .ok (.bool true) w := by kernel_rfl
set_option maxHeartbeats 4000000 in
theorem hput_any (F : Nat → Prop) (v : Value) (l : List Thg) (x : Thg) (w : World) (hx : x.ok) (hn : l.length ≤ 100000) (h : HPX X F v l w) :
    Calls Try.prog 19 #[v, .int .i64 x.id, x.key.val] w fun e w' => e = .returned (.bool (findT l x.id).isNone) ∧ HPostX X F v (putT l x) w w' := by
  obtain ⟨b, sv, mv, its, m, rfl, h2, h3, h4, h5⟩ := h
  obtain ⟨i0, hi, hz0, hz1, hz2⟩ := info_parts infoIt
  have hmm := @run_makeMap Try.prog
  have HLEN := Lib.hid h3.length_eq
  have HSO := Lib.hid (sorted_put h4 hx)
  have HPM := Lib.hid h3
  have HOK := Lib.hid (show ∀ t ∈ its, t.ok from fun t ht => h4.2.1 t (h3.mem_iff.1 ht))
  have HU := Lib.hid (show Uniq its from uniq_perm h3.symm h4.2.2)
  have HX := Lib.hid hx
  have hbl := kv_below w x.key
  have hbk := kv_blk w x.key
  have k0 := blk_cell hbk 0
  have k1 := blk_cell hbk 1
  have k2 := blk_cell hbk 2
  have hB0 := h2.below hbl
  have q0 := blk_cell hB0.blk 0
  have q1 := blk_cell hB0.blk 1
  have qf := blk_free hB0.blk 1
  have hbn : b ≠ w.heap.size := by have := h2.lt (k := b) (.inl rfl); omega
  unfold V3.val
  rcases h2.map with ⟨e, hl0, hmz⟩ | ⟨bm, e, hp⟩
  · subst e
    have e1 := heql_nil
    have HMID := Lib.hid (mid_made hl0 hB0 hbl h5 (fun k hk => h2.lt hk) hmz)
    have hwb := blk_far (p := ⟨b, 1, none⟩) (.map (some (kv w x.key).heap.size)) (blk_old (.map #[] 0) hbk) (fun e => hbn e.symm)
    have hbq := blk_old (.map #[] 0) hB0.blk
    have q1' := blk_cell hbq 1
    have qf' := blk_free hbq 1
    have k0' := blk_cell hwb 0
    have k1' := blk_cell hwb 1
    have k2' := blk_cell hwb 2
    have HSV := Lib.hid (show ∀ g, sv.ownBlock = some g → g < w.heap.size from fun g hg => h2.lt (.inr (.inl hg)))
    have hks : (kv w x.key).heap.size = w.heap.size + 1 := by simp
    have KC := Lib.hid hwb
    have hks2 : (w.alloc (.cells #[.int .i64 x.key.a, .int .i64 x.key.b, .int .i64 x.key.c] 55)).heap.size = w.heap.size + 1 := hks
    rw [hks] at HMID KC k0' k1' k2'
    unfold kv at q1 q1' qf' qf k0' k1' k2' HMID KC
    clear h2 h3 h4 h5 hx hbl hbk hB0 hwb hbq hmz hl0 k0 k1 k2 q0 hks
    go_enter Try.func19, Try.ntmps19
    go_wp2_with fail
    clear q1 q1' qf qf' hks2
    generalize ((w.alloc (.cells #[.int .i64 x.key.a, .int .i64 x.key.b, .int .i64 x.key.c] 55)).alloc (.map #[] 0)).setCell ⟨b, 1, none⟩ (.map (some (w.heap.size + 1))) = W1 at *
    generalize w.heap.size + 1 = bm at *
    have FI := Lib.hid (hfind_b x.id W1 HX.out.1 HMID.out.hb)
    go_wp2_with fail
    refine FI.out.mono ?_; rintro e w2 ⟨rfl, rfl⟩
    cases hm : m x.id with
    | some k =>
      obtain ⟨p1, p2, p3⟩ := its_some HMID.out.hb.pos HPM.out hm
      have HRES := Lib.hid (show (findT l x.id).isNone = false by cases hf : findT l x.id <;> simp_all)
      obtain ⟨bi, cap, bm', hs1, hs2, hS⟩ := HMID.out.hb.full (by omega)
      cases hs2
      have ST := hsettle_any b bi cap bm its.length its m k x W1 p1 (by have := HLEN.out; omega) (by have := HLEN.out; omega) hS (Hole.of_heap HMID.out.hb.heap k) (HMID.out.hb.pos.hole p1 p2.symm) (uniq_set HU.out p1 p2) (fun t ht => by
        rcases List.mem_cons.1 ((set_rest its k x p1).mem_iff.1 ht) with rfl | ht
        · exact HX.out
        · exact HOK.out t ((self_rest its k p1).mem_iff.2 (by simp [ht])))
      have HE := Lib.hid (show ∀ w', Settled X b bi cap bm (moreN m x.id its.length) (its.set k x) W1 w' → HPostX X F (.pointer (some ⟨b, 0, none⟩)) (putT l x) w w' from fun w' hst =>
        mid_end (fun j hj => HMID.out.own j (by rcases hj with rfl | rfl | rfl; exact .inl rfl; exact .inr (.inl (by rw [hs1]; rfl)); exact .inr (.inr rfl))) HMID.out.turned hst
          ((set_rest its k x p1).trans (by rw [← drop_rest HU.out p1 p2]; exact ((drop_perm HPM.out x.id).cons x).trans (put_perm l x).symm)) (by unfold moreN; rw [hm]; simp) HSO.out)
      unfold Thg.val at ST
      have ST := Lib.hid ST
      clear p1 p2 p3 hm hS hs1
      go_wp2_with fail
      refine ST.out.mono ?_; rintro e w8 ⟨rfl, hst⟩
      have HQ := Lib.hid (HE.out w8 hst)
      clear hst ST HE
      go_wp2_with fail
      go_ret
      exact ⟨by rw [HRES.out]; rfl, HQ.out⟩
    | none =>
      have hfn := its_none HMID.out.hb.pos HPM.out hm
      have HNE := Lib.hid (show ∀ t ∈ its, t.id ≠ x.id from (find_mem its x.id).1 (by
        have := find_perm HPM.out x.id
        rw [hfn] at this
        cases hf : findT its x.id
        · rfl
        · rw [hf] at this; cases this))
      have HRES := Lib.hid (show (findT l x.id).isNone = true by rw [hfn]; rfl)
      have HMN := Lib.hid hm
      obtain ⟨A, cap, hsv, hc1, hc2, hA⟩ := HMID.out.hb.form
      have c0 := blk_cell HMID.out.hb.blk 0
      have f0 := blk_free HMID.out.hb.blk 0
      have HROW := Lib.hid HMID.out.hb.row
      have HOB := Lib.hid (show sv.ownBlock ≠ some b from HMID.out.hb.ne1)
      clear hm hfn
      subst hsv
      go_wp2_with (at_builtin; refine wpList_append_own_at _ rfl _ _ 26 rfl 0 66 i0 (.agg #[.int .i64 0, .int .i64 0, .int .i64 0, .int .i64 0]) 4 32 Try.underlying26 hi hz0 hz1 hz2 rfl (by decide) _ _ _ rfl (HROW.out.alloc _) ⟨W1.heap.size, 0, none⟩ 1 1 [.int .i64 0, .int .i64 0, .int .i64 0, .int .i64 0] rfl rfl (cells_new _ _ _) (row_four2 ⟨0, zero3⟩) ?c3 ?c4 ?c5 ?_)
      case c3 => have := HLEN.out; unfold maxLen; omega
      case c4 => have := HLEN.out; omega
      case c5 => simp
      intro v' w4 hown4 hgrow hnil hloc
      have hlen := HLEN.out
      obtain ⟨g, capn, rfl, hb4, hS, hT, hFF⟩ := mid_grown HMID.out hgrow hown4 hloc
      have hkb : w4.heap[w.heap.size]? = some (.cells #[.int .i64 x.key.a, .int .i64 x.key.b, .int .i64 x.key.c] 55 (0, 0)) :=
        (hgrow.block w.heap.size (by have := lt_of_block KC.out; simp; omega) (fun e => by have := HSV.out _ e.symm; omega)).trans (blk_old _ KC.out)
      have hkb5 := blk_far (p := ⟨b, 0, none⟩) (.slice (some ⟨g, 0, none⟩) (its.length + 1) capn) hkb (fun e => hbn e.symm)
      have y0 := blk_cell hkb5 0
      have y1 := blk_cell hkb5 1
      have y2 := blk_cell hkb5 2
      have z0 := blk_cell hb4 0
      have zf := blk_free hb4 0
      have ST := hsettle_any b g capn bm its.length (its ++ [⟨0, zero3⟩]) m its.length x _ (by simp) (by simp; omega) (by omega) hS (Hole.grow HMID.out.hb.heap _) (HMID.out.hb.pos.grow _ x)
        (by rw [set_len]; exact uniq_perm List.perm_middle.symm (uniq_cons (fun t ht e => HNE.out t (by simpa using ht) e.symm) (by rw [List.append_nil]; exact HU.out)))
        (fun t ht => by rw [set_len] at ht; rcases List.mem_append.1 ht with ht | ht; exact HOK.out t ht; rw [List.mem_singleton.1 ht]; exact HX.out)
      have HE := Lib.hid (show ∀ w', Settled X b g capn bm (moreN m x.id its.length) ((its ++ [(⟨0, zero3⟩ : Thg)]).set its.length x) (w4.setCell ⟨b, 0, none⟩ (.slice (some ⟨g, 0, none⟩) (its.length + 1) capn)) w' → HPostX X F (.pointer (some ⟨b, 0, none⟩)) (putT l x) w w' from fun w' hst =>
        mid_end hFF hT hst (by
          rw [set_len]
          refine List.perm_middle.trans ?_
          rw [List.append_nil]
          have e := drop_same its x.id HNE.out
          have := (drop_perm HPM.out x.id).cons x
          rw [e] at this
          exact this.trans (put_perm l x).symm) (by unfold moreN; rw [HMN.out]; simp) HSO.out)
      unfold Thg.val at ST
      have ST := Lib.hid ST
      clear hlen hown4 hgrow hnil hloc hS hT hFF hb4 hkb hkb5 c0 f0 hi hz0 hz1 hz2
      go_wp2_with fail
      refine ST.out.mono ?_; rintro e w8 ⟨rfl, hst⟩
      have HQ := Lib.hid (HE.out w8 hst)
      clear hst ST HE
      go_wp2_with fail
      go_ret
      exact ⟨by rw [HRES.out]; rfl, HQ.out⟩
  · subst e
    have HMID := Lib.hid (show Mid X F b sv bm its m w (kv w x.key) from ⟨hB0, Turned.of hbl, fun k hk => .inl ((h5 k).2 hk)⟩)
    have KC := Lib.hid (show (kv w x.key).heap[w.heap.size]? = some (.cells #[.int .i64 x.key.a, .int .i64 x.key.b, .int .i64 x.key.c] 55 (0, 0)) from hbk)
    have HSV := Lib.hid (show ∀ g, sv.ownBlock = some g → g < w.heap.size from fun g hg => h2.lt (.inr (.inl hg)))
    have e1 := heql_some bm
    unfold kv at k0 k1 k2 q1 HMID KC
    clear hp h2 h3 h4 h5 hx hbl hbk hB0 q0 qf hmm
    go_enter Try.func19, Try.ntmps19
    go_wp2_with fail
    generalize w.alloc (.cells #[.int .i64 x.key.a, .int .i64 x.key.b, .int .i64 x.key.c] 55) = W1 at *
    clear q1 e1
    have FI := Lib.hid (hfind_b x.id W1 HX.out.1 HMID.out.hb)
    go_wp2_with fail
    refine FI.out.mono ?_; rintro e w2 ⟨rfl, rfl⟩
    cases hm : m x.id with
    | some k =>
      obtain ⟨p1, p2, p3⟩ := its_some HMID.out.hb.pos HPM.out hm
      have HRES := Lib.hid (show (findT l x.id).isNone = false by cases hf : findT l x.id <;> simp_all)
      obtain ⟨bi, cap, bm', hs1, hs2, hS⟩ := HMID.out.hb.full (by omega)
      cases hs2
      have ST := hsettle_any b bi cap bm its.length its m k x W1 p1 (by have := HLEN.out; omega) (by have := HLEN.out; omega) hS (Hole.of_heap HMID.out.hb.heap k) (HMID.out.hb.pos.hole p1 p2.symm) (uniq_set HU.out p1 p2) (fun t ht => by
        rcases List.mem_cons.1 ((set_rest its k x p1).mem_iff.1 ht) with rfl | ht
        · exact HX.out
        · exact HOK.out t ((self_rest its k p1).mem_iff.2 (by simp [ht])))
      have HE := Lib.hid (show ∀ w', Settled X b bi cap bm (moreN m x.id its.length) (its.set k x) W1 w' → HPostX X F (.pointer (some ⟨b, 0, none⟩)) (putT l x) w w' from fun w' hst =>
        mid_end (fun j hj => HMID.out.own j (by rcases hj with rfl | rfl | rfl; exact .inl rfl; exact .inr (.inl (by rw [hs1]; rfl)); exact .inr (.inr rfl))) HMID.out.turned hst
          ((set_rest its k x p1).trans (by rw [← drop_rest HU.out p1 p2]; exact ((drop_perm HPM.out x.id).cons x).trans (put_perm l x).symm)) (by unfold moreN; rw [hm]; simp) HSO.out)
      unfold Thg.val at ST
      have ST := Lib.hid ST
      clear p1 p2 p3 hm hS hs1
      go_wp2_with fail
      refine ST.out.mono ?_; rintro e w8 ⟨rfl, hst⟩
      have HQ := Lib.hid (HE.out w8 hst)
      clear hst ST HE
      go_wp2_with fail
      go_ret
      exact ⟨by rw [HRES.out]; rfl, HQ.out⟩
    | none =>
      have hfn := its_none HMID.out.hb.pos HPM.out hm
      have HNE := Lib.hid (show ∀ t ∈ its, t.id ≠ x.id from (find_mem its x.id).1 (by
        have := find_perm HPM.out x.id
        rw [hfn] at this
        cases hf : findT its x.id
        · rfl
        · rw [hf] at this; cases this))
      have HRES := Lib.hid (show (findT l x.id).isNone = true by rw [hfn]; rfl)
      have HMN := Lib.hid hm
      obtain ⟨A, cap, hsv, hc1, hc2, hA⟩ := HMID.out.hb.form
      have c0 := blk_cell HMID.out.hb.blk 0
      have f0 := blk_free HMID.out.hb.blk 0
      have HROW := Lib.hid HMID.out.hb.row
      have HOB := Lib.hid (show sv.ownBlock ≠ some b from HMID.out.hb.ne1)
      clear hm hfn
      subst hsv
      go_wp2_with (at_builtin; refine wpList_append_own_at _ rfl _ _ 26 rfl 0 66 i0 (.agg #[.int .i64 0, .int .i64 0, .int .i64 0, .int .i64 0]) 4 32 Try.underlying26 hi hz0 hz1 hz2 rfl (by decide) _ _ _ rfl (HROW.out.alloc _) ⟨W1.heap.size, 0, none⟩ 1 1 [.int .i64 0, .int .i64 0, .int .i64 0, .int .i64 0] rfl rfl (cells_new _ _ _) (row_four2 ⟨0, zero3⟩) ?c3 ?c4 ?c5 ?_)
      case c3 => have := HLEN.out; unfold maxLen; omega
      case c4 => have := HLEN.out; omega
      case c5 => simp
      intro v' w4 hown4 hgrow hnil hloc
      have hlen := HLEN.out
      obtain ⟨g, capn, rfl, hb4, hS, hT, hFF⟩ := mid_grown HMID.out hgrow hown4 hloc
      have hkb : w4.heap[w.heap.size]? = some (.cells #[.int .i64 x.key.a, .int .i64 x.key.b, .int .i64 x.key.c] 55 (0, 0)) :=
        (hgrow.block w.heap.size (by have := lt_of_block KC.out; simp; omega) (fun e => by have := HSV.out _ e.symm; omega)).trans (blk_old _ KC.out)
      have hkb5 := blk_far (p := ⟨b, 0, none⟩) (.slice (some ⟨g, 0, none⟩) (its.length + 1) capn) hkb (fun e => hbn e.symm)
      have y0 := blk_cell hkb5 0
      have y1 := blk_cell hkb5 1
      have y2 := blk_cell hkb5 2
      have z0 := blk_cell hb4 0
      have zf := blk_free hb4 0
      have ST := hsettle_any b g capn bm its.length (its ++ [⟨0, zero3⟩]) m its.length x _ (by simp) (by simp; omega) (by omega) hS (Hole.grow HMID.out.hb.heap _) (HMID.out.hb.pos.grow _ x)
        (by rw [set_len]; exact uniq_perm List.perm_middle.symm (uniq_cons (fun t ht e => HNE.out t (by simpa using ht) e.symm) (by rw [List.append_nil]; exact HU.out)))
        (fun t ht => by rw [set_len] at ht; rcases List.mem_append.1 ht with ht | ht; exact HOK.out t ht; rw [List.mem_singleton.1 ht]; exact HX.out)
      have HE := Lib.hid (show ∀ w', Settled X b g capn bm (moreN m x.id its.length) ((its ++ [(⟨0, zero3⟩ : Thg)]).set its.length x) (w4.setCell ⟨b, 0, none⟩ (.slice (some ⟨g, 0, none⟩) (its.length + 1) capn)) w' → HPostX X F (.pointer (some ⟨b, 0, none⟩)) (putT l x) w w' from fun w' hst =>
        mid_end hFF hT hst (by
          rw [set_len]
          refine List.perm_middle.trans ?_
          rw [List.append_nil]
          have e := drop_same its x.id HNE.out
          have := (drop_perm HPM.out x.id).cons x
          rw [e] at this
          exact this.trans (put_perm l x).symm) (by unfold moreN; rw [HMN.out]; simp) HSO.out)
      unfold Thg.val at ST
      have ST := Lib.hid ST
      clear hlen hown4 hgrow hnil hloc hS hT hFF hb4 hkb hkb5 c0 f0 hi hz0 hz1 hz2
      go_wp2_with fail
      refine ST.out.mono ?_; rintro e w8 ⟨rfl, hst⟩
      have HQ := Lib.hid (HE.out w8 hst)
      clear hst ST HE
      go_wp2_with fail
      go_ret
      exact ⟨by rw [HRES.out]; rfl, HQ.out⟩
end Go.Proofs.Ytalpocgajecjbaa
