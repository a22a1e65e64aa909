/- What Drop and Take of a heap come to. Conditions: as stated. -/
import Derived.Test.YtalpocgajecjbaaHpqI
namespace Go.Proofs.Ytalpocgajecjbaa
open Go.ChangeShapes Go.WideShapes Go.ChangeAt Go.RowKit
set_option linter.unusedVariables false
set_option maxRecDepth 100000
set_option linter.unusedSimpArgs false
variable {X : List Value × TypeId}

theorem sorted_drop {l : List Thg} (h : Sorted l) (id : Int) : Sorted (dropT l id) :=
  ⟨h.1.filter _, fun t ht => h.2.1 t (List.mem_filter.1 ht).1, List.Pairwise.filter _ h.2.2⟩
theorem posw_del {w w' : World} {bm n : Nat} {m : PosM} {D : DataW Unit} {id : Int} (h1 : w.ownsMap Try.prog 3 RM bm n D) (h2 : Maps.size D = n) (h3 : SaysM D m) (hid : inI id) {k : Nat} (hm : m id = some k) (ho : w'.ownsMap Try.prog 3 RM bm n (D.del (.int .i64 id))) :
    PosW w' bm (n - 1) (delM m id) := by
  have hT := h1.tidy keyedI
  have hs := Maps.size_del (k := .int .i64 id) hT
  have hh : Maps.has D (.int .i64 id) = true := by
    rcases h3 id hid with ⟨e, _⟩ | ⟨j, _, e, _⟩
    · rw [hm] at e; cases e
    · exact e
  rw [hh, h2] at hs
  have hz : Maps.size (D.del (.int .i64 id)) = n - 1 := by simp at hs; omega
  exact ⟨_, by have := owns_tight ho; rwa [hz] at this, hz, h3.del id⟩
theorem rowsT_take (l : List Thg) (n : Nat) : (rowsT (l.take n)).flatten = (rowsT l).flatten.take (n * 4) := by
  induction l generalizing n with
  | nil => simp [rowsT]
  | cons a l ih =>
    cases n with
    | zero => simp [rowsT]
    | succ n =>
      have := ih n
      unfold rowsT at this ⊢
      rw [List.take_succ_cons, List.map_cons, List.flatten_cons, this, List.map_cons, List.flatten_cons, show (n + 1) * 4 = n * 4 + 1 + 1 + 1 + 1 by omega]
      unfold Thg.row
      simp only [List.cons_append, List.nil_append, List.take_succ_cons]
theorem row_take {w : World} {bi cap : Nat} {l : List Thg} (h : RowW w (.slice (some ⟨bi, 0, none⟩) l.length cap) l) (n : Nat) (hn : n ≤ l.length) : RowW w (.slice (some ⟨bi, 0, none⟩) (l.take n).length cap) (l.take n) := by
  have hl : (l.take n).length = n := by rw [List.length_take]; omega
  rcases h.2 with ⟨h, _⟩ | ⟨g, c, cur, hv, h0, hg, hc, hm, hs, ht⟩
  · cases h
  · cases hv
    refine ⟨?_, .inr ⟨bi, cap, cur, rfl, h0, hg, by omega, hm, hs, ?_⟩⟩
    · rw [flat_len 4 _ (rowsT_four _), rowsT_len]
    · rw [hl, rowsT_take, ← ht, List.take_take]; congr 1; omega
/-- A heap that did not turn. -/
theorem hpost_same {F : Nat → Prop} {v : Value} {l : List Thg} {w w' : World} (h : HPX X F v l w) (hb : Below w.heap.size w w') : HPostX X F v l w w' :=
  ⟨F, hp_keep h (fun k hk => hb.block k (hp_lt h k hk)) hb.size, Turned.of hb, fun k hk => .inl hk⟩
set_option maxHeartbeats 4000000 in
theorem hdrop_any (F : Nat → Prop) (v : Value) (l : List Thg) (id : Int) (w : World) (hid : inI id) (hn : l.length ≤ 100000) (h : HPX X F v l w) :
    Calls Try.prog 22 #[v, .int .i64 id] w fun e w' => e = .returned (.bool (findT l id).isSome) ∧ HPostX X F v (dropT l id) w w' := by
  have h0 := h
  obtain ⟨b, sv, mv, its, m, rfl, h2, h3, h4, h5⟩ := h
  have FI := hfind_b id w hid h2
  cases hm : m id with
  | none =>
    have hf := its_none h2.pos h3 hm
    have HX := Lib.hid (show (findT l id).isSome = false ∧ dropT l id = l from ⟨by rw [hf]; rfl, drop_same l id ((find_mem l id).1 hf)⟩)
    have HQ := Lib.hid (hpost_same h0 (Below.refl w.heap.size w))
    rw [hm] at FI
    have FI := Lib.hid FI
    clear h0 h2 h3 h4 h5 hm hf
    go_enter Try.func22, Try.ntmps22
    go_wp2_with fail
    refine FI.out.mono ?_; rintro e w1 ⟨rfl, rfl⟩
    go_wp2_with fail
    go_ret
    exact ⟨by rw [HX.out.1]; rfl, by rw [HX.out.2]; exact HQ.out⟩
  | some k =>
    obtain ⟨p1, p2, p3⟩ := its_some h2.pos h3 hm
    obtain ⟨bi, cap, bm, rfl, rfl, hS⟩ := h2.full (by omega)
    obtain ⟨D, d1, d2, d3⟩ := hS.pos
    obtain ⟨n, hln⟩ : ∃ n, its.length = n + 1 := ⟨its.length - 1, by omega⟩
    have hu : Uniq its := uniq_perm h3.symm h4.2.2
    have hnn : n ≤ 100000 := by have := h3.length_eq; omega
    rw [hm] at FI
    have FI := Lib.hid FI
    have D1 := Lib.hid d1
    have HK := Lib.hid (keyI hid)
    have c0 := hS.cells.1
    have c1 := hS.cells.2
    have HRES := Lib.hid p3
    have HPD := Lib.hid (show ∀ w', w'.ownsMap Try.prog 3 RM bm its.length (D.del (.int .i64 id)) → PosW w' bm n (delM m id) from fun w' ho => by
      have := posw_del d1 d2 d3 hid hm ho
      rwa [show its.length - 1 = n by omega] at this)
    have HSS := Lib.hid hS
    have HS0 := Lib.hid (show Sorted (dropT l id) from sorted_drop h4 id)
    have HPM := Lib.hid h3
    have HU := Lib.hid hu
    have HMO := Lib.hid h2.pos
    have HHE := Lib.hid h2.heap
    have HM := Lib.hid hm
    have HP := Lib.hid (⟨p1, p2⟩ : k < its.length ∧ (nth its k).id = id)
    have HLN := Lib.hid hln
    have HFF := Lib.hid (show ∀ j, j = b ∨ j = bi ∨ j = bm → F j from fun j hj => (h5 j).2 (by rcases hj with rfl | rfl | rfl; exact .inl rfl; exact .inr (.inl rfl); exact .inr (.inr rfl)))
    have HOK := Lib.hid (show ∀ t ∈ its, t.ok from fun t ht => h4.2.1 t (h3.mem_iff.1 ht))
    clear h0 h2 h3 h4 h5 hm d1 d2 d3 p1 p2 p3 hS hln hu
    go_enter Try.func22, Try.ntmps22
    go_wp2_with fail
    refine FI.out.mono ?_; rintro e w1 ⟨rfl, rfl⟩
    go_wp2_with (at_delete; refine wpList_delete_own _ rfl _ _ 27 3 rfl 3 keyedI Try.underlying27 _ bm its.length D rfl D1.out _ _ rfl HK.out ?_)
    intro w3 hown3 hturn3
    have hg3 := hturn3.grown
    have hS3 : HS X b bi cap bm n its (delM m id) w3 := ⟨(hg3.block b (HSS.out.lt b (by simp)) (fun e => HSS.out.ne2 (Option.some.inj e))).trans HSS.out.blk,
      row_keep HSS.out.row (hg3.block bi (HSS.out.lt bi (by simp)) (fun e => HSS.out.ne3 (Option.some.inj e))), HPD.out w3 hown3, HSS.out.ne1, HSS.out.ne2, HSS.out.ne3⟩
    have HT3 := Lib.hid (show Turned (fun j => j = bm) w w3 from ⟨hg3.os, hg3.tape, hg3.output, hg3.size, fun j hj hne => hg3.block j hj (fun e => hne (Option.some.inj e))⟩)
    clear hown3 hturn3 hg3 c0 c1 FI D1 HK HPD HSS
    have c0 := hS3.cells.1
    have f0 := blk_free hS3.blk 0
    obtain ⟨r0, r1, r2, r3⟩ := row_cells hS3.row n (by have := HLN.out; omega)
    have j0 : (1 : Int) ≤ (its.length : Int) := by have := HLN.out; omega
    have j1 : (its.length : Int) ≤ 100001 := by have := HLN.out; omega
    have j2 : (0 : Int) ≤ (its.length : Int) - 1 := by omega
    have j3 : (its.length : Int) - 1 < (its.length : Int) := by omega
    have j4 : ((its.length : Int) - 1).toNat = n := by have := HLN.out; omega
    have hcap := hS3.len
    have j5 : (its.length : Int) - 1 ≤ (cap : Int) := by omega
    have hb4 : Below w3.heap.size w3 (w3.alloc (.cells #[.int .i64 (nth its n).id, .int .i64 (nth its n).key.a, .int .i64 (nth its n).key.b, .int .i64 (nth its n).key.c] 66)) := (Below.refl _ _).alloc (Nat.le_refl _) _
    have hS4 := hS3.below hb4
    have c4 := hS4.cells.1
    have f4 := blk_free hS4.blk 0
    have hlb := blk_far (p := ⟨b, 0, none⟩) (.slice (some ⟨bi, 0, none⟩) n cap) (blk_new w3 (.cells #[.int .i64 (nth its n).id, .int .i64 (nth its n).key.a, .int .i64 (nth its n).key.b, .int .i64 (nth its n).key.c] 66)) (fun e => by have := hS3.lt b (by simp); exact absurd e (by show w3.heap.size ≠ b; omega))
    have y0 := blk_cell hlb 0
    have y1 := blk_cell hlb 1
    have y2 := blk_cell hlb 2
    have y3 := blk_cell hlb 3
    have H5 := Lib.hid (show HS X b bi cap bm n (its.take n) (delM m id) ((w3.alloc (.cells #[.int .i64 (nth its n).id, .int .i64 (nth its n).key.a, .int .i64 (nth its n).key.b, .int .i64 (nth its n).key.c] 66)).setCell ⟨b, 0, none⟩ (.slice (some ⟨bi, 0, none⟩) n cap)) from by
      have hk : ∀ j, j ≠ b → ((w3.alloc (.cells #[.int .i64 (nth its n).id, .int .i64 (nth its n).key.a, .int .i64 (nth its n).key.b, .int .i64 (nth its n).key.c] 66)).setCell ⟨b, 0, none⟩ (.slice (some ⟨bi, 0, none⟩) n cap)).heap[j]? = _ := fun j hj => Below.heap_setCell _ _ _ _ hj
      have hl : (its.take n).length = n := by rw [List.length_take]; have := HLN.out; omega
      refine ⟨by rw [hl]; exact hx_set0 hS4.blk _, row_keep (row_take hS4.row n (by have := HLN.out; omega)) (hk bi hS4.ne1.symm), hS4.pos.keep (hk bm (fun e => hS4.ne2 e.symm)), hS4.ne1, hS4.ne2, hS4.ne3⟩)
    have HT5 := Lib.hid (show Turned F w ((w3.alloc (.cells #[.int .i64 (nth its n).id, .int .i64 (nth its n).key.a, .int .i64 (nth its n).key.b, .int .i64 (nth its n).key.c] 66)).setCell ⟨b, 0, none⟩ (.slice (some ⟨bi, 0, none⟩) n cap)) from by
      have t1 : Turned F w w3 := HT3.out.imp fun j _ e => HFF.out j (.inr (.inr e))
      have t2 : Turned F w (w3.alloc (.cells #[.int .i64 (nth its n).id, .int .i64 (nth its n).key.a, .int .i64 (nth its n).key.b, .int .i64 (nth its n).key.c] 66)) := t1.trans (G := fun _ => False) (Turned.of hb4) (fun _ f => f.elim)
      exact t2.trans (G := fun j => j = b) ⟨rfl, rfl, rfl, by simp [World.setCell], fun j _ hj => Below.heap_setCell _ _ _ _ hj⟩ fun j hj => .inl (HFF.out j (.inl hj)))
    clear hcap hS3 hS4 hb4 hlb HT3
    by_cases hlt : k < n
    · have d1 : decide ((k : Int) < (its.length : Int) - 1) = true := decide_eq_true (by have := HLN.out; omega)
      have hle : (nth its n).id ≠ id := fun e => by
        have := uniq_nth HU.out (i := n) (j := k) (by have := HLN.out; omega) HP.out.1 (e.trans HP.out.2.symm)
        omega
      have ST := hsettle_any b bi cap bm n (its.take n) (delM m id) k (nth its n) _ (by rw [List.length_take]; have := HLN.out; omega) (by rw [List.length_take]; omega) (by omega) H5.out (Hole.of_heap (HHE.out.take n) k)
        (HMO.out.fall HU.out HLN.out hlt HP.out.2) (uniq_perm (set_take_rest its n k HLN.out hlt).symm (uniq_rest HU.out HP.out.1)) (fun t ht => by
          have h1 := (set_take_rest its n k HLN.out hlt).mem_iff.1 ht
          exact HOK.out t ((self_rest its k HP.out.1).mem_iff.2 (by simp [h1])))
      have HE := Lib.hid (show ∀ w', Settled X b bi cap bm (moreN (delM m id) (nth its n).id n) ((its.take n).set k (nth its n)) ((w3.alloc (.cells #[.int .i64 (nth its n).id, .int .i64 (nth its n).key.a, .int .i64 (nth its n).key.b, .int .i64 (nth its n).key.c] 66)).setCell ⟨b, 0, none⟩ (.slice (some ⟨bi, 0, none⟩) n cap)) w' → HPostX X F (.pointer (some ⟨b, 0, none⟩)) (dropT l id) w w' from fun w' hst =>
        mid_end (fun j hj => .inl (HFF.out j hj)) HT5.out hst ((set_take_rest its n k HLN.out hlt).trans (by rw [← drop_rest HU.out HP.out.1 HP.out.2]; exact drop_perm HPM.out id))
          (by unfold moreN delM; rw [if_neg hle, HMO.out.at_ n (by have := HLN.out; omega)]; simp; have := HLN.out; omega) HS0.out)
      unfold Thg.val at ST
      have ST := Lib.hid ST
      clear hle H5 HT5
      go_wp2_with fail
      refine ST.out.mono ?_; rintro e w8 ⟨rfl, hst⟩
      have HQ := Lib.hid (HE.out w8 hst)
      clear hst ST HE
      go_wp2_with fail
      go_ret
      exact ⟨by rw [HRES.out]; rfl, HQ.out⟩
    · have d1 : decide ((k : Int) < (its.length : Int) - 1) = false := decide_eq_false (by have := HLN.out; omega)
      have hkn : k = n := by have := HLN.out; have := HP.out.1; omega
      have HQ := Lib.hid (show HPostX X F (.pointer (some ⟨b, 0, none⟩)) (dropT l id) w ((w3.alloc (.cells #[.int .i64 (nth its n).id, .int .i64 (nth its n).key.a, .int .i64 (nth its n).key.b, .int .i64 (nth its n).key.c] 66)).setCell ⟨b, 0, none⟩ (.slice (some ⟨bi, 0, none⟩) n cap)) from by
        have hst : Settled X b bi cap bm n (its.take n) ((w3.alloc (.cells #[.int .i64 (nth its n).id, .int .i64 (nth its n).key.a, .int .i64 (nth its n).key.b, .int .i64 (nth its n).key.c] 66)).setCell ⟨b, 0, none⟩ (.slice (some ⟨bi, 0, none⟩) n cap)) ((w3.alloc (.cells #[.int .i64 (nth its n).id, .int .i64 (nth its n).key.a, .int .i64 (nth its n).key.b, .int .i64 (nth its n).key.c] 66)).setCell ⟨b, 0, none⟩ (.slice (some ⟨bi, 0, none⟩) n cap)) :=
          ⟨its.take n, delM m id, H5.out, HHE.out.take n, HMO.out.pop HU.out HLN.out (by rw [← hkn]; exact HP.out.2), List.Perm.refl _, Turned.refl _ _⟩
        refine mid_end (fun j hj => .inl (HFF.out j hj)) HT5.out hst ?_ (by rw [List.length_take]; have := HLN.out; omega) HS0.out
        have hr : rest its n = its.take n := by unfold rest; rw [List.drop_eq_nil_of_le (by have := HLN.out; omega)]; simp
        rw [← hr, ← hkn, ← drop_rest HU.out HP.out.1 HP.out.2]
        exact drop_perm HPM.out id)
      clear hkn H5 HT5
      go_wp2_with fail
      go_ret
      exact ⟨by rw [HRES.out]; rfl, HQ.out⟩
theorem ndrop_any (id : Int) (w : World) : Calls Try.prog 22 #[.pointer none, .int .i64 id] w fun e w' => e = .returned (.bool false) ∧ Below w.heap.size w w' := by
  have FI := Lib.hid (hfind_nil id w)
  have HQ := Lib.hid (Below.refl w.heap.size w)
  go_enter Try.func22, Try.ntmps22
  go_wp2_with fail
  refine FI.out.mono ?_; rintro e w1 ⟨rfl, rfl⟩
  go_wp2_with fail
  go_ret
  exact ⟨rfl, HQ.out⟩
theorem nput_any (x : Thg) (w : World) (hx : x.ok) : Calls Try.prog 19 #[.pointer none, .int .i64 x.id, x.key.val] w fun e w' => e = .returned (.bool false) ∧ Below w.heap.size w w' := by
  have HQ := Lib.hid (kv_below w x.key)
  unfold V3.val
  go_enter Try.func19, Try.ntmps19
  go_wp2_with fail
  go_ret
  exact ⟨rfl, HQ.out⟩
end Go.Proofs.Ytalpocgajecjbaa
