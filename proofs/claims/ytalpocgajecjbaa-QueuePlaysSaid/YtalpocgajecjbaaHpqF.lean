/- What settle comes to. Conditions: as stated. -/
import Derived.Test.YtalpocgajecjbaaHpqE
namespace Go.Proofs.Ytalpocgajecjbaa
open Go.ChangeShapes Go.WideShapes Go.ChangeAt Go.RowKit
set_option linter.unusedVariables false
set_option maxRecDepth 100000
set_option linter.unusedSimpArgs false
variable {X : List Value × TypeId}

def kidA (o : Option Nat) : Int := (o.getD 0 : Nat)
def kidB (o : Option Nat) : Bool := o.isSome
theorem kidR_eq (o : Option Nat) : kidR o = .tuple #[.int .i64 (kidA o), .bool (kidB o)] := by cases o <;> rfl
theorem kid_rel (o : Option Nat) : (Value.bool (kidB o) = .bool false ∧ Value.int .i64 (kidA o) = .int .i64 0 ∧ o = none) ∨ ∃ c : Nat, Value.bool (kidB o) = .bool true ∧ Value.int .i64 (kidA o) = .int .i64 (c : Int) ∧ o = some c := by
  cases o with
  | none => exact .inl ⟨rfl, rfl, rfl⟩
  | some c => exact .inr ⟨c, rfl, rfl, rfl⟩
/-- Under way: a gap at g, all else as it should be. -/
structure SI (X : List Value × TypeId) (b bi cap bm n : Nat) (l0 : List Thg) (m0 : PosM) (x : Thg) (b3 b5 : Nat) (w0 : World) (l : List Thg) (m : PosM) (g : Nat) (w : World) : Prop where
  hs : HS X b bi cap bm n l m w
  len : l.length = l0.length
  gap : g < l.length
  hole : Hole l g
  pos : MapR m l g x
  uniq : Uniq (l.set g x)
  perm : (l.set g x).Perm l0
  ok : ∀ t ∈ l0, t.ok
  same : (m x.id).isNone = (m0 x.id).isNone
  c3 : w.heap[b3]? = some (.cells #[.pointer (some ⟨b, 0, none⟩)] 62 (0, 0))
  c5 : w.heap[b5]? = some (.cells #[.int .i64 x.id, .int .i64 x.key.a, .int .i64 x.key.b, .int .i64 x.key.c] 66 (0, 0))
  far : b3 ≠ bi ∧ b3 ≠ bm ∧ b5 ≠ bi ∧ b5 ≠ bm ∧ b3 < w0.heap.size + 2 ∧ b5 < w0.heap.size + 2
  turned : Turned (fun k => k = bi ∨ k = bm) w0 w
section
variable {b bi cap bm n : Nat} {l0 : List Thg} {m0 : PosM} {x : Thg} {b3 b5 : Nat} {w0 : World} {l : List Thg} {m : PosM} {g : Nat} {w w' : World}
theorem SI.below (h : SI X b bi cap bm n l0 m0 x b3 b5 w0 l m g w) (hb : Below w.heap.size w w') : SI X b bi cap bm n l0 m0 x b3 b5 w0 l m g w' :=
  ⟨h.hs.below hb, h.len, h.gap, h.hole, h.pos, h.uniq, h.perm, h.ok, h.same, (hb.block b3 (lt_of_block h.c3)).trans h.c3, (hb.block b5 (lt_of_block h.c5)).trans h.c5, h.far,
    h.turned.trans (G := fun k => k = bi ∨ k = bm) (Turned.of hb) fun k hk => .inl hk⟩
theorem SI.drew (h : SI X b bi cap bm n l0 m0 x b3 b5 w0 l m g w) : SI X b bi cap bm n l0 m0 x b3 b5 w0 l m g w.drew := h.below ⟨rfl, rfl, rfl, Nat.le_refl _, fun _ _ => rfl⟩
theorem SI.mem (h : SI X b bi cap bm n l0 m0 x b3 b5 w0 l m g w) {p : Nat} (hp : p < l.length) (hne : p ≠ g) : (nth l p).ok := h.ok _ (h.perm.mem_iff.1 (nth_set_mem l g p x hp hne))
theorem SI.xok (h : SI X b bi cap bm n l0 m0 x b3 b5 w0 l m g w) : x.ok := h.ok _ (h.perm.mem_iff.1 ((set_rest l g x h.gap).mem_iff.2 (by simp)))
theorem SI.had (h : SI X b bi cap bm n l0 m0 x b3 b5 w0 l m g w) {p : Nat} (hp : p < l.length) (hne : p ≠ g) : moreN m (nth l p).id n = n := by
  unfold moreN; rw [h.pos.at_ p hp hne]; rfl
/-- One is moved into the gap. -/
theorem SI.move (h : SI X b bi cap bm n l0 m0 x b3 b5 w0 l m g w) {p : Nat} (hp : p < l.length) (hne : p ≠ g) (hh : Hole (l.set g (nth l p)) p)
    (h1 : HS X b bi cap bm n (l.set g (nth l p)) (setM m (nth l p).id g) w') (h2 : Laid b bi bm w w') (hl : w0.heap.size ≤ w.heap.size) : SI X b bi cap bm n l0 m0 x b3 b5 w0 (l.set g (nth l p)) (setM m (nth l p).id g) p w' := by
  have hpm := perm_hole l g p x h.gap hp (fun e => hne e.symm)
  have hid : x.id ≠ (nth l p).id := fun e => by
    have := uniq_nth h.uniq (i := g) (j := p) (by simpa using h.gap) (by simpa using hp) (by rw [nth_set _ _ _ _ h.gap, nth_set _ _ _ _ h.gap, if_pos rfl, if_neg (fun q => hne q.symm)]; exact e)
    exact hne this.symm
  refine ⟨h1, by simpa using h.len, by simpa using hp, hh, h.pos.move h.uniq h.gap hp (fun e => hne e.symm), uniq_perm hpm.symm h.uniq, hpm.trans h.perm, h.ok, ?_, ?_, ?_, h.far, h.turned.trans (G := fun k => k = bi ∨ k = bm) h2 fun k hk => .inl hk⟩
  · unfold setM; rw [if_neg hid]; exact h.same
  · exact (h2.block b3 (lt_of_block h.c3) (fun e => by rcases e with e | e; exact h.far.1 e; exact h.far.2.1 e)).trans h.c3
  · exact (h2.block b5 (lt_of_block h.c5) (fun e => by rcases e with e | e; exact h.far.2.2.1 e; exact h.far.2.2.2.1 e)).trans h.c5
end
/-- What settle leaves. -/
def Settled (X : List Value × TypeId) (b bi cap bm n : Nat) (l0 : List Thg) (w0 w' : World) : Prop := ∃ l m, HS X b bi cap bm n l m w' ∧ HeapOK l ∧ MapOK m l ∧ l.Perm l0 ∧ Laid b bi bm w0 w'
set_option maxHeartbeats 4000000 in
theorem hsettle_any (b bi cap bm n : Nat) (l : List Thg) (m : PosM) (g : Nat) (x : Thg) (w : World) (hg : g < l.length) (hl : l.length ≤ 1000000) (hn : n ≤ 1000000) (h : HS X b bi cap bm n l m w)
    (hh : Hole l g) (hm : MapR m l g x) (hu : Uniq (l.set g x)) (hok : ∀ t ∈ l.set g x, t.ok) :
    Calls Try.prog 27 #[.pointer (some ⟨b, 0, none⟩), .int .i64 (g : Int), x.val] w fun e w' => e = .returned (.tuple #[]) ∧ Settled X b bi cap bm (moreN m x.id n) (l.set g x) w w' := by
  have hs : SI X b bi cap bm n (l.set g x) m x w.heap.size (w.heap.size + 1) w l m g ((w.alloc (.cells #[.pointer (some ⟨b, 0, none⟩)] 62)).alloc (.cells #[.int .i64 x.id, .int .i64 x.key.a, .int .i64 x.key.b, .int .i64 x.key.c] 66)) := by
    have hb := ((Below.refl w.heap.size w).alloc (Nat.le_refl _) (.cells #[.pointer (some ⟨b, 0, none⟩)] 62)).alloc (by simp) (.cells #[.int .i64 x.id, .int .i64 x.key.a, .int .i64 x.key.b, .int .i64 x.key.c] 66)
    obtain ⟨q1, q2⟩ := blk_pair w (.cells #[.pointer (some ⟨b, 0, none⟩)] 62) (.cells #[.int .i64 x.id, .int .i64 x.key.a, .int .i64 x.key.b, .int .i64 x.key.c] 66)
    have l1 := h.lt bi (by simp)
    have l2 := h.lt bm (by simp)
    exact ⟨h.below hb, by simp, hg, hh, hm, hu, List.Perm.refl _, hok, rfl, q1, q2, ⟨by omega, by omega, by omega, by omega, by omega, by omega⟩, Turned.of hb⟩
  have HSI := Lib.hid hs
  have HMN := Lib.hid (show ∀ m', (m' x.id).isNone = (m x.id).isNone → moreN m' x.id n = moreN m x.id n from fun m' e => by unfold moreN; rw [e])
  have HLN := Lib.hid (show (l.set g x).length = l.length by simp)
  unfold Thg.val
  clear hs h hh hm hu hok
  generalize l.set g x = l0 at *
  go_enter Try.func27, Try.ntmps27
  go_wp2_with fail
  go_loopw [1] (fun gp wr => ∃ (l' : List Thg) (m' : PosM) (g' : Nat), gp = .int .i64 (g' : Int) ∧ SI X b bi cap bm n l0 m x w.heap.size (w.heap.size + 1) w l' m' g' wr) (fun gp _ => (intOf gp).toNat)
  case atStart => exact ⟨l, m, g, rfl, HSI.out⟩
  case round =>
    clear HSI
    obtain ⟨l', m', g', rfl, hSI⟩ := hrel
    have H1 := Lib.hid hSI
    clear hSI
    have hsm : g' < 1000000 := by have := H1.out.gap; have := H1.out.len; have := HLN.out; omega
    have hcs : (0 < g' ∧ aheadT (nth l' (up g')) x = false) ∨ (0 < g' ∧ aheadT (nth l' (up g')) x = true) ∨ g' = 0 := by
      cases aheadT (nth l' (up g')) x <;> simp <;> omega
    rcases hcs with ⟨h0, hq⟩ | ⟨h0, hq⟩ | hz
    · have d0 : decide ((g' : Int) > 0) = true := decide_eq_true (by omega)
      have d2 : decide (0 < g') = true := decide_eq_true h0
      have d1 : decide ((0 : Int) < (g' : Int)) = true := decide_eq_true (by omega)
      have A1 := Lib.hid fun w => habove_any g' w h0 (by omega)
      have HP := Lib.hid (show up g' < l'.length ∧ up g' ≠ g' from ⟨by have := up_lt h0; have := H1.out.gap; omega, by have := up_lt h0; omega⟩)
      have HHO := Lib.hid (H1.out.hole.up h0 H1.out.gap)
      have L1 := Lib.hid (hsless_any b bi cap bm n w.heap.size (w.heap.size + 1) l' m' x (up g') wr HP.out.1 (by have := H1.out.len; have := HLN.out; omega) H1.out.hs H1.out.c3 H1.out.c5)
      have HM := Lib.hid (up_lt h0)
      rw [hq] at L1
      clear hq
      have i0 : (0 : Int) ≤ ((up g' : Nat) : Int) := by omega
      have i1 : ((up g' : Nat) : Int) < (l'.length : Int) := by have := HP.out.1; omega
      generalize hup : up g' = p at *
      clear hup
      go_wp2_with fail
      refine (A1.out _).mono ?_; rintro e w1 ⟨rfl, rfl⟩
      go_wp2_with fail
      refine L1.out.mono ?_; rintro e w1 ⟨rfl, b1⟩
      have H1 := Lib.hid (H1.out.below b1)
      clear b1 L1
      go_wp2_with fail
      have E1 := Lib.hid (show ∀ w', w' = w1.drew ∨ (HS X b bi cap bm n (l'.set g' (nth l' p)) (setM m' (nth l' p).id g') w' ∧ Laid b bi bm w1.drew w') → w'.cell? ⟨b, 0, none⟩ = some (.slice (some ⟨bi, 0, none⟩) l'.length cap) ∧ w'.cell? ⟨w.heap.size, 0, none⟩ = some (.pointer (some ⟨b, 0, none⟩)) ∧
          (w'.cell? ⟨bi, p * 4, none⟩ = some (.int .i64 (nth l' p).id) ∧ w'.cell? ⟨bi, p * 4 + 1, none⟩ = some (.int .i64 (nth l' p).key.a) ∧ w'.cell? ⟨bi, p * 4 + 2, none⟩ = some (.int .i64 (nth l' p).key.b) ∧ w'.cell? ⟨bi, p * 4 + 3, none⟩ = some (.int .i64 (nth l' p).key.c)) from by
        rintro w' (rfl | ⟨q1, q2⟩)
        · exact ⟨H1.out.hs.cells.1, blk_cell H1.out.c3 0, row_cells (w := w1) H1.out.hs.row p HP.out.1⟩
        · have q3 := row_cells q1.row p (by simpa using HP.out.1)
          rw [nth_set _ _ _ _ H1.out.gap, if_neg (fun e => HP.out.2 e.symm)] at q3
          have q4 := q1.cells.1
          rw [List.length_set] at q4
          exact ⟨q4, blk_cell ((q2.block w.heap.size (lt_of_block (w := w1) H1.out.c3) (fun e => by rcases e with e | e; exact H1.out.far.1 e; exact H1.out.far.2.1 e)).trans H1.out.c3) 0, q3⟩)
      have LY := hlay_any b bi cap bm n l' m' g' (nth l' p) w1.drew H1.out.gap (by have := H1.out.len; have := HLN.out; omega) hn (H1.out.mem HP.out.1 HP.out.2) H1.out.drew.hs
      rw [H1.out.had HP.out.1 HP.out.2] at LY
      unfold Thg.val at LY
      have LY := Lib.hid LY
      refine wp_region_holdC [10] (twoC w1.drew (fun w' => HS X b bi cap bm n (l'.set g' (nth l' p)) (setM m' (nth l' p).id g') w' ∧ Laid b bi bm w1.drew w')) (by kernel_rfl) (by kernel_rfl) (by kernel_rfl) (twoC_start _ _) ?_
      repeat
        first
        | (refine holdC_val (v := ?_) (by rfl) (by rfl) ?_ ?_
           rotate_left
           · (intro m w' hC
              obtain ⟨_, _, _, _, _, _⟩ := E1.out w' (twoC_any hC)
              go_simp
              try with_reducible rfl)
           simp only [Act.put, List.setIfInBounds_toArray, List.set_cons_zero, List.set_cons_succ])
        | ((first
            | (refine holdC_call (by rfl) (by rfl) ?_ (fun m w' hC => (A1.out w').mono fun e w2 h => ⟨h.1, by rw [← h.2]; exact hC⟩) ?_; focus (intro m w' hC; go_simp; done))
            | (refine holdC_write 0 [] (by rfl) (by rfl) (by decide) (by rfl) (by rfl) ?_ (fun m w' hm _ hC => by obtain rfl := twoC_off hm hC; exact LY.out.mono fun e w2 h => ⟨h.1, twoC_set hm h.2⟩) ?_; focus (intro m w' hC; go_simp; done)))
           simp only [Act.put, List.setIfInBounds_toArray, List.set_cons_zero, List.set_cons_succ])
      refine holdC_nil (fun w' hC => ?_)
      have hq := twoC_on rfl hC
      have H2 := Lib.hid (H1.out.drew.move HP.out.1 HP.out.2 HHO.out hq.1 hq.2 H1.out.turned.size)
      clear hC hq LY E1
      clear H1 i0 i1
      generalize l'.set g' (nth l' p) = l2 at *
      generalize setM m' (nth l' p).id g' = m2 at *
      go_wp2_with fail
      refine (A1.out _).mono ?_; rintro e w2 ⟨rfl, rfl⟩
      go_wp2_with fail
      go_roundw
      case rel => exact ⟨l2, m2, p, rfl, H2.out⟩
      case measure => have := HM.out; simp [intOf]; omega
    · have d0 : decide ((g' : Int) > 0) = true := decide_eq_true (by omega)
      have d2 : decide (0 < g') = true := decide_eq_true h0
      have d1 : decide ((0 : Int) < (g' : Int)) = true := decide_eq_true (by omega)
      have A1 := Lib.hid fun w => habove_any g' w h0 (by omega)
      have L1 := Lib.hid (hsless_any b bi cap bm n w.heap.size (w.heap.size + 1) l' m' x (up g') wr (by have := up_lt h0; have := H1.out.gap; omega) (by have := H1.out.len; have := HLN.out; omega) H1.out.hs H1.out.c3 H1.out.c5)
      have HD := Lib.hid (show 0 < g' → leT (nth l' (up g')) x from fun _ => leT_of hq)
      rw [hq] at L1
      clear hq
      go_wp2_with fail
      refine (A1.out _).mono ?_; rintro e w1 ⟨rfl, rfl⟩
      go_wp2_with fail
      refine L1.out.mono ?_; rintro e w1 ⟨rfl, b1⟩
      have H1 := Lib.hid (H1.out.below b1)
      clear b1 L1 A1 d0 d1 d2 hsm
      have y4 := blk_cell H1.out.c3 0
      go_wp2_with fail
      have B1 := hbelow_any b bi cap bm n l' m' g' w1 H1.out.gap (by have := H1.out.len; have := HLN.out; omega) H1.out.hs
      rw [kidR_eq] at B1
      have B1 := Lib.hid B1
      refine B1.out.mono ?_; rintro e w2 ⟨rfl, b1⟩
      have H2 := Lib.hid (H1.out.below b1)
      clear b1 B1 y4
      go_wp2_with fail
      go_loopw [1, 7, 8] (fun gp at_ ok wr => ∃ (l' : List Thg) (m' : PosM) (g' : Nat), gp = .int .i64 (g' : Int) ∧ ((ok = .bool false ∧ at_ = .int .i64 0 ∧ kidP l' g' = none) ∨ ∃ c : Nat, ok = .bool true ∧ at_ = .int .i64 (c : Int) ∧ kidP l' g' = some c) ∧ SI X b bi cap bm n l0 m x w.heap.size (w.heap.size + 1) w l' m' g' wr ∧ (0 < g' → leT (nth l' (up g')) x)) (fun gp _ _ _ => l.length - (intOf gp).toNat)
      case atStart => exact ⟨l', m', g', rfl, kid_rel _, H2.out, HD.out⟩
      case round =>
        clear H1 H2 HD
        obtain ⟨l', m', g', rfl, hk, hSI, hD⟩ := hrel
        have H1 := Lib.hid hSI
        have HD := Lib.hid hD
        clear hSI hD
        rcases hk with ⟨rfl, rfl, hk⟩ | ⟨c, rfl, rfl, hk⟩
        · have HF := Lib.hid (show HeapOK (l'.set g' x) from H1.out.hole.fill H1.out.gap HD.out (fun c h0 hc hu => (kid_none hk c h0 hc hu).elim))
          clear hk HD
          have LY := hlay_any b bi cap bm n l' m' g' x _ H1.out.gap (by have := H1.out.len; have := HLN.out; omega) hn H1.out.xok H1.out.hs
          rw [HMN.out m' H1.out.same] at LY
          unfold Thg.val at LY
          have LY := Lib.hid LY
          obtain ⟨y0, y1, y2, y3⟩ := (show _ ∧ _ ∧ _ ∧ _ from ⟨blk_cell H1.out.c5 0, blk_cell H1.out.c5 1, blk_cell H1.out.c5 2, blk_cell H1.out.c5 3⟩)
          have y4 := blk_cell H1.out.c3 0
          go_wp2_with fail
          refine LY.out.mono ?_; rintro e w2 ⟨rfl, r1, r2⟩
          have HQ := Lib.hid (show Settled X b bi cap bm (moreN m x.id n) l0 w w2 from ⟨_, _, r1, HF.out, H1.out.pos.fill H1.out.uniq H1.out.gap, H1.out.perm, H1.out.turned.trans (G := fun k => k = bi ∨ k = bm) r2 fun k hk => .inl hk⟩)
          clear r1 r2 y0 y1 y2 y3 y4 LY
          go_wp2_with fail
          go_end0
          exact ⟨rfl, HQ.out⟩
        · have HK := Lib.hid (kid_some hk)
          have L1 := Lib.hid (hsless_any b bi cap bm n w.heap.size (w.heap.size + 1) l' m' x c wr HK.out.2.1 (by have := H1.out.len; have := HLN.out; omega) H1.out.hs H1.out.c3 H1.out.c5)
          clear hk
          cases hq : aheadT (nth l' c) x
          · have HF := Lib.hid (show HeapOK (l'.set g' x) from H1.out.hole.fill H1.out.gap HD.out (fun j h0 hj hu => leT_trans hq (HK.out.2.2.2 j h0 hj hu)))
            rw [hq] at L1
            clear hq HD
            go_wp2_with fail
            refine L1.out.mono ?_; rintro e w1 ⟨rfl, b1⟩
            have H1 := Lib.hid (H1.out.below b1)
            clear b1 L1
            have LY := hlay_any b bi cap bm n l' m' g' x _ H1.out.gap (by have := H1.out.len; have := HLN.out; omega) hn H1.out.xok H1.out.hs
            rw [HMN.out m' H1.out.same] at LY
            unfold Thg.val at LY
            have LY := Lib.hid LY
            obtain ⟨y0, y1, y2, y3⟩ := (show _ ∧ _ ∧ _ ∧ _ from ⟨blk_cell H1.out.c5 0, blk_cell H1.out.c5 1, blk_cell H1.out.c5 2, blk_cell H1.out.c5 3⟩)
            have y4 := blk_cell H1.out.c3 0
            go_wp2_with fail
            refine LY.out.mono ?_; rintro e w2 ⟨rfl, r1, r2⟩
            have HQ := Lib.hid (show Settled X b bi cap bm (moreN m x.id n) l0 w w2 from ⟨_, _, r1, HF.out, H1.out.pos.fill H1.out.uniq H1.out.gap, H1.out.perm, H1.out.turned.trans (G := fun k => k = bi ∨ k = bm) r2 fun k hk => .inl hk⟩)
            clear r1 r2 y0 y1 y2 y3 y4 LY
            go_wp2_with fail
            go_end0
            exact ⟨rfl, HQ.out⟩
          · have HP := Lib.hid (show c < l'.length ∧ c ≠ g' from ⟨HK.out.2.1, fun e => by have := up_lt HK.out.1; have := HK.out.2.2.1; omega⟩)
            have HHO := Lib.hid (H1.out.hole.down HK.out.1 HK.out.2.1 HK.out.2.2.1 HK.out.2.2.2)
            have HE := Lib.hid (show 0 < c → leT (nth (l'.set g' (nth l' c)) (up c)) x from fun _ => by rw [HK.out.2.2.1, nth_set _ _ _ _ H1.out.gap, if_pos rfl]; exact leT_of hq)
            have HM := Lib.hid (show g' < c from by have := up_lt HK.out.1; have := HK.out.2.2.1; omega)
            rw [hq] at L1
            clear hq HD HK
            go_wp2_with fail
            refine L1.out.mono ?_; rintro e w1 ⟨rfl, b1⟩
            have H1 := Lib.hid (H1.out.below b1)
            clear b1 L1
            have i0 : (0 : Int) ≤ (c : Int) := by omega
            have i1 : (c : Int) < (l'.length : Int) := by have := HP.out.1; omega
            go_wp2_with fail
            have E1 := Lib.hid (show ∀ w', w' = w1.drew ∨ (HS X b bi cap bm n (l'.set g' (nth l' c)) (setM m' (nth l' c).id g') w' ∧ Laid b bi bm w1.drew w') → w'.cell? ⟨b, 0, none⟩ = some (.slice (some ⟨bi, 0, none⟩) l'.length cap) ∧ w'.cell? ⟨w.heap.size, 0, none⟩ = some (.pointer (some ⟨b, 0, none⟩)) ∧
                (w'.cell? ⟨bi, c * 4, none⟩ = some (.int .i64 (nth l' c).id) ∧ w'.cell? ⟨bi, c * 4 + 1, none⟩ = some (.int .i64 (nth l' c).key.a) ∧ w'.cell? ⟨bi, c * 4 + 2, none⟩ = some (.int .i64 (nth l' c).key.b) ∧ w'.cell? ⟨bi, c * 4 + 3, none⟩ = some (.int .i64 (nth l' c).key.c)) from by
              rintro w' (rfl | ⟨q1, q2⟩)
              · exact ⟨H1.out.hs.cells.1, blk_cell H1.out.c3 0, row_cells (w := w1) H1.out.hs.row c HP.out.1⟩
              · have q3 := row_cells q1.row c (by simpa using HP.out.1)
                rw [nth_set _ _ _ _ H1.out.gap, if_neg (fun e => HP.out.2 e.symm)] at q3
                have q4 := q1.cells.1
                rw [List.length_set] at q4
                exact ⟨q4, blk_cell ((q2.block w.heap.size (lt_of_block (w := w1) H1.out.c3) (fun e => by rcases e with e | e; exact H1.out.far.1 e; exact H1.out.far.2.1 e)).trans H1.out.c3) 0, q3⟩)
            have LY := hlay_any b bi cap bm n l' m' g' (nth l' c) w1.drew H1.out.gap (by have := H1.out.len; have := HLN.out; omega) hn (H1.out.mem HP.out.1 HP.out.2) H1.out.drew.hs
            rw [H1.out.had HP.out.1 HP.out.2] at LY
            unfold Thg.val at LY
            have LY := Lib.hid LY
            refine wp_region_holdC [9] (twoC w1.drew (fun w' => HS X b bi cap bm n (l'.set g' (nth l' c)) (setM m' (nth l' c).id g') w' ∧ Laid b bi bm w1.drew w')) (by kernel_rfl) (by kernel_rfl) (by kernel_rfl) (twoC_start _ _) ?_
            repeat
              first
              | (refine holdC_val (v := ?_) (by rfl) (by rfl) ?_ ?_
                 rotate_left
                 · (intro m w' hC
                    obtain ⟨_, _, _, _, _, _⟩ := E1.out w' (twoC_any hC)
                    go_simp
                    try with_reducible rfl)
                 simp only [Act.put, List.setIfInBounds_toArray, List.set_cons_zero, List.set_cons_succ])
              | ((first
                  | (refine holdC_write 0 [] (by rfl) (by rfl) (by decide) (by rfl) (by rfl) ?_ (fun m w' hm _ hC => by obtain rfl := twoC_off hm hC; exact LY.out.mono fun e w2 h => ⟨h.1, twoC_set hm h.2⟩) ?_; focus (intro m w' hC; go_simp; done)))
                 simp only [Act.put, List.setIfInBounds_toArray, List.set_cons_zero, List.set_cons_succ])
            refine holdC_nil (fun w' hC => ?_)
            have hq := twoC_on rfl hC
            have H2 := Lib.hid (H1.out.drew.move HP.out.1 HP.out.2 HHO.out hq.1 hq.2 H1.out.turned.size)
            clear hC hq LY E1
            have B1 := hbelow_any b bi cap bm n _ _ c w' H2.out.gap (by have := H2.out.len; have := HLN.out; omega) H2.out.hs
            rw [kidR_eq] at B1
            have B1 := Lib.hid B1
            clear H1 i0 i1
            generalize l'.set g' (nth l' c) = l2 at *
            generalize setM m' (nth l' c).id g' = m2 at *
            have y4 := blk_cell H2.out.c3 0
            go_wp2_with fail
            refine B1.out.mono ?_; rintro e w1 ⟨rfl, b1⟩
            have H3 := Lib.hid (H2.out.below b1)
            clear b1 B1 H2 y4
            go_wp2_with fail
            go_roundw
            case rel => exact ⟨l2, m2, c, rfl, kid_rel _, H3.out, HE.out⟩
            case measure => have := HM.out; have := H3.out.gap; have := H3.out.len; have := HLN.out; simp [intOf]; omega
    · have d0 : decide ((g' : Int) > 0) = false := decide_eq_false (by omega)
      have d1 : decide ((0 : Int) < (g' : Int)) = false := decide_eq_false (by omega)
      have d2 : decide (0 < g') = false := decide_eq_false (by omega)
      have h0 : ¬ 0 < g' := by omega
      have HD := Lib.hid (show 0 < g' → leT (nth l' (up g')) x from fun h => absurd h h0)
      clear hz
      have y4 := blk_cell H1.out.c3 0
      go_wp2_with fail
      have B1 := hbelow_any b bi cap bm n l' m' g' wr H1.out.gap (by have := H1.out.len; have := HLN.out; omega) H1.out.hs
      rw [kidR_eq] at B1
      have B1 := Lib.hid B1
      refine B1.out.mono ?_; rintro e w1 ⟨rfl, b1⟩
      have H2 := Lib.hid (H1.out.below b1)
      clear b1 B1 y4
      go_wp2_with fail
      go_loopw [1, 7, 8] (fun gp at_ ok wr => ∃ (l' : List Thg) (m' : PosM) (g' : Nat), gp = .int .i64 (g' : Int) ∧ ((ok = .bool false ∧ at_ = .int .i64 0 ∧ kidP l' g' = none) ∨ ∃ c : Nat, ok = .bool true ∧ at_ = .int .i64 (c : Int) ∧ kidP l' g' = some c) ∧ SI X b bi cap bm n l0 m x w.heap.size (w.heap.size + 1) w l' m' g' wr ∧ (0 < g' → leT (nth l' (up g')) x)) (fun gp _ _ _ => l.length - (intOf gp).toNat)
      case atStart => exact ⟨l', m', g', rfl, kid_rel _, H2.out, HD.out⟩
      case round =>
        clear H1 H2 HD
        obtain ⟨l', m', g', rfl, hk, hSI, hD⟩ := hrel
        have H1 := Lib.hid hSI
        have HD := Lib.hid hD
        clear hSI hD
        rcases hk with ⟨rfl, rfl, hk⟩ | ⟨c, rfl, rfl, hk⟩
        · have HF := Lib.hid (show HeapOK (l'.set g' x) from H1.out.hole.fill H1.out.gap HD.out (fun c h0 hc hu => (kid_none hk c h0 hc hu).elim))
          clear hk HD
          have LY := hlay_any b bi cap bm n l' m' g' x _ H1.out.gap (by have := H1.out.len; have := HLN.out; omega) hn H1.out.xok H1.out.hs
          rw [HMN.out m' H1.out.same] at LY
          unfold Thg.val at LY
          have LY := Lib.hid LY
          obtain ⟨y0, y1, y2, y3⟩ := (show _ ∧ _ ∧ _ ∧ _ from ⟨blk_cell H1.out.c5 0, blk_cell H1.out.c5 1, blk_cell H1.out.c5 2, blk_cell H1.out.c5 3⟩)
          have y4 := blk_cell H1.out.c3 0
          go_wp2_with fail
          refine LY.out.mono ?_; rintro e w2 ⟨rfl, r1, r2⟩
          have HQ := Lib.hid (show Settled X b bi cap bm (moreN m x.id n) l0 w w2 from ⟨_, _, r1, HF.out, H1.out.pos.fill H1.out.uniq H1.out.gap, H1.out.perm, H1.out.turned.trans (G := fun k => k = bi ∨ k = bm) r2 fun k hk => .inl hk⟩)
          clear r1 r2 y0 y1 y2 y3 y4 LY
          go_wp2_with fail
          go_end0
          exact ⟨rfl, HQ.out⟩
        · have HK := Lib.hid (kid_some hk)
          have L1 := Lib.hid (hsless_any b bi cap bm n w.heap.size (w.heap.size + 1) l' m' x c wr HK.out.2.1 (by have := H1.out.len; have := HLN.out; omega) H1.out.hs H1.out.c3 H1.out.c5)
          clear hk
          cases hq : aheadT (nth l' c) x
          · have HF := Lib.hid (show HeapOK (l'.set g' x) from H1.out.hole.fill H1.out.gap HD.out (fun j h0 hj hu => leT_trans hq (HK.out.2.2.2 j h0 hj hu)))
            rw [hq] at L1
            clear hq HD
            go_wp2_with fail
            refine L1.out.mono ?_; rintro e w1 ⟨rfl, b1⟩
            have H1 := Lib.hid (H1.out.below b1)
            clear b1 L1
            have LY := hlay_any b bi cap bm n l' m' g' x _ H1.out.gap (by have := H1.out.len; have := HLN.out; omega) hn H1.out.xok H1.out.hs
            rw [HMN.out m' H1.out.same] at LY
            unfold Thg.val at LY
            have LY := Lib.hid LY
            obtain ⟨y0, y1, y2, y3⟩ := (show _ ∧ _ ∧ _ ∧ _ from ⟨blk_cell H1.out.c5 0, blk_cell H1.out.c5 1, blk_cell H1.out.c5 2, blk_cell H1.out.c5 3⟩)
            have y4 := blk_cell H1.out.c3 0
            go_wp2_with fail
            refine LY.out.mono ?_; rintro e w2 ⟨rfl, r1, r2⟩
            have HQ := Lib.hid (show Settled X b bi cap bm (moreN m x.id n) l0 w w2 from ⟨_, _, r1, HF.out, H1.out.pos.fill H1.out.uniq H1.out.gap, H1.out.perm, H1.out.turned.trans (G := fun k => k = bi ∨ k = bm) r2 fun k hk => .inl hk⟩)
            clear r1 r2 y0 y1 y2 y3 y4 LY
            go_wp2_with fail
            go_end0
            exact ⟨rfl, HQ.out⟩
          · have HP := Lib.hid (show c < l'.length ∧ c ≠ g' from ⟨HK.out.2.1, fun e => by have := up_lt HK.out.1; have := HK.out.2.2.1; omega⟩)
            have HHO := Lib.hid (H1.out.hole.down HK.out.1 HK.out.2.1 HK.out.2.2.1 HK.out.2.2.2)
            have HE := Lib.hid (show 0 < c → leT (nth (l'.set g' (nth l' c)) (up c)) x from fun _ => by rw [HK.out.2.2.1, nth_set _ _ _ _ H1.out.gap, if_pos rfl]; exact leT_of hq)
            have HM := Lib.hid (show g' < c from by have := up_lt HK.out.1; have := HK.out.2.2.1; omega)
            rw [hq] at L1
            clear hq HD HK
            go_wp2_with fail
            refine L1.out.mono ?_; rintro e w1 ⟨rfl, b1⟩
            have H1 := Lib.hid (H1.out.below b1)
            clear b1 L1
            have i0 : (0 : Int) ≤ (c : Int) := by omega
            have i1 : (c : Int) < (l'.length : Int) := by have := HP.out.1; omega
            go_wp2_with fail
            have E1 := Lib.hid (show ∀ w', w' = w1.drew ∨ (HS X b bi cap bm n (l'.set g' (nth l' c)) (setM m' (nth l' c).id g') w' ∧ Laid b bi bm w1.drew w') → w'.cell? ⟨b, 0, none⟩ = some (.slice (some ⟨bi, 0, none⟩) l'.length cap) ∧ w'.cell? ⟨w.heap.size, 0, none⟩ = some (.pointer (some ⟨b, 0, none⟩)) ∧
                (w'.cell? ⟨bi, c * 4, none⟩ = some (.int .i64 (nth l' c).id) ∧ w'.cell? ⟨bi, c * 4 + 1, none⟩ = some (.int .i64 (nth l' c).key.a) ∧ w'.cell? ⟨bi, c * 4 + 2, none⟩ = some (.int .i64 (nth l' c).key.b) ∧ w'.cell? ⟨bi, c * 4 + 3, none⟩ = some (.int .i64 (nth l' c).key.c)) from by
              rintro w' (rfl | ⟨q1, q2⟩)
              · exact ⟨H1.out.hs.cells.1, blk_cell H1.out.c3 0, row_cells (w := w1) H1.out.hs.row c HP.out.1⟩
              · have q3 := row_cells q1.row c (by simpa using HP.out.1)
                rw [nth_set _ _ _ _ H1.out.gap, if_neg (fun e => HP.out.2 e.symm)] at q3
                have q4 := q1.cells.1
                rw [List.length_set] at q4
                exact ⟨q4, blk_cell ((q2.block w.heap.size (lt_of_block (w := w1) H1.out.c3) (fun e => by rcases e with e | e; exact H1.out.far.1 e; exact H1.out.far.2.1 e)).trans H1.out.c3) 0, q3⟩)
            have LY := hlay_any b bi cap bm n l' m' g' (nth l' c) w1.drew H1.out.gap (by have := H1.out.len; have := HLN.out; omega) hn (H1.out.mem HP.out.1 HP.out.2) H1.out.drew.hs
            rw [H1.out.had HP.out.1 HP.out.2] at LY
            unfold Thg.val at LY
            have LY := Lib.hid LY
            refine wp_region_holdC [9] (twoC w1.drew (fun w' => HS X b bi cap bm n (l'.set g' (nth l' c)) (setM m' (nth l' c).id g') w' ∧ Laid b bi bm w1.drew w')) (by kernel_rfl) (by kernel_rfl) (by kernel_rfl) (twoC_start _ _) ?_
            repeat
              first
              | (refine holdC_val (v := ?_) (by rfl) (by rfl) ?_ ?_
                 rotate_left
                 · (intro m w' hC
                    obtain ⟨_, _, _, _, _, _⟩ := E1.out w' (twoC_any hC)
                    go_simp
                    try with_reducible rfl)
                 simp only [Act.put, List.setIfInBounds_toArray, List.set_cons_zero, List.set_cons_succ])
              | ((first
                  | (refine holdC_write 0 [] (by rfl) (by rfl) (by decide) (by rfl) (by rfl) ?_ (fun m w' hm _ hC => by obtain rfl := twoC_off hm hC; exact LY.out.mono fun e w2 h => ⟨h.1, twoC_set hm h.2⟩) ?_; focus (intro m w' hC; go_simp; done)))
                 simp only [Act.put, List.setIfInBounds_toArray, List.set_cons_zero, List.set_cons_succ])
            refine holdC_nil (fun w' hC => ?_)
            have hq := twoC_on rfl hC
            have H2 := Lib.hid (H1.out.drew.move HP.out.1 HP.out.2 HHO.out hq.1 hq.2 H1.out.turned.size)
            clear hC hq LY E1
            have B1 := hbelow_any b bi cap bm n _ _ c w' H2.out.gap (by have := H2.out.len; have := HLN.out; omega) H2.out.hs
            rw [kidR_eq] at B1
            have B1 := Lib.hid B1
            clear H1 i0 i1
            generalize l'.set g' (nth l' c) = l2 at *
            generalize setM m' (nth l' c).id g' = m2 at *
            have y4 := blk_cell H2.out.c3 0
            go_wp2_with fail
            refine B1.out.mono ?_; rintro e w1 ⟨rfl, b1⟩
            have H3 := Lib.hid (H2.out.below b1)
            clear b1 B1 H2 y4
            go_wp2_with fail
            go_roundw
            case rel => exact ⟨l2, m2, c, rfl, kid_rel _, H3.out, HE.out⟩
            case measure => have := HM.out; have := H3.out.gap; have := H3.out.len; have := HLN.out; simp [intOf]; omega
end Go.Proofs.Ytalpocgajecjbaa
