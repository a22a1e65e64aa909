/- What a queue's Put comes to. Conditions: numbers that an int holds; at most 100,000 jobs. -/
import Derived.Test.YtalpocgajecjbaaQueB
import Derived.Test.YtalpocgajecjbaaHolds
namespace Go.Proofs.Ytalpocgajecjbaa
open Go.ChangeShapes Go.WideShapes Go.ChangeAt Go.RowKit
set_option linter.unusedVariables false
set_option maxRecDepth 100000
set_option linter.unusedSimpArgs false

/-- One mark: what is known ahead of it, and what behind it. -/
def pqC (P Q : World → Prop) (m : List Bool) (w : World) : Prop := if m[0]? = some true then Q w else P w
theorem pqC_start {P Q : World → Prop} {w : World} (h : P w) : pqC P Q ([0].map fun _ => false) w := by simpa [pqC] using h
theorem pqC_off {P Q : World → Prop} {w : World} {m : List Bool} (h : m[0]? = some false) (hC : pqC P Q m w) : P w := by
  unfold pqC at hC; rw [if_neg (by rw [h]; simp)] at hC; exact hC
theorem pqC_on {P Q : World → Prop} {w : World} {m : List Bool} (h : m[0]? = some true) (hC : pqC P Q m w) : Q w := by
  unfold pqC at hC; rw [if_pos h] at hC; exact hC
theorem pqC_set {P Q : World → Prop} {w : World} {m : List Bool} (h : m[0]? = some false) (hq : Q w) : pqC P Q (m.set 0 true) w := by
  have : 0 < m.length := by
    rcases Nat.lt_or_ge 0 m.length with h' | h'
    · exact h'
    · rw [List.getElem?_eq_none h'] at h; cases h
  unfold pqC; rw [if_pos (by simp [this])]; exact hq
theorem pqC_any {P Q : World → Prop} {w : World} {m : List Bool} (hC : pqC P Q m w) : P w ∨ Q w := by
  unfold pqC at hC; split at hC
  · exact .inr hC
  · exact .inl hC
theorem pqC_imp {P Q : World → Prop} {w w' : World} {m : List Bool} (hC : pqC P Q m w) (hP : P w → P w') (hQ : Q w → Q w') : pqC P Q m w' := by
  unfold pqC at hC ⊢; split
  · rename_i h; rw [if_pos h] at hC; exact hQ hC
  · rename_i h; rw [if_neg h] at hC; exact hP hC
/-- What there is once the map is there. -/
structure QM (F F1 : Nat → Prop) (b bj : Nat) (l : List Jb) (w0 w : World) : Prop where
  hp : HPX (XQ (.map (some bj))) F1 (.pointer (some ⟨b, 0, none⟩)) (thgs l) w
  mp : MapJ w bj l.length (getJ l)
  nf : ¬ F1 bj
  turned : Turned F w0 w
  own : ∀ k, F1 k ∨ k = bj → F k ∨ w0.heap.size ≤ k
theorem QM.below {F F1 : Nat → Prop} {b bj : Nat} {l : List Jb} {w0 w w' : World} (h : QM F F1 b bj l w0 w) (hb : Below w.heap.size w w') : QM F F1 b bj l w0 w' :=
  ⟨hp_keep h.hp (fun k hk => hb.block k (hp_lt h.hp k hk)) hb.size, h.mp.keep (hb.block bj h.mp.lt), h.nf, h.turned.trans (G := fun _ => False) (Turned.of hb) (fun _ f => f.elim), h.own⟩
/-- A map was made, and stored in the queue. -/
theorem qm_made {F F1 : Nat → Prop} {b : Nat} {w0 V : World} (h : HPX (XQ (.map none)) F1 (.pointer (some ⟨b, 0, none⟩)) (thgs []) V) (hw : Below w0.heap.size w0 V) (hF : ∀ k, F1 k → F k) (hl : ∀ k, F1 k → k < w0.heap.size) :
    QM F F1 b V.heap.size [] w0 ((V.alloc (.map #[] 0)).setCell ⟨b, 2, none⟩ (.map (some V.heap.size))) := by
  have ha : Below V.heap.size V (V.alloc (.map #[] 0)) := (Below.refl _ _).alloc (Nat.le_refl _) _
  have h1 := hp_keep h (fun k hk => ha.block k (hp_lt h k hk)) ha.size
  have hb0 := hl b (hpx_blk h).1
  have hs := hw.size
  have hbk : ∀ k, k ≠ b → ((V.alloc (.map #[] 0)).setCell ⟨b, 2, none⟩ (.map (some V.heap.size))).heap[k]? = (V.alloc (.map #[] 0)).heap[k]? := fun k hk => Below.heap_setCell _ _ _ _ hk
  refine ⟨hpx_set h1, (mapF_made V Try.prog 3 Jb.val zeroJ).keep (hbk _ (by omega)) |>.same (fun _ => rfl) rfl, fun e => by have := hl _ e; omega, ?_, fun k hk => ?_⟩
  · have ht : Turned F w0 (V.alloc (.map #[] 0)) := Turned.of (hw.trans (ha.mono hs))
    exact ht.trans (G := fun k => k = b) ⟨rfl, rfl, rfl, by simp [World.setCell], fun k _ hk => hbk k hk⟩ fun k hk => .inl (by rw [hk]; exact hF b (hpx_blk h).1)
  · rcases hk with hk | rfl
    · exact .inl (hF k hk)
    · exact .inr hs
theorem qeql_some (bm : Nat) (w : World) : (binOp .eql 30 (.map (some bm)) (.map none)).run Try.prog w = .ok (.bool false) w := by kernel_rfl
theorem qeql_nil (w : World) : (binOp .eql 30 (.map none) (.map none)).run Try.prog w = .ok (.bool true) w := by kernel_rfl
/-- Behind the store in the map. -/
def QS (F F1 : Nat → Prop) (b bj : Nat) (l : List Jb) (x : Jb) (w0 w : World) : Prop := HPX (XQ (.map (some bj))) F1 (.pointer (some ⟨b, 0, none⟩)) (thgs l) w ∧ MapJ w bj (putJ l x).length (getJ (putJ l x)) ∧ ¬ F1 bj ∧ Turned F w0 w ∧ ∀ k, F1 k ∨ k = bj → F k ∨ w0.heap.size ≤ k
theorem QS.below {F F1 : Nat → Prop} {b bj : Nat} {l : List Jb} {x : Jb} {w0 w w' : World} (h : QS F F1 b bj l x w0 w) (hb : Below w.heap.size w w') : QS F F1 b bj l x w0 w' := by
  obtain ⟨h1, h2, h3, h4, h5⟩ := h
  exact ⟨hp_keep h1 (fun k hk => hb.block k (hp_lt h1 k hk)) hb.size, h2.keep (hb.block bj h2.lt), h3, h4.trans (G := fun _ => False) (Turned.of hb) (fun _ f => f.elim), h5⟩
theorem qs_end {F F1 : Nat → Prop} {b bj : Nat} {l : List Jb} {x : Jb} {w0 w w' : World} (h : QS F F1 b bj l x w0 w) (hs : SortedJ (putJ l x)) (hp : HPostX (XQ (.map (some bj))) F1 (.pointer (some ⟨b, 0, none⟩)) (thgs (putJ l x)) w w') : QPost F (.pointer (some ⟨b, 0, none⟩)) (putJ l x) w0 w' := by
  obtain ⟨h1, h2, h3, h4, h5⟩ := h
  obtain ⟨F', p1, p2, p3⟩ := hp
  have hlt := h2.lt
  have hsz := h4.size
  have hnf : ¬ F' bj := fun e => by
    rcases p3 bj e with q | q
    · exact h3 q
    · omega
  refine ⟨fun k => F' k ∨ k = bj, ⟨b, .map (some bj), F', rfl, p1, .inr ⟨bj, rfl, h2.keep (p2.block bj hlt h3)⟩, fun k e => by cases e; exact hnf, hs, fun k => ?_⟩, h4.trans (G := F1) p2 (fun k hk => h5 k (.inl hk)), fun k hk => ?_⟩
  · constructor
    · rintro (h | rfl)
      · exact .inl h
      · exact .inr rfl
    · rintro (h | h)
      · exact .inl h
      · cases h; exact .inr rfl
  · rcases hk with hk | rfl
    · rcases p3 k hk with q | q
      · exact h5 k (.inl q)
      · exact .inr (by omega)
    · exact h5 _ (.inr rfl)
/-- The store in the map. -/
theorem qm_store {F F1 : Nat → Prop} {b bj : Nat} {l : List Jb} {w0 w : World} {x : Jb} (h : QM F F1 b bj l w0 w) (hs : SortedJ l) (hx : x.ok) (hp : 0 ≤ x.prio) (hn : l.length ≤ 100000) :
    ∃ W3, (Instr.mapUpdate 30 (.map (some bj)) (.int .i64 x.id) x.val).run Try.prog w = .ok () W3 ∧ QS F F1 b bj l x w0 W3 ∧ Only bj w W3 := by
  obtain ⟨W3, hr, hm, ho⟩ := h.mp.store (t := 30) (e := 37) jval_inj Try.underlying3 Try.underlying30 (by unfold maxLen; omega) hx.1 x
  refine ⟨W3, hr, ⟨hp_keep h.hp (fun k hk => ho.block k (hp_lt h.hp k hk) (fun e => h.nf (e ▸ hk))) ho.size, hm.same (fun i => ?_) ?_, h.nf, h.turned.trans (G := fun k => k = bj) ⟨ho.os, ho.tape, ho.output, ho.size, fun k hk hne => ho.block k hk hne⟩ (fun k hk => by rw [hk]; exact h.own _ (.inr rfl)), h.own⟩, ho⟩
  · rw [get_put hs hx hp]; rfl
  · rw [putJ_len hs hp]
/-- What holds of the last region. -/
def QL (F F1 : Nat → Prop) (b : Nat) (l : List Jb) (x : Jb) (w0 : World) (w : World) : Prop := QPost F (.pointer (some ⟨b, 0, none⟩)) (putJ l x) w0 w ∧ BJob w0.heap.size x w
set_option maxHeartbeats 4000000 in
theorem qput_any (F : Nat → Prop) (v : Value) (l : List Jb) (x : Jb) (w : World) (hx : x.ok) (hn : l.length ≤ 100000) (h : QP F v l w) :
    Calls Try.prog 8 #[v, x.val] w fun e w' => e = .returned (.bool (decide (0 ≤ x.prio))) ∧ QPost F v (putJ l x) w w' := by
  have h0 := h
  obtain ⟨b, mv, F1, rfl, h2, h3, h4, h5, h6⟩ := h
  have hj := jv_blk w x
  obtain ⟨j0, j1, j2, j3, j4, j5, j6, j7⟩ := hj.cells
  have hjb := jv_below w x
  have hP := hp_keep h2 (fun k hk => hjb.block k (hp_lt h2 k hk)) hjb.size
  obtain ⟨c2, g2⟩ := hpx_third hP
  by_cases hp : x.prio < 0
  · have d1 : decide (x.prio < 0) = true := decide_eq_true hp
    have HQ := Lib.hid (show decide (0 ≤ x.prio) = false ∧ QPost F (.pointer (some ⟨b, 0, none⟩)) (putJ l x) w (jv w x) from ⟨decide_eq_false (by omega), by unfold putJ; rw [if_pos hp]; exact qpost_same h0 hjb⟩)
    clear h0 h2 h3 h4 h5 h6 hP hjb hj hp
    unfold Jb.val
    rw [HQ.out.1]
    go_enter Try.func8, Try.ntmps8
    go_wp2_with fail
    go_ret
    exact ⟨rfl, HQ.out.2⟩
  · have hp0 : 0 ≤ x.prio := by omega
    have d1 : decide (x.prio < 0) = false := decide_eq_false hp
    rw [show decide (0 ≤ x.prio) = true from decide_eq_true hp0]
    have HX := Lib.hid hx
    have HSO := Lib.hid h5
    have HP0 := Lib.hid hp0
    have hlt := fun k hk => hp_lt h2 k hk
    have HLT := Lib.hid hlt
    unfold Jb.val
    rcases h3 with ⟨rfl, rfl⟩ | ⟨bj, rfl, hm⟩
    · have hmm := @run_makeMap Try.prog
      have e1 := qeql_nil
      have hqm := qm_made (F := F) hP hjb (fun k hk => (h6 k).2 (.inl hk)) hlt
      have hks : (jv w x).heap.size = w.heap.size + 1 := by simp
      have hbw : b < w.heap.size := hlt b (hpx_blk h2).1
      obtain ⟨_, sv, mp, hbq⟩ := hpx_blk hP
      have q2' := blk_cell (blk_old (.map #[] 0) hbq) 2
      have qf' := blk_free (blk_old (.map #[] 0) hbq) 2
      have hjq : BJob w.heap.size x _ := blk_far (p := ⟨b, 2, none⟩) (.map (some (jv w x).heap.size)) (blk_old (.map #[] 0) hj) (fun e => by have : w.heap.size = b := e; omega)
      rw [hks] at hqm hjq
      have HQM := Lib.hid hqm
      have HJ := Lib.hid hjq
      have HNE := Lib.hid (show w.heap.size + 1 ≠ w.heap.size by omega)
      clear h0 h2 h4 h5 h6 hP hjb hj hp hlt hbq hbw hp0 hx hqm hjq
      go_enter Try.func8, Try.ntmps8
      go_wp2_with fail
      clear hmm e1 q2' qf' hks c2 g2 j0 j1 j2 j3 j4 j5 j6 j7 d1
      generalize ((w.alloc (.cells #[.int .i64 x.id, .int .i64 x.prio, .int .i64 x.seq, .int .i64 x.phase, .int .i64 x.node, .int .i64 x.need.a, .int .i64 x.need.b, .int .i64 x.need.c] 37)).alloc (.map #[] 0)).setCell ⟨b, 2, none⟩ (.map (some (w.heap.size + 1))) = W1 at *
      generalize w.heap.size + 1 = bj at *
      obtain ⟨W3, hrun, hqs, ho⟩ := qm_store (HQM.out.below (w' := W1.drew) ⟨rfl, rfl, rfl, Nat.le_refl _, fun _ _ => rfl⟩) HSO.out HX.out HP0.out hn
      unfold Jb.val at hrun
      have hJ3 : BJob w.heap.size x W3 := ho.old (w := W1.drew) HJ.out (fun e => HNE.out e.symm)
      have E1 := Lib.hid (show ∀ w', w' = W1.drew ∨ w' = W3 → w'.cell? ⟨b, 2, none⟩ = some (.map (some bj)) ∧ (w'.cell? ⟨w.heap.size, 0, none⟩ = some (.int .i64 x.id) ∧ w'.cell? ⟨w.heap.size, 1, none⟩ = some (.int .i64 x.prio) ∧ w'.cell? ⟨w.heap.size, 2, none⟩ = some (.int .i64 x.seq) ∧ w'.cell? ⟨w.heap.size, 3, none⟩ = some (.int .i64 x.phase) ∧ w'.cell? ⟨w.heap.size, 4, none⟩ = some (.int .i64 x.node) ∧ w'.cell? ⟨w.heap.size, 5, none⟩ = some (.int .i64 x.need.a) ∧ w'.cell? ⟨w.heap.size, 6, none⟩ = some (.int .i64 x.need.b) ∧ w'.cell? ⟨w.heap.size, 7, none⟩ = some (.int .i64 x.need.c)) from by
        rintro w' (rfl | rfl)
        · exact ⟨(hpx_third HQM.out.hp).1, HJ.out.cells⟩
        · exact ⟨(hpx_third hqs.1).1, hJ3.cells⟩)
      have HRUN := Lib.hid hrun
      have HQS := Lib.hid hqs
      have HJ3 := Lib.hid hJ3
      clear hrun hqs ho hJ3 HQM HNE HJ
      refine wp_region_holdC [7] (oneC W1.drew W3) (by kernel_rfl) (by kernel_rfl) (by kernel_rfl) (oneC_start _ _) ?_
      repeat
        first
        | (refine holdC_val (v := ?_) (by rfl) (by rfl) ?_ ?_
           rotate_left
           · (intro m w' hC
              obtain ⟨_, ⟨_, _, _, _, _, _, _, _⟩⟩ := E1.out w' (oneC_any hC)
              go_simp
              try with_reducible rfl)
           simp only [Act.put, List.setIfInBounds_toArray, List.set_cons_zero, List.set_cons_succ])
        | (refine holdC_turn 0 [] (by rfl) (by rfl) (by decide) (by rfl) (by rfl) (fun m w' hm _ hC => ?_) ?_
           · (obtain rfl := oneC_off hm hC
              refine ⟨W3, ?_, oneC_set hm⟩
              have hr := HRUN.out
              go_simp
              try with_reducible rfl)
           simp only [Act.put, List.setIfInBounds_toArray, List.set_cons_zero, List.set_cons_succ])
      refine holdC_nil (fun w' hC => ?_)
      have hw := oneC_on rfl hC
      subst hw
      clear hC HRUN E1
      go_wp2_with fail
      have JK := Lib.hid fun w' => rjkey_any x w' HX.out
      have PT := Lib.hid (show ∀ w2, Below w'.heap.size w' w2 → Calls Try.prog 19 #[.pointer (some ⟨b, 0, none⟩), .int .i64 x.id, (keyJ x).val] w2 fun e w3 => e = .returned (.bool (findT (thgs []) x.id).isNone) ∧ QL F F1 b [] x w w3 from fun w2 hb => by
        have hq := HQS.out.below hb
        refine (hput_any F1 _ (thgs []) (thgJ x) w2 (thgJ_ok HX.out) (by rw [thgs_len]; exact hn) hq.1).mono fun e w3 ⟨he, hp⟩ => ⟨he, ?_⟩
        rw [put_thgs HSO.out HP0.out] at hp
        refine ⟨qs_end hq (putJ_sorted HSO.out HX.out) hp, ?_⟩
        obtain ⟨F', p1, p2, p3⟩ := hp
        have hj2 := HJ3.out.below hb (lt_of_block HJ3.out)
        exact (p2.block _ (lt_of_block hj2) (fun e => by have := HLT.out _ e; omega)).trans hj2)
      have E2 := Lib.hid (show ∀ w2, (Below w'.heap.size w' w2 ∨ QL F F1 b [] x w w2) → w2.cell? ⟨w.heap.size, 0, none⟩ = some (.int .i64 x.id) ∧ w2.cell? ⟨w.heap.size, 1, none⟩ = some (.int .i64 x.prio) ∧ w2.cell? ⟨w.heap.size, 2, none⟩ = some (.int .i64 x.seq) ∧ w2.cell? ⟨w.heap.size, 3, none⟩ = some (.int .i64 x.phase) ∧ w2.cell? ⟨w.heap.size, 4, none⟩ = some (.int .i64 x.node) ∧ w2.cell? ⟨w.heap.size, 5, none⟩ = some (.int .i64 x.need.a) ∧ w2.cell? ⟨w.heap.size, 6, none⟩ = some (.int .i64 x.need.b) ∧ w2.cell? ⟨w.heap.size, 7, none⟩ = some (.int .i64 x.need.c) from fun w2 hw => by
        rcases hw with hb | hq
        · exact (HJ3.out.below hb (lt_of_block HJ3.out)).cells
        · exact hq.2.cells)
      have HK := Lib.hid (show ∀ w2 w3, Grw w2 w3 → (Below w'.heap.size w' w2 → Below w'.heap.size w' w3) ∧ (QL F F1 b [] x w w2 → QL F F1 b [] x w w3) from fun w2 w3 hg => ⟨fun hb => hb.trans (hg.below.mono hb.size), fun hq => ⟨qpost_below hq.1 hg.below, hq.2.grw hg⟩⟩)
      unfold Jb.val V3.val at JK PT
      clear HQS HJ3 HSO HP0 HX HLT
      refine wp_region_holdC [7] (pqC (fun w2 => Below w'.heap.size w' w2) (QL F F1 b [] x w)) (by kernel_rfl) (by kernel_rfl) (by kernel_rfl) (pqC_start (w := w'.drew) ⟨rfl, rfl, rfl, Nat.le_refl _, fun _ _ => rfl⟩) ?_
      repeat
        first
        | (refine holdC_val (v := ?_) (by rfl) (by rfl) ?_ ?_
           rotate_left
           · (intro m w' hC
              obtain ⟨_, _, _, _, _, _, _, _⟩ := E2.out w' (pqC_any hC)
              go_simp
              try with_reducible rfl)
           simp only [Act.put, List.setIfInBounds_toArray, List.set_cons_zero, List.set_cons_succ])
        | ((first
            | (refine holdC_call (by rfl) (by rfl) ?_ (fun m w' hC => (JK.out w').mono fun e w2 h => ⟨h.1, pqC_imp hC (HK.out _ _ h.2).1 (HK.out _ _ h.2).2⟩) ?_; focus (intro m w' hC; go_simp; done))
            | (refine holdC_write 0 [] (by rfl) (by rfl) (by decide) (by rfl) (by rfl) ?_ (fun m w' hm _ hC => (PT.out w' (pqC_off hm hC)).mono fun e w2 h => ⟨h.1, pqC_set hm h.2⟩) ?_; focus (intro m w' hC; go_simp; done)))
           simp only [Act.put, List.setIfInBounds_toArray, List.set_cons_zero, List.set_cons_succ])
      refine holdC_nil (fun w' hC => ?_)
      have HF := Lib.hid (pqC_on rfl hC).1
      clear hC E2 HK JK PT
      go_wp2_with fail
      go_ret
      exact ⟨rfl, HF.out⟩
    · have e1 := qeql_some bj
      have HQM := Lib.hid (show QM F F1 b bj l w (jv w x) from ⟨hP, hm.keep (hjb.block bj hm.lt), h4 bj rfl, Turned.of hjb, fun k hk => .inl ((h6 k).2 (by rcases hk with hk | rfl; exact .inl hk; exact .inr rfl))⟩)
      have HJ := Lib.hid hj
      have HNE := Lib.hid (show bj ≠ w.heap.size by have := hm.lt; omega)
      unfold jv at HQM HJ
      clear h0 h2 h4 h5 h6 hP hjb hj hp hlt hp0 hx hm
      go_enter Try.func8, Try.ntmps8
      go_wp2_with fail
      clear e1 c2 g2 j0 j1 j2 j3 j4 j5 j6 j7 d1
      generalize w.alloc (.cells #[.int .i64 x.id, .int .i64 x.prio, .int .i64 x.seq, .int .i64 x.phase, .int .i64 x.node, .int .i64 x.need.a, .int .i64 x.need.b, .int .i64 x.need.c] 37) = W1 at *
      obtain ⟨W3, hrun, hqs, ho⟩ := qm_store (HQM.out.below (w' := W1.drew) ⟨rfl, rfl, rfl, Nat.le_refl _, fun _ _ => rfl⟩) HSO.out HX.out HP0.out hn
      unfold Jb.val at hrun
      have hJ3 : BJob w.heap.size x W3 := ho.old (w := W1.drew) HJ.out (fun e => HNE.out e.symm)
      have E1 := Lib.hid (show ∀ w', w' = W1.drew ∨ w' = W3 → w'.cell? ⟨b, 2, none⟩ = some (.map (some bj)) ∧ (w'.cell? ⟨w.heap.size, 0, none⟩ = some (.int .i64 x.id) ∧ w'.cell? ⟨w.heap.size, 1, none⟩ = some (.int .i64 x.prio) ∧ w'.cell? ⟨w.heap.size, 2, none⟩ = some (.int .i64 x.seq) ∧ w'.cell? ⟨w.heap.size, 3, none⟩ = some (.int .i64 x.phase) ∧ w'.cell? ⟨w.heap.size, 4, none⟩ = some (.int .i64 x.node) ∧ w'.cell? ⟨w.heap.size, 5, none⟩ = some (.int .i64 x.need.a) ∧ w'.cell? ⟨w.heap.size, 6, none⟩ = some (.int .i64 x.need.b) ∧ w'.cell? ⟨w.heap.size, 7, none⟩ = some (.int .i64 x.need.c)) from by
        rintro w' (rfl | rfl)
        · exact ⟨(hpx_third HQM.out.hp).1, HJ.out.cells⟩
        · exact ⟨(hpx_third hqs.1).1, hJ3.cells⟩)
      have HRUN := Lib.hid hrun
      have HQS := Lib.hid hqs
      have HJ3 := Lib.hid hJ3
      clear hrun hqs ho hJ3 HQM HNE HJ
      refine wp_region_holdC [7] (oneC W1.drew W3) (by kernel_rfl) (by kernel_rfl) (by kernel_rfl) (oneC_start _ _) ?_
      repeat
        first
        | (refine holdC_val (v := ?_) (by rfl) (by rfl) ?_ ?_
           rotate_left
           · (intro m w' hC
              obtain ⟨_, ⟨_, _, _, _, _, _, _, _⟩⟩ := E1.out w' (oneC_any hC)
              go_simp
              try with_reducible rfl)
           simp only [Act.put, List.setIfInBounds_toArray, List.set_cons_zero, List.set_cons_succ])
        | (refine holdC_turn 0 [] (by rfl) (by rfl) (by decide) (by rfl) (by rfl) (fun m w' hm _ hC => ?_) ?_
           · (obtain rfl := oneC_off hm hC
              refine ⟨W3, ?_, oneC_set hm⟩
              have hr := HRUN.out
              go_simp
              try with_reducible rfl)
           simp only [Act.put, List.setIfInBounds_toArray, List.set_cons_zero, List.set_cons_succ])
      refine holdC_nil (fun w' hC => ?_)
      have hw := oneC_on rfl hC
      subst hw
      clear hC HRUN E1
      go_wp2_with fail
      have JK := Lib.hid fun w' => rjkey_any x w' HX.out
      have PT := Lib.hid (show ∀ w2, Below w'.heap.size w' w2 → Calls Try.prog 19 #[.pointer (some ⟨b, 0, none⟩), .int .i64 x.id, (keyJ x).val] w2 fun e w3 => e = .returned (.bool (findT (thgs l) x.id).isNone) ∧ QL F F1 b l x w w3 from fun w2 hb => by
        have hq := HQS.out.below hb
        refine (hput_any F1 _ (thgs l) (thgJ x) w2 (thgJ_ok HX.out) (by rw [thgs_len]; exact hn) hq.1).mono fun e w3 ⟨he, hp⟩ => ⟨he, ?_⟩
        rw [put_thgs HSO.out HP0.out] at hp
        refine ⟨qs_end hq (putJ_sorted HSO.out HX.out) hp, ?_⟩
        obtain ⟨F', p1, p2, p3⟩ := hp
        have hj2 := HJ3.out.below hb (lt_of_block HJ3.out)
        exact (p2.block _ (lt_of_block hj2) (fun e => by have := HLT.out _ e; omega)).trans hj2)
      have E2 := Lib.hid (show ∀ w2, (Below w'.heap.size w' w2 ∨ QL F F1 b l x w w2) → w2.cell? ⟨w.heap.size, 0, none⟩ = some (.int .i64 x.id) ∧ w2.cell? ⟨w.heap.size, 1, none⟩ = some (.int .i64 x.prio) ∧ w2.cell? ⟨w.heap.size, 2, none⟩ = some (.int .i64 x.seq) ∧ w2.cell? ⟨w.heap.size, 3, none⟩ = some (.int .i64 x.phase) ∧ w2.cell? ⟨w.heap.size, 4, none⟩ = some (.int .i64 x.node) ∧ w2.cell? ⟨w.heap.size, 5, none⟩ = some (.int .i64 x.need.a) ∧ w2.cell? ⟨w.heap.size, 6, none⟩ = some (.int .i64 x.need.b) ∧ w2.cell? ⟨w.heap.size, 7, none⟩ = some (.int .i64 x.need.c) from fun w2 hw => by
        rcases hw with hb | hq
        · exact (HJ3.out.below hb (lt_of_block HJ3.out)).cells
        · exact hq.2.cells)
      have HK := Lib.hid (show ∀ w2 w3, Grw w2 w3 → (Below w'.heap.size w' w2 → Below w'.heap.size w' w3) ∧ (QL F F1 b l x w w2 → QL F F1 b l x w w3) from fun w2 w3 hg => ⟨fun hb => hb.trans (hg.below.mono hb.size), fun hq => ⟨qpost_below hq.1 hg.below, hq.2.grw hg⟩⟩)
      unfold Jb.val V3.val at JK PT
      clear HQS HJ3 HSO HP0 HX HLT
      refine wp_region_holdC [7] (pqC (fun w2 => Below w'.heap.size w' w2) (QL F F1 b l x w)) (by kernel_rfl) (by kernel_rfl) (by kernel_rfl) (pqC_start (w := w'.drew) ⟨rfl, rfl, rfl, Nat.le_refl _, fun _ _ => rfl⟩) ?_
      repeat
        first
        | (refine holdC_val (v := ?_) (by rfl) (by rfl) ?_ ?_
           rotate_left
           · (intro m w' hC
              obtain ⟨_, _, _, _, _, _, _, _⟩ := E2.out w' (pqC_any hC)
              go_simp
              try with_reducible rfl)
           simp only [Act.put, List.setIfInBounds_toArray, List.set_cons_zero, List.set_cons_succ])
        | ((first
            | (refine holdC_call (by rfl) (by rfl) ?_ (fun m w' hC => (JK.out w').mono fun e w2 h => ⟨h.1, pqC_imp hC (HK.out _ _ h.2).1 (HK.out _ _ h.2).2⟩) ?_; focus (intro m w' hC; go_simp; done))
            | (refine holdC_write 0 [] (by rfl) (by rfl) (by decide) (by rfl) (by rfl) ?_ (fun m w' hm _ hC => (PT.out w' (pqC_off hm hC)).mono fun e w2 h => ⟨h.1, pqC_set hm h.2⟩) ?_; focus (intro m w' hC; go_simp; done)))
           simp only [Act.put, List.setIfInBounds_toArray, List.set_cons_zero, List.set_cons_succ])
      refine holdC_nil (fun w' hC => ?_)
      have HF := Lib.hid (pqC_on rfl hC).1
      clear hC E2 HK JK PT
      go_wp2_with fail
      go_ret
      exact ⟨rfl, HF.out⟩
end Go.Proofs.Ytalpocgajecjbaa
