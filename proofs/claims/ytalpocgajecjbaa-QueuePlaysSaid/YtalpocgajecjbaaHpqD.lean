/- What above, lay and find come to. Conditions: as stated. -/
import Derived.Test.YtalpocgajecjbaaHpqC
namespace Go.Proofs.Ytalpocgajecjbaa
open Go.ChangeShapes Go.WideShapes Go.ChangeAt Go.RowKit
open Go.Maps (Keyed int_keyed keyOf_int_mk)
set_option linter.unusedVariables false
set_option maxRecDepth 100000
set_option linter.unusedSimpArgs false
variable {X : List Value × TypeId}

theorem habove_any (g : Nat) (w : World) (h0 : 0 < g) (hg : g ≤ 1000000) : Calls Try.prog 32 #[.int .i64 (g : Int)] w fun e w' => e = .returned (.int .i64 (up g : Nat)) ∧ w = w' := by
  have q1 : IntKind.i64.wrap ((g : Int) - 1) = (g : Int) - 1 := IntWalk.i64_in _ (by omega)
  have q2 : (0 : Int) ≤ (g : Int) - 1 := by omega
  have HU := Lib.hid (show ((up g : Nat) : Int) = ((g : Int) - 1) / 2 by unfold up; omega)
  go_enter Try.func32, Try.ntmps32
  go_wp2_with fail
  go_ret
  exact ⟨intq HU.out.symm, rfl⟩
def moreN (m : PosM) (id : Int) (n : Nat) : Nat := n + if (m id).isNone = true then 1 else 0
/-- What lay leaves. -/
def Laid (b bi bm : Nat) (w w' : World) : Prop := Turned (fun k => k = bi ∨ k = bm) w w'
set_option maxHeartbeats 2000000 in
theorem hlay_any (b bi cap bm n : Nat) (l : List Thg) (m : PosM) (g : Nat) (x : Thg) (w : World) (hg : g < l.length) (hl : l.length ≤ 1000000) (hn : n ≤ 1000000) (hx : x.ok) (h : HS X b bi cap bm n l m w) :
    Calls Try.prog 33 #[.pointer (some ⟨b, 0, none⟩), .int .i64 (g : Int), x.val] w fun e w' => e = .returned (.tuple #[]) ∧ HS X b bi cap bm (moreN m x.id n) (l.set g x) (setM m x.id g) w' ∧ Laid b bi bm w w' := by
  have h1 := h.below ((Below.refl w.heap.size w).alloc (Nat.le_refl _) (.cells #[.int .i64 x.id, .int .i64 x.key.a, .int .i64 x.key.b, .int .i64 x.key.c] 66))
  have hbx := blk_new w (.cells #[.int .i64 x.id, .int .i64 x.key.a, .int .i64 x.key.b, .int .i64 x.key.c] 66)
  have HL := Lib.hid h.lt
  have HB := Lib.hid ((Below.refl w.heap.size w).alloc (Nat.le_refl _) (.cells #[.int .i64 x.id, .int .i64 x.key.a, .int .i64 x.key.b, .int .i64 x.key.c] 66))
  unfold Thg.val
  clear h
  go_enter Try.func33, Try.ntmps33
  go_wp2_with fail
  generalize w.alloc (.cells #[.int .i64 x.id, .int .i64 x.key.a, .int .i64 x.key.b, .int .i64 x.key.c] 66) = W at *
  have hbx' : W.heap[w.heap.size]? = some (.cells #[.int .i64 x.id, .int .i64 x.key.a, .int .i64 x.key.b, .int .i64 x.key.c] 66 (0, 0)) := hbx
  have E1 := Lib.hid (show ∀ w', w' = W.drew ∨ w' = set4 W.drew bi (g * 4) x → w'.cell? ⟨b, 0, none⟩ = some (.slice (some ⟨bi, 0, none⟩) l.length cap) ∧ w'.cell? ⟨w.heap.size, 0, none⟩ = some (.int .i64 x.id) ∧ w'.cell? ⟨w.heap.size, 1, none⟩ = some (.int .i64 x.key.a) ∧ w'.cell? ⟨w.heap.size, 2, none⟩ = some (.int .i64 x.key.b) ∧ w'.cell? ⟨w.heap.size, 3, none⟩ = some (.int .i64 x.key.c) from by
    rintro w' (rfl | rfl)
    · exact ⟨h1.cells.1, blk_cell hbx' 0, blk_cell hbx' 1, blk_cell hbx' 2, blk_cell hbx' 3⟩
    · have ho := set4_only W.drew bi (g * 4) x
      have hb0 := ho.old (o := hX X (.slice (some ⟨bi, 0, none⟩) l.length cap) (.map (some bm))) h1.blk h1.ne1
      have hb1 := ho.old (o := .cells #[.int .i64 x.id, .int .i64 x.key.a, .int .i64 x.key.b, .int .i64 x.key.c] 66 (0, 0)) hbx' (by have := HL.out bi (by simp); omega)
      exact ⟨blk_cell hb0 0, blk_cell hb1 0, blk_cell hb1 1, blk_cell hb1 2, blk_cell hb1 3⟩)
  have HR := Lib.hid (row_cells (w := W) h1.row g hg)
  have HF := Lib.hid (fun o => row_free (w := W) h1.row o)
  have H1 := Lib.hid h1
  have i0 : (0 : Int) ≤ (g : Int) := by omega
  have i1 : (g : Int) < (l.length : Int) := by omega
  clear h1 hbx
  refine wp_region_holdC [7] (oneC W.drew (set4 W.drew bi (g * 4) x)) (by kernel_rfl) (by kernel_rfl) (by kernel_rfl) (oneC_start _ _) ?_
  repeat
    first
    | (refine holdC_val (v := ?_) (by rfl) (by rfl) ?_ ?_
       rotate_left
       · (intro m w' hC
          obtain ⟨_, _, _, _, _⟩ := E1.out w' (oneC_any hC)
          go_simp
          try with_reducible rfl)
       simp only [Act.put, List.setIfInBounds_toArray, List.set_cons_zero, List.set_cons_succ])
    | (refine holdC_turn 0 [] (by rfl) (by rfl) (by decide) (by rfl) (by rfl) (fun m w' hm _ hC => ?_) ?_
       · (obtain rfl := oneC_off hm hC
          refine ⟨_, ?_, oneC_set hm⟩
          obtain ⟨_, _, _, _⟩ := HR.out
          have f0 := HF.out (g * 4)
          have f1 := HF.out (g * 4 + 1)
          have f2 := HF.out (g * 4 + 2)
          have f3 := HF.out (g * 4 + 3)
          go_simp
          try rfl)
       simp only [Act.put, List.setIfInBounds_toArray, List.set_cons_zero, List.set_cons_succ])
  refine holdC_nil (fun w' hC => ?_)
  have hw := oneC_on rfl hC
  subst hw
  clear hC
  have h2 : HS X b bi cap bm n (l.set g x) m (set4 W.drew bi (g * 4) x) := by
    have ho := set4_only W.drew bi (g * 4) x
    have hr := row_set (w := W.drew) H1.out.row g x hg
    refine ⟨?_, hr, H1.out.pos.keep (w := W.drew) (ho.block bm (HS.lt (w := W) H1.out bm (by simp)) (fun e => H1.out.ne3 e.symm)), H1.out.ne1, H1.out.ne2, H1.out.ne3⟩
    rw [List.length_set]
    exact ho.old (o := hX X (.slice (some ⟨bi, 0, none⟩) l.length cap) (.map (some bm))) H1.out.blk H1.out.ne1
  have hbx2 := (set4_only W.drew bi (g * 4) x).old (o := .cells #[.int .i64 x.id, .int .i64 x.key.a, .int .i64 x.key.b, .int .i64 x.key.c] 66 (0, 0)) hbx' (by have := HL.out bi (by simp); omega)
  have HT := Lib.hid (show Laid b bi bm w (set4 W.drew bi (g * 4) x) from (Turned.of (w := w) (w' := W.drew) (below_drew1 HB.out)).trans (G := fun k => k = bi ∨ k = bm) (by
    have ho := set4_only W.drew bi (g * 4) x
    exact ⟨ho.os, ho.tape, ho.output, ho.size, fun k hk hne => ho.block k hk (fun e => hne (.inl e))⟩) (fun k hk => .inl hk))
  clear E1 HR HF H1 HB hbx'
  generalize set4 W.drew bi (g * 4) x = V at *
  have HV := Lib.hid h2
  go_wp2_with fail
  have hpos : PosW V.drew bm n m := h2.pos
  obtain ⟨w3, hrun, hp3, ho3⟩ := hpos.store (id := x.id) (by unfold maxLen; omega) hx.1 g (by unfold inI; omega)
  have E2 := Lib.hid (show ∀ w', w' = V.drew ∨ w' = w3 → w'.cell? ⟨b, 1, none⟩ = some (.map (some bm)) ∧ w'.cell? ⟨w.heap.size, 0, none⟩ = some (.int .i64 x.id) from by
    rintro w' (rfl | rfl)
    · exact ⟨h2.cells.2, blk_cell hbx2 0⟩
    · exact ⟨blk_cell (ho3.old (o := hX X (.slice (some ⟨bi, 0, none⟩) (l.set g x).length cap) (.map (some bm))) h2.blk h2.ne2) 1, blk_cell (ho3.old (o := .cells #[.int .i64 x.id, .int .i64 x.key.a, .int .i64 x.key.b, .int .i64 x.key.c] 66 (0, 0)) hbx2 (by have := HL.out bm (by simp); omega)) 0⟩)
  have HRUN := Lib.hid hrun
  have HP := Lib.hid hp3
  have HO := Lib.hid ho3
  clear hpos hrun hp3 ho3 hbx2 h2
  refine wp_region_holdC [7] (oneC V.drew w3) (by kernel_rfl) (by kernel_rfl) (by kernel_rfl) (oneC_start _ _) ?_
  repeat
    first
    | (refine holdC_val (v := ?_) (by rfl) (by rfl) ?_ ?_
       rotate_left
       · (intro m w' hC
          obtain ⟨_, _⟩ := E2.out w' (oneC_any hC)
          go_simp
          try with_reducible rfl)
       simp only [Act.put, List.setIfInBounds_toArray, List.set_cons_zero, List.set_cons_succ])
    | (refine holdC_turn 0 [] (by rfl) (by rfl) (by decide) (by rfl) (by rfl) (fun m w' hm _ hC => ?_) ?_
       · (obtain rfl := oneC_off hm hC
          refine ⟨w3, ?_, oneC_set hm⟩
          have hr := HRUN.out
          go_simp
          try with_reducible rfl)
       simp only [Act.put, List.setIfInBounds_toArray, List.set_cons_zero, List.set_cons_succ])
  refine holdC_nil (fun w' hC => ?_)
  have hw := oneC_on rfl hC
  subst hw
  clear hC
  have HF1 := Lib.hid (show HS X b bi cap bm (moreN m x.id n) (l.set g x) (setM m x.id g) w' from
    ⟨HO.out.old HV.out.blk HV.out.ne2, row_keep HV.out.row (HO.out.block bi (HS.lt HV.out bi (by simp)) HV.out.ne3), HP.out, HV.out.ne1, HV.out.ne2, HV.out.ne3⟩)
  have HF2 := Lib.hid (show Laid b bi bm w w' from HT.out.trans (G := fun k => k = bi ∨ k = bm) ⟨HO.out.os, HO.out.tape, HO.out.output, HO.out.size, fun k hk hne => HO.out.block k hk (fun e => hne (.inr e))⟩ (fun k hk => .inl hk))
  clear HRUN HP HO HT HV E2
  go_wp2_with fail
  go_end0
  exact ⟨rfl, HF1.out, HF2.out⟩
/-! find, where there is a map. -/
set_option maxHeartbeats 1000000 in
theorem hfind_map (b bm n : Nat) (m : PosM) (sv : Value) (id : Int) (k : Nat) (ok : Bool) (w : World) (hid : inI id) (hb : w.heap[b]? = some (hX X sv (.map (some bm)))) (hp : PosW w bm n m) (hm : (m id = none ∧ k = 0 ∧ ok = false) ∨ (m id = some k ∧ ok = true)) :
    Calls Try.prog 26 #[.pointer (some ⟨b, 0, none⟩), .int .i64 id] w fun e w' => e = .returned (.tuple #[.int .i64 (k : Int), .bool ok]) ∧ w = w' := by
  obtain ⟨D, h1, h2, h3⟩ := hp
  have c1 := blk_cell hb 1
  have hkey := keyI hid
  have hs : Maps.has D (.int .i64 id) = ok ∧ D.atKey (.int .i64 id) zdM = .lit (.int .i64 (k : Int)) := by
    rcases h3 id hid with ⟨e1, e2, e3⟩ | ⟨j, e1, e2, e3⟩ <;> rcases hm with ⟨f1, f2, f3⟩ | ⟨f1, f2⟩
    · subst f2; subst f3; exact ⟨e2, e3⟩
    · rw [f1] at e1; cases e1
    · rw [f1] at e1; cases e1
    · rw [f1] at e1; cases e1; subst f2; exact ⟨e2, e3⟩
  obtain ⟨hs1, hs2⟩ := hs
  have H1 := Lib.hid h1
  have H2 := Lib.hid hs1
  have H3 := Lib.hid hs2
  have HK := Lib.hid hkey
  clear h1 h2 h3 hkey hs1 hs2 hm hb
  go_enter Try.func26, Try.ntmps26
  go_wp2_with (at_lookup; refine wpList_lookup_own_ok_int _ rfl _ _ 27 rfl 3 3 .i64 keyedI Try.underlying27 Try.underlying3 (Try.zeroValue3 _) bm n D rfl H1.out _ _ rfl HK.out ?_; intro c hat hwc)
  rw [show (DataW.lit (Lit.int .i64 0) : DataW Unit) = zdM from rfl, H3.out] at hat
  rw [H2.out]
  have hc : c = (k : Int) := by cases hat; rfl
  subst hc
  clear hat hwc
  go_wp2_with fail
  go_ret2
  exact ⟨rfl, rfl⟩
set_option maxHeartbeats 1000000 in
theorem hfind_nomap (b : Nat) (sv : Value) (id : Int) (w : World) (hid : inI id) (hb : w.heap[b]? = some (hX X sv (.map none))) :
    Calls Try.prog 26 #[.pointer (some ⟨b, 0, none⟩), .int .i64 id] w fun e w' => e = .returned (.tuple #[.int .i64 0, .bool false]) ∧ w = w' := by
  have c1 := blk_cell hb 1
  have hl := Maps.look_nil (w := w) true (t := 27) (e := 3) keyedI Try.underlying27 (Try.zeroValue3 _) (keyI hid)
  simp only [if_true] at hl
  clear hb
  go_enter Try.func26, Try.ntmps26
  go_wp2_with fail
  go_ret2
  exact ⟨rfl, rfl⟩
theorem hfind_nil (id : Int) (w : World) :
    Calls Try.prog 26 #[.pointer none, .int .i64 id] w fun e w' => e = .returned (.tuple #[.int .i64 0, .bool false]) ∧ w = w' := by
  go_enter Try.func26, Try.ntmps26
  go_wp2_with fail
  go_ret2
  exact ⟨rfl, rfl⟩
end Go.Proofs.Ytalpocgajecjbaa
