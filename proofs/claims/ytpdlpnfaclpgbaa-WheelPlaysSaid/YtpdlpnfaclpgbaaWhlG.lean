/- What take comes to: of one slot those that are due, in whatever order. Conditions: as stated. -/
import Derived.Test.YtpdlpnfaclpgbaaWhlA
import Derived.Test.YtpdlpnfaclpgbaaWhlF
namespace Go.Proofs.Ytpdlpnfaclpgbaa
open Go.ChangeShapes Go.WideShapes Go.ChangeAt Go.RowKit
set_option linter.unusedVariables false
set_option maxRecDepth 100000
set_option linter.unusedSimpArgs false
set_option maxHeartbeats 2000000

theorem infoTm : (Try.prog.info? 62).map (fun i => (i.zero, i.size, i.bytes)) = some (some (.agg #[.int .i64 0, .int .i64 0]), 2, 16) := by kernel_rfl
theorem dueOf_snoc (d : List Tm) (x : Tm) (now : Int) : dueOf (d ++ [x]) now = if x.tick ≤ now then dueOf d now ++ [x] else dueOf d now := by
  unfold dueOf
  rw [List.filter_append]
  by_cases h : x.tick ≤ now <;> simp [h]
theorem restOf_snoc (d : List Tm) (x : Tm) (now : Int) : restOf (d ++ [x]) now = if x.tick ≤ now then restOf d now else restOf d now ++ [x] := by
  unfold restOf
  rw [List.filter_append]
  by_cases h : x.tick ≤ now <;> simp [h]
theorem mem_restOf {d : List Tm} {now : Int} {x : Tm} : x ∈ restOf d now ↔ x ∈ d ∧ now < x.tick := by unfold restOf; rw [List.mem_filter]; simp
theorem rowsW_snoc (d : List Tm) (x : Tm) : (rowsW (d ++ [x])).flatten = (rowsW d).flatten ++ [.int .i64 x.id, .int .i64 x.tick] := by
  unfold rowsW
  rw [List.map_append, List.flatten_append]
  simp [Tm.row]
/-- What the map says when d have come and r are to come. -/
def curT (d r : List Tm) (now : Int) : List Tm := restOf d now ++ r
theorem cur_sub {d r L : List Tm} (hp : (d ++ r).Perm L) (now : Int) : ∀ x ∈ curT d r now, x ∈ L := fun x hx => by
  rw [← hp.mem_iff]
  unfold curT at hx
  rw [List.mem_append] at hx ⊢
  rcases hx with h | h
  · exact .inl (mem_restOf.1 h).1
  · exact .inr h
theorem cur_ids {d r L : List Tm} (hp : (d ++ r).Perm L) (hL : IdsW L) (now : Int) : IdsW (curT d r now) := by
  have h := idsW_of_perm hL hp.symm
  unfold curT
  exact List.Pairwise.sublist (List.Sublist.append (List.filter_sublist) (List.Sublist.refl _)) h
theorem cur_len {d r L : List Tm} (hp : (d ++ r).Perm L) (now : Int) : (curT d r now).length ≤ L.length := by
  rw [← hp.length_eq]
  unfold curT restOf
  rw [List.length_append, List.length_append]
  have := List.length_filter_le (fun x : Tm => !decide (x.tick ≤ now)) d
  omega
/-- One that is due has come, and was taken off. -/
theorem cur_due {d r L : List Tm} (hp : (d ++ r).Perm L) (hL : IdsW L) {now id c : Int} (hc : tickW L id = some c) (hr : (tickW r id).isSome = true) (hn : c ≤ now) :
    curT (d ++ [⟨id, c⟩]) (dropW r id) now = dropW (curT d r now) id ∧ (tickW (curT d r now) id).isSome = true := by
  have hdr : IdsW (d ++ r) := idsW_of_perm hL hp.symm
  obtain ⟨y, hy, hid⟩ := tickW_isSome.1 hr
  have hno : ∀ x ∈ restOf d now, x.id ≠ id := fun x hx e => (List.pairwise_append.1 hdr).2.2 x (mem_restOf.1 hx).1 y hy (e.trans hid.symm)
  constructor
  · unfold curT
    rw [restOf_snoc, if_pos hn]
    unfold dropW
    rw [List.filter_append]
    congr 1
    symm
    rw [List.filter_eq_self]
    exact fun x hx => by simpa using hno x hx
  · exact tickW_isSome.2 ⟨y, by unfold curT; rw [List.mem_append]; exact .inr hy, hid⟩
/-- One that is not due has come. -/
theorem cur_stay {d r L : List Tm} (hp : (d ++ r).Perm L) (hL : IdsW L) {now id c : Int} (hc : tickW L id = some c) (hr : (tickW r id).isSome = true) (hn : ¬ c ≤ now) :
    (curT (d ++ [⟨id, c⟩]) (dropW r id) now).Perm (curT d r now) := by
  have hdr : IdsW (d ++ r) := idsW_of_perm hL hp.symm
  obtain ⟨y, hy, hid⟩ := tickW_isSome.1 hr
  have h1 : tickW L id = some y.tick := (tickW_some hL).2 ⟨y, hp.mem_iff.1 (List.mem_append_right _ hy), hid, rfl⟩
  rw [hc] at h1
  have hyc : y = ⟨id, c⟩ := by cases y; simp at h1 hid; simp [h1, hid]
  have h2 := dropW_perm (List.pairwise_append.1 hdr).2.1 hy
  rw [hid, hyc] at h2
  unfold curT
  rw [restOf_snoc, if_neg hn, List.append_assoc]
  exact List.Perm.append_left _ h2.symm
theorem cur_tick {d r L : List Tm} (hp : (d ++ r).Perm L) (hL : IdsW L) {now id c : Int} (h : tickW (curT d r now) id = some c) : tickW L id = some c := by
  rw [tickW_some (cur_ids hp hL now)] at h
  obtain ⟨x, hx, hh⟩ := h
  exact (tickW_some hL).2 ⟨x, cur_sub hp now x hx, hh⟩
theorem Only.fresh {b r : Nat} {x y z : World} (h : Only b x y) (k : Only r y z) (hr : x.heap.size ≤ r) : Only b x z :=
  ⟨k.os.trans h.os, k.tape.trans h.tape, k.output.trans h.output, Nat.le_trans h.size k.size, fun j hj hb => (k.block j (Nat.lt_of_lt_of_le hj h.size) (by omega)).trans (h.block j hj hb)⟩
theorem Only.grow {b : Nat} {row : Option Nat} {x y z : World} (h : Only b x y) (k : y.grownBy z row) (hr : ∀ g, row = some g → x.heap.size ≤ g) : Only b x z :=
  ⟨k.os.trans h.os, k.tape.trans h.tape, k.output.trans h.output, Nat.le_trans h.size k.size, fun j hj hb => (k.block j (Nat.lt_of_lt_of_le hj h.size) (fun e => by have := hr j e.symm; omega)).trans (h.block j hj hb)⟩
theorem owns_base {w : World} {base base' : Nat} {e : TypeId} {size n : Nat} {v : Value} {xs : List Value} (h : w.ownsRow base e size v n xs) (hb : base' ≤ base) : w.ownsRow base' e size v n xs := by
  refine ⟨h.1, ?_⟩
  rcases h.2 with h2 | ⟨g, cap, cur, h1, h2, h3⟩
  · exact .inl h2
  · exact .inr ⟨g, cap, cur, h1, Nat.le_trans hb h2, h3⟩
theorem wtake_some (m : Nat) (L : List Tm) (now : Int) (w : World) (hM : MapI w m L.length (tickW L)) (hL : IdsW L) (hi : ∀ x ∈ L, inI x.id) (hlen : L.length ≤ 1000000) :
    Calls Try.prog 21 #[.map (some m), .int .i64 now] w fun e w' => ∃ v d, e = .returned v ∧ d.Perm (dueOf L now) ∧ w'.ownsRow w.heap.size 62 2 v d.length (rowsW d).flatten ∧ MapI w' m (restOf L now).length (tickW (restOf L now)) ∧ Only m w w' := by
  have hml : m < w.heap.size := hM.lt
  obtain ⟨i0, hif, hz0, hz1, hz2⟩ := info_parts infoTm
  go_enter Try.func21, Try.ntmps21
  go_wp2_with (refine wpList_range_mapF rfl _ _ rfl 3 3 Try.underlying3 Try.underlying26 rfl hM ?_; intro w0 hrg0 hb0 hsz0)
  go_frame
  go_loopw [5] (fun v wr => ∃ cnt left d r, RgF Try.prog 3 (Value.int .i64) 0 wr m w.heap.size (curT d r now).length (tickW (curT d r now)) left cnt ∧ (d ++ r).Perm L ∧ (∀ i, inI i → left i = (tickW r i).isSome) ∧
      wr.ownsRow (w.heap.size + 1) 62 2 v (dueOf d now).length (rowsW (dueOf d now)).flatten ∧ Only m w wr ∧ w.heap.size + 1 ≤ wr.heap.size) (fun _ wr => wr.rangeLeft m w.heap.size)
  case atStart =>
    refine ⟨_, _, [], L, hrg0, List.Perm.refl _, fun i hi => rfl, ?_, Only.of m hb0, by omega⟩
    exact World.ownsRow_nil _ _ _ _
  case round =>
    obtain ⟨cnt, left, d, r, hrg, hp, hleft, hrow, ho, hsz⟩ := hrel
    go_wp2_with (refine wpList_next_mapF rfl _ rfl 3 intV_inj Try.underlying3 rfl hrg ?_ ?_)
    · intro hc0 hl0
      have he := done_end hp (fun x hx => by rw [← hleft x.id (hi x hx)]; exact hl0 x.id (hi x hx))
      have hM1 := hrg.map
      have hq : (curT d r now).Perm (restOf L now) := by
        rw [he.1]; unfold curT; rw [List.append_nil]
        exact he.2.filter _
      have hM2 : MapI wr m (restOf L now).length (tickW (restOf L now)) := hM1.same (fun i => tickW_perm (cur_ids hp hL now) hq i) hq.length_eq
      have hrow2 : wr.ownsRow w.heap.size 62 2 u5 (dueOf d now).length (rowsW (dueOf d now)).flatten := owns_base hrow (by omega)
      have hd := he.2.filter (fun x => decide (x.tick ≤ now))
      clear hrg hM1 hM hrg0 hrow
      go_wp2_with fail
      go_ret
      exact ⟨_, dueOf d now, rfl, hd, hrow2, hM2, ho⟩
    · intro id c w1 cnt1 hid hlx hfx hrg1 hlt ho1 hsz1 hen
      have hr : (tickW r id).isSome = true := by rw [← hleft id hid]; exact hlx
      have hc := cur_tick hp hL hfx
      have hst := done_step hp hL hc hr
      have hleft1 : ∀ i, inI i → leftB left id i = (tickW (dropW r id) i).isSome := fun i hi => by unfold leftB; rw [hst.2 i, hleft i hi]
      have hrow1 := owns_only hrow ho1 (by omega)
      have hcl := cur_len hp now
      have hdl : (dueOf d now).length ≤ L.length := by
        rw [← hp.length_eq, List.length_append]; have := List.length_filter_le (fun x : Tm => decide (x.tick ≤ now)) d; unfold dueOf; omega
      have hmeas : cnt1 < wr.rangeLeft m w.heap.size := by rw [hrg.left_eq]; exact hlt
      have HSZ := Lib.hid hsz1
      have HM := Lib.hid hmeas
      have ho2 : Only m w w1 := ho.fresh ho1 (Nat.le_refl _)
      have HO := Lib.hid ho2
      clear hsz1 hmeas hrow hlx hleft hfx
      by_cases hn : c ≤ now
      · have dn : decide (c ≤ now) = true := decide_eq_true hn
        have hcd := cur_due hp hL hc hr hn
        have hlr : ∀ W, Below w1.heap.size w1 W → True := fun _ _ => trivial
        have HR := Lib.hid hrow1
        have hl1 : w.heap.size + 1 ≤ w1.heap.size := by have := HSZ.out; omega
        clear hrg hM hrg0 ho ho1 ho2
        go_wp2_with (at_builtin; refine wpList_append_own _ rfl _ _ 57 rfl (w.heap.size + 1) 62 i0 (.agg #[.int .i64 0, .int .i64 0]) 2 16 Try.underlying57 hif hz0 hz1 hz2 rfl (by decide) _ _ _ rfl (HR.out.alloc _) ⟨w1.heap.size, 0, none⟩ 1 1 [.int .i64 id, .int .i64 c] rfl rfl (cells_new _ _ _) (row_one ⟨id, c⟩) ?c3 ?c4 ?c5 ?_)
        case c3 => unfold maxLen; omega
        case c4 => omega
        case c5 => simp; omega
        intro v' w4 hown4 hgrow _
        have hob : ∀ g, (u5 : Value).ownBlock = some g → w.heap.size + 1 ≤ g := fun g hg => owns_row HR.out hg
        have hk : ∀ j, j ≤ w.heap.size → w4.heap[j]? = w1.heap[j]? := fun j hj => (hgrow.block j (by simp; omega) (fun e => by have := hob j e.symm; omega)).trans (Below.heap_alloc _ _ _ (by omega))
        have hrg4 := hrg1.keep (hk m (by omega)) (hk w.heap.size (Nat.le_refl _))
        have ho4 : Only m w w4 := (HO.out.alloc _).grow hgrow (fun g hg => by have := hob g hg; omega)
        clear hgrow hrg1
        go_wp2_with (refine wpList_delete_rgF rfl _ _ _ _ rfl 3 Try.underlying3 Try.underlying26 rfl hrg4 id hid rfl ?_; intro w5 cnt5 hrg5 hle5 ho5)
        go_frame
        go_roundw
        case rel =>
          refine ⟨cnt5, leftB left id, d ++ [⟨id, c⟩], dropW r id, hrg5.same ?_ (fun i => ?_) (fun i _ => ?_), hst.1, hleft1, ?_, ho4.trans ho5, ?_⟩
          · rw [hcd.1, dropW_len_eq (cur_ids hp hL now)]
          · rw [hcd.1, tickW_dropW]; rfl
          · unfold leftB; cases left i <;> cases (i == id) <;> rfl
          · rw [dueOf_snoc, if_pos hn, List.length_append, rowsW_snoc]
            exact owns_only hown4 ho5 (by omega)
          · have := ho4.size; have := ho5.size; have := HO.out.size; have := hown4.1; have := hrg4.lt; omega
        case measure => rw [hrg5.left_eq]; have := HM.out; omega
      · have dn : decide (c ≤ now) = false := decide_eq_false hn
        have hcs := cur_stay hp hL hc hr hn
        have hrg2 := hrg1.same (n' := (curT (d ++ [⟨id, c⟩]) (dropW r id) now).length) (g := tickW (curT (d ++ [⟨id, c⟩]) (dropW r id) now)) (left' := leftB left id) hcs.length_eq.symm (fun i => tickW_perm (cur_ids hp hL now) hcs.symm i) (fun i _ => rfl)
        clear hrg hM hrg0 ho ho1
        go_wp2_with fail
        go_roundw
        case rel => exact ⟨cnt1, leftB left id, d ++ [⟨id, c⟩], dropW r id, hrg2, hst.1, hleft1, by rw [dueOf_snoc, if_neg hn]; exact hrow1, HO.out, by have := HSZ.out; omega⟩
        case measure => rw [hrg1.left_eq]; exact HM.out
end Go.Proofs.Ytpdlpnfaclpgbaa
