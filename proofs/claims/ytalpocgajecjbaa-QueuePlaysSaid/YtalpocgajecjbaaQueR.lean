/- What the document's own answers on rows of jobs come to: Drop, Get, Put. Conditions: lists of at most 90,000 jobs. -/
import Derived.Test.YtalpocgajecjbaaRnkE
import Derived.Test.YtalpocgajecjbaaQueB
import Derived.Deep.AppendLies
import Derived.Deep.RegionLaw
namespace Go.Proofs.Ytalpocgajecjbaa
open Go.ChangeShapes Go.WideShapes Go.ChangeAt Go.RowKit
set_option linter.unusedVariables false
set_option maxRecDepth 100000
set_option linter.unusedSimpArgs false

theorem dropJ_take (l : List Jb) (id : Int) (k : Nat) (h : k < l.length) : dropJ (l.take (k + 1)) id = dropJ (l.take k) id ++ if l[k].id = id then [] else [l[k]] := by
  rw [List.take_succ_eq_append_getElem h]
  unfold dropJ
  rw [List.filter_append]
  by_cases hid : l[k].id = id
  · simp [hid]
  · simp [hid]
theorem dropJ_le (l : List Jb) (id : Int) : (dropJ l id).length ≤ l.length := List.length_filter_le _ _
/-- A result that is a row of the call's own. -/
def OwnJ (l : List Jb) (w : World) (e : Ending) (w' : World) : Prop := ∃ v, e = .returned v ∧ w'.ownsRow w.heap.size 37 8 v l.length (rowsJ l).flatten ∧ Below w.heap.size w w'
set_option maxHeartbeats 2000000 in
theorem k11drop_any (v : Value) (l : List Jb) (id : Int) (K : Nat → Prop) (w : World) (hn : l.length ≤ 100000) (h : RdK 8 w K v (rowsJ l)) :
    Calls Try.prog 11 #[v, .int .i64 id] w (OwnJ (dropJ l id) w) := by
  obtain ⟨i0, hi, hz0, hz1, hz2⟩ := info_parts infoJ
  obtain ⟨A, c, rfl, hc, _⟩ := h.form
  have H := Lib.hid fun k (hk : k < l.length) => j8_of h hk
  rw [rowsJ_len]
  clear h hc
  go_enter Try.func11, Try.ntmps11
  go_wp2_with fail
  go_loopw [5, 6] (fun v i wr => ∃ k : Nat, k ≤ l.length ∧ i = .int .i64 k ∧ wr.ownsRow w.heap.size 37 8 v (dropJ (l.take k) id).length (rowsJ (dropJ (l.take k) id)).flatten ∧ Below w.heap.size w wr) (fun _ i _ => l.length - (intOf i).toNat)
  case atStart => exact ⟨0, by omega, rfl, World.ownsRow_nil _ _ _ _, Below.refl _ _⟩
  case round =>
    obtain ⟨k, hk, rfl, hown, hb⟩ := hrel
    have HO := Lib.hid hown
    have HB := Lib.hid hb
    have hw3 : w.heap.size ≤ wr.heap.size := hb.size
    have hdl := dropJ_le (l.take k) id
    rw [List.length_take] at hdl
    clear hown hb
    by_cases hlt : k < l.length
    · obtain ⟨b, o, rfl, hbl, hx⟩ := H.out k hlt
      obtain ⟨g0, g1, g2, g3, g4, g5, g6, g7⟩ := (hx k hlt).below HB.out hbl
      have dk : decide (k < l.length) = true := decide_eq_true hlt
      have ht := dropJ_take l id k hlt
      by_cases he : l[k].id = id
      · have de : (l[k].id != id) = false := by simp [he]
        rw [if_pos he, List.append_nil] at ht
        have HT := Lib.hid ht
        clear ht he hx
        generalize l[k].id = T at *
        clear g1 g2 g3 g4 g5 g6 g7
        go_wp2_with fail
        go_roundw
        case rel => exact ⟨k + 1, by omega, by go_num, by rw [HT.out]; exact HO.out, HB.out⟩
        case measure => simp [intOf]; omega
      · have de : (l[k].id != id) = true := by simpa using he
        rw [if_neg he] at ht
        have HT := Lib.hid ht
        have HR := Lib.hid (jrow_one l[k])
        unfold Jb.row at HR
        clear ht he hx
        generalize l[k] = E at *
        go_wp2_with (at_builtin; refine wpList_append_own _ rfl _ _ 33 rfl w.heap.size 37 i0 (.agg #[.int .i64 0, .int .i64 0, .int .i64 0, .int .i64 0, .int .i64 0, .int .i64 0, .int .i64 0, .int .i64 0]) 8 64 Try.underlying33 hi hz0 hz1 hz2 rfl (by decide) _ _ _ rfl (HO.out.alloc _) ⟨wr.heap.size, 0, none⟩ 1 1 [.int .i64 E.id, .int .i64 E.prio, .int .i64 E.seq, .int .i64 E.phase, .int .i64 E.node, .int .i64 E.need.a, .int .i64 E.need.b, .int .i64 E.need.c] rfl rfl (cells_new _ _ _) ?c2 ?c3 ?c4 ?c5 ?_)
        case c2 => exact HR.out
        case c3 => unfold maxLen; omega
        case c4 => omega
        case c5 => simp; omega
        intro v' w4 hown4 hgrow _
        have HB4 := Lib.hid (grown_below (HB.out.alloc (HB.out.size) _) hgrow (fun g hg => owns_row HO.out hg) (by simp; omega))
        have hown4' : w4.ownsRow w.heap.size 37 8 v' (dropJ (l.take (k + 1)) id).length (rowsJ (dropJ (l.take (k + 1)) id)).flatten := by
          rw [HT.out, List.length_append, rowsJ_append, List.flatten_append]
          simpa [rowsJ, Jb.row] using hown4
        have HO4 := Lib.hid hown4'
        clear hown4 hown4' hgrow
        go_wp2_with fail
        go_roundw
        case rel => exact ⟨k + 1, by omega, by go_num, HO4.out, HB4.out⟩
        case measure => simp [intOf]; omega
    · obtain rfl : k = l.length := by omega
      have dk : decide (l.length < l.length) = false := decide_eq_false hlt
      rw [List.take_length] at HO
      obtain ⟨A2, c2, rfl, _, _⟩ := (RdK.own HO.out (rowsJ_len _) (rowsJ_eight _)).form
      rw [rowsJ_len]
      rw [rowsJ_len] at HO
      go_wp2_with fail
      go_ret
      exact ⟨_, rfl, HO.out, HB.out⟩
theorem find_at (p : Jb → Bool) (l : List Jb) (k : Nat) (h : k < l.length) (hI : l.find? p = (l.drop k).find? p) : l.find? p = if p l[k] = true then some l[k] else (l.drop (k + 1)).find? p := by
  rw [hI, List.drop_eq_getElem_cons h, List.find?_cons]
  cases p l[k] <;> rfl
set_option maxHeartbeats 1000000 in
theorem k11get_any (v : Value) (l : List Jb) (id : Int) (K : Nat → Prop) (w : World) (hn : l.length ≤ 100000) (h : RdK 8 w K v (rowsJ l)) :
    Calls Try.prog 7 #[v, .int .i64 id] w fun e w' => e = .returned (.tuple #[((getJ l id).getD zeroJ).val, .bool (getJ l id).isSome]) ∧ Below w.heap.size w w' := by
  obtain ⟨A, c, rfl, hc, _⟩ := h.form
  have H := Lib.hid fun k (hk : k < l.length) => j8_of h hk
  have HZ := Lib.hid (jz_blk w)
  have HBW := Lib.hid (jz_below w)
  have HE := Lib.hid (show ∀ (u : Value) (b : Bool), u = ((getJ l id).getD zeroJ).val → b = (getJ l id).isSome → Ending.returned (.tuple #[u, .bool b]) = .returned (.tuple #[((getJ l id).getD zeroJ).val, .bool (getJ l id).isSome]) from fun u b h1 h2 => by rw [h1, h2])
  rw [rowsJ_len]
  clear h hc
  go_enter Try.func7, Try.ntmps7
  go_wp2_with fail
  go_loop [6] (fun i => ∃ k : Nat, k ≤ l.length ∧ i = .int .i64 k ∧ getJ l id = (l.drop k).find? (fun t => t.id == id)) (fun i => l.length - (intOf i).toNat)
  case atStart => exact ⟨0, by omega, rfl, rfl⟩
  case round =>
    obtain ⟨k, hk, rfl, hI⟩ := hrel
    by_cases hlt : k < l.length
    · obtain ⟨b, o, rfl, hbl, hx⟩ := H.out k hlt
      obtain ⟨g0, g1, g2, g3, g4, g5, g6, g7⟩ := (hx k hlt).below HBW.out hbl
      have dk : decide (k < l.length) = true := decide_eq_true hlt
      have hN := find_at (fun t => t.id == id) l k hlt hI
      by_cases he : l[k].id = id
      · have de : (l[k].id == id) = true := by simpa using he
        rw [if_pos de] at hN
        have HG := Lib.hid (show getJ l id = some l[k] from hN)
        obtain ⟨z0, z1, z2, z3, z4, z5, z6, z7⟩ := z8_of HZ.out
        obtain ⟨f0, f1, f2, f3, f4, f5, f6, f7⟩ := HZ.out.free
        have HR := Lib.hid (jv_blk w l[k])
        have HB2 := Lib.hid (jv_below w l[k])
        clear hI hN he hx
        generalize l[k] = E at *
        go_wp2_with fail
        exact bodyPost_ret (job_results2 rfl HR.out rfl) rfl ⟨HE.out _ _ (by rw [HG.out]; rfl) (by rw [HG.out]; rfl), HB2.out⟩
      · have de : (l[k].id == id) = false := by simpa using he
        rw [if_neg (by rw [de]; simp)] at hN
        have HN := Lib.hid (show getJ l id = (l.drop (k + 1)).find? (fun t => t.id == id) from hN)
        clear hI hN he hx
        generalize l[k].id = T at *
        clear g1 g2 g3 g4 g5 g6 g7
        go_wp2_with fail
        go_round
        case rel => exact ⟨k + 1, by omega, by go_num, HN.out⟩
        case measure => simp [intOf]; omega
    · obtain rfl : k = l.length := by omega
      have HG := Lib.hid (show getJ l id = none by rw [hI]; simp)
      have dk : decide (l.length < l.length) = false := decide_eq_false hlt
      obtain ⟨z0, z1, z2, z3, z4, z5, z6, z7⟩ := z8_of HZ.out
      obtain ⟨f0, f1, f2, f3, f4, f5, f6, f7⟩ := HZ.out.free
      have HR := Lib.hid (jz_blk w)
      have HB2 := Lib.hid (jz_below w)
      clear hI
      go_wp2_with fail
      exact bodyPost_ret (job_results2 rfl HR.out rfl) rfl ⟨HE.out _ _ (by rw [HG.out]; rfl) (by rw [HG.out]; rfl), HB2.out⟩
end Go.Proofs.Ytalpocgajecjbaa
