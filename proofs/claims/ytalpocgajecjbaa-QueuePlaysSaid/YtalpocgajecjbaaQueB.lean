/- What a queue's Get and Next come to. Conditions: as stated. -/
import Derived.Test.YtalpocgajecjbaaQueA
namespace Go.Proofs.Ytalpocgajecjbaa
open Go.ChangeShapes Go.WideShapes Go.ChangeAt Go.RowKit
set_option linter.unusedVariables false
set_option maxRecDepth 100000
set_option linter.unusedSimpArgs false

/-- A job that was just laid for a result, and written. -/
abbrev jz (w : World) : World := w.alloc (.cells #[.int .i64 0, .int .i64 0, .int .i64 0, .int .i64 0, .int .i64 0, .int .i64 0, .int .i64 0, .int .i64 0] 37)
abbrev jv (w : World) (x : Jb) : World := w.alloc (.cells #[.int .i64 x.id, .int .i64 x.prio, .int .i64 x.seq, .int .i64 x.phase, .int .i64 x.node, .int .i64 x.need.a, .int .i64 x.need.b, .int .i64 x.need.c] 37)
theorem jz_blk (w : World) : BJob w.heap.size zeroJ (jz w) := blk_new w _
theorem jv_blk (w : World) (x : Jb) : BJob w.heap.size x (jv w x) := blk_new w _
theorem jz_below (w : World) : Below w.heap.size w (jz w) := (Below.refl _ _).alloc (Nat.le_refl _) _
theorem jv_below (w : World) (x : Jb) : Below w.heap.size w (jv w x) := (Below.refl _ _).alloc (Nat.le_refl _) _
/-- The cells of a zero job. -/
def Z8 (b : Nat) (w : World) : Prop := w.cell? ⟨b, 0, none⟩ = some (.int .i64 0) ∧ w.cell? ⟨b, 1, none⟩ = some (.int .i64 0) ∧ w.cell? ⟨b, 2, none⟩ = some (.int .i64 0) ∧ w.cell? ⟨b, 3, none⟩ = some (.int .i64 0) ∧ w.cell? ⟨b, 4, none⟩ = some (.int .i64 0) ∧ w.cell? ⟨b, 5, none⟩ = some (.int .i64 0) ∧ w.cell? ⟨b, 6, none⟩ = some (.int .i64 0) ∧ w.cell? ⟨b, 7, none⟩ = some (.int .i64 0)
theorem z8_of {b : Nat} {w : World} (h : BJob b zeroJ w) : Z8 b w := h.cells
theorem BJob.free {b : Nat} {x : Jb} {w : World} (h : BJob b x w) : w.frozen? ⟨b, 0, none⟩ = false ∧ w.frozen? ⟨b, 1, none⟩ = false ∧ w.frozen? ⟨b, 2, none⟩ = false ∧ w.frozen? ⟨b, 3, none⟩ = false ∧ w.frozen? ⟨b, 4, none⟩ = false ∧ w.frozen? ⟨b, 5, none⟩ = false ∧ w.frozen? ⟨b, 6, none⟩ = false ∧ w.frozen? ⟨b, 7, none⟩ = false :=
  ⟨blk_free h 0, blk_free h 1, blk_free h 2, blk_free h 3, blk_free h 4, blk_free h 5, blk_free h 6, blk_free h 7⟩
def setJ8 (w : World) (b : Nat) (x : Jb) : World := (((((((w.setCell ⟨b, 0, none⟩ (.int .i64 x.id)).setCell ⟨b, 1, none⟩ (.int .i64 x.prio)).setCell ⟨b, 2, none⟩ (.int .i64 x.seq)).setCell ⟨b, 3, none⟩ (.int .i64 x.phase)).setCell ⟨b, 4, none⟩ (.int .i64 x.node)).setCell ⟨b, 5, none⟩ (.int .i64 x.need.a)).setCell ⟨b, 6, none⟩ (.int .i64 x.need.b)).setCell ⟨b, 7, none⟩ (.int .i64 x.need.c)
theorem setJ8_blk {w : World} {b : Nat} {y : Jb} (x : Jb) (h : BJob b y w) : BJob b x (setJ8 w b x) := by
  unfold setJ8
  have h0 : (w.setCell ⟨b, 0, none⟩ (.int .i64 x.id)).heap[b]? = some (.cells #[.int .i64 x.id, .int .i64 y.prio, .int .i64 y.seq, .int .i64 y.phase, .int .i64 y.node, .int .i64 y.need.a, .int .i64 y.need.b, .int .i64 y.need.c] 37 (0, 0)) := blk_set h 0 _
  have h1 : ((w.setCell ⟨b, 0, none⟩ (.int .i64 x.id)).setCell ⟨b, 1, none⟩ (.int .i64 x.prio)).heap[b]? = some (.cells #[.int .i64 x.id, .int .i64 x.prio, .int .i64 y.seq, .int .i64 y.phase, .int .i64 y.node, .int .i64 y.need.a, .int .i64 y.need.b, .int .i64 y.need.c] 37 (0, 0)) := blk_set h0 1 _
  have h2 : (((w.setCell ⟨b, 0, none⟩ (.int .i64 x.id)).setCell ⟨b, 1, none⟩ (.int .i64 x.prio)).setCell ⟨b, 2, none⟩ (.int .i64 x.seq)).heap[b]? = some (.cells #[.int .i64 x.id, .int .i64 x.prio, .int .i64 x.seq, .int .i64 y.phase, .int .i64 y.node, .int .i64 y.need.a, .int .i64 y.need.b, .int .i64 y.need.c] 37 (0, 0)) := blk_set h1 2 _
  have h3 : ((((w.setCell ⟨b, 0, none⟩ (.int .i64 x.id)).setCell ⟨b, 1, none⟩ (.int .i64 x.prio)).setCell ⟨b, 2, none⟩ (.int .i64 x.seq)).setCell ⟨b, 3, none⟩ (.int .i64 x.phase)).heap[b]? = some (.cells #[.int .i64 x.id, .int .i64 x.prio, .int .i64 x.seq, .int .i64 x.phase, .int .i64 y.node, .int .i64 y.need.a, .int .i64 y.need.b, .int .i64 y.need.c] 37 (0, 0)) := blk_set h2 3 _
  have h4 : (((((w.setCell ⟨b, 0, none⟩ (.int .i64 x.id)).setCell ⟨b, 1, none⟩ (.int .i64 x.prio)).setCell ⟨b, 2, none⟩ (.int .i64 x.seq)).setCell ⟨b, 3, none⟩ (.int .i64 x.phase)).setCell ⟨b, 4, none⟩ (.int .i64 x.node)).heap[b]? = some (.cells #[.int .i64 x.id, .int .i64 x.prio, .int .i64 x.seq, .int .i64 x.phase, .int .i64 x.node, .int .i64 y.need.a, .int .i64 y.need.b, .int .i64 y.need.c] 37 (0, 0)) := blk_set h3 4 _
  have h5 : ((((((w.setCell ⟨b, 0, none⟩ (.int .i64 x.id)).setCell ⟨b, 1, none⟩ (.int .i64 x.prio)).setCell ⟨b, 2, none⟩ (.int .i64 x.seq)).setCell ⟨b, 3, none⟩ (.int .i64 x.phase)).setCell ⟨b, 4, none⟩ (.int .i64 x.node)).setCell ⟨b, 5, none⟩ (.int .i64 x.need.a)).heap[b]? = some (.cells #[.int .i64 x.id, .int .i64 x.prio, .int .i64 x.seq, .int .i64 x.phase, .int .i64 x.node, .int .i64 x.need.a, .int .i64 y.need.b, .int .i64 y.need.c] 37 (0, 0)) := blk_set h4 5 _
  have h6 : (((((((w.setCell ⟨b, 0, none⟩ (.int .i64 x.id)).setCell ⟨b, 1, none⟩ (.int .i64 x.prio)).setCell ⟨b, 2, none⟩ (.int .i64 x.seq)).setCell ⟨b, 3, none⟩ (.int .i64 x.phase)).setCell ⟨b, 4, none⟩ (.int .i64 x.node)).setCell ⟨b, 5, none⟩ (.int .i64 x.need.a)).setCell ⟨b, 6, none⟩ (.int .i64 x.need.b)).heap[b]? = some (.cells #[.int .i64 x.id, .int .i64 x.prio, .int .i64 x.seq, .int .i64 x.phase, .int .i64 x.node, .int .i64 x.need.a, .int .i64 x.need.b, .int .i64 y.need.c] 37 (0, 0)) := blk_set h5 6 _
  have h7 : ((((((((w.setCell ⟨b, 0, none⟩ (.int .i64 x.id)).setCell ⟨b, 1, none⟩ (.int .i64 x.prio)).setCell ⟨b, 2, none⟩ (.int .i64 x.seq)).setCell ⟨b, 3, none⟩ (.int .i64 x.phase)).setCell ⟨b, 4, none⟩ (.int .i64 x.node)).setCell ⟨b, 5, none⟩ (.int .i64 x.need.a)).setCell ⟨b, 6, none⟩ (.int .i64 x.need.b)).setCell ⟨b, 7, none⟩ (.int .i64 x.need.c)).heap[b]? = some (.cells #[.int .i64 x.id, .int .i64 x.prio, .int .i64 x.seq, .int .i64 x.phase, .int .i64 x.node, .int .i64 x.need.a, .int .i64 x.need.b, .int .i64 x.need.c] 37 (0, 0)) := blk_set h6 7 _
  exact h7
theorem setJ8_only (w : World) (b : Nat) (x : Jb) : Only b w (setJ8 w b x) := ((((((((Only.refl b w).setCell _ _).setCell _ _).setCell _ _).setCell _ _).setCell _ _).setCell _ _).setCell _ _).setCell _ _
theorem setJ8_below {w0 w : World} {b : Nat} (x : Jb) (h : Below w0.heap.size w0 w) (hb : w0.heap.size ≤ b) : Below w0.heap.size w0 (setJ8 w b x) := h.trans ((setJ8_only w b x).below hb h.size)
/-- What a look-up in a queue's map yields. -/
theorem jmap_look {w : World} {mv : Value} {l : List Jb} (h : JMap w mv l) {id : Int} (hid : inI id) :
    (Instr.lookup 30 mv (.int .i64 id) false).run Try.prog w = .ok (((getJ l id).getD zeroJ).val) w ∧ (Instr.lookup 30 mv (.int .i64 id) true).run Try.prog w = .ok (.tuple #[((getJ l id).getD zeroJ).val, .bool (getJ l id).isSome]) w := by
  rcases h with ⟨rfl, rfl⟩ | ⟨bj, rfl, h⟩
  · exact ⟨nomap_look Try.underlying3 Try.underlying30 (zeroV_job w) hid, nomap_look_ok Try.underlying3 Try.underlying30 (zeroV_job w) hid⟩
  · exact ⟨h.look jval_inj Try.underlying3 Try.underlying30 (zeroV_job w) hid, h.look_ok jval_inj Try.underlying3 Try.underlying30 (zeroV_job w) hid⟩
set_option maxHeartbeats 400000 in
theorem qget_any (F : Nat → Prop) (v : Value) (l : List Jb) (id : Int) (w : World) (hid : inI id) (h : QP F v l w) :
    Calls Try.prog 14 #[v, .int .i64 id] w fun e w' => e = .returned (.tuple #[((getJ l id).getD zeroJ).val, .bool (getJ l id).isSome]) ∧ Below w.heap.size w w' := by
  obtain ⟨b, mv, F1, rfl, h2, h3, h4, h5, h6⟩ := h
  have hb := jz_below w
  have hP := hp_keep h2 (fun k hk => hb.block k (hp_lt h2 k hk)) hb.size
  have hM := h3.keep fun g hg => hb.block g (h3.lt hg)
  obtain ⟨c2, _⟩ := hpx_third hP
  have hlk := (jmap_look hM hid).2
  generalize (getJ l id).getD zeroJ = x at *
  generalize (getJ l id).isSome = ok at *
  have hz2 : BJob (w.heap.size + 1) zeroJ (jz (jz w)) := by
    have := jz_blk (jz w)
    rwa [show (jz w).heap.size = w.heap.size + 1 by simp] at this
  have hx2 : BJob (w.heap.size + 1) x (jv (jz w) x) := by
    have := jv_blk (jz w) x
    rwa [show (jz w).heap.size = w.heap.size + 1 by simp] at this
  have hz1 : BJob w.heap.size zeroJ (jv (jz w) x) := blk_old _ (jz_blk w)
  obtain ⟨a0, a1, a2, a3, a4, a5, a6, a7⟩ := z8_of hz2
  obtain ⟨e0, e1, e2, e3, e4, e5, e6, e7⟩ := hz2.free
  obtain ⟨x0, x1, x2, x3, x4, x5, x6, x7⟩ := hx2.cells
  obtain ⟨z0, z1, z2, z3, z4, z5, z6, z7⟩ := z8_of hz1
  obtain ⟨f0, f1, f2, f3, f4, f5, f6, f7⟩ := hz1.free
  have HR := Lib.hid (show BJob w.heap.size x (jv (jv w x) x) from blk_old _ (jv_blk w x))
  have HBL := Lib.hid (show Below w.heap.size w (jv (jv w x) x) from (jv_below w x).trans ((jv_below (jv w x) x).mono (by simp)))
  have hsz : (jz w).heap.size = w.heap.size + 1 := by simp
  unfold Jb.val at hlk ⊢
  clear h2 h3 h4 h5 h6 hb hP hM hz2 hx2 hz1
  go_enter Try.func14, Try.ntmps14
  go_wp2_with fail
  exact bodyPost_ret (job_results2 rfl HR.out rfl) rfl ⟨rfl, HBL.out⟩
set_option maxHeartbeats 400000 in
theorem nqget_any (id : Int) (w : World) : Calls Try.prog 14 #[.pointer none, .int .i64 id] w fun e w' => e = .returned (.tuple #[zeroJ.val, .bool false]) ∧ Below w.heap.size w w' := by
  have hz1 := jz_blk w
  obtain ⟨z0, z1, z2, z3, z4, z5, z6, z7⟩ := z8_of hz1
  obtain ⟨f0, f1, f2, f3, f4, f5, f6, f7⟩ := hz1.free
  have HR := Lib.hid hz1
  have HBL := Lib.hid (jz_below w)
  clear hz1
  go_enter Try.func14, Try.ntmps14
  go_wp2_with fail
  exact bodyPost_ret (job_results2 rfl HR.out rfl) rfl ⟨rfl, HBL.out⟩
set_option maxHeartbeats 400000 in
theorem nqnext_any (w : World) : Calls Try.prog 12 #[.pointer none] w fun e w' => e = .returned (.tuple #[zeroJ.val, .bool false]) ∧ Below w.heap.size w w' := by
  have hz1 := jz_blk w
  obtain ⟨z0, z1, z2, z3, z4, z5, z6, z7⟩ := z8_of hz1
  obtain ⟨f0, f1, f2, f3, f4, f5, f6, f7⟩ := hz1.free
  have HR := Lib.hid hz1
  have HBL := Lib.hid (jz_below w)
  clear hz1
  go_enter Try.func12, Try.ntmps12
  go_wp2_with fail
  exact bodyPost_ret (job_results2 rfl HR.out rfl) rfl ⟨rfl, HBL.out⟩
/-- The first one, if there is any. -/
def headJ (l : List Jb) : Jb := l.head?.getD zeroJ
def someJ (l : List Jb) : Bool := !l.isEmpty
set_option maxHeartbeats 1000000 in
theorem qnext_any (F : Nat → Prop) (v : Value) (l : List Jb) (w : World) (hn : l.length ≤ 100000) (h : QP F v l w) :
    Calls Try.prog 12 #[v] w fun e w' => e = .returned (.tuple #[(headJ l).val, .bool (someJ l)]) ∧ Below w.heap.size w w' := by
  have h0 := h
  obtain ⟨b, mv, F1, rfl, h2, h3, h4, h5, h6⟩ := h
  have hb := jz_below w
  have hP := hp_keep h2 (fun k hk => hb.block k (hp_lt h2 k hk)) hb.size
  have TP := htop_any F1 _ (thgs l) (jz w) (by rw [thgs_len]; exact hn) hP
  have hZ := jz_blk w
  cases l with
  | nil =>
    have TP : Calls Try.prog 23 #[.pointer (some ⟨b, 0, none⟩)] (jz w) fun e w' => e = .returned (.tuple #[.int .i64 0, .agg #[.int .i64 0, .int .i64 0, .int .i64 0], .bool false]) ∧ Below (jz w).heap.size (jz w) w' := TP
    have TP := Lib.hid TP
    have HZ := Lib.hid hZ
    have HB := Lib.hid hb
    clear h2 h3 h4 h5 h6 h0 hb hP hZ
    go_enter Try.func12, Try.ntmps12
    go_wp2_with fail
    refine TP.out.mono ?_; rintro e w1 ⟨rfl, b1⟩
    have hz1 : BJob w.heap.size zeroJ w1 := HZ.out.below b1 (lt_of_block HZ.out)
    have hk := blk_new w1 (.cells #[.int .i64 0, .int .i64 0, .int .i64 0] 55)
    have hz2 : BJob w.heap.size zeroJ (kz w1) := blk_old _ hz1
    have HBL := Lib.hid (show Below w.heap.size w (kz w1) from (HB.out.trans (b1.mono HB.out.size)).trans ((kv_below w1 zero3).mono (HB.out.trans (b1.mono HB.out.size)).size))
    have k0 := blk_cell hk 0
    have k1 := blk_cell hk 1
    have k2 := blk_cell hk 2
    have g0 := blk_free hk 0
    have g1 := blk_free hk 1
    have g2 := blk_free hk 2
    obtain ⟨z0, z1, z2, z3, z4, z5, z6, z7⟩ := z8_of hz2
    obtain ⟨f0, f1, f2, f3, f4, f5, f6, f7⟩ := hz2.free
    have HR := Lib.hid (setJ8_blk zeroJ hz2)
    have HB2 := Lib.hid (setJ8_below (w0 := w) (b := w.heap.size) zeroJ HBL.out (Nat.le_refl _))
    clear b1 hz1 hk hz2 TP HZ
    go_wp2_with fail
    exact bodyPost_ret (job_results2 rfl HR.out rfl) rfl ⟨rfl, HB2.out⟩
  | cons x r =>
    have TP : Calls Try.prog 23 #[.pointer (some ⟨b, 0, none⟩)] (jz w) fun e w' => e = .returned (.tuple #[.int .i64 x.id, .agg #[.int .i64 (keyJ x).a, .int .i64 (keyJ x).b, .int .i64 (keyJ x).c], .bool true]) ∧ Below (jz w).heap.size (jz w) w' := TP
    generalize keyJ x = key at TP
    have TP := Lib.hid TP
    have HZ := Lib.hid hZ
    have HB := Lib.hid hb
    have HQ := Lib.hid (show ∀ w', Below w.heap.size w w' → w'.cell? ⟨b, 2, none⟩ = some mv ∧ (Instr.lookup 30 mv (.int .i64 x.id) false).run Try.prog w' = .ok x.val w' from fun w' hb' => by
      refine ⟨(hpx_third (hp_keep h2 (fun k hk => hb'.block k (hp_lt h2 k hk)) hb'.size)).1, ?_⟩
      have := (jmap_look (h3.keep fun g hg => hb'.block g (h3.lt hg)) (h5.2.1 x (by simp)).1.1).1
      rw [head_get] at this
      exact this)
    clear h2 h3 h4 h5 h6 h0 hb hP hZ
    show Calls _ _ _ _ fun e w' => e = .returned (.tuple #[x.val, .bool true]) ∧ _
    unfold Jb.val at HQ ⊢
    go_enter Try.func12, Try.ntmps12
    go_wp2_with fail
    refine TP.out.mono ?_; rintro e w1 ⟨rfl, b1⟩
    have hz1 : BJob w.heap.size zeroJ w1 := HZ.out.below b1 (lt_of_block HZ.out)
    have hk := blk_new w1 (.cells #[.int .i64 0, .int .i64 0, .int .i64 0] 55)
    have hz2 : BJob w.heap.size zeroJ (kv w1 key) := blk_old _ hz1
    have hw1 := HB.out.trans (b1.mono HB.out.size)
    have HBL := Lib.hid (show Below w.heap.size w (kv w1 key) from hw1.trans ((kv_below w1 key).mono hw1.size))
    have k0 := blk_cell hk 0
    have k1 := blk_cell hk 1
    have k2 := blk_cell hk 2
    have g0 := blk_free hk 0
    have g1 := blk_free hk 1
    have g2 := blk_free hk 2
    obtain ⟨z0, z1, z2, z3, z4, z5, z6, z7⟩ := z8_of hz2
    obtain ⟨f0, f1, f2, f3, f4, f5, f6, f7⟩ := hz2.free
    obtain ⟨c2, hlk⟩ := HQ.out (kv w1 key) HBL.out
    have HR := Lib.hid (setJ8_blk x hz2)
    have HB2 := Lib.hid (setJ8_below (w0 := w) (b := w.heap.size) x HBL.out (Nat.le_refl _))
    clear b1 hz1 hk hz2 TP HZ hw1 HQ
    go_wp2_with fail
    exact bodyPost_ret (job_results2 rfl HR.out rfl) rfl ⟨rfl, HB2.out⟩
end Go.Proofs.Ytalpocgajecjbaa
