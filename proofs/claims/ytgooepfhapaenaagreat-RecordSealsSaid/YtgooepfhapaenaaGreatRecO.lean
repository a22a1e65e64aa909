/- Records in memory: cells, rows written, compared. Conditions: none. -/
import Derived.Test.YtgooepfhapaenaaGreatRecPlain
import Derived.Test.YtgooepfhapaenaaGreatEvtT
import Derived.Test.YtgooepfhapaenaaGreatFrmRef
import Derived.Test.YtgooepfhapaenaaGreatEvtV
namespace Go.Proofs.YtgooepfhapaenaaGreat
open Go.ChangeShapes Go.WideShapes Go.ChangeAt Go.RowKit
set_option linter.unusedVariables false
set_option maxRecDepth 100000
set_option linter.unusedSimpArgs false
set_option maxHeartbeats 2000000

theorem rec_cells {w : World} {b : Nat} {r : Rec} {t : TypeId} (h : w.heap[b]? = some (.cells r.cells t (0, 0))) :
    w.cell? ⟨b, 0, none⟩ = some (.int .i64 r.s) ∧ w.cell? ⟨b, 1, none⟩ = some (.int .i64 r.e) ∧ w.cell? ⟨b, 2, none⟩ = some (.int .i64 r.v.k) ∧ w.cell? ⟨b, 3, none⟩ = some (.int .i64 r.v.n) ∧ w.cell? ⟨b, 4, none⟩ = some (.int .i64 r.v.j) ∧ w.cell? ⟨b, 5, none⟩ = some (.int .i64 r.v.i) ∧
    w.cell? ⟨b, 6, none⟩ = some (.int .i64 r.v.p) ∧ w.cell? ⟨b, 7, none⟩ = some (.int .i64 r.v.r.a) ∧ w.cell? ⟨b, 8, none⟩ = some (.int .i64 r.v.r.b) ∧ w.cell? ⟨b, 9, none⟩ = some (.int .i64 r.v.r.c) :=
  ⟨blk_cell h 0, blk_cell h 1, blk_cell h 2, blk_cell h 3, blk_cell h 4, blk_cell h 5, blk_cell h 6, blk_cell h 7, blk_cell h 8, blk_cell h 9⟩
theorem rec_free {w : World} {b : Nat} {r : Rec} {t : TypeId} (h : w.heap[b]? = some (.cells r.cells t (0, 0))) :
    w.frozen? ⟨b, 0, none⟩ = false ∧ w.frozen? ⟨b, 1, none⟩ = false ∧ w.frozen? ⟨b, 2, none⟩ = false ∧ w.frozen? ⟨b, 3, none⟩ = false ∧ w.frozen? ⟨b, 4, none⟩ = false ∧ w.frozen? ⟨b, 5, none⟩ = false ∧ w.frozen? ⟨b, 6, none⟩ = false ∧ w.frozen? ⟨b, 7, none⟩ = false ∧ w.frozen? ⟨b, 8, none⟩ = false ∧ w.frozen? ⟨b, 9, none⟩ = false :=
  ⟨blk_free h 0, blk_free h 1, blk_free h 2, blk_free h 3, blk_free h 4, blk_free h 5, blk_free h 6, blk_free h 7, blk_free h 8, blk_free h 9⟩
abbrev recW (w : World) (b : Nat) (r : Rec) : World := setRow w b 0 r.row
theorem rec_set {w : World} {b : Nat} {u r : Rec} {t : TypeId} (h : w.heap[b]? = some (.cells u.cells t (0, 0))) : (recW w b r).heap[b]? = some (.cells r.cells t (0, 0)) := setRow_all r.row h rfl
theorem rec_only (w : World) (b : Nat) (r : Rec) : Only b w (recW w b r) := setRow_only b _ _ _
theorem results_c3 {P : Program} {fn : Func} {p u v : Tmp} {ty : TypeId} (h : fn.results = #[.cell p ty, .tmp u, .tmp v]) {tmps : Array Value} {w : World} {g : Nat} {t : TypeId} {cs : Array Value} {d : TypeDesc} {x y : Value}
    (hp : tmps.getD p undef = .pointer (some ⟨g, 0, none⟩)) (hx : tmps.getD u undef = x) (hy : tmps.getD v undef = y) (hg : w.heap[g]? = some (.cells cs t (0, 0)))
    (hu : P.underlying ty = some d) (hd : (match d with | .struct _ | .array _ _ => true | _ => false) = true) (hi : (P.info? ty).map (·.size) = some cs.size) : (results fn tmps).run P w = .ok (.tuple #[.agg cs, x, y]) w := by
  have hp' : tmps[p]?.getD undef = .pointer (some ⟨g, 0, none⟩) := by simpa using hp
  have hx' : tmps[u]?.getD undef = x := by simpa using hx
  have hy' : tmps[v]?.getD undef = y := by simpa using hy
  simp [results, h, hp', hx', hy', asAddr, run_loadVar_row w g t ty cs (0, 0) d hg hu hd hi]
/-! ### Compared, at any depth -/
theorem infoEvt8 : ∃ i, Tryz.prog.info? 25 = some i ∧ i.size = 8 := by
  have h : (Tryz.prog.info? 25).map (fun i => i.size) = some 8 := by kernel_rfl
  cases hi : Tryz.prog.info? 25 with
  | none => rw [hi] at h; cases h
  | some i => rw [hi] at h; exact ⟨i, rfl, by simpa using h⟩
theorem eqED (d : Nat) (w : World) (a b : Evt) :
    (Op.equalIn (d + 3) 25 (.agg #[.int .i64 a.k, .int .i64 a.n, .int .i64 a.j, .int .i64 a.i, .int .i64 a.p, .int .i64 a.r.a, .int .i64 a.r.b, .int .i64 a.r.c]) (.agg #[.int .i64 b.k, .int .i64 b.n, .int .i64 b.j, .int .i64 b.i, .int .i64 b.p, .int .i64 b.r.a, .int .i64 b.r.b, .int .i64 b.r.c])).run Tryz.prog w = .ok (eqE a b) w := by
  have hu : Tryz.prog.underlying 3 = some (.int .i64) := Tryz.underlying3
  have hf : Tryz.prog.underlying 25 = some (.struct (Tryz.prog.fieldsOf 25)) := by kernel_rfl
  obtain ⟨i, hi, hz0, hz1, hz2⟩ := info_parts infoI64
  obtain ⟨ir, hir, hr1⟩ := infoRes
  have hr := eqResD d w a.r b.r
  rw [run_equalIn_agg w (d + 2) 25 _ _ hf (by kernel_rfl)]
  unfold eqE
  have hag : (isAgg 23).run Tryz.prog w = .ok true w := by kernel_rfl
  cases h1 : a.k == b.k
  · simp [Op.eqFields, Program.fieldsOf, Tryz.underlying25, part, go_sem, hi, hz1, hu, h1]
  cases h2 : a.n == b.n
  · simp [Op.eqFields, Program.fieldsOf, Tryz.underlying25, part, go_sem, hi, hz1, hu, h1, h2]
  cases h3 : a.j == b.j
  · simp [Op.eqFields, Program.fieldsOf, Tryz.underlying25, part, go_sem, hi, hz1, hu, h1, h2, h3]
  cases h4 : a.i == b.i
  · simp [Op.eqFields, Program.fieldsOf, Tryz.underlying25, part, go_sem, hi, hz1, hu, h1, h2, h3, h4]
  cases h5 : a.p == b.p
  · simp [Op.eqFields, Program.fieldsOf, Tryz.underlying25, part, go_sem, hi, hz1, hu, h1, h2, h3, h4, h5]
  simp [Op.eqFields, Program.fieldsOf, Tryz.underlying25, part, go_sem, hi, hz1, hir, hr1, hu, hag, h1, h2, h3, h4, h5, hr]
  cases eq3 a.r b.r <;> rfl
theorem eqR_run (w : World) (a b : Rec) : (Op.equalIn 10000 27 a.val b.val).run Tryz.prog w = .ok (eqR a b) w := by
  unfold Rec.val
  have hu : Tryz.prog.underlying 3 = some (.int .i64) := Tryz.underlying3
  have hf : Tryz.prog.underlying 27 = some (.struct (Tryz.prog.fieldsOf 27)) := by kernel_rfl
  obtain ⟨i, hi, hz0, hz1, hz2⟩ := info_parts infoI64
  obtain ⟨ir, hir, hr1⟩ := infoEvt8
  have hr : (Op.equalIn 9999 25 _ _).run Tryz.prog w = _ := eqED 9996 w a.v b.v
  rw [run_equalIn_agg w 9999 27 _ _ hf (by kernel_rfl)]
  unfold eqR
  have hag : (isAgg 25).run Tryz.prog w = .ok true w := by kernel_rfl
  cases h1 : a.s == b.s
  · simp [Op.eqFields, Program.fieldsOf, Tryz.underlying27, part, go_sem, hi, hz1, hu, h1]
  cases h2 : a.e == b.e
  · simp [Op.eqFields, Program.fieldsOf, Tryz.underlying27, part, go_sem, hi, hz1, hu, h1, h2]
  have hres : (Op.equalIn 9998 23 _ _).run Tryz.prog w = _ := eqResD 9996 w a.v.r b.v.r
  clear hr
  simp [Op.eqFields, Program.fieldsOf, Tryz.underlying27, part, go_sem, hi, hz1, hir, hr1, hu, hag, h1, h2, hres]
  unfold eqE
  by_cases k1 : a.v.k = b.v.k
  · by_cases k2 : a.v.n = b.v.n
    · by_cases k3 : a.v.j = b.v.j
      · by_cases k4 : a.v.i = b.v.i
        · by_cases k5 : a.v.p = b.v.p
          · cases h6 : eq3 a.v.r b.v.r <;> simp [k1, k2, k3, k4, k5, h6, Result.andThen]
          · simp [k1, k2, k3, k4, k5]
        · simp [k1, k2, k3, k4]
      · simp [k1, k2, k3]
    · simp [k1, k2]
  · simp [k1]
theorem eqlR_run (w : World) (a b : Rec) : (binOp .eql 27 a.val b.val).run Tryz.prog w = .ok (.bool (eqR a b)) w := by
  have h := eqR_run w a b
  unfold Rec.val at h ⊢
  rw [run_eql_struct, h]
  rfl
theorem neR_run (w : World) (a b : Rec) : (binOp .neq 27 a.val b.val).run Tryz.prog w = .ok (.bool (!eqR a b)) w := by
  have h := eqR_run w a b
  unfold Rec.val at h ⊢
  rw [run_neq_struct, h]
  rfl
theorem eqlR_guard (w : World) (a b : Rec) (x y : Operand) : (eqGuard .eql 27 x y a.val b.val).run Tryz.prog w = .ok () w := run_eqGuard_agg w .eql 27 x y _ _ (by kernel_rfl)
theorem neR_guard (w : World) (a b : Rec) (x y : Operand) : (eqGuard .neq 27 x y a.val b.val).run Tryz.prog w = .ok () w := run_eqGuard_agg w .neq 27 x y _ _ (by kernel_rfl)
theorem eqR_self (a : Rec) : eqR a a = true := (eqR_iff a a).2 rfl
end Go.Proofs.YtgooepfhapaenaaGreat
/- What the document's own Check, Seal and Open of records come to. Conditions: texts of up to 100,000 bytes. -/
namespace Go.Proofs.YtgooepfhapaenaaGreat
open Go.ChangeShapes Go.WideShapes Go.ChangeAt Go.RowKit
set_option linter.unusedVariables false
set_option maxRecDepth 100000
set_option linter.unusedSimpArgs false
set_option maxHeartbeats 4000000

theorem numR_no {r : Rec} (h : numRc r = false) : checkR r = 1 := by unfold checkR; rw [if_pos h]
theorem rrcheck_any (r : Rec) (w : World) : Calls Tryz.prog 10 #[r.val] w fun e w' => e = .returned (.int .i64 (checkR r)) ∧ Below w.heap.size w w' := by
  have hba : Below w.heap.size w (w.alloc (.cells r.cells 27)) := (Below.refl _ _).alloc (Nat.le_refl _) _
  obtain ⟨x0, x1, x2, x3, x4, x5, x6, x7, x8, x9⟩ := rec_cells (blk_new w (.cells r.cells 27))
  have HB0 := Lib.hid hba
  clear hba
  have hun : undef = Value.tuple #[] := rfl
  unfold Rec.cells at HB0 x0 x1 x2 x3 x4 x5 x6 x7 x8 x9
  unfold Rec.val
  by_cases c1 : 1 ≤ r.s
  case neg =>
    have hk : checkR r = 1 := numR_no (by unfold numRc; rw [decide_eq_false c1]; rfl)
    have d1 : decide (r.s < 1) = true := decide_eq_true (by omega)
    rw [hk]
    clear hk c1
    go_enter Tryz.func10, Tryz.ntmps10
    go_wp2_with fail
    go_ret
    exact ⟨rfl, HB0.out⟩
  have d1 : decide (r.s < 1) = false := decide_eq_false (by omega)
  by_cases c2 : r.s ≤ 2147483647
  case neg =>
    have hk : checkR r = 1 := numR_no (by unfold numRc; rw [decide_eq_false c2]; simp)
    have d2 : decide (r.s > 2147483647) = true := decide_eq_true (by omega)
    have d2' : decide (2147483647 < r.s) = true := d2
    rw [hk]
    clear hk c1 c2
    go_enter Tryz.func10, Tryz.ntmps10
    go_wp2_with fail
    go_ret
    exact ⟨rfl, HB0.out⟩
  have d2 : decide (r.s > 2147483647) = false := decide_eq_false (by omega)
  have d2' : decide (2147483647 < r.s) = false := d2
  by_cases c3 : 1 ≤ r.e
  case neg =>
    have hk : checkR r = 1 := numR_no (by unfold numRc; rw [decide_eq_false c3]; simp)
    have d3 : decide (r.e < 1) = true := decide_eq_true (by omega)
    rw [hk]
    clear hk c1 c2 c3
    go_enter Tryz.func10, Tryz.ntmps10
    go_wp2_with fail
    go_ret
    exact ⟨rfl, HB0.out⟩
  have d3 : decide (r.e < 1) = false := decide_eq_false (by omega)
  by_cases c4 : r.e ≤ 4294967295
  case neg =>
    have hk : checkR r = 1 := numR_no (by unfold numRc; rw [decide_eq_false c4]; simp)
    have d4 : decide (r.e > 4294967295) = true := decide_eq_true (by omega)
    have d4' : decide (4294967295 < r.e) = true := d4
    rw [hk]
    clear hk c1 c2 c3 c4
    go_enter Tryz.func10, Tryz.ntmps10
    go_wp2_with fail
    go_ret
    exact ⟨rfl, HB0.out⟩
  have d4 : decide (r.e > 4294967295) = false := decide_eq_false (by omega)
  have d4' : decide (4294967295 < r.e) = false := d4
  have hk : checkR r = checkE r.v := by
    unfold checkR numRc
    rw [decide_eq_true c1, decide_eq_true c2, decide_eq_true c3, decide_eq_true c4]
    rfl
  have CK := Lib.hid fun w' => rcheck_any r.v w'
  unfold Evt.val at CK
  rw [hk]
  generalize checkE r.v = q at *
  clear hk c1 c2 c3 c4
  go_enter Tryz.func10, Tryz.ntmps10
  go_wp2_with fail
  refine (CK.out _).mono ?_; rintro e w1 ⟨rfl, hB⟩
  have HB1 := Lib.hid (HB0.out.trans (hB.mono HB0.out.size))
  clear hB
  go_wp2_with fail
  go_ret
  exact ⟨rfl, HB1.out⟩
theorem varS_of {n : Int} (h : 0 ≤ n) : varS n = bs (varL n.toNat) := by unfold varS; rw [if_neg (by omega)]
theorem rrseal_any (r : Rec) (w : World) : Calls Tryz.prog 6 #[r.val] w fun e w' => e = .returned (.tuple #[.string (bs (sealR r).1), .int .i64 (sealR r).2]) ∧ Below w.heap.size w w' := by
  have hba : Below w.heap.size w (w.alloc (.cells r.cells 27)) := (Below.refl _ _).alloc (Nat.le_refl _) _
  have hbx := blk_new w (.cells r.cells 27)
  obtain ⟨x0, x1, x2, x3, x4, x5, x6, x7, x8, x9⟩ := rec_cells hbx
  have HB0 := Lib.hid hba
  have HX0 := Lib.hid hbx
  have CK := Lib.hid fun w' => rrcheck_any r w'
  clear hba hbx
  unfold Rec.cells at HB0 x0 x1 x2 x3 x4 x5 x6 x7 x8 x9
  unfold Rec.val at CK ⊢
  by_cases hck : checkR r = 0
  · rw [sealR_ok hck]
    rw [hck] at CK
    obtain ⟨h1, h2, h3, h4, h5⟩ := checkR_ok hck
    have PT := Lib.hid fun w' => rputE_any r.v w' (check_fits h5)
    have hpe : putE r.v = (bytesE r.v, 0) := by unfold putE; rw [if_pos h5]
    rw [hpe] at PT
    have V1 := Lib.hid fun w' => rvar_any r.s w' (by omega)
    have V2 := Lib.hid fun w' => rvar_any r.e w' (by omega)
    rw [varS_of (show 0 ≤ r.s by omega)] at V1
    rw [varS_of (show 0 ≤ r.e by omega)] at V2
    have hln := bodyR_len hck
    have hb3 : bs (varL r.s.toNat) ++ bs (varL r.e.toNat) ++ bs (bytesE r.v) = bs (bodyR r) := by
      rw [bs_append, bs_append]; unfold bodyR; rw [List.append_assoc]
    have hl3 : (varL r.s.toNat).length + ((varL r.e.toNat).length + (bytesE r.v).length) = (bodyR r).length := by unfold bodyR; rw [List.length_append, List.length_append]
    have SL := Lib.hid fun w' => rseal_any (bs (varL r.s.toNat) ++ bs (varL r.e.toNat) ++ bs (bytesE r.v)) w' (by rw [hb3, bs_size]; omega)
    have hsT : sealT (bs (bodyR r)) = bs (sealL (bodyR r)) := by unfold sealT; rw [if_neg (by rw [bs_size]; omega), bs_list]
    have hsE : sealE (bs (bodyR r)) = 0 := by unfold sealE; rw [if_neg (by rw [bs_size]; omega)]
    rw [hb3, hsT, hsE, ← hb3] at SL
    have z1 : (bs (varL r.s.toNat)).size ≤ 36 := by rw [bs_size]; omega
    have z2 : (bs (varL r.e.toNat)).size ≤ 36 := by rw [bs_size]; omega
    have z3 : (bs (bytesE r.v)).size ≤ 36 := by rw [bs_size]; omega
    have z4 : (bs (varL r.s.toNat) ++ bs (varL r.e.toNat)).size ≤ 72 := by rw [ByteArray.size_append]; omega
    unfold Evt.val at PT
    generalize bs (sealL (bodyR r)) = T at *
    generalize bs (varL r.s.toNat) = X at *
    generalize bs (varL r.e.toNat) = Y at *
    generalize bs (bytesE r.v) = Z at *
    clear hck h1 h2 h3 h4 h5 hpe hln hb3 hl3 hsT hsE
    go_enter Tryz.func6, Tryz.ntmps6
    go_wp2_with fail
    refine (CK.out _).mono ?_; rintro e w1 ⟨rfl, hB⟩
    have hx1 := blk_below hB HX0.out (lt_of_block HX0.out)
    have HX1 := Lib.hid hx1
    have HB1 := Lib.hid (HB0.out.trans (hB.mono HB0.out.size))
    obtain ⟨y0, y1, y2, y3, y4, y5, y6, y7, y8, y9⟩ := rec_cells hx1
    clear hB HX0 HB0 x0 x1 x2 x3 x4 x5 x6 x7 x8 x9 CK hx1
    go_wp2_with fail
    refine (PT.out _).mono ?_; rintro e w2 ⟨rfl, hB⟩
    have HX2 := Lib.hid (blk_below hB HX1.out (lt_of_block HX1.out))
    have HB2 := Lib.hid (HB1.out.trans (hB.mono HB1.out.size))
    clear hB HX1 HB1 y0 y1 y2 y3 y4 y5 y6 y7 y8 y9 PT
    go_wp2_with fail
    have HL := Lib.hid (show ∀ w', Below w2.heap.size w2 w' → w'.heap[w.heap.size]? = some (.cells r.cells 27 (0, 0)) from fun w' hb => blk_below hb HX2.out (lt_of_block HX2.out))
    refine wp_region_hold (fun w' => Below w2.heap.size w2 w') (by kernel_rfl) (by kernel_rfl) ⟨rfl, rfl, rfl, Nat.le_refl _, fun _ _ => rfl⟩ ?_
    repeat
      first
      | (refine hold_call (v := .string X) (by rfl) ?_ (fun w' hS => made_call hS (Nat.le_refl _) (V1.out w')) ?_
         · (intro w' hS; go_simp; done)
         simp only [Act.put, List.setIfInBounds_toArray, List.set_cons_zero, List.set_cons_succ])
      | (refine hold_call (v := .string Y) (by rfl) ?_ (fun w' hS => made_call hS (Nat.le_refl _) (V2.out w')) ?_
         · (intro w' hS; go_simp; done)
         simp only [Act.put, List.setIfInBounds_toArray, List.set_cons_zero, List.set_cons_succ])
      | (refine hold_call (v := .tuple #[.string T, .int .i64 0]) (by rfl) ?_ (fun w' hS => made_call hS (Nat.le_refl _) (SL.out w')) ?_
         · (intro w' hS; go_simp; done)
         simp only [Act.put, List.setIfInBounds_toArray, List.set_cons_zero, List.set_cons_succ])
      | (refine hold_val (v := .string (X ++ Y)) (by rfl) ?_ ?_
         · (intro w' hS; go_simp; omega)
         simp only [Act.put, List.setIfInBounds_toArray, List.set_cons_zero, List.set_cons_succ])
      | (refine hold_val (v := .string (X ++ Y ++ Z)) (by rfl) ?_ ?_
         · (intro w' hS; go_simp; omega)
         simp only [Act.put, List.setIfInBounds_toArray, List.set_cons_zero, List.set_cons_succ])
      | (refine hold_val (v := ?_) (by rfl) ?_ ?_
         rotate_left
         · (intro w' hS
            obtain ⟨y0, y1, y2, y3, y4, y5, y6, y7, y8, y9⟩ := rec_cells (HL.out w' hS)
            go_simp
            try with_reducible rfl)
         simp only [Act.put, List.setIfInBounds_toArray, List.set_cons_zero, List.set_cons_succ])
    refine hold_nil (fun w' hS => ?_)
    have HF := Lib.hid (HB2.out.trans (hS.mono HB2.out.size))
    clear hS
    go_wp2_with fail
    go_ret2
    exact ⟨rfl, HF.out⟩
  · rw [sealR_no hck]
    have dn : (checkR r != 0) = true := by simpa using hck
    generalize checkR r = q at *
    clear hck
    go_enter Tryz.func6, Tryz.ntmps6
    go_wp2_with fail
    refine (CK.out _).mono ?_; rintro e w1 ⟨rfl, hB⟩
    have HB1 := Lib.hid (HB0.out.trans (hB.mono HB0.out.size))
    clear hB HX0 HB0 x0 x1 x2 x3 x4 x5 x6 x7 x8 x9 CK
    go_wp2_with fail
    go_ret2
    exact ⟨rfl, HB1.out⟩
end Go.Proofs.YtgooepfhapaenaaGreat
/- What the document's own Open of records comes to. Conditions: texts of up to 100,000 bytes. -/
namespace Go.Proofs.YtgooepfhapaenaaGreat
open Go.ChangeShapes Go.WideShapes Go.ChangeAt Go.RowKit
set_option linter.unusedVariables false
set_option maxRecDepth 100000
set_option linter.unusedSimpArgs false
set_option maxHeartbeats 4000000

theorem openB_len (s : List UInt8) : (openB s).length ≤ 200 := by
  unfold openB
  split
  · rename_i h
    have := (openE_ok h).1
    rw [List.length_take, List.length_drop]
    omega
  · simp
/-- Where Open stands: the result's block and the empty record's. -/
structure OC (w0 w : World) : Prop where
  b0 : w.heap[w0.heap.size]? = some (.cells zeroR.cells 27 (0, 0))
  b1 : w.heap[w0.heap.size + 1]? = some (.cells zeroR.cells 27 (0, 0))
  bel : Below w0.heap.size w0 w
theorem OC.below {w0 w w' : World} (h : OC w0 w) (k : Below w.heap.size w w') : OC w0 w' := ⟨blk_below k h.b0 (lt_of_block h.b0), blk_below k h.b1 (lt_of_block h.b1), h.bel.trans (k.mono h.bel.size)⟩
theorem OC.fin {w0 w : World} (h : OC w0 w) (r : Rec) : (recW w w0.heap.size r).heap[w0.heap.size]? = some (.cells r.cells 27 (0, 0)) ∧ Below w0.heap.size w0 (recW w w0.heap.size r) :=
  ⟨rec_set h.b0, h.bel.trans ((rec_only w _ r).below (Nat.le_refl _) h.bel.size)⟩
theorem rropen_any (s : ByteArray) (w : World) (hs : s.size ≤ 100000) : Calls Tryz.prog 8 #[.string s] w fun e w' => e = .returned (.tuple #[(openR s.data.toList).1.val, .int .i64 (openR s.data.toList).2.1, .int .i64 (openR s.data.toList).2.2]) ∧ Below w.heap.size w w' := by
  have O0 : OC w ((w.alloc (.cells zeroR.cells 27)).alloc (.cells zeroR.cells 27)) := by
    have h1 := blk_new w (.cells zeroR.cells 27)
    have h2 := blk_new (w.alloc (.cells zeroR.cells 27)) (.cells zeroR.cells 27)
    rw [World.size_alloc] at h2
    exact ⟨blk_old _ h1, h2, ((Below.refl _ _).alloc (Nat.le_refl _) _).alloc (by simp) _⟩
  have HO0 := Lib.hid O0
  have OP := Lib.hid fun w' => ropen_any s w' (by omega)
  generalize hS : s.data.toList = S at *
  have hbl := openB_len S
  have CK := Lib.hid fun r w' => rrcheck_any r w'
  have TV := Lib.hid fun s w' (h : s.size ≤ 200) => rtakeVar_any s w' (by omega)
  have GE := Lib.hid fun s w' (h : s.size ≤ 200) => rgetE_any s w' (by omega)
  clear O0 hS
  unfold Rec.val
  unfold zeroR Rec.cells zeroE zero3 at HO0
  by_cases ho : openE S = 0
  case neg =>
    have HE := Lib.hid (open_bad ho)
    have dn : ((openE S : Int) != 0) = true := by
      have : ¬ ((openE S : Nat) : Int) = 0 := by omega
      simpa using this
    have hN : openN S = 0 := by unfold openN; rw [if_neg ho]
    rw [hN] at OP
    generalize openE S = q at *
    generalize bs (openB S) = B at *
    clear ho hN
    go_enter Tryz.func8, Tryz.ntmps8
    go_wp2_with fail
    refine (OP.out _).mono ?_; rintro e w1 ⟨rfl, hB⟩
    have H1 := Lib.hid (HO0.out.below hB)
    clear hB HO0
    obtain ⟨x0, x1, x2, x3, x4, x5, x6, x7, x8, x9⟩ := rec_cells H1.out.b1
    obtain ⟨y0, y1, y2, y3, y4, y5, y6, y7, y8, y9⟩ := rec_cells H1.out.b0
    obtain ⟨f0, f1, f2, f3, f4, f5, f6, f7, f8, f9⟩ := rec_free H1.out.b0
    go_wp2_with fail
    exact bodyPost_ret (results_c3 rfl rfl rfl rfl (H1.out.fin zeroR).1 Tryz.underlying27 rfl (by kernel_rfl)) rfl ⟨by rw [HE.out]; rfl, (H1.out.fin zeroR).2⟩
  have hoR : openR S = if errR (openB S) ≠ 0 then (zeroR, 0, errR (openB S)) else (madeR (openB S), openN S, 0) := by unfold openR; rw [if_neg (by simp [ho])]
  rw [ho] at OP
  generalize openN S = N at *
  generalize openB S = b at *
  have hbz : (bs b).size = b.length := bs_size b
  have T1 := Lib.hid fun w' => TV.out (bs b) w' (by omega)
  simp only [bs_list] at T1
  go_enter Tryz.func8, Tryz.ntmps8
  go_wp2_with fail
  refine (OP.out _).mono ?_; rintro e w1 ⟨rfl, hB⟩
  have H1 := Lib.hid (HO0.out.below hB)
  clear hB HO0 OP
  go_wp2_with fail
  refine (T1.out _).mono ?_; rintro e w2 ⟨rfl, hB⟩
  have H2 := Lib.hid (H1.out.below hB)
  clear hB H1 T1
  by_cases he1 : tvE b = 0
  case neg =>
    have HE := Lib.hid (show openR S = (zeroR, 0, ((tvE b : Nat) : Int)) by
      have : errR b = (tvE b : Nat) := by unfold errR; rw [if_pos he1]
      rw [hoR, this, if_pos (by omega)])
    have dn : ((tvE b : Int) != 0) = true := by
      have : ¬ ((tvE b : Nat) : Int) = 0 := by omega
      simpa using this
    generalize tvE b = q at *
    generalize tvV b = vv at *
    generalize tvM b = n at *
    generalize bs b = B at *
    clear he1
    obtain ⟨x0, x1, x2, x3, x4, x5, x6, x7, x8, x9⟩ := rec_cells H2.out.b1
    obtain ⟨y0, y1, y2, y3, y4, y5, y6, y7, y8, y9⟩ := rec_cells H2.out.b0
    obtain ⟨f0, f1, f2, f3, f4, f5, f6, f7, f8, f9⟩ := rec_free H2.out.b0
    go_wp2_with fail
    exact bodyPost_ret (results_c3 rfl rfl rfl rfl (H2.out.fin zeroR).1 Tryz.underlying27 rfl (by kernel_rfl)) rfl ⟨by rw [HE.out]; rfl, (H2.out.fin zeroR).2⟩
  rw [he1]
  have hn := tvM_le b
  have hnb : tvM b ≤ (bs b).size := by omega
  have hl2 : ((bs b).extract (tvM b) (bs b).size).data.toList = restR b := by
    rw [extract_list, bs_list, hbz, List.take_of_length_le (Nat.le_refl _)]; rfl
  have T2 := Lib.hid fun w' => TV.out ((bs b).extract (tvM b) (bs b).size) w' (by rw [ByteArray.size_extract]; omega)
  rw [hl2] at T2
  have hl3 : (restR b).length = b.length - tvM b := by unfold restR; rw [List.length_drop]
  have hm := tvM_le (restR b)
  have hmb : tvM b + tvM (restR b) ≤ (bs b).size := by omega
  have hl4 : ((bs b).extract (tvM b + tvM (restR b)) (bs b).size).data.toList = restR (restR b) := by
    rw [extract_list, bs_list, hbz, List.take_of_length_le (Nat.le_refl _)]
    unfold restR
    rw [List.drop_drop]
  have G3 := Lib.hid fun w' => GE.out ((bs b).extract (tvM b + tvM (restR b)) (bs b).size) w' (by rw [ByteArray.size_extract]; omega)
  rw [hl4] at G3
  have hbz2 : (bs b).size ≤ 200 := by omega
  clear hl2 hl3 hl4 hm hn TV GE hbz
  go_wp2_with fail
  refine (T2.out _).mono ?_; rintro e w3 ⟨rfl, hB⟩
  have H3 := Lib.hid (H2.out.below hB)
  clear hB H2 T2
  by_cases he2 : tvE (restR b) = 0
  case neg =>
    have HE := Lib.hid (show openR S = (zeroR, 0, ((tvE (restR b) : Nat) : Int)) by
      have : errR b = (tvE (restR b) : Nat) := by unfold errR; rw [if_neg (by simp [he1]), if_pos he2]
      rw [hoR, this, if_pos (by omega)])
    have dn : ((tvE (restR b) : Int) != 0) = true := by
      have : ¬ ((tvE (restR b) : Nat) : Int) = 0 := by omega
      simpa using this
    generalize tvE (restR b) = q at *
    generalize tvV (restR b) = vv2 at *
    generalize tvM (restR b) = m at *
    generalize tvV b = vv at *
    generalize tvM b = n at *
    generalize bs b = B at *
    clear he1 he2
    obtain ⟨x0, x1, x2, x3, x4, x5, x6, x7, x8, x9⟩ := rec_cells H3.out.b1
    obtain ⟨y0, y1, y2, y3, y4, y5, y6, y7, y8, y9⟩ := rec_cells H3.out.b0
    obtain ⟨f0, f1, f2, f3, f4, f5, f6, f7, f8, f9⟩ := rec_free H3.out.b0
    go_wp2_with fail
    exact bodyPost_ret (results_c3 rfl rfl rfl rfl (H3.out.fin zeroR).1 Tryz.underlying27 rfl (by kernel_rfl)) rfl ⟨by rw [HE.out]; rfl, (H3.out.fin zeroR).2⟩
  rw [he2]
  have hwr : IntKind.i64.wrap ((tvM b : Int) + (tvM (restR b) : Int)) = ((tvM b + tvM (restR b) : Nat) : Int) := by
    rw [IntWalk.i64_in _ (by omega)]; omega
  have hmr : madeR b = ⟨(tvV b : Nat), (tvV (restR b) : Nat), (getE (restR (restR b))).1⟩ := rfl
  have her : errR b = if (getE (restR (restR b))).2 ≠ 0 then (getE (restR (restR b))).2 else if checkR (madeR b) ≠ 0 then 1 else 0 := by
    unfold errR; rw [if_neg (by simp [he1]), if_neg (by simp [he2])]
  rw [hmr] at her
  rw [hmr, her] at hoR
  generalize (getE (restR (restR b))).1 = ev at *
  generalize (getE (restR (restR b))).2 = g at *
  generalize tvV (restR b) = vv2 at *
  generalize tvM (restR b) = m at *
  generalize tvV b = vv at *
  generalize tvM b = n at *
  clear hmr her he1 he2
  generalize bs b = B at *
  unfold Evt.val at G3
  go_wp2_with fail
  refine (G3.out _).mono ?_; rintro e w4 ⟨rfl, hB⟩
  have H4 := Lib.hid (H3.out.below hB)
  have H4a := Lib.hid (H4.out.below ((Below.refl _ _).alloc (Nat.le_refl _) (.cells ev.cells 25)))
  clear hB H3 G3
  by_cases hg : g = 0
  case neg =>
    have HE := Lib.hid (show openR S = (zeroR, 0, g) by rw [hoR, if_pos hg, if_pos hg])
    have dn : (g != 0) = true := by simpa using hg
    clear hg hoR
    obtain ⟨x0, x1, x2, x3, x4, x5, x6, x7, x8, x9⟩ := rec_cells H4a.out.b1
    obtain ⟨y0, y1, y2, y3, y4, y5, y6, y7, y8, y9⟩ := rec_cells H4a.out.b0
    obtain ⟨f0, f1, f2, f3, f4, f5, f6, f7, f8, f9⟩ := rec_free H4a.out.b0
    unfold Evt.cells at H4a x0 x1 x2 x3 x4 x5 x6 x7 x8 x9 y0 y1 y2 y3 y4 y5 y6 y7 y8 y9 f0 f1 f2 f3 f4 f5 f6 f7 f8 f9
    go_wp2_with fail
    exact bodyPost_ret (results_c3 rfl rfl rfl rfl (H4a.out.fin zeroR).1 Tryz.underlying27 rfl (by kernel_rfl)) rfl ⟨by rw [HE.out]; rfl, (H4a.out.fin zeroR).2⟩
  subst hg
  have hX := blk_new w4 (.cells ev.cells 25)
  obtain ⟨z0, z1, z2, z3, z4, z5, z6, z7⟩ := evt_cells hX
  have CR := Lib.hid (CK.out ⟨vv, vv2, ev⟩)
  have H5 := Lib.hid (H4a.out.below ((Below.refl _ _).alloc (Nat.le_refl _) (.cells (Rec.cells ⟨vv, vv2, ev⟩) 27)))
  have R5 := Lib.hid (blk_new (w4.alloc (.cells ev.cells 25)) (.cells (Rec.cells ⟨vv, vv2, ev⟩) 27))
  unfold Evt.cells at z0 z1 z2 z3 z4 z5 z6 z7 H5 R5
  unfold Rec.val at CR
  clear hX H4 H4a CK
  simp only [Rec.cells] at H5 R5
  rw [World.size_alloc] at R5
  go_wp2_with fail
  refine (CR.out _).mono ?_; rintro e w6 ⟨rfl, hB⟩
  have H6 := Lib.hid (H5.out.below hB)
  have R6 := Lib.hid (blk_below hB R5.out (lt_of_block R5.out))
  clear hB H5 R5 CR z0 z1 z2 z3 z4 z5 z6 z7
  obtain ⟨y0, y1, y2, y3, y4, y5, y6, y7, y8, y9⟩ := rec_cells H6.out.b0
  obtain ⟨f0, f1, f2, f3, f4, f5, f6, f7, f8, f9⟩ := rec_free H6.out.b0
  by_cases hc : checkR ⟨vv, vv2, ev⟩ = 0
  · have HE := Lib.hid (show openR S = (⟨vv, vv2, ev⟩, N, 0) by rw [hoR]; simp [hc])
    obtain ⟨x0, x1, x2, x3, x4, x5, x6, x7, x8, x9⟩ := rec_cells (r := ⟨vv, vv2, ev⟩) R6.out
    rw [hc]
    clear hc hoR
    go_wp2_with fail
    exact bodyPost_ret (results_c3 rfl rfl rfl rfl (H6.out.fin ⟨vv, vv2, ev⟩).1 Tryz.underlying27 rfl (by kernel_rfl)) rfl ⟨by rw [HE.out]; rfl, (H6.out.fin ⟨vv, vv2, ev⟩).2⟩
  · have HE := Lib.hid (show openR S = (zeroR, 0, 1) by rw [hoR]; simp [hc])
    have dn : (checkR ⟨vv, vv2, ev⟩ != 0) = true := by simpa using hc
    generalize checkR ⟨vv, vv2, ev⟩ = q at *
    obtain ⟨x0, x1, x2, x3, x4, x5, x6, x7, x8, x9⟩ := rec_cells H6.out.b1
    clear hc hoR
    go_wp2_with fail
    exact bodyPost_ret (results_c3 rfl rfl rfl rfl (H6.out.fin zeroR).1 Tryz.underlying27 rfl (by kernel_rfl)) rfl ⟨by rw [HE.out]; rfl, (H6.out.fin zeroR).2⟩
end Go.Proofs.YtgooepfhapaenaaGreat
