/- What the document's own Made, Pure of events come to. Conditions: numbers that an int holds; as many numbers as the kind has. -/
import Derived.Test.YtkahdmhgfojbiaaEvtR
import Derived.Test.YtkahdmhgfojbiaaHoldR
import Derived.Test.YtkahdmhgfojbiaaSetR
namespace Go.Proofs.Ytkahdmhgfojbiaa
open Go.ChangeShapes Go.WideShapes Go.ChangeAt Go.RowKit
set_option linter.unusedVariables false
set_option maxRecDepth 100000
set_option linter.unusedSimpArgs false
set_option maxHeartbeats 2000000

/-- An event's block, cell by cell. -/
theorem evt_cells {w : World} {b : Nat} {v : Evt} {t : TypeId} (h : w.heap[b]? = some (.cells v.cells t (0, 0))) : w.cell? ⟨b, 0, none⟩ = some (.int .i64 v.k) ∧ w.cell? ⟨b, 1, none⟩ = some (.int .i64 v.n) ∧ w.cell? ⟨b, 2, none⟩ = some (.int .i64 v.j) ∧ w.cell? ⟨b, 3, none⟩ = some (.int .i64 v.i) ∧ w.cell? ⟨b, 4, none⟩ = some (.int .i64 v.p) ∧ w.cell? ⟨b, 5, none⟩ = some (.int .i64 v.r.a) ∧ w.cell? ⟨b, 6, none⟩ = some (.int .i64 v.r.b) ∧ w.cell? ⟨b, 7, none⟩ = some (.int .i64 v.r.c) :=
  ⟨blk_cell h 0, blk_cell h 1, blk_cell h 2, blk_cell h 3, blk_cell h 4, blk_cell h 5, blk_cell h 6, blk_cell h 7⟩
theorem evt_free {w : World} {b : Nat} {v : Evt} {t : TypeId} (h : w.heap[b]? = some (.cells v.cells t (0, 0))) : w.frozen? ⟨b, 0, none⟩ = false ∧ w.frozen? ⟨b, 1, none⟩ = false ∧ w.frozen? ⟨b, 2, none⟩ = false ∧ w.frozen? ⟨b, 3, none⟩ = false ∧ w.frozen? ⟨b, 4, none⟩ = false ∧ w.frozen? ⟨b, 5, none⟩ = false ∧ w.frozen? ⟨b, 6, none⟩ = false ∧ w.frozen? ⟨b, 7, none⟩ = false :=
  ⟨blk_free h 0, blk_free h 1, blk_free h 2, blk_free h 3, blk_free h 4, blk_free h 5, blk_free h 6, blk_free h 7⟩
/-- An event's block written all over. -/
abbrev evtW (w : World) (b : Nat) (v : Evt) : World := setRow w b 0 v.row
theorem evt_set {w : World} {b : Nat} {u v : Evt} {t : TypeId} (h : w.heap[b]? = some (.cells u.cells t (0, 0))) : (evtW w b v).heap[b]? = some (.cells v.cells t (0, 0)) := setRow_all v.row h rfl
theorem evt_only (w : World) (b : Nat) (v : Evt) : Only b w (evtW w b v) := setRow_only b _ _ _
theorem manyE_take (ls : List UInt8) (m : Nat) (h : m < ls.length) : manyE (ls.take (m + 1)) = manyE (ls.take m) + wideE ls[m] ∧ manyE (ls.take m) + wideE ls[m] ≤ manyE ls := by
  have e1 : manyE (ls.take (m + 1)) = manyE (ls.take m) + wideE ls[m] := by
    unfold manyE
    rw [List.take_succ_eq_append_getElem h, List.map_append, List.sum_append]
    simp
  refine ⟨e1, ?_⟩
  rw [← e1]
  unfold manyE
  conv => rhs; rw [← List.take_append_drop (m + 1) ls, List.map_append, List.sum_append]
  omega
/-- A round of Made. -/
theorem fill_step {ls : List UInt8} {l : List Int} {ev x : Evt} {m : Nat} (h : m < ls.length) (hf : fillE (ls.drop m) (l.drop (manyE (ls.take m))) ev = x) : fillE (ls.drop (m + 1)) (l.drop (manyE (ls.take (m + 1)))) (putF ev ls[m] (l.drop (manyE (ls.take m)))) = x := by
  rw [List.drop_eq_getElem_cons h] at hf
  unfold fillE at hf
  rw [List.drop_drop] at hf
  rw [(manyE_take ls m h).1]
  exact hf
theorem rmade_any (k : Int) (l : List Int) (u : Value) (K : Nat → Prop) (w : World) (h : RdI w K u l) (hl : l.length = manyE (lettersE k)) :
    Calls Try.prog 23 #[.int .i64 k, u] w fun e w' => e = .returned (madeE k l).val ∧ Below w.heap.size w w' := by
  have C := Lib.hid (fun w' => rnames_any k w')
  have hlen : (lettersE k).length ≤ 3 := by rcases letters_cases k with ⟨_, e⟩ | ⟨_, e⟩ | ⟨_, e⟩ | ⟨_, e⟩ | ⟨_, e⟩ | ⟨_, e⟩ | ⟨_, e⟩ | ⟨_, e⟩ <;> rw [e] <;> decide
  have hmx : manyE (lettersE k) ≤ 9 := by rcases letters_cases k with ⟨_, e⟩ | ⟨_, e⟩ | ⟨_, e⟩ | ⟨_, e⟩ | ⟨_, e⟩ | ⟨_, e⟩ | ⟨_, e⟩ | ⟨_, e⟩ <;> rw [e] <;> decide
  have hf0 : fillE (lettersE k) l ⟨k, 0, 0, 0, 0, zero3⟩ = madeE k l := rfl
  generalize lettersE k = ls at *
  generalize madeE k l = x at *
  obtain ⟨A, c0, rfl, hc1, hc2⟩ := h.form
  have HR := Lib.hid h
  have H0 := Lib.hid hf0
  have HL := Lib.hid hl
  clear h hf0 hl
  go_enter Try.func23, Try.ntmps23
  go_wp2_with fail
  refine (C.out _).mono ?_; rintro e w1 ⟨rfl, hB⟩
  simp only [World.size_alloc] at hB
  have hs1 : w.heap.size + 2 ≤ w1.heap.size := by have := hB.size; simpa using this
  have hr4 : w1.heap[w.heap.size]? = some (.cells zeroE.cells 25 (0, 0)) := blk_below hB (blk_old _ (blk_new w _)) (by omega)
  have hr5 : w1.heap[w.heap.size + 1]? = some (.cells (Evt.cells ⟨k, 0, 0, 0, 0, zero3⟩) 25 (0, 0)) := by
    have := blk_new (w.alloc (.cells zeroE.cells 25)) (.cells (Evt.cells ⟨k, 0, 0, 0, 0, zero3⟩) 25)
    rw [World.size_alloc] at this
    exact blk_below hB this (by omega)
  have hB1 : Below w.heap.size w w1 := (((Below.refl _ _).alloc (Nat.le_refl _) _).alloc (by simp) _).trans (hB.mono (by omega))
  clear hB C
  have HR4 := Lib.hid hr4
  have HR5 := Lib.hid hr5
  have HB1 := Lib.hid hB1
  clear hr4 hr5 hB1
  go_wp2_with fail
  go_loopw [7, 8] (fun q i wr => ∃ (m : Nat) (ev : Evt), m ≤ ls.length ∧ i = .int .i64 m ∧ q = .int .i64 (manyE (ls.take m) : Nat) ∧ fillE (ls.drop m) (l.drop (manyE (ls.take m))) ev = x ∧ wr.heap[w.heap.size]? = some (.cells zeroE.cells 25 (0, 0)) ∧ wr.heap[w.heap.size + 1]? = some (.cells ev.cells 25 (0, 0)) ∧ Below w.heap.size w wr) (fun _ i _ => ls.length - (intOf i).toNat)
  case atStart => exact ⟨0, _, by omega, rfl, rfl, H0.out, HR4.out, HR5.out, HB1.out⟩
  case round =>
    obtain ⟨m, ev, hm, rfl, rfl, hf, h4, h5, hb⟩ := hrel
    by_cases hlt : m < ls.length
    · obtain ⟨hmt, hml⟩ := manyE_take ls m hlt
      have HFS := Lib.hid (fill_step hlt hf)
      obtain ⟨c, hc⟩ : ∃ c, ls[m] = c := ⟨_, rfl⟩
      have HIX := Lib.hid (letter_at ls m hlt c hc)
      rw [hc] at hmt hml
      have HFS2 := Lib.hid (show fillE (ls.drop (m + 1)) (l.drop (manyE (ls.take (m + 1)))) (putF ev c (l.drop (manyE (ls.take m)))) = x from by have := HFS.out; rwa [hc] at this)
      have HMT := Lib.hid hmt
      clear hf hc HFS
      have HRW := Lib.hid (HR.out.below hb)
      have HB := Lib.hid hb
      have H4 := Lib.hid h4
      have H5 := Lib.hid h5
      have hll : l.length ≤ 9 := by rw [HL.out]; exact hmx
      have hq : manyE (ls.take m) + wideE c ≤ l.length := by rw [HL.out]; exact hml
      have dk : decide (m < ls.length) = true := decide_eq_true hlt
      have HGD := Lib.hid (show ∀ q e, (l.drop q).getD e 0 = l.getD (q + e) 0 from fun q e => by rw [List.getD_eq_getElem?_getD, List.getD_eq_getElem?_getD, List.getElem?_drop])
      have hlc : l.length ≤ c0 := hc1
      clear hb h4 h5 hml
      generalize hqq : manyE (ls.take m) = q at *
      clear hqq
      have HCL := Lib.hid (show 0 < l.length → ∃ b o, A = some ⟨b, o, none⟩ ∧ b < w.heap.size ∧ ∀ e, e < l.length → wr.cell? ⟨b, o + e, none⟩ = some (.int .i64 (l.getD e 0)) from fun h0 => by
        obtain ⟨b, o, h1, h2, _, h4⟩ := HRW.out.at_ (k := 0) h0
        obtain ⟨b', o', h1', h2', _, _⟩ := HR.out.at_ (k := 0) h0
        rw [h1'] at h1; cases h1
        refine ⟨b, o, h1', h2', fun e he => ?_⟩
        rw [h4 e he, List.getD_eq_getElem?_getD, List.getElem?_eq_getElem he]; rfl)
      have hwr : w.heap.size ≤ wr.heap.size := HB.out.size
      rcases letter5 c with (rfl | rfl | rfl | rfl) | ⟨n1, n2, n3, n4⟩
      · have ix : ∀ w', (Instr.index 9 (.string (bs ls)) (.int .i64 (m : Int))).run Try.prog w' = .ok (.int .u8 78) w' := HIX.out
        have hq1 : q + 1 ≤ l.length := hq
        have HPF := Lib.hid (show putF ev 78 (l.drop q) = { ev with n := l.getD q 0 } by unfold putF; rw [if_pos rfl, HGD.out, Nat.add_zero])
        rw [HPF.out] at HFS2
        obtain ⟨b, o, rfl, hbw, hcl⟩ := HCL.out (by omega)
        have cq := hcl q (by omega)
        have dq0 : (0 : Int) ≤ (q : Int) ∧ (q : Int) < (l.length : Int) := by omega
        have dq1 : decide (q < l.length) = true := decide_eq_true (by omega)
        generalize hx : l.getD q 0 = y at *
        clear hx hcl
        have e1 : wr.cell? ⟨w.heap.size + 1, 1, none⟩ = some (.int .i64 ev.n) := blk_cell H5.out 1
        have f1 := blk_free H5.out 1
        go_wp2_with fail
        have H5' := Lib.hid (show (wr.setCell ⟨w.heap.size + 1, 1, none⟩ (.int .i64 y)).heap[w.heap.size + 1]? = some (.cells (Evt.cells { ev with n := y }) 25 (0, 0)) from blk_set H5.out 1 (.int .i64 y))
        have H4' := Lib.hid (blk_far (p := ⟨w.heap.size + 1, 1, none⟩) (.int .i64 y) H4.out (by simp))
        have HB' := Lib.hid (HB.out.setCell (p := ⟨w.heap.size + 1, 1, none⟩) (by simp) (.int .i64 y))
        go_roundw
        case rel => exact ⟨m + 1, { ev with n := y }, by omega, by go_num, by rw [HMT.out]; go_num; try rfl, HFS2.out, H4'.out, H5'.out, HB'.out⟩
        case measure => simp [intOf]; omega
      · have ix : ∀ w', (Instr.index 9 (.string (bs ls)) (.int .i64 (m : Int))).run Try.prog w' = .ok (.int .u8 73) w' := HIX.out
        have hq1 : q + 1 ≤ l.length := hq
        have HPF := Lib.hid (show putF ev 73 (l.drop q) = { ev with i := l.getD q 0 } by unfold putF; rw [if_neg (by decide), if_pos rfl, HGD.out, Nat.add_zero])
        rw [HPF.out] at HFS2
        obtain ⟨b, o, rfl, hbw, hcl⟩ := HCL.out (by omega)
        have cq := hcl q (by omega)
        have dq0 : (0 : Int) ≤ (q : Int) ∧ (q : Int) < (l.length : Int) := by omega
        have dq1 : decide (q < l.length) = true := decide_eq_true (by omega)
        generalize hx : l.getD q 0 = y at *
        clear hx hcl
        have e3 : wr.cell? ⟨w.heap.size + 1, 3, none⟩ = some (.int .i64 ev.i) := blk_cell H5.out 3
        have f3 := blk_free H5.out 3
        go_wp2_with fail
        have H5' := Lib.hid (show (wr.setCell ⟨w.heap.size + 1, 3, none⟩ (.int .i64 y)).heap[w.heap.size + 1]? = some (.cells (Evt.cells { ev with i := y }) 25 (0, 0)) from blk_set H5.out 3 (.int .i64 y))
        have H4' := Lib.hid (blk_far (p := ⟨w.heap.size + 1, 3, none⟩) (.int .i64 y) H4.out (by simp))
        have HB' := Lib.hid (HB.out.setCell (p := ⟨w.heap.size + 1, 3, none⟩) (by simp) (.int .i64 y))
        go_roundw
        case rel => exact ⟨m + 1, { ev with i := y }, by omega, by go_num, by rw [HMT.out]; go_num; try rfl, HFS2.out, H4'.out, H5'.out, HB'.out⟩
        case measure => simp [intOf]; omega
      · have ix : ∀ w', (Instr.index 9 (.string (bs ls)) (.int .i64 (m : Int))).run Try.prog w' = .ok (.int .u8 74) w' := HIX.out
        have hq1 : q + 1 ≤ l.length := hq
        have HPF := Lib.hid (show putF ev 74 (l.drop q) = { ev with j := l.getD q 0 } by unfold putF; rw [if_neg (by decide), if_neg (by decide), if_pos rfl, HGD.out, Nat.add_zero])
        rw [HPF.out] at HFS2
        obtain ⟨b, o, rfl, hbw, hcl⟩ := HCL.out (by omega)
        have cq := hcl q (by omega)
        have dq0 : (0 : Int) ≤ (q : Int) ∧ (q : Int) < (l.length : Int) := by omega
        have dq1 : decide (q < l.length) = true := decide_eq_true (by omega)
        generalize hx : l.getD q 0 = y at *
        clear hx hcl
        have e2 : wr.cell? ⟨w.heap.size + 1, 2, none⟩ = some (.int .i64 ev.j) := blk_cell H5.out 2
        have f2 := blk_free H5.out 2
        go_wp2_with fail
        have H5' := Lib.hid (show (wr.setCell ⟨w.heap.size + 1, 2, none⟩ (.int .i64 y)).heap[w.heap.size + 1]? = some (.cells (Evt.cells { ev with j := y }) 25 (0, 0)) from blk_set H5.out 2 (.int .i64 y))
        have H4' := Lib.hid (blk_far (p := ⟨w.heap.size + 1, 2, none⟩) (.int .i64 y) H4.out (by simp))
        have HB' := Lib.hid (HB.out.setCell (p := ⟨w.heap.size + 1, 2, none⟩) (by simp) (.int .i64 y))
        go_roundw
        case rel => exact ⟨m + 1, { ev with j := y }, by omega, by go_num, by rw [HMT.out]; go_num; try rfl, HFS2.out, H4'.out, H5'.out, HB'.out⟩
        case measure => simp [intOf]; omega
      · have ix : ∀ w', (Instr.index 9 (.string (bs ls)) (.int .i64 (m : Int))).run Try.prog w' = .ok (.int .u8 80) w' := HIX.out
        have hq1 : q + 1 ≤ l.length := hq
        have HPF := Lib.hid (show putF ev 80 (l.drop q) = { ev with p := l.getD q 0 } by unfold putF; rw [if_neg (by decide), if_neg (by decide), if_neg (by decide), if_pos rfl, HGD.out, Nat.add_zero])
        rw [HPF.out] at HFS2
        obtain ⟨b, o, rfl, hbw, hcl⟩ := HCL.out (by omega)
        have cq := hcl q (by omega)
        have dq0 : (0 : Int) ≤ (q : Int) ∧ (q : Int) < (l.length : Int) := by omega
        have dq1 : decide (q < l.length) = true := decide_eq_true (by omega)
        generalize hx : l.getD q 0 = y at *
        clear hx hcl
        have e4 : wr.cell? ⟨w.heap.size + 1, 4, none⟩ = some (.int .i64 ev.p) := blk_cell H5.out 4
        have f4 := blk_free H5.out 4
        go_wp2_with fail
        have H5' := Lib.hid (show (wr.setCell ⟨w.heap.size + 1, 4, none⟩ (.int .i64 y)).heap[w.heap.size + 1]? = some (.cells (Evt.cells { ev with p := y }) 25 (0, 0)) from blk_set H5.out 4 (.int .i64 y))
        have H4' := Lib.hid (blk_far (p := ⟨w.heap.size + 1, 4, none⟩) (.int .i64 y) H4.out (by simp))
        have HB' := Lib.hid (HB.out.setCell (p := ⟨w.heap.size + 1, 4, none⟩) (by simp) (.int .i64 y))
        go_roundw
        case rel => exact ⟨m + 1, { ev with p := y }, by omega, by go_num, by rw [HMT.out]; go_num; try rfl, HFS2.out, H4'.out, H5'.out, HB'.out⟩
        case measure => simp [intOf]; omega
      · have ix : ∀ w', (Instr.index 9 (.string (bs ls)) (.int .i64 (m : Int))).run Try.prog w' = .ok (.int .u8 (c.toNat : Int)) w' := HIX.out
        have d1 : ((c.toNat : Int) == 78) = false := toNat_ne n1
        have d2 : ((c.toNat : Int) == 73) = false := toNat_ne n2
        have d3 : ((c.toNat : Int) == 74) = false := toNat_ne n3
        have d4 : ((c.toNat : Int) == 80) = false := toNat_ne n4
        have hw3 : wideE c = 3 := by unfold wideE; rw [if_neg (by rintro (h | h | h | h) <;> contradiction)]
        rw [hw3] at hq
        have HPF := Lib.hid (show putF ev c (l.drop q) = { ev with r := ⟨l.getD q 0, l.getD (q + 1) 0, l.getD (q + 2) 0⟩ } by unfold putF; rw [if_neg n1, if_neg n2, if_neg n3, if_neg n4, HGD.out, HGD.out, HGD.out, Nat.add_zero])
        rw [HPF.out] at HFS2
        obtain ⟨b, o, rfl, hbw, hcl⟩ := HCL.out (by omega)
        have cq := hcl q (by omega)
        have cq1 := hcl (q + 1) (by omega)
        have cq2 := hcl (q + 2) (by omega)
        have dq0 : (0 : Int) ≤ (q : Int) ∧ (q : Int) < (l.length : Int) := by omega
        have dq1 : (0 : Int) ≤ (q : Int) + 1 ∧ (q : Int) + 1 < (l.length : Int) := by omega
        have dq2 : (0 : Int) ≤ (q : Int) + 2 ∧ (q : Int) + 2 < (l.length : Int) := by omega
        have dn0 : q < l.length := by omega
        have w1q : IntKind.i64.wrap ((q : Int) + 1) = (q : Int) + 1 := IntWalk.i64_in _ (by omega)
        have w2q : IntKind.i64.wrap ((q : Int) + 2) = (q : Int) + 2 := IntWalk.i64_in _ (by omega)
        have t1q : ((q : Int) + 1).toNat = q + 1 := by omega
        have t2q : ((q : Int) + 2).toNat = q + 2 := by omega
        generalize hx : l.getD q 0 = ya at *
        generalize hx1 : l.getD (q + 1) 0 = yb at *
        generalize hx2 : l.getD (q + 2) 0 = yc at *
        clear hx hx1 hx2 hcl
        have e5 : wr.cell? ⟨w.heap.size + 1, 5, none⟩ = some (.int .i64 ev.r.a) := blk_cell H5.out 5
        have f5 := blk_free H5.out 5
        have e6 : wr.cell? ⟨w.heap.size + 1, 6, none⟩ = some (.int .i64 ev.r.b) := blk_cell H5.out 6
        have f6 := blk_free H5.out 6
        have e7 : wr.cell? ⟨w.heap.size + 1, 7, none⟩ = some (.int .i64 ev.r.c) := blk_cell H5.out 7
        have f7 := blk_free H5.out 7
        go_wp2_with fail
        go_still_tail 16, (by kernel_rfl)
        change wpList _ _ _ _ _ wr.drew
        have H5b := Lib.hid (show wr.drew.heap[w.heap.size + 1]? = some (.cells ev.cells 25 (0, 0)) from H5.out)
        have H4b := Lib.hid (show wr.drew.heap[w.heap.size]? = some (.cells zeroE.cells 25 (0, 0)) from H4.out)
        have HBb := Lib.hid (HB.out.drew)
        clear e5 e6 e7 f5 f6 f7 HRW HCL H5 H4 HB cq cq1 cq2 hwr
        generalize wr.drew = w2 at *
        have e5 : w2.cell? ⟨w.heap.size + 1, 5, none⟩ = some (.int .i64 ev.r.a) := blk_cell H5b.out 5
        have f5 := blk_free H5b.out 5
        have e6 : w2.cell? ⟨w.heap.size + 1, 6, none⟩ = some (.int .i64 ev.r.b) := blk_cell H5b.out 6
        have f6 := blk_free H5b.out 6
        have e7 : w2.cell? ⟨w.heap.size + 1, 7, none⟩ = some (.int .i64 ev.r.c) := blk_cell H5b.out 7
        have f7 := blk_free H5b.out 7
        go_wp2_with fail
        have H5c := Lib.hid (blk_set (blk_set (blk_set H5b.out 5 (.int .i64 ya)) 6 (.int .i64 yb)) 7 (.int .i64 yc))
        have H4c := Lib.hid (blk_far (p := ⟨w.heap.size + 1, 7, none⟩) (.int .i64 yc) (blk_far (p := ⟨w.heap.size + 1, 6, none⟩) (.int .i64 yb) (blk_far (p := ⟨w.heap.size + 1, 5, none⟩) (.int .i64 ya) H4b.out (by simp)) (by simp)) (by simp))
        have HBc := Lib.hid (((HBb.out.setCell (p := ⟨w.heap.size + 1, 5, none⟩) (by simp) (.int .i64 ya)).setCell (p := ⟨w.heap.size + 1, 6, none⟩) (by simp) (.int .i64 yb)).setCell (p := ⟨w.heap.size + 1, 7, none⟩) (by simp) (.int .i64 yc))
        go_roundw
        case rel => exact ⟨m + 1, { ev with r := ⟨ya, yb, yc⟩ }, by omega, by go_num, by rw [HMT.out, hw3]; go_num; try rfl, HFS2.out, H4c.out, H5c.out, HBc.out⟩
        case measure => simp [intOf]; omega
    · obtain rfl : m = ls.length := by omega
      have dk : decide (ls.length < ls.length) = false := decide_eq_false (by omega)
      rw [List.drop_of_length_le (Nat.le_refl _)] at hf
      have hfx : ev = x := hf
      subst hfx
      have HB := Lib.hid hb
      have H5 := Lib.hid h5
      have H4 := Lib.hid h4
      obtain ⟨e0, e1, e2, e3, e4, e5, e6, e7⟩ := evt_cells h5
      obtain ⟨g0, g1, g2, g3, g4, g5, g6, g7⟩ := evt_cells h4
      obtain ⟨f0, f1, f2, f3, f4, f5, f6, f7⟩ := evt_free h4
      clear h4 h5 hb hf
      go_wp2_with fail
      all_goals exact bodyPost_ret (results_ce rfl rfl (evt_set (v := ev) H4.out) Try.underlying25 rfl (by kernel_rfl)) rfl ⟨rfl, HB.out.trans ((evt_only wr w.heap.size ev).below (Nat.le_refl _) HB.out.size)⟩
end Go.Proofs.Ytkahdmhgfojbiaa
