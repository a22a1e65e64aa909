/- What the document's own Pure, Check of events come to. Conditions: numbers that an int holds. -/
import Derived.Test.YtkahdmhgfojbiaaEvtS
import Derived.Test.YtkahdmhgfojbiaaHoldV
import Derived.Test.YtkahdmhgfojbiaaHoldT
import Derived.Test.YtkahdmhgfojbiaaResRef
import Derived.Laws.StructEq
namespace Go.Proofs.Ytkahdmhgfojbiaa
open Go.ChangeShapes Go.WideShapes Go.ChangeAt Go.RowKit
set_option linter.unusedVariables false
set_option maxRecDepth 100000
set_option linter.unusedSimpArgs false
set_option maxHeartbeats 2000000

theorem eqRes_run (w : World) (v u : V3) :
    (Op.equalIn 9999 23 (.agg #[.int .i64 v.a, .int .i64 v.b, .int .i64 v.c]) (.agg #[.int .i64 u.a, .int .i64 u.b, .int .i64 u.c])).run Try.prog w = .ok (eq3 v u) w := by
  obtain ⟨i, hi, hz0, hz1, hz2⟩ := info_parts infoI64
  have h := run_equalIn_array (P := Try.prog) (w := w) 9998 (t := 23) (e := 3) (n := 3) #[.int .i64 v.a, .int .i64 v.b, .int .i64 v.c] #[.int .i64 u.a, .int .i64 u.b, .int .i64 u.c] (by kernel_rfl) hi
  rw [show Try.prog.cellsOf 3 = 1 by kernel_rfl, show List.range 3 = [0, 1, 2] from rfl] at h
  refine Eq.trans h ?_
  have hu : Try.prog.underlying 3 = some (.int .i64) := Try.underlying3
  unfold eq3
  cases h1 : v.a == u.a <;> cases h2 : v.b == u.b <;> cases h3 : v.c == u.c <;>
  simp [Op.eqItems, part, go_sem, hi, hz1, hu, h1, h2, h3]
theorem infoRes : ∃ i, Try.prog.info? 23 = some i ∧ i.size = 3 := by
  have h : (Try.prog.info? 23).map (fun i => i.size) = some 3 := by kernel_rfl
  cases hi : Try.prog.info? 23 with
  | none => rw [hi] at h; cases h
  | some i => rw [hi] at h; exact ⟨i, rfl, by simpa using h⟩
theorem eqE_run (w : World) (a b : Evt) :
    (Op.equalIn 10000 25 (.agg #[.int .i64 a.k, .int .i64 a.n, .int .i64 a.j, .int .i64 a.i, .int .i64 a.p, .int .i64 a.r.a, .int .i64 a.r.b, .int .i64 a.r.c]) (.agg #[.int .i64 b.k, .int .i64 b.n, .int .i64 b.j, .int .i64 b.i, .int .i64 b.p, .int .i64 b.r.a, .int .i64 b.r.b, .int .i64 b.r.c])).run Try.prog w = .ok (eqE a b) w := by
  have hu : Try.prog.underlying 3 = some (.int .i64) := Try.underlying3
  have hf : Try.prog.underlying 25 = some (.struct (Try.prog.fieldsOf 25)) := by kernel_rfl
  obtain ⟨i, hi, hz0, hz1, hz2⟩ := info_parts infoI64
  obtain ⟨ir, hir, hr1⟩ := infoRes
  have hr := eqRes_run w a.r b.r
  rw [run_equalIn_agg w 9999 25 _ _ hf (by kernel_rfl)]
  unfold eqE
  have hag : (isAgg 23).run Try.prog w = .ok true w := by kernel_rfl
  cases h1 : a.k == b.k
  · simp [Op.eqFields, Program.fieldsOf, Try.underlying25, part, go_sem, hi, hz1, hu, h1]
  cases h2 : a.n == b.n
  · simp [Op.eqFields, Program.fieldsOf, Try.underlying25, part, go_sem, hi, hz1, hu, h1, h2]
  cases h3 : a.j == b.j
  · simp [Op.eqFields, Program.fieldsOf, Try.underlying25, part, go_sem, hi, hz1, hu, h1, h2, h3]
  cases h4 : a.i == b.i
  · simp [Op.eqFields, Program.fieldsOf, Try.underlying25, part, go_sem, hi, hz1, hu, h1, h2, h3, h4]
  cases h5 : a.p == b.p
  · simp [Op.eqFields, Program.fieldsOf, Try.underlying25, part, go_sem, hi, hz1, hu, h1, h2, h3, h4, h5]
  simp [Op.eqFields, Program.fieldsOf, Try.underlying25, part, go_sem, hi, hz1, hir, hr1, hu, hag, h1, h2, h3, h4, h5, hr]
  cases eq3 a.r b.r <;> rfl
/-- Pure's region that draws: what holds where so many of the chain have come up. -/
def PuC (w0 : World) (v x : Evt) (p : Nat) (w : World) : Prop :=
  w.heap[w0.heap.size]? = some (.cells v.cells 25 (0, 0)) ∧ Below w0.heap.size w0 w ∧ (p ≤ 2 → w.heap[w0.heap.size + 1]? = some (.cells zeroE.cells 25 (0, 0))) ∧ (3 ≤ p → w.heap[w0.heap.size + 1]? = some (.cells x.cells 25 (0, 0)))
theorem rpure_any (v : Evt) (w : World) : Calls Try.prog 11 #[v.val] w fun e w' => e = .returned (pureE v).val ∧ Below w.heap.size w w' := by
  have C := Lib.hid (fun w' => rnames_any v.k w')
  have CN := Lib.hid (fun w' => rnumbers_any v w')
  have CM := Lib.hid (fun u K w' h => rmade_any v.k (numsE v (lettersE v.k)) u K w' h (numsE_len v v.k))
  have HP := Lib.hid (show lettersE v.k ≠ [] → pureE v = madeE v.k (numsE v (lettersE v.k)) from fun h => by unfold pureE; rw [if_neg h])
  have HP0 := Lib.hid (show lettersE v.k = [] → pureE v = zeroE from fun h => by unfold pureE; rw [if_pos h])
  generalize madeE v.k (numsE v (lettersE v.k)) = x at *
  generalize numsE v (lettersE v.k) = ns at *
  have hun : undef = Value.tuple #[] := rfl
  cases hl : lettersE v.k with
  | nil =>
    rw [HP0.out hl]
    rw [hl] at C
    have deq : (bs []).toList.isEmpty = true := by rw [bs_toList]; rfl
    clear hl HP HP0 CN CM
    unfold Evt.val
    go_enter Try.func11, Try.ntmps11
    go_wp2_with fail
    refine (C.out _).mono ?_; rintro e w1 ⟨rfl, hB⟩
    simp only [World.size_alloc] at hB
    have hr5 : w1.heap[w.heap.size + 1]? = some (.cells zeroE.cells 25 (0, 0)) := by
      have := blk_new (w.alloc (.cells v.cells 25)) (.cells zeroE.cells 25)
      rw [World.size_alloc] at this
      exact blk_below hB this (by omega)
    have HB1 := Lib.hid (show Below w.heap.size w w1 from (((Below.refl _ _).alloc (Nat.le_refl _) _).alloc (by simp) _).trans (hB.mono (by omega)))
    have HR5 := Lib.hid hr5
    obtain ⟨e0, e1, e2, e3, e4, e5, e6, e7⟩ := evt_cells hr5
    obtain ⟨f0, f1, f2, f3, f4, f5, f6, f7⟩ := evt_free hr5
    clear hB hr5
    go_wp2_with fail
    all_goals exact bodyPost_ret (results_ce rfl rfl (evt_set (v := zeroE) HR5.out) Try.underlying25 rfl (by kernel_rfl)) rfl ⟨rfl, HB1.out.trans ((evt_only w1 (w.heap.size + 1) zeroE).below (by omega) HB1.out.size)⟩
  | cons c0 cr =>
    have hne : lettersE v.k ≠ [] := by rw [hl]; simp
    rw [HP.out hne]
    rw [hl] at C
    have deq : (bs (c0 :: cr)).toList.isEmpty = false := by rw [bs_toList]; rfl
    clear hl HP HP0 hne
    unfold Evt.val
    go_enter Try.func11, Try.ntmps11
    go_wp2_with fail
    refine (C.out _).mono ?_; rintro e w1 ⟨rfl, hB⟩
    simp only [World.size_alloc] at hB
    have hr4 : w1.heap[w.heap.size]? = some (.cells v.cells 25 (0, 0)) := blk_below hB (blk_old _ (blk_new w _)) (by omega)
    have hr5 : w1.heap[w.heap.size + 1]? = some (.cells zeroE.cells 25 (0, 0)) := by
      have := blk_new (w.alloc (.cells v.cells 25)) (.cells zeroE.cells 25)
      rw [World.size_alloc] at this
      exact blk_below hB this (by omega)
    have hB1 : Below w.heap.size w w1 := (((Below.refl _ _).alloc (Nat.le_refl _) _).alloc (by simp) _).trans (hB.mono (by omega))
    have HS := Lib.hid (show PuC w v x 0 w1.drew from ⟨hr4, hB1.drew, fun _ => hr5, fun h => by omega⟩)
    clear hB hr4 hr5 hB1 C
    go_wp2_with fail
    refine wp_region_holdP [3, 4, 5] (PuC w v x) (by kernel_rfl) (by kernel_rfl) HS.out ?_
    refine holdP_val (v := .pointer (some ⟨w.heap.size, 0, none⟩)) (by rfl) (by rfl) (fun p w' hC => by go_simp) ?_
    simp only [Act.put, List.setIfInBounds_toArray, List.set_cons_zero, List.set_cons_succ]
    refine holdP_val (v := .int .i64 v.k) (by rfl) (by rfl) (fun p w' hC => by
      have e0 := (evt_cells hC.1).1
      go_simp) ?_
    simp only [Act.put, List.setIfInBounds_toArray, List.set_cons_zero, List.set_cons_succ]
    refine holdP_val (v := v.val) (by rfl) (by rfl) (fun p w' hC => by
      obtain ⟨e0, e1, e2, e3, e4, e5, e6, e7⟩ := evt_cells hC.1
      unfold Evt.val
      go_simp) ?_
    simp only [Act.put, List.setIfInBounds_toArray, List.set_cons_zero, List.set_cons_succ]
    refine holdP_some (f := 19) (args := #[v.val]) 0 (fun u p w' => p ≤ 1 → RdI w' (fun b => w.heap.size ≤ b) u ns) rfl (by rfl) (fun w' hC => by go_simp) (fun w' hC => ?_) (fun u => ?_)
    · have hsz : w.heap.size + 1 < w'.heap.size := lt_of_block (hC.2.2.1 (by omega))
      refine (CN.out w').mono fun e w2 hh => ?_
      obtain ⟨u, he, hr, hb⟩ := hh
      exact ⟨u, he, ⟨blk_below hb hC.1 (by omega), hC.2.1.trans (hb.mono (by omega)), fun _ => blk_below hb (hC.2.2.1 (by omega)) hsz, fun h => by omega⟩, fun _ => hr.imp fun b hb _ => by omega⟩
    simp only [Act.put, List.setIfInBounds_toArray, List.set_cons_zero, List.set_cons_succ]
    refine holdP_call (v := x.val) (f := 23) (args := #[.int .i64 v.k, u]) 1 rfl (by rfl) (fun w' hC => by go_simp) (fun w' hC => ?_) ?_
    · obtain ⟨hC, hu⟩ := hC
      have hsz : w.heap.size + 1 < w'.heap.size := lt_of_block (hC.2.2.1 (by omega))
      refine (CM.out u _ w' (hu (by omega) (by omega))).mono fun e w2 hh => ?_
      obtain ⟨he, hb⟩ := hh
      exact ⟨he, ⟨⟨blk_below hb hC.1 (by omega), hC.2.1.trans (hb.mono (by omega)), fun _ => blk_below hb (hC.2.2.1 (by omega)) hsz, fun h => by omega⟩, fun _ h => by omega⟩⟩
    simp only [Act.put, List.setIfInBounds_toArray, List.set_cons_zero, List.set_cons_succ]
    refine holdP_store 2 rfl (by rfl) (fun w' hC => ?_) ?_
    · have hr := hC.1.2.2.1 (by omega)
      obtain ⟨e0, e1, e2, e3, e4, e5, e6, e7⟩ := evt_cells hr
      obtain ⟨f0, f1, f2, f3, f4, f5, f6, f7⟩ := evt_free hr
      refine ⟨evtW w' (w.heap.size + 1) x, ?_, ⟨⟨(evt_only w' _ x).old hC.1.1 (by omega), hC.1.2.1.trans ((evt_only w' _ x).below (by omega) hC.1.2.1.size), fun h => by omega, fun _ => evt_set hr⟩, fun _ h => by omega⟩⟩
      unfold Evt.val
      go_simp
      rfl
    simp only [Act.put, List.setIfInBounds_toArray, List.set_cons_zero, List.set_cons_succ]
    refine holdP_nil (fun w3 hC => ?_)
    have HX := Lib.hid (hC.1.2.2.2 (by decide))
    have HB := Lib.hid hC.1.2.1
    clear hC
    go_wp2_with fail
    exact bodyPost_ret (results_ce rfl rfl HX.out Try.underlying25 rfl (by kernel_rfl)) rfl ⟨rfl, HB.out⟩
theorem then_qe {K : Act → World → Prop} {Q : Exit → Act → World → Prop} {a : Act} {w : World} (h : K a w) : Exit.then K Q .normal a w := h
theorem neE_run (w : World) (a b : Evt) : (binOp .neq 25 a.val b.val).run Try.prog w = .ok (.bool (!eqE a b)) w := by
  unfold Evt.val
  rw [run_neq_struct, eqE_run]
  rfl
theorem neE_guard (w : World) (a b : Evt) (x y : Operand) : (eqGuard .neq 25 x y a.val b.val).run Try.prog w = .ok () w := run_eqGuard_agg w .neq 25 x y _ _ (by kernel_rfl)
theorem letters_mem (k : Int) : ∀ c ∈ lettersE k, c = 78 ∨ c = 73 ∨ c = 74 ∨ c = 80 ∨ c = 82 := by
  rcases letters_cases k with ⟨_, e⟩ | ⟨_, e⟩ | ⟨_, e⟩ | ⟨_, e⟩ | ⟨_, e⟩ | ⟨_, e⟩ | ⟨_, e⟩ | ⟨_, e⟩ <;> rw [e] <;> decide
theorem rcheck_any (v : Evt) (w : World) : Calls Try.prog 9 #[v.val] w fun e w' => e = .returned (.int .i64 (checkE v)) ∧ Below w.heap.size w w' := by
  have C := Lib.hid (fun w' => rnames_any v.k w')
  have CP := Lib.hid (fun w' => rpure_any v w')
  have CR := Lib.hid (fun w' => r8right_any v.r w')
  have hlm := letters_mem v.k
  have hlen : (lettersE v.k).length ≤ 3 := by rcases letters_cases v.k with ⟨_, e⟩ | ⟨_, e⟩ | ⟨_, e⟩ | ⟨_, e⟩ | ⟨_, e⟩ | ⟨_, e⟩ | ⟨_, e⟩ | ⟨_, e⟩ <;> rw [e] <;> decide
  have HC0 := Lib.hid (show lettersE v.k = [] → checkE v = 5 from fun h => by unfold checkE; rw [if_pos h])
  have HC1 := Lib.hid (show ∀ c ∈ lettersE v.k, okFv v c = false → checkE v = 1 from fun c hc h => by
    unfold checkE
    rw [if_neg (by intro q; rw [q] at hc; cases hc), if_pos (by
      cases ha : (lettersE v.k).all (okFv v) with
      | false => rfl
      | true => rw [List.all_eq_true.1 ha c hc] at h; cases h)])
  have HC2 := Lib.hid (show lettersE v.k ≠ [] → (lettersE v.k).all (okFv v) = true → checkE v = if eqE (pureE v) v = false then 1 else 0 from fun h1 h2 => by
    unfold checkE
    rw [if_neg h1, if_neg (by rw [h2]; simp)])
  generalize checkE v = r at *
  generalize pureE v = x at *
  generalize lettersE v.k = ls at *
  have hun : undef = Value.tuple #[] := rfl
  by_cases hl : ls = []
  · subst hl
    have h5 := HC0.out rfl
    subst h5
    have deq : (bs []).toList.isEmpty = true := by rw [bs_toList]; rfl
    clear HC0 HC1 HC2 CP CR hlm
    unfold Evt.val
    go_enter Try.func9, Try.ntmps9
    go_wp2_with fail
    refine (C.out _).mono ?_; rintro e w1 ⟨rfl, hB⟩
    have HB := Lib.hid (show Below w.heap.size w w1 from ((Below.refl _ _).alloc (Nat.le_refl _) _).trans (hB.mono (by simp)))
    clear hB
    go_wp2_with fail
    go_ret
    exact ⟨rfl, HB.out⟩
  · have deq : (bs ls).toList.isEmpty = false := by rw [bs_toList]; cases ls with | nil => exact absurd rfl hl | cons _ _ => rfl
    clear hun
    unfold Evt.val
    go_enter Try.func9, Try.ntmps9
    go_wp2_with fail
    refine (C.out _).mono ?_; rintro e w1 ⟨rfl, hB⟩
    rw [World.size_alloc] at hB
    have hbx : w1.heap[w.heap.size]? = some (.cells v.cells 25 (0, 0)) := blk_below hB (blk_new w _) (by omega)
    have HB1 := Lib.hid (show Below w.heap.size w w1 from ((Below.refl _ _).alloc (Nat.le_refl _) _).trans (hB.mono (by omega)))
    have HBX := Lib.hid hbx
    clear hB hbx C
    go_wp2_with fail
    go_loopw [4] (fun i wr => ∃ m : Nat, m ≤ ls.length ∧ i = .int .i64 m ∧ (ls.take m).all (okFv v) = true ∧ wr.heap[w.heap.size]? = some (.cells v.cells 25 (0, 0)) ∧ Below w.heap.size w wr) (fun i _ => ls.length - (intOf i).toNat)
    case atStart => exact ⟨0, by omega, rfl, rfl, HBX.out, HB1.out⟩
    case round =>
      obtain ⟨m, hm, rfl, hall, hbx, hb⟩ := hrel
      have HB := Lib.hid hb
      have HX := Lib.hid hbx
      obtain ⟨e0, e1, e2, e3, e4, e5, e6, e7⟩ := evt_cells hbx
      have hwr : w.heap.size < wr.heap.size := lt_of_block hbx
      by_cases hlt : m < ls.length
      · have dk : decide (m < ls.length) = true := decide_eq_true hlt
        have dks : decide (m < (bs ls).size) = true := by rw [bs_size]; exact dk
        have hun : undef = Value.tuple #[] := rfl
        obtain ⟨c, hc⟩ : ∃ c, ls[m] = c := ⟨_, rfl⟩
        have HIX := Lib.hid (letter_at ls m hlt c hc)
        have hcm : c ∈ ls := by rw [← hc]; exact List.getElem_mem hlt
        have HNO := Lib.hid (HC1.out c hcm)
        have HYES := Lib.hid (show okFv v c = true → (ls.take (m + 1)).all (okFv v) = true from fun h => by
          rw [List.take_succ_eq_append_getElem hlt, List.all_append, hall, hc]; simp [h])
        have h5 := hlm c hcm
        have HL0 := Lib.hid (show ∀ w', Below wr.heap.size wr w' → w'.cell? ⟨w.heap.size, 1, none⟩ = some (.int .i64 v.n) ∧ w'.cell? ⟨w.heap.size, 2, none⟩ = some (.int .i64 v.j) ∧ w'.cell? ⟨w.heap.size, 3, none⟩ = some (.int .i64 v.i) ∧ w'.cell? ⟨w.heap.size, 4, none⟩ = some (.int .i64 v.p) ∧ w'.cell? ⟨w.heap.size, 5, none⟩ = some (.int .i64 v.r.a) ∧ w'.cell? ⟨w.heap.size, 6, none⟩ = some (.int .i64 v.r.b) ∧ w'.cell? ⟨w.heap.size, 7, none⟩ = some (.int .i64 v.r.c) from fun w' hw => (evt_cells (blk_below hw HX.out hwr)).2)
        have HL := HL0
        clear hall hb hbx hlm HC0 HC1 HC2 hcm hc e0 e1 e2 e3 e4 e5 e6 e7 HL0
        rcases h5 with rfl | rfl | rfl | rfl | rfl
        · have ix : ∀ w', (Instr.index 9 (.string (bs ls)) (.int .i64 (m : Int))).run Try.prog w' = .ok (.int .u8 78) w' := HIX.out
          have HOK := Lib.hid (show okFv v 78 = (decide (0 ≤ v.n) && decide (v.n ≤ 15)) by unfold okFv; rw [if_pos rfl])
          rw [HOK.out] at HNO HYES
          generalize v.n = y at *
          by_cases hy0 : y < 0
          · have hr := HNO.out (by rw [decide_eq_false (by omega)]; rfl)
            have q0 : decide (y < 0) = true := decide_eq_true hy0
            subst hr
            clear hy0
            refine wp_seq (wp_seq (wp_region_holdN (fun w' => Below wr.heap.size wr w') (Below.refl _ _) ?_))
            repeat
              first
              | (refine holdN_skip (by rfl) ?_
                 simp only [Act.put, List.setIfInBounds_toArray, List.set_cons_zero, List.set_cons_succ])
              | (refine holdN_val (v := ?_) (by rfl) ?_ ?_
                 rotate_left
                 · (intro w' hS
                    obtain ⟨e1, e2, e3, e4, e5, e6, e7⟩ := HL.out w' hS
                    go_simp
                    try with_reducible rfl)
                 simp only [Act.put, List.setIfInBounds_toArray, List.set_cons_zero, List.set_cons_succ])
            refine holdN_nil ?_
            intro w5 hS5
            refine then_qe (wp_cond_true (by rfl) (wp_skip (then_qe (wp_seq (wp_block (wp_seq (wp_region_holdN (fun w' => Below wr.heap.size wr w') hS5 ?_)))))))
            repeat
              first
              | (refine holdN_skip (by rfl) ?_
                 simp only [Act.put, List.setIfInBounds_toArray, List.set_cons_zero, List.set_cons_succ])
              | (refine holdN_val (v := ?_) (by rfl) ?_ ?_
                 rotate_left
                 · (intro w' hS
                    obtain ⟨e1, e2, e3, e4, e5, e6, e7⟩ := HL.out w' hS
                    go_simp
                    try with_reducible rfl)
                 simp only [Act.put, List.setIfInBounds_toArray, List.set_cons_zero, List.set_cons_succ])
            refine holdN_nil ?_
            intro w6 hS6
            have HB6 := Lib.hid (HB.out.trans (hS6.mono (by omega)))
            have HX6 := Lib.hid (blk_below hS6 HX.out hwr)
            clear hS6 hS5
            go_wp2_with fail
            go_ret
            exact ⟨rfl, HB6.out⟩
          · by_cases hy1 : y > 15
            · have hr := HNO.out (by rw [decide_eq_false (show ¬ y ≤ 15 by omega), Bool.and_false])
              have q0 : decide (y < 0) = false := decide_eq_false hy0
              have q1 : decide (y > 15) = true := decide_eq_true hy1
              have q2 : decide (15 < y) = true := decide_eq_true hy1
              subst hr
              clear hy0 hy1
              refine wp_seq (wp_seq (wp_region_holdN (fun w' => Below wr.heap.size wr w') (Below.refl _ _) ?_))
              repeat
                first
                | (refine holdN_skip (by rfl) ?_
                   simp only [Act.put, List.setIfInBounds_toArray, List.set_cons_zero, List.set_cons_succ])
                | (refine holdN_val (v := ?_) (by rfl) ?_ ?_
                   rotate_left
                   · (intro w' hS
                      obtain ⟨e1, e2, e3, e4, e5, e6, e7⟩ := HL.out w' hS
                      go_simp
                      try with_reducible rfl)
                   simp only [Act.put, List.setIfInBounds_toArray, List.set_cons_zero, List.set_cons_succ])
              refine holdN_nil ?_
              intro w5 hS5
              refine then_qe (wp_cond_true (by rfl) (wp_skip (then_qe (wp_seq (wp_block (wp_seq (wp_region_holdN (fun w' => Below wr.heap.size wr w') hS5 ?_)))))))
              repeat
                first
                | (refine holdN_skip (by rfl) ?_
                   simp only [Act.put, List.setIfInBounds_toArray, List.set_cons_zero, List.set_cons_succ])
                | (refine holdN_val (v := ?_) (by rfl) ?_ ?_
                   rotate_left
                   · (intro w' hS
                      obtain ⟨e1, e2, e3, e4, e5, e6, e7⟩ := HL.out w' hS
                      go_simp
                      try with_reducible rfl)
                   simp only [Act.put, List.setIfInBounds_toArray, List.set_cons_zero, List.set_cons_succ])
              refine holdN_nil ?_
              intro w6 hS6
              have HB6 := Lib.hid (HB.out.trans (hS6.mono (by omega)))
              have HX6 := Lib.hid (blk_below hS6 HX.out hwr)
              clear hS6 hS5
              go_wp2_with fail
              go_ret
              exact ⟨rfl, HB6.out⟩
            · have hall2 := HYES.out (by rw [decide_eq_true (show 0 ≤ y by omega), decide_eq_true (show y ≤ 15 by omega)]; rfl)
              have q0 : decide (y < 0) = false := decide_eq_false hy0
              have q1 : decide (y > 15) = false := decide_eq_false hy1
              have q2 : decide (15 < y) = false := decide_eq_false hy1
              have HA := Lib.hid hall2
              clear hy0 hy1 hall2
              refine wp_seq (wp_seq (wp_region_holdN (fun w' => Below wr.heap.size wr w') (Below.refl _ _) ?_))
              repeat
                first
                | (refine holdN_skip (by rfl) ?_
                   simp only [Act.put, List.setIfInBounds_toArray, List.set_cons_zero, List.set_cons_succ])
                | (refine holdN_val (v := ?_) (by rfl) ?_ ?_
                   rotate_left
                   · (intro w' hS
                      obtain ⟨e1, e2, e3, e4, e5, e6, e7⟩ := HL.out w' hS
                      go_simp
                      try with_reducible rfl)
                   simp only [Act.put, List.setIfInBounds_toArray, List.set_cons_zero, List.set_cons_succ])
              refine holdN_nil ?_
              intro w5 hS5
              refine then_qe (wp_cond_true (by rfl) (wp_skip (then_qe (wp_seq (wp_block (wp_seq (wp_region_holdN (fun w' => Below wr.heap.size wr w') hS5 ?_)))))))
              repeat
                first
                | (refine holdN_skip (by rfl) ?_
                   simp only [Act.put, List.setIfInBounds_toArray, List.set_cons_zero, List.set_cons_succ])
                | (refine holdN_val (v := ?_) (by rfl) ?_ ?_
                   rotate_left
                   · (intro w' hS
                      obtain ⟨e1, e2, e3, e4, e5, e6, e7⟩ := HL.out w' hS
                      go_simp
                      try with_reducible rfl)
                   simp only [Act.put, List.setIfInBounds_toArray, List.set_cons_zero, List.set_cons_succ])
              refine holdN_nil ?_
              intro w6 hS6
              have HB6 := Lib.hid (HB.out.trans (hS6.mono (by omega)))
              have HX6 := Lib.hid (blk_below hS6 HX.out hwr)
              clear hS6 hS5
              go_wp2_with fail
              clear hun
              go_roundw
              case rel => exact ⟨m + 1, by omega, by go_num, HA.out, HX6.out, HB6.out⟩
              case measure => simp [intOf]; omega
        · have ix : ∀ w', (Instr.index 9 (.string (bs ls)) (.int .i64 (m : Int))).run Try.prog w' = .ok (.int .u8 73) w' := HIX.out
          have HOK := Lib.hid (show okFv v 73 = (decide (1 ≤ v.i) && decide (v.i ≤ 2147483647)) by unfold okFv; rw [if_neg (by decide), if_pos rfl])
          rw [HOK.out] at HNO HYES
          generalize v.i = y at *
          by_cases hy0 : y < 1
          · have hr := HNO.out (by rw [decide_eq_false (by omega)]; rfl)
            have q0 : decide (y < 1) = true := decide_eq_true hy0
            subst hr
            clear hy0
            refine wp_seq (wp_seq (wp_region_holdN (fun w' => Below wr.heap.size wr w') (Below.refl _ _) ?_))
            repeat
              first
              | (refine holdN_skip (by rfl) ?_
                 simp only [Act.put, List.setIfInBounds_toArray, List.set_cons_zero, List.set_cons_succ])
              | (refine holdN_val (v := ?_) (by rfl) ?_ ?_
                 rotate_left
                 · (intro w' hS
                    obtain ⟨e1, e2, e3, e4, e5, e6, e7⟩ := HL.out w' hS
                    go_simp
                    try with_reducible rfl)
                 simp only [Act.put, List.setIfInBounds_toArray, List.set_cons_zero, List.set_cons_succ])
            refine holdN_nil ?_
            intro w5 hS5
            refine then_qe (wp_cond_true (by rfl) (wp_skip (then_qe (wp_seq (wp_block (wp_seq (wp_region_holdN (fun w' => Below wr.heap.size wr w') hS5 ?_)))))))
            repeat
              first
              | (refine holdN_skip (by rfl) ?_
                 simp only [Act.put, List.setIfInBounds_toArray, List.set_cons_zero, List.set_cons_succ])
              | (refine holdN_val (v := ?_) (by rfl) ?_ ?_
                 rotate_left
                 · (intro w' hS
                    obtain ⟨e1, e2, e3, e4, e5, e6, e7⟩ := HL.out w' hS
                    go_simp
                    try with_reducible rfl)
                 simp only [Act.put, List.setIfInBounds_toArray, List.set_cons_zero, List.set_cons_succ])
            refine holdN_nil ?_
            intro w6 hS6
            have HB6 := Lib.hid (HB.out.trans (hS6.mono (by omega)))
            have HX6 := Lib.hid (blk_below hS6 HX.out hwr)
            clear hS6 hS5
            go_wp2_with fail
            go_ret
            exact ⟨rfl, HB6.out⟩
          · by_cases hy1 : y > 2147483647
            · have hr := HNO.out (by rw [decide_eq_false (show ¬ y ≤ 2147483647 by omega), Bool.and_false])
              have q0 : decide (y < 1) = false := decide_eq_false hy0
              have q1 : decide (y > 2147483647) = true := decide_eq_true hy1
              have q2 : decide (2147483647 < y) = true := decide_eq_true hy1
              subst hr
              clear hy0 hy1
              refine wp_seq (wp_seq (wp_region_holdN (fun w' => Below wr.heap.size wr w') (Below.refl _ _) ?_))
              repeat
                first
                | (refine holdN_skip (by rfl) ?_
                   simp only [Act.put, List.setIfInBounds_toArray, List.set_cons_zero, List.set_cons_succ])
                | (refine holdN_val (v := ?_) (by rfl) ?_ ?_
                   rotate_left
                   · (intro w' hS
                      obtain ⟨e1, e2, e3, e4, e5, e6, e7⟩ := HL.out w' hS
                      go_simp
                      try with_reducible rfl)
                   simp only [Act.put, List.setIfInBounds_toArray, List.set_cons_zero, List.set_cons_succ])
              refine holdN_nil ?_
              intro w5 hS5
              refine then_qe (wp_cond_true (by rfl) (wp_skip (then_qe (wp_seq (wp_block (wp_seq (wp_region_holdN (fun w' => Below wr.heap.size wr w') hS5 ?_)))))))
              repeat
                first
                | (refine holdN_skip (by rfl) ?_
                   simp only [Act.put, List.setIfInBounds_toArray, List.set_cons_zero, List.set_cons_succ])
                | (refine holdN_val (v := ?_) (by rfl) ?_ ?_
                   rotate_left
                   · (intro w' hS
                      obtain ⟨e1, e2, e3, e4, e5, e6, e7⟩ := HL.out w' hS
                      go_simp
                      try with_reducible rfl)
                   simp only [Act.put, List.setIfInBounds_toArray, List.set_cons_zero, List.set_cons_succ])
              refine holdN_nil ?_
              intro w6 hS6
              have HB6 := Lib.hid (HB.out.trans (hS6.mono (by omega)))
              have HX6 := Lib.hid (blk_below hS6 HX.out hwr)
              clear hS6 hS5
              go_wp2_with fail
              go_ret
              exact ⟨rfl, HB6.out⟩
            · have hall2 := HYES.out (by rw [decide_eq_true (show 1 ≤ y by omega), decide_eq_true (show y ≤ 2147483647 by omega)]; rfl)
              have q0 : decide (y < 1) = false := decide_eq_false hy0
              have q1 : decide (y > 2147483647) = false := decide_eq_false hy1
              have q2 : decide (2147483647 < y) = false := decide_eq_false hy1
              have HA := Lib.hid hall2
              clear hy0 hy1 hall2
              refine wp_seq (wp_seq (wp_region_holdN (fun w' => Below wr.heap.size wr w') (Below.refl _ _) ?_))
              repeat
                first
                | (refine holdN_skip (by rfl) ?_
                   simp only [Act.put, List.setIfInBounds_toArray, List.set_cons_zero, List.set_cons_succ])
                | (refine holdN_val (v := ?_) (by rfl) ?_ ?_
                   rotate_left
                   · (intro w' hS
                      obtain ⟨e1, e2, e3, e4, e5, e6, e7⟩ := HL.out w' hS
                      go_simp
                      try with_reducible rfl)
                   simp only [Act.put, List.setIfInBounds_toArray, List.set_cons_zero, List.set_cons_succ])
              refine holdN_nil ?_
              intro w5 hS5
              refine then_qe (wp_cond_true (by rfl) (wp_skip (then_qe (wp_seq (wp_block (wp_seq (wp_region_holdN (fun w' => Below wr.heap.size wr w') hS5 ?_)))))))
              repeat
                first
                | (refine holdN_skip (by rfl) ?_
                   simp only [Act.put, List.setIfInBounds_toArray, List.set_cons_zero, List.set_cons_succ])
                | (refine holdN_val (v := ?_) (by rfl) ?_ ?_
                   rotate_left
                   · (intro w' hS
                      obtain ⟨e1, e2, e3, e4, e5, e6, e7⟩ := HL.out w' hS
                      go_simp
                      try with_reducible rfl)
                   simp only [Act.put, List.setIfInBounds_toArray, List.set_cons_zero, List.set_cons_succ])
              refine holdN_nil ?_
              intro w6 hS6
              have HB6 := Lib.hid (HB.out.trans (hS6.mono (by omega)))
              have HX6 := Lib.hid (blk_below hS6 HX.out hwr)
              clear hS6 hS5
              go_wp2_with fail
              clear hun
              go_roundw
              case rel => exact ⟨m + 1, by omega, by go_num, HA.out, HX6.out, HB6.out⟩
              case measure => simp [intOf]; omega
        · have ix : ∀ w', (Instr.index 9 (.string (bs ls)) (.int .i64 (m : Int))).run Try.prog w' = .ok (.int .u8 74) w' := HIX.out
          have HOK := Lib.hid (show okFv v 74 = (decide (1 ≤ v.j) && decide (v.j ≤ 2147483647)) by unfold okFv; rw [if_neg (by decide), if_neg (by decide), if_pos rfl])
          rw [HOK.out] at HNO HYES
          generalize v.j = y at *
          by_cases hy0 : y < 1
          · have hr := HNO.out (by rw [decide_eq_false (by omega)]; rfl)
            have q0 : decide (y < 1) = true := decide_eq_true hy0
            subst hr
            clear hy0
            refine wp_seq (wp_seq (wp_region_holdN (fun w' => Below wr.heap.size wr w') (Below.refl _ _) ?_))
            repeat
              first
              | (refine holdN_skip (by rfl) ?_
                 simp only [Act.put, List.setIfInBounds_toArray, List.set_cons_zero, List.set_cons_succ])
              | (refine holdN_val (v := ?_) (by rfl) ?_ ?_
                 rotate_left
                 · (intro w' hS
                    obtain ⟨e1, e2, e3, e4, e5, e6, e7⟩ := HL.out w' hS
                    go_simp
                    try with_reducible rfl)
                 simp only [Act.put, List.setIfInBounds_toArray, List.set_cons_zero, List.set_cons_succ])
            refine holdN_nil ?_
            intro w5 hS5
            refine then_qe (wp_cond_true (by rfl) (wp_skip (then_qe (wp_seq (wp_block (wp_seq (wp_region_holdN (fun w' => Below wr.heap.size wr w') hS5 ?_)))))))
            repeat
              first
              | (refine holdN_skip (by rfl) ?_
                 simp only [Act.put, List.setIfInBounds_toArray, List.set_cons_zero, List.set_cons_succ])
              | (refine holdN_val (v := ?_) (by rfl) ?_ ?_
                 rotate_left
                 · (intro w' hS
                    obtain ⟨e1, e2, e3, e4, e5, e6, e7⟩ := HL.out w' hS
                    go_simp
                    try with_reducible rfl)
                 simp only [Act.put, List.setIfInBounds_toArray, List.set_cons_zero, List.set_cons_succ])
            refine holdN_nil ?_
            intro w6 hS6
            have HB6 := Lib.hid (HB.out.trans (hS6.mono (by omega)))
            have HX6 := Lib.hid (blk_below hS6 HX.out hwr)
            clear hS6 hS5
            go_wp2_with fail
            go_ret
            exact ⟨rfl, HB6.out⟩
          · by_cases hy1 : y > 2147483647
            · have hr := HNO.out (by rw [decide_eq_false (show ¬ y ≤ 2147483647 by omega), Bool.and_false])
              have q0 : decide (y < 1) = false := decide_eq_false hy0
              have q1 : decide (y > 2147483647) = true := decide_eq_true hy1
              have q2 : decide (2147483647 < y) = true := decide_eq_true hy1
              subst hr
              clear hy0 hy1
              refine wp_seq (wp_seq (wp_region_holdN (fun w' => Below wr.heap.size wr w') (Below.refl _ _) ?_))
              repeat
                first
                | (refine holdN_skip (by rfl) ?_
                   simp only [Act.put, List.setIfInBounds_toArray, List.set_cons_zero, List.set_cons_succ])
                | (refine holdN_val (v := ?_) (by rfl) ?_ ?_
                   rotate_left
                   · (intro w' hS
                      obtain ⟨e1, e2, e3, e4, e5, e6, e7⟩ := HL.out w' hS
                      go_simp
                      try with_reducible rfl)
                   simp only [Act.put, List.setIfInBounds_toArray, List.set_cons_zero, List.set_cons_succ])
              refine holdN_nil ?_
              intro w5 hS5
              refine then_qe (wp_cond_true (by rfl) (wp_skip (then_qe (wp_seq (wp_block (wp_seq (wp_region_holdN (fun w' => Below wr.heap.size wr w') hS5 ?_)))))))
              repeat
                first
                | (refine holdN_skip (by rfl) ?_
                   simp only [Act.put, List.setIfInBounds_toArray, List.set_cons_zero, List.set_cons_succ])
                | (refine holdN_val (v := ?_) (by rfl) ?_ ?_
                   rotate_left
                   · (intro w' hS
                      obtain ⟨e1, e2, e3, e4, e5, e6, e7⟩ := HL.out w' hS
                      go_simp
                      try with_reducible rfl)
                   simp only [Act.put, List.setIfInBounds_toArray, List.set_cons_zero, List.set_cons_succ])
              refine holdN_nil ?_
              intro w6 hS6
              have HB6 := Lib.hid (HB.out.trans (hS6.mono (by omega)))
              have HX6 := Lib.hid (blk_below hS6 HX.out hwr)
              clear hS6 hS5
              go_wp2_with fail
              go_ret
              exact ⟨rfl, HB6.out⟩
            · have hall2 := HYES.out (by rw [decide_eq_true (show 1 ≤ y by omega), decide_eq_true (show y ≤ 2147483647 by omega)]; rfl)
              have q0 : decide (y < 1) = false := decide_eq_false hy0
              have q1 : decide (y > 2147483647) = false := decide_eq_false hy1
              have q2 : decide (2147483647 < y) = false := decide_eq_false hy1
              have HA := Lib.hid hall2
              clear hy0 hy1 hall2
              refine wp_seq (wp_seq (wp_region_holdN (fun w' => Below wr.heap.size wr w') (Below.refl _ _) ?_))
              repeat
                first
                | (refine holdN_skip (by rfl) ?_
                   simp only [Act.put, List.setIfInBounds_toArray, List.set_cons_zero, List.set_cons_succ])
                | (refine holdN_val (v := ?_) (by rfl) ?_ ?_
                   rotate_left
                   · (intro w' hS
                      obtain ⟨e1, e2, e3, e4, e5, e6, e7⟩ := HL.out w' hS
                      go_simp
                      try with_reducible rfl)
                   simp only [Act.put, List.setIfInBounds_toArray, List.set_cons_zero, List.set_cons_succ])
              refine holdN_nil ?_
              intro w5 hS5
              refine then_qe (wp_cond_true (by rfl) (wp_skip (then_qe (wp_seq (wp_block (wp_seq (wp_region_holdN (fun w' => Below wr.heap.size wr w') hS5 ?_)))))))
              repeat
                first
                | (refine holdN_skip (by rfl) ?_
                   simp only [Act.put, List.setIfInBounds_toArray, List.set_cons_zero, List.set_cons_succ])
                | (refine holdN_val (v := ?_) (by rfl) ?_ ?_
                   rotate_left
                   · (intro w' hS
                      obtain ⟨e1, e2, e3, e4, e5, e6, e7⟩ := HL.out w' hS
                      go_simp
                      try with_reducible rfl)
                   simp only [Act.put, List.setIfInBounds_toArray, List.set_cons_zero, List.set_cons_succ])
              refine holdN_nil ?_
              intro w6 hS6
              have HB6 := Lib.hid (HB.out.trans (hS6.mono (by omega)))
              have HX6 := Lib.hid (blk_below hS6 HX.out hwr)
              clear hS6 hS5
              go_wp2_with fail
              clear hun
              go_roundw
              case rel => exact ⟨m + 1, by omega, by go_num, HA.out, HX6.out, HB6.out⟩
              case measure => simp [intOf]; omega
        · have ix : ∀ w', (Instr.index 9 (.string (bs ls)) (.int .i64 (m : Int))).run Try.prog w' = .ok (.int .u8 80) w' := HIX.out
          have HOK := Lib.hid (show okFv v 80 = (decide (0 ≤ v.p) && decide (v.p ≤ 99)) by unfold okFv; rw [if_neg (by decide), if_neg (by decide), if_neg (by decide), if_pos rfl])
          rw [HOK.out] at HNO HYES
          generalize v.p = y at *
          by_cases hy0 : y < 0
          · have hr := HNO.out (by rw [decide_eq_false (by omega)]; rfl)
            have q0 : decide (y < 0) = true := decide_eq_true hy0
            subst hr
            clear hy0
            refine wp_seq (wp_seq (wp_region_holdN (fun w' => Below wr.heap.size wr w') (Below.refl _ _) ?_))
            repeat
              first
              | (refine holdN_skip (by rfl) ?_
                 simp only [Act.put, List.setIfInBounds_toArray, List.set_cons_zero, List.set_cons_succ])
              | (refine holdN_val (v := ?_) (by rfl) ?_ ?_
                 rotate_left
                 · (intro w' hS
                    obtain ⟨e1, e2, e3, e4, e5, e6, e7⟩ := HL.out w' hS
                    go_simp
                    try with_reducible rfl)
                 simp only [Act.put, List.setIfInBounds_toArray, List.set_cons_zero, List.set_cons_succ])
            refine holdN_nil ?_
            intro w5 hS5
            refine then_qe (wp_cond_true (by rfl) (wp_skip (then_qe (wp_seq (wp_block (wp_seq (wp_region_holdN (fun w' => Below wr.heap.size wr w') hS5 ?_)))))))
            repeat
              first
              | (refine holdN_skip (by rfl) ?_
                 simp only [Act.put, List.setIfInBounds_toArray, List.set_cons_zero, List.set_cons_succ])
              | (refine holdN_val (v := ?_) (by rfl) ?_ ?_
                 rotate_left
                 · (intro w' hS
                    obtain ⟨e1, e2, e3, e4, e5, e6, e7⟩ := HL.out w' hS
                    go_simp
                    try with_reducible rfl)
                 simp only [Act.put, List.setIfInBounds_toArray, List.set_cons_zero, List.set_cons_succ])
            refine holdN_nil ?_
            intro w6 hS6
            have HB6 := Lib.hid (HB.out.trans (hS6.mono (by omega)))
            have HX6 := Lib.hid (blk_below hS6 HX.out hwr)
            clear hS6 hS5
            go_wp2_with fail
            go_ret
            exact ⟨rfl, HB6.out⟩
          · by_cases hy1 : y > 99
            · have hr := HNO.out (by rw [decide_eq_false (show ¬ y ≤ 99 by omega), Bool.and_false])
              have q0 : decide (y < 0) = false := decide_eq_false hy0
              have q1 : decide (y > 99) = true := decide_eq_true hy1
              have q2 : decide (99 < y) = true := decide_eq_true hy1
              subst hr
              clear hy0 hy1
              refine wp_seq (wp_seq (wp_region_holdN (fun w' => Below wr.heap.size wr w') (Below.refl _ _) ?_))
              repeat
                first
                | (refine holdN_skip (by rfl) ?_
                   simp only [Act.put, List.setIfInBounds_toArray, List.set_cons_zero, List.set_cons_succ])
                | (refine holdN_val (v := ?_) (by rfl) ?_ ?_
                   rotate_left
                   · (intro w' hS
                      obtain ⟨e1, e2, e3, e4, e5, e6, e7⟩ := HL.out w' hS
                      go_simp
                      try with_reducible rfl)
                   simp only [Act.put, List.setIfInBounds_toArray, List.set_cons_zero, List.set_cons_succ])
              refine holdN_nil ?_
              intro w5 hS5
              refine then_qe (wp_cond_true (by rfl) (wp_skip (then_qe (wp_seq (wp_block (wp_seq (wp_region_holdN (fun w' => Below wr.heap.size wr w') hS5 ?_)))))))
              repeat
                first
                | (refine holdN_skip (by rfl) ?_
                   simp only [Act.put, List.setIfInBounds_toArray, List.set_cons_zero, List.set_cons_succ])
                | (refine holdN_val (v := ?_) (by rfl) ?_ ?_
                   rotate_left
                   · (intro w' hS
                      obtain ⟨e1, e2, e3, e4, e5, e6, e7⟩ := HL.out w' hS
                      go_simp
                      try with_reducible rfl)
                   simp only [Act.put, List.setIfInBounds_toArray, List.set_cons_zero, List.set_cons_succ])
              refine holdN_nil ?_
              intro w6 hS6
              have HB6 := Lib.hid (HB.out.trans (hS6.mono (by omega)))
              have HX6 := Lib.hid (blk_below hS6 HX.out hwr)
              clear hS6 hS5
              go_wp2_with fail
              go_ret
              exact ⟨rfl, HB6.out⟩
            · have hall2 := HYES.out (by rw [decide_eq_true (show 0 ≤ y by omega), decide_eq_true (show y ≤ 99 by omega)]; rfl)
              have q0 : decide (y < 0) = false := decide_eq_false hy0
              have q1 : decide (y > 99) = false := decide_eq_false hy1
              have q2 : decide (99 < y) = false := decide_eq_false hy1
              have HA := Lib.hid hall2
              clear hy0 hy1 hall2
              refine wp_seq (wp_seq (wp_region_holdN (fun w' => Below wr.heap.size wr w') (Below.refl _ _) ?_))
              repeat
                first
                | (refine holdN_skip (by rfl) ?_
                   simp only [Act.put, List.setIfInBounds_toArray, List.set_cons_zero, List.set_cons_succ])
                | (refine holdN_val (v := ?_) (by rfl) ?_ ?_
                   rotate_left
                   · (intro w' hS
                      obtain ⟨e1, e2, e3, e4, e5, e6, e7⟩ := HL.out w' hS
                      go_simp
                      try with_reducible rfl)
                   simp only [Act.put, List.setIfInBounds_toArray, List.set_cons_zero, List.set_cons_succ])
              refine holdN_nil ?_
              intro w5 hS5
              refine then_qe (wp_cond_true (by rfl) (wp_skip (then_qe (wp_seq (wp_block (wp_seq (wp_region_holdN (fun w' => Below wr.heap.size wr w') hS5 ?_)))))))
              repeat
                first
                | (refine holdN_skip (by rfl) ?_
                   simp only [Act.put, List.setIfInBounds_toArray, List.set_cons_zero, List.set_cons_succ])
                | (refine holdN_val (v := ?_) (by rfl) ?_ ?_
                   rotate_left
                   · (intro w' hS
                      obtain ⟨e1, e2, e3, e4, e5, e6, e7⟩ := HL.out w' hS
                      go_simp
                      try with_reducible rfl)
                   simp only [Act.put, List.setIfInBounds_toArray, List.set_cons_zero, List.set_cons_succ])
              refine holdN_nil ?_
              intro w6 hS6
              have HB6 := Lib.hid (HB.out.trans (hS6.mono (by omega)))
              have HX6 := Lib.hid (blk_below hS6 HX.out hwr)
              clear hS6 hS5
              go_wp2_with fail
              clear hun
              go_roundw
              case rel => exact ⟨m + 1, by omega, by go_num, HA.out, HX6.out, HB6.out⟩
              case measure => simp [intOf]; omega
        · have ix : ∀ w', (Instr.index 9 (.string (bs ls)) (.int .i64 (m : Int))).run Try.prog w' = .ok (.int .u8 82) w' := HIX.out
          have HOK := Lib.hid (show okFv v 82 = rightB v.r by unfold okFv; rw [if_neg (by decide), if_neg (by decide), if_neg (by decide), if_neg (by decide)])
          rw [HOK.out] at HNO HYES
          have CR2 := CR
          unfold V3.val at CR2
          cases hy : rightB v.r with
          | false =>
            have hr := HNO.out hy
            subst hr
            rw [hy] at CR2
            clear hy
            refine wp_seq (wp_seq (wp_region_holdN (fun w' => Below wr.heap.size wr w') (Below.refl _ _) ?_))
            repeat
              first
              | (refine holdN_skip (by rfl) ?_
                 simp only [Act.put, List.setIfInBounds_toArray, List.set_cons_zero, List.set_cons_succ])
              | (refine holdN_val (v := ?_) (by rfl) ?_ ?_
                 rotate_left
                 · (intro w' hS
                    obtain ⟨e1, e2, e3, e4, e5, e6, e7⟩ := HL.out w' hS
                    go_simp
                    try with_reducible rfl)
                 simp only [Act.put, List.setIfInBounds_toArray, List.set_cons_zero, List.set_cons_succ])
              | (refine holdN_call (by rfl) ?_ (fun w' hS => made_call hS (Nat.le_refl _) (CR2.out w')) ?_
                 · (intro w' hS; go_simp; done)
                 simp only [Act.put, List.setIfInBounds_toArray, List.set_cons_zero, List.set_cons_succ])
            refine holdN_nil ?_
            intro w5 hS5
            refine then_qe (wp_cond_true (by rfl) (wp_skip (then_qe (wp_seq (wp_block (wp_seq (wp_region_holdN (fun w' => Below wr.heap.size wr w') hS5 ?_)))))))
            repeat
              first
              | (refine holdN_skip (by rfl) ?_
                 simp only [Act.put, List.setIfInBounds_toArray, List.set_cons_zero, List.set_cons_succ])
              | (refine holdN_val (v := ?_) (by rfl) ?_ ?_
                 rotate_left
                 · (intro w' hS
                    obtain ⟨e1, e2, e3, e4, e5, e6, e7⟩ := HL.out w' hS
                    go_simp
                    try with_reducible rfl)
                 simp only [Act.put, List.setIfInBounds_toArray, List.set_cons_zero, List.set_cons_succ])
              | (refine holdN_call (by rfl) ?_ (fun w' hS => made_call hS (Nat.le_refl _) (CR2.out w')) ?_
                 · (intro w' hS; go_simp; done)
                 simp only [Act.put, List.setIfInBounds_toArray, List.set_cons_zero, List.set_cons_succ])
            refine holdN_nil ?_
            intro w6 hS6
            have HB6 := Lib.hid (HB.out.trans (hS6.mono (by omega)))
            have HX6 := Lib.hid (blk_below hS6 HX.out hwr)
            clear hS6 hS5
            go_wp2_with fail
            go_ret
            exact ⟨rfl, HB6.out⟩
          | true =>
            have hall2 := HYES.out hy
            rw [hy] at CR2
            have HA := Lib.hid hall2
            clear hy hall2
            refine wp_seq (wp_seq (wp_region_holdN (fun w' => Below wr.heap.size wr w') (Below.refl _ _) ?_))
            repeat
              first
              | (refine holdN_skip (by rfl) ?_
                 simp only [Act.put, List.setIfInBounds_toArray, List.set_cons_zero, List.set_cons_succ])
              | (refine holdN_val (v := ?_) (by rfl) ?_ ?_
                 rotate_left
                 · (intro w' hS
                    obtain ⟨e1, e2, e3, e4, e5, e6, e7⟩ := HL.out w' hS
                    go_simp
                    try with_reducible rfl)
                 simp only [Act.put, List.setIfInBounds_toArray, List.set_cons_zero, List.set_cons_succ])
              | (refine holdN_call (by rfl) ?_ (fun w' hS => made_call hS (Nat.le_refl _) (CR2.out w')) ?_
                 · (intro w' hS; go_simp; done)
                 simp only [Act.put, List.setIfInBounds_toArray, List.set_cons_zero, List.set_cons_succ])
            refine holdN_nil ?_
            intro w5 hS5
            refine then_qe (wp_cond_true (by rfl) (wp_skip (then_qe (wp_seq (wp_block (wp_seq (wp_region_holdN (fun w' => Below wr.heap.size wr w') hS5 ?_)))))))
            repeat
              first
              | (refine holdN_skip (by rfl) ?_
                 simp only [Act.put, List.setIfInBounds_toArray, List.set_cons_zero, List.set_cons_succ])
              | (refine holdN_val (v := ?_) (by rfl) ?_ ?_
                 rotate_left
                 · (intro w' hS
                    obtain ⟨e1, e2, e3, e4, e5, e6, e7⟩ := HL.out w' hS
                    go_simp
                    try with_reducible rfl)
                 simp only [Act.put, List.setIfInBounds_toArray, List.set_cons_zero, List.set_cons_succ])
              | (refine holdN_call (by rfl) ?_ (fun w' hS => made_call hS (Nat.le_refl _) (CR2.out w')) ?_
                 · (intro w' hS; go_simp; done)
                 simp only [Act.put, List.setIfInBounds_toArray, List.set_cons_zero, List.set_cons_succ])
            refine holdN_nil ?_
            intro w6 hS6
            have HB6 := Lib.hid (HB.out.trans (hS6.mono (by omega)))
            have HX6 := Lib.hid (blk_below hS6 HX.out hwr)
            clear hS6 hS5
            go_wp2_with fail
            clear hun
            go_roundw
            case rel => exact ⟨m + 1, by omega, by go_num, HA.out, HX6.out, HB6.out⟩
            case measure => simp [intOf]; omega
      · obtain rfl : m = ls.length := by omega
        have dk : decide (ls.length < ls.length) = false := decide_eq_false (by omega)
        rw [List.take_length] at hall
        have hr := HC2.out hl hall
        have HS := Lib.hid (show wr.drew.heap[w.heap.size]? = some (.cells v.cells 25 (0, 0)) ∧ Below w.heap.size w wr.drew from ⟨hbx, hb.drew⟩)
        clear hall hb hbx hlm HC0 HC1 HC2 e0 e1 e2 e3 e4 e5 e6 e7
        go_wp2_with fail
        refine wp_region_holdP [1] (fun p w' => w'.heap[w.heap.size]? = some (.cells v.cells 25 (0, 0)) ∧ Below w.heap.size w w') (by kernel_rfl) (by kernel_rfl) HS.out ?_
        refine holdP_val (v := v.val) (by rfl) (by rfl) (fun p w' hC => by
          obtain ⟨e0, e1, e2, e3, e4, e5, e6, e7⟩ := evt_cells hC.1
          unfold Evt.val
          go_simp) ?_
        simp only [Act.put, List.setIfInBounds_toArray, List.set_cons_zero, List.set_cons_succ]
        refine holdP_call (v := x.val) (f := 11) (args := #[v.val]) 0 rfl (by rfl) (fun w' hC => by go_simp) (fun w' hC => ?_) ?_
        · have hsz : w.heap.size < w'.heap.size := lt_of_block hC.1
          refine (CP.out w').mono fun e w2 hh => ?_
          obtain ⟨he, hb⟩ := hh
          exact ⟨he, blk_below hb hC.1 hsz, hC.2.trans (hb.mono (by omega))⟩
        simp only [Act.put, List.setIfInBounds_toArray, List.set_cons_zero, List.set_cons_succ]
        refine holdP_val (v := v.val) (by rfl) (by rfl) (fun p w' hC => by
          obtain ⟨e0, e1, e2, e3, e4, e5, e6, e7⟩ := evt_cells hC.1
          unfold Evt.val
          go_simp) ?_
        simp only [Act.put, List.setIfInBounds_toArray, List.set_cons_zero, List.set_cons_succ]
        refine holdP_val (v := .bool (!eqE x v)) (by rfl) (by rfl) (fun p w' hC => by
          have e := neE_run w' x v
          have eg := neE_guard w' x v
          go_simp) ?_
        simp only [Act.put, List.setIfInBounds_toArray, List.set_cons_zero, List.set_cons_succ]
        refine holdP_nil (fun w3 hC => ?_)
        have HB := Lib.hid hC.2
        clear hC
        cases he : eqE x v with
        | false =>
          rw [he, if_pos rfl] at hr
          subst hr
          simp only [Bool.not_false]
          go_wp2_with fail
          go_ret
          exact ⟨rfl, HB.out⟩
        | true =>
          rw [he, if_neg (by simp)] at hr
          subst hr
          simp only [Bool.not_true]
          go_wp2_with fail
          go_ret
          exact ⟨rfl, HB.out⟩
end Go.Proofs.Ytkahdmhgfojbiaa
