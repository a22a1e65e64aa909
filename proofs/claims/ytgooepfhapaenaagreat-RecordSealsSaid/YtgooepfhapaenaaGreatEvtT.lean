/- What the document's own names and numbers of events come to. Conditions: numbers that an int holds. -/
import Derived.Test.YtgooepfhapaenaaGreatProg
import Derived.Test.YtgooepfhapaenaaGreatEvtPlain
import Derived.Test.YtgooepfhapaenaaGreatRdI
import Derived.Test.YtgooepfhapaenaaGreatSame
import Derived.Test.YtgooepfhapaenaaGreatHolds
import Derived.Test.YtgooepfhapaenaaGreatHoldV
import Derived.Test.YtgooepfhapaenaaGreatSetR
import Derived.Test.YtgooepfhapaenaaGreatHoldT
import Derived.Test.YtgooepfhapaenaaGreatEqRes
import Derived.Laws.StructEq
namespace Go.Proofs.YtgooepfhapaenaaGreat
open Go.ChangeShapes Go.WideShapes Go.ChangeAt Go.RowKit
set_option linter.unusedVariables false
set_option maxRecDepth 100000
set_option linter.unusedSimpArgs false
set_option maxHeartbeats 2000000

theorem rnames_any (k : Int) (w : World) : Calls Tryz.prog 55 #[.int .i64 k] w fun e w' => e = .returned (.string (bs (lettersE k))) ∧ Below w.heap.size w w' := by
  have hb : ∀ (X : Obj) (a : World), Below a.heap.size a (a.alloc X) := fun X a => (Below.refl _ _).alloc (Nat.le_refl _) _
  rcases letters_cases k with ⟨rfl, h⟩ | ⟨rfl, h⟩ | ⟨rfl, h⟩ | ⟨rfl, h⟩ | ⟨rfl, h⟩ | ⟨rfl, h⟩ | ⟨rfl, h⟩ | ⟨hk, h⟩
  all_goals
    rw [h]
    clear h
  case inr.inr.inr.inr.inr.inr.inr =>
    rcases hk with hk | hk
    · have d1 : decide (k < 1) = true := decide_eq_true hk
      go_enter Tryz.func55, Tryz.ntmps55
      go_wp2_with fail
      go_ret
      exact ⟨rfl, hb _ _⟩
    · have d1 : decide (k < 1) = false := decide_eq_false (by omega)
      have d2 : decide (k > 7) = true := decide_eq_true hk
      have d3 : decide (7 < k) = true := decide_eq_true hk
      go_enter Tryz.func55, Tryz.ntmps55
      go_wp2_with fail
      go_ret
      exact ⟨rfl, hb _ _⟩
  all_goals
    go_enter Tryz.func55, Tryz.ntmps55
    go_wp2_with fail
    go_ret
    exact ⟨rfl, hb _ _⟩
/-- A letter of a text. -/
theorem letter_at (ls : List UInt8) (m : Nat) (h : m < ls.length) (c : UInt8) (hc : ls[m] = c) (w : World) :
    (Instr.index 9 (.string (bs ls)) (.int .i64 (m : Int))).run Tryz.prog w = .ok (.int .u8 c.toNat) w := by
  have hs : m < (bs ls).size := by rw [bs_size]; exact h
  rw [ix_at w 9 (bs ls) m hs (by kernel_rfl)]
  have : (bs ls)[m]'hs = c := by rw [← hc]; simp [bs, ByteArray.getElem_eq_getElem_data]
  rw [this]
theorem letter5 (c : UInt8) : (c = 78 ∨ c = 73 ∨ c = 74 ∨ c = 80) ∨ (c ≠ 78 ∧ c ≠ 73 ∧ c ≠ 74 ∧ c ≠ 80) := by
  by_cases h1 : c = 78; · exact .inl (.inl h1)
  by_cases h2 : c = 73; · exact .inl (.inr (.inl h2))
  by_cases h3 : c = 74; · exact .inl (.inr (.inr (.inl h3)))
  by_cases h4 : c = 80; · exact .inl (.inr (.inr (.inr h4)))
  exact .inr ⟨h1, h2, h3, h4⟩
theorem toNat_ne {c d : UInt8} (h : c ≠ d) : ((c.toNat : Int) == (d.toNat : Int)) = false := by
  have : ¬ (c.toNat : Int) = (d.toNat : Int) := fun e => h (UInt8.toNat_inj.1 (by omega))
  simpa using this
theorem numsE_step (v : Evt) (ls : List UInt8) (m : Nat) (h : m < ls.length) : numsE v (ls.take (m + 1)) = numsE v (ls.take m) ++ fieldE v ls[m] := by
  unfold numsE
  rw [List.take_succ_eq_append_getElem h, List.flatMap_append]
  simp
theorem rnumbers_any (v : Evt) (w : World) : Calls Tryz.prog 50 #[v.val] w fun e w' => ∃ u, e = .returned u ∧ RdI w' (fun b => w.heap.size ≤ b) u (numsE v (lettersE v.k)) ∧ Below w.heap.size w w' := by
  have C := Lib.hid (fun w' => rnames_any v.k w')
  have hlen : (lettersE v.k).length ≤ 3 := by rcases letters_cases v.k with ⟨_, e⟩ | ⟨_, e⟩ | ⟨_, e⟩ | ⟨_, e⟩ | ⟨_, e⟩ | ⟨_, e⟩ | ⟨_, e⟩ | ⟨_, e⟩ <;> rw [e] <;> decide
  generalize lettersE v.k = ls at *
  obtain ⟨it, hit, hz0, hz1, hz2⟩ := info_parts infoI64
  unfold Evt.val
  go_enter Tryz.func50, Tryz.ntmps50
  go_wp2_with fail
  refine (C.out _).mono ?_; rintro e w1 ⟨rfl, hB⟩
  rw [World.size_alloc] at hB
  have hbx : w1.heap[w.heap.size]? = some (.cells v.cells 25 (0, 0)) := blk_below hB (blk_new w _) (by omega)
  have hs1 : w.heap.size + 1 ≤ w1.heap.size := by have := hB.size; simpa using this
  have HB1 := Lib.hid (show Below w.heap.size w w1 from ((Below.refl _ _).alloc (Nat.le_refl _) _).trans (hB.mono (by omega)))
  have HBX := Lib.hid hbx
  clear hB hbx
  go_wp2_with fail
  go_loopw [3, 5] (fun r i wr => ∃ m : Nat, m ≤ ls.length ∧ i = .int .i64 m ∧ wr.ownsRow (w.heap.size + 1) 3 1 r (numsE v (ls.take m)).length (ints (numsE v (ls.take m))) ∧ Below (w.heap.size + 1) w1 wr) (fun _ i _ => ls.length - (intOf i).toNat)
  case atStart => exact ⟨0, by omega, rfl, World.ownsRow_nil _ _ _ _, Below.refl _ _⟩
  case round =>
    obtain ⟨m, hm, rfl, hown, hb⟩ := hrel
    have hws : w1.heap.size ≤ wr.heap.size := hb.size
    have HO := Lib.hid hown
    have HB := Lib.hid hb
    by_cases hlt : m < ls.length
    · have hbr : wr.heap[w.heap.size]? = some (.cells v.cells 25 (0, 0)) := blk_below hb HBX.out (by omega)
      have c1 : wr.cell? ⟨w.heap.size, 1, none⟩ = some (.int .i64 v.n) := blk_cell hbr 1
      have c2 : wr.cell? ⟨w.heap.size, 2, none⟩ = some (.int .i64 v.j) := blk_cell hbr 2
      have c3 : wr.cell? ⟨w.heap.size, 3, none⟩ = some (.int .i64 v.i) := blk_cell hbr 3
      have c4 : wr.cell? ⟨w.heap.size, 4, none⟩ = some (.int .i64 v.p) := blk_cell hbr 4
      have dk : decide (m < ls.length) = true := decide_eq_true hlt
      have hnl : (numsE v (ls.take m)).length ≤ 9 := by
        unfold numsE
        rw [List.length_flatMap]
        have h3 : ∀ l : List UInt8, (l.map fun a => (fieldE v a).length).sum ≤ 3 * l.length := fun l => by
          induction l with
          | nil => simp
          | cons a r ih =>
            have : (fieldE v a).length ≤ 3 := by unfold fieldE; repeat' split
                                                 all_goals simp
            simp only [List.map_cons, List.sum_cons, List.length_cons]
            omega
        have := h3 (ls.take m)
        rw [List.length_take] at this
        omega
      have HST := Lib.hid (numsE_step v ls m hlt)
      obtain ⟨c, hc⟩ : ∃ c, ls[m] = c := ⟨_, rfl⟩
      have HIX := Lib.hid (letter_at ls m hlt c hc)
      rw [hc] at HST
      clear hown hb hc
      generalize hxs : numsE v (ls.take m) = xs at *
      clear hxs
      rcases letter5 c with (rfl | rfl | rfl | rfl) | ⟨n1, n2, n3, n4⟩
      · have ix : ∀ w', (Instr.index 9 (.string (bs ls)) (.int .i64 (m : Int))).run Tryz.prog w' = .ok (.int .u8 78) w' := HIX.out
        have HT := Lib.hid (show numsE v (ls.take (m + 1)) = xs ++ [v.n] from HST.out)
        generalize v.n = f at *
        go_wp2_with (at_builtin; refine wpList_append_rdI rfl _ _ 70 rfl (w.heap.size + 1) 3 infoI64 Tryz.underlying70 _ _ _ rfl (HO.out.alloc _) (fun _ => True) _ [f] rfl ?c2 ?c3 ?c4 ?_)
        case c2 => exact (rdI_lit _ [f] #[.int .i64 f] 3 rfl (by simp)).imp fun _ _ _ => trivial
        case c3 => simp; omega
        case c4 => simp; omega
        intro v' w4 hown4 hgrow
        have HB4 := Lib.hid (grown_below (HB.out.alloc (by omega) _) hgrow (fun g hg => owns_row HO.out hg) (by simp; omega))
        have HO4 := Lib.hid hown4
        clear hown4 hgrow
        go_wp2_with fail
        go_roundw
        case rel => exact ⟨m + 1, by omega, by go_num, by rw [HT.out]; simpa using HO4.out, HB4.out⟩
        case measure => simp [intOf]; omega
      · have ix : ∀ w', (Instr.index 9 (.string (bs ls)) (.int .i64 (m : Int))).run Tryz.prog w' = .ok (.int .u8 73) w' := HIX.out
        have HT := Lib.hid (show numsE v (ls.take (m + 1)) = xs ++ [v.i] from HST.out)
        generalize v.i = f at *
        go_wp2_with (at_builtin; refine wpList_append_rdI rfl _ _ 70 rfl (w.heap.size + 1) 3 infoI64 Tryz.underlying70 _ _ _ rfl (HO.out.alloc _) (fun _ => True) _ [f] rfl ?c2 ?c3 ?c4 ?_)
        case c2 => exact (rdI_lit _ [f] #[.int .i64 f] 3 rfl (by simp)).imp fun _ _ _ => trivial
        case c3 => simp; omega
        case c4 => simp; omega
        intro v' w4 hown4 hgrow
        have HB4 := Lib.hid (grown_below (HB.out.alloc (by omega) _) hgrow (fun g hg => owns_row HO.out hg) (by simp; omega))
        have HO4 := Lib.hid hown4
        clear hown4 hgrow
        go_wp2_with fail
        go_roundw
        case rel => exact ⟨m + 1, by omega, by go_num, by rw [HT.out]; simpa using HO4.out, HB4.out⟩
        case measure => simp [intOf]; omega
      · have ix : ∀ w', (Instr.index 9 (.string (bs ls)) (.int .i64 (m : Int))).run Tryz.prog w' = .ok (.int .u8 74) w' := HIX.out
        have HT := Lib.hid (show numsE v (ls.take (m + 1)) = xs ++ [v.j] from HST.out)
        generalize v.j = f at *
        go_wp2_with (at_builtin; refine wpList_append_rdI rfl _ _ 70 rfl (w.heap.size + 1) 3 infoI64 Tryz.underlying70 _ _ _ rfl (HO.out.alloc _) (fun _ => True) _ [f] rfl ?c2 ?c3 ?c4 ?_)
        case c2 => exact (rdI_lit _ [f] #[.int .i64 f] 3 rfl (by simp)).imp fun _ _ _ => trivial
        case c3 => simp; omega
        case c4 => simp; omega
        intro v' w4 hown4 hgrow
        have HB4 := Lib.hid (grown_below (HB.out.alloc (by omega) _) hgrow (fun g hg => owns_row HO.out hg) (by simp; omega))
        have HO4 := Lib.hid hown4
        clear hown4 hgrow
        go_wp2_with fail
        go_roundw
        case rel => exact ⟨m + 1, by omega, by go_num, by rw [HT.out]; simpa using HO4.out, HB4.out⟩
        case measure => simp [intOf]; omega
      · have ix : ∀ w', (Instr.index 9 (.string (bs ls)) (.int .i64 (m : Int))).run Tryz.prog w' = .ok (.int .u8 80) w' := HIX.out
        have HT := Lib.hid (show numsE v (ls.take (m + 1)) = xs ++ [v.p] from HST.out)
        generalize v.p = f at *
        go_wp2_with (at_builtin; refine wpList_append_rdI rfl _ _ 70 rfl (w.heap.size + 1) 3 infoI64 Tryz.underlying70 _ _ _ rfl (HO.out.alloc _) (fun _ => True) _ [f] rfl ?c2 ?c3 ?c4 ?_)
        case c2 => exact (rdI_lit _ [f] #[.int .i64 f] 3 rfl (by simp)).imp fun _ _ _ => trivial
        case c3 => simp; omega
        case c4 => simp; omega
        intro v' w4 hown4 hgrow
        have HB4 := Lib.hid (grown_below (HB.out.alloc (by omega) _) hgrow (fun g hg => owns_row HO.out hg) (by simp; omega))
        have HO4 := Lib.hid hown4
        clear hown4 hgrow
        go_wp2_with fail
        go_roundw
        case rel => exact ⟨m + 1, by omega, by go_num, by rw [HT.out]; simpa using HO4.out, HB4.out⟩
        case measure => simp [intOf]; omega
      · have ix : ∀ w', (Instr.index 9 (.string (bs ls)) (.int .i64 (m : Int))).run Tryz.prog w' = .ok (.int .u8 (c.toNat : Int)) w' := HIX.out
        have e1 : ((c.toNat : Int) == 78) = false := toNat_ne n1
        have e2 : ((c.toNat : Int) == 73) = false := toNat_ne n2
        have e3 : ((c.toNat : Int) == 74) = false := toNat_ne n3
        have e4 : ((c.toNat : Int) == 80) = false := toNat_ne n4
        have c5 : wr.cell? ⟨w.heap.size, 5, none⟩ = some (.int .i64 v.r.a) := blk_cell hbr 5
        have HT := Lib.hid (show numsE v (ls.take (m + 1)) = xs ++ [v.r.a] ++ [v.r.b] ++ [v.r.c] from by rw [HST.out]; unfold fieldE; rw [if_neg n1, if_neg n2, if_neg n3, if_neg n4]; simp)
        have HC := Lib.hid (show ∀ w', Below (w.heap.size + 1) w1 w' → w'.cell? ⟨w.heap.size, 6, none⟩ = some (.int .i64 v.r.b) ∧ w'.cell? ⟨w.heap.size, 7, none⟩ = some (.int .i64 v.r.c) from fun w' hw => ⟨blk_cell (blk_below hw HBX.out (by omega)) 6, blk_cell (blk_below hw HBX.out (by omega)) 7⟩)
        generalize v.r.a = fa at *
        generalize v.r.b = fb at *
        generalize v.r.c = fc at *
        clear n1 n2 n3 n4 c1 c2 c3 c4 hbr
        go_wp2_with (at_builtin; refine wpList_append_rdI rfl _ _ 70 rfl (w.heap.size + 1) 3 infoI64 Tryz.underlying70 _ _ _ rfl (HO.out.alloc _) (fun _ => True) _ [fa] rfl ?c2 ?c3 ?c4 ?_)
        case c2 => exact (rdI_lit _ [fa] #[.int .i64 fa] 3 rfl (by simp)).imp fun _ _ _ => trivial
        case c3 => simp; omega
        case c4 => simp; omega
        intro v5 w5 hown5 hgrow
        have HB5 := Lib.hid (grown_below (HB.out.alloc (by omega) _) hgrow (fun g hg => owns_row HO.out hg) (by simp; omega))
        have hs5 : w1.heap.size ≤ w5.heap.size := HB5.out.size
        have HO5 := Lib.hid (show w5.ownsRow (w.heap.size + 1) 3 1 v5 (xs ++ [fa]).length (ints (xs ++ [fa])) by simpa using hown5)
        obtain ⟨c6, _⟩ := HC.out _ HB5.out
        clear hown5 hgrow c5
        go_wp2_with (at_builtin; refine wpList_append_rdI rfl _ _ 70 rfl (w.heap.size + 1) 3 infoI64 Tryz.underlying70 _ _ _ rfl (HO5.out.alloc _) (fun _ => True) _ [fb] rfl ?c2 ?c3 ?c4 ?_)
        case c2 => exact (rdI_lit _ [fb] #[.int .i64 fb] 3 rfl (by simp)).imp fun _ _ _ => trivial
        case c3 => simp; omega
        case c4 => simp; omega
        intro v6 w6 hown6 hgrow
        have HB6 := Lib.hid (grown_below (HB5.out.alloc (by omega) _) hgrow (fun g hg => owns_row HO5.out hg) (by simp; omega))
        have hs6 : w1.heap.size ≤ w6.heap.size := HB6.out.size
        have HO6 := Lib.hid (show w6.ownsRow (w.heap.size + 1) 3 1 v6 (xs ++ [fa] ++ [fb]).length (ints (xs ++ [fa] ++ [fb])) by simpa using hown6)
        obtain ⟨_, c7⟩ := HC.out _ HB6.out
        clear hown6 hgrow c6
        go_wp2_with (at_builtin; refine wpList_append_rdI rfl _ _ 70 rfl (w.heap.size + 1) 3 infoI64 Tryz.underlying70 _ _ _ rfl (HO6.out.alloc _) (fun _ => True) _ [fc] rfl ?c2 ?c3 ?c4 ?_)
        case c2 => exact (rdI_lit _ [fc] #[.int .i64 fc] 3 rfl (by simp)).imp fun _ _ _ => trivial
        case c3 => simp; omega
        case c4 => simp; omega
        intro v7 w7 hown7 hgrow
        have HB7 := Lib.hid (grown_below (HB6.out.alloc (by omega) _) hgrow (fun g hg => owns_row HO6.out hg) (by simp; omega))
        have HO7 := Lib.hid hown7
        clear hown7 hgrow
        go_wp2_with fail
        go_roundw
        case rel => exact ⟨m + 1, by omega, by go_num, by rw [HT.out]; simpa using HO7.out, HB7.out⟩
        case measure => simp [intOf]; omega
    · obtain rfl : m = ls.length := by omega
      have dk : decide (ls.length < ls.length) = false := decide_eq_false (by omega)
      rw [List.take_length] at HO
      have HF := Lib.hid (show RdI wr (fun b => w.heap.size ≤ b) u3 (numsE v ls) from (RdI.own HO.out rfl).imp fun b hb _ => by omega)
      have HBF := Lib.hid (show Below w.heap.size w wr from HB1.out.trans (hb.mono (by omega)))
      clear hown hb HO
      go_wp2_with fail
      go_ret
      exact ⟨_, rfl, HF.out, HBF.out⟩
end Go.Proofs.YtgooepfhapaenaaGreat
/- What the document's own Made, Pure of events come to. Conditions: numbers that an int holds; as many numbers as the kind has. -/
namespace Go.Proofs.YtgooepfhapaenaaGreat
open Go.ChangeShapes Go.WideShapes Go.ChangeAt Go.RowKit
set_option linter.unusedVariables false
set_option maxRecDepth 100000
set_option linter.unusedSimpArgs false
set_option maxHeartbeats 2000000

/-- An event's block, cell by cell. -/
theorem evt_cells {w : World} {b : Nat} {v : Evt} {t : TypeId} (h : w.heap[b]? = some (.cells v.cells t (0, 0))) : w.cell? ⟨b, 0, none⟩ = some (.int .i64 v.k) ∧ w.cell? ⟨b, 1, none⟩ = some (.int .i64 v.n) ∧ w.cell? ⟨b, 2, none⟩ = some (.int .i64 v.j) ∧ w.cell? ⟨b, 3, none⟩ = some (.int .i64 v.i) ∧ w.cell? ⟨b, 4, none⟩ = some (.int .i64 v.p) ∧ w.cell? ⟨b, 5, none⟩ = some (.int .i64 v.r.a) ∧ w.cell? ⟨b, 6, none⟩ = some (.int .i64 v.r.b) ∧ w.cell? ⟨b, 7, none⟩ = some (.int .i64 v.r.c) :=
  ⟨blk_cell h 0, blk_cell h 1, blk_cell h 2, blk_cell h 3, blk_cell h 4, blk_cell h 5, blk_cell h 6, blk_cell h 7⟩
theorem evt_free {w : World} {b : Nat} {v : Evt} {t : TypeId} (h : w.heap[b]? = some (.cells v.cells t (0, 0))) : w.frozen? ⟨b, 0, none⟩ = false ∧ w.frozen? ⟨b, 1, none⟩ = false ∧ w.frozen? ⟨b, 2, none⟩ = false ∧ w.frozen? ⟨b, 3, none⟩ = false ∧ w.frozen? ⟨b, 4, none⟩ = false ∧ w.frozen? ⟨b, 5, none⟩ = false ∧ w.frozen? ⟨b, 6, none⟩ = false ∧ w.frozen? ⟨b, 7, none⟩ = false :=
  ⟨blk_free h 0, blk_free h 1, blk_free h 2, blk_free h 3, blk_free h 4, blk_free h 5, blk_free h 6, blk_free h 7⟩
/-- An event's block written all over. -/
abbrev evtW (w : World) (b : Nat) (v : Evt) : World := setRow w b 0 v.row
theorem evt_set {w : World} {b : Nat} {u v : Evt} {t : TypeId} (h : w.heap[b]? = some (.cells u.cells t (0, 0))) : (evtW w b v).heap[b]? = some (.cells v.cells t (0, 0)) := setRow_all v.row h rfl
theorem evt_only (w : World) (b : Nat) (v : Evt) : Only b w (evtW w b v) := setRow_only b _ _ _
theorem manyE_take (ls : List UInt8) (m : Nat) (h : m < ls.length) : manyE (ls.take (m + 1)) = manyE (ls.take m) + wideE ls[m] ∧ manyE (ls.take m) + wideE ls[m] ≤ manyE ls := by
  have e1 : manyE (ls.take (m + 1)) = manyE (ls.take m) + wideE ls[m] := by
    unfold manyE
    rw [List.take_succ_eq_append_getElem h, List.map_append, List.sum_append]
    simp
  refine ⟨e1, ?_⟩
  rw [← e1]
  unfold manyE
  conv => rhs; rw [← List.take_append_drop (m + 1) ls, List.map_append, List.sum_append]
  omega
/-- A round of Made. -/
theorem fill_step {ls : List UInt8} {l : List Int} {ev x : Evt} {m : Nat} (h : m < ls.length) (hf : fillE (ls.drop m) (l.drop (manyE (ls.take m))) ev = x) : fillE (ls.drop (m + 1)) (l.drop (manyE (ls.take (m + 1)))) (putF ev ls[m] (l.drop (manyE (ls.take m)))) = x := by
  rw [List.drop_eq_getElem_cons h] at hf
  unfold fillE at hf
  rw [List.drop_drop] at hf
  rw [(manyE_take ls m h).1]
  exact hf
theorem rmade_any (k : Int) (l : List Int) (u : Value) (K : Nat → Prop) (w : World) (h : RdI w K u l) (hl : l.length = manyE (lettersE k)) :
    Calls Tryz.prog 56 #[.int .i64 k, u] w fun e w' => e = .returned (madeE k l).val ∧ Below w.heap.size w w' := by
  have C := Lib.hid (fun w' => rnames_any k w')
  have hlen : (lettersE k).length ≤ 3 := by rcases letters_cases k with ⟨_, e⟩ | ⟨_, e⟩ | ⟨_, e⟩ | ⟨_, e⟩ | ⟨_, e⟩ | ⟨_, e⟩ | ⟨_, e⟩ | ⟨_, e⟩ <;> rw [e] <;> decide
  have hmx : manyE (lettersE k) ≤ 9 := by rcases letters_cases k with ⟨_, e⟩ | ⟨_, e⟩ | ⟨_, e⟩ | ⟨_, e⟩ | ⟨_, e⟩ | ⟨_, e⟩ | ⟨_, e⟩ | ⟨_, e⟩ <;> rw [e] <;> decide
  have hf0 : fillE (lettersE k) l ⟨k, 0, 0, 0, 0, zero3⟩ = madeE k l := rfl
  generalize lettersE k = ls at *
  generalize madeE k l = x at *
  obtain ⟨A, c0, rfl, hc1, hc2⟩ := h.form
  have HR := Lib.hid h
  have H0 := Lib.hid hf0
  have HL := Lib.hid hl
  clear h hf0 hl
  go_enter Tryz.func56, Tryz.ntmps56
  go_wp2_with fail
  refine (C.out _).mono ?_; rintro e w1 ⟨rfl, hB⟩
  simp only [World.size_alloc] at hB
  have hs1 : w.heap.size + 2 ≤ w1.heap.size := by have := hB.size; simpa using this
  have hr4 : w1.heap[w.heap.size]? = some (.cells zeroE.cells 25 (0, 0)) := blk_below hB (blk_old _ (blk_new w _)) (by omega)
  have hr5 : w1.heap[w.heap.size + 1]? = some (.cells (Evt.cells ⟨k, 0, 0, 0, 0, zero3⟩) 25 (0, 0)) := by
    have := blk_new (w.alloc (.cells zeroE.cells 25)) (.cells (Evt.cells ⟨k, 0, 0, 0, 0, zero3⟩) 25)
    rw [World.size_alloc] at this
    exact blk_below hB this (by omega)
  have hB1 : Below w.heap.size w w1 := (((Below.refl _ _).alloc (Nat.le_refl _) _).alloc (by simp) _).trans (hB.mono (by omega))
  clear hB C
  have HR4 := Lib.hid hr4
  have HR5 := Lib.hid hr5
  have HB1 := Lib.hid hB1
  clear hr4 hr5 hB1
  go_wp2_with fail
  go_loopw [7, 8] (fun q i wr => ∃ (m : Nat) (ev : Evt), m ≤ ls.length ∧ i = .int .i64 m ∧ q = .int .i64 (manyE (ls.take m) : Nat) ∧ fillE (ls.drop m) (l.drop (manyE (ls.take m))) ev = x ∧ wr.heap[w.heap.size]? = some (.cells zeroE.cells 25 (0, 0)) ∧ wr.heap[w.heap.size + 1]? = some (.cells ev.cells 25 (0, 0)) ∧ Below w.heap.size w wr) (fun _ i _ => ls.length - (intOf i).toNat)
  case atStart => exact ⟨0, _, by omega, rfl, rfl, H0.out, HR4.out, HR5.out, HB1.out⟩
  case round =>
    obtain ⟨m, ev, hm, rfl, rfl, hf, h4, h5, hb⟩ := hrel
    by_cases hlt : m < ls.length
    · obtain ⟨hmt, hml⟩ := manyE_take ls m hlt
      have HFS := Lib.hid (fill_step hlt hf)
      obtain ⟨c, hc⟩ : ∃ c, ls[m] = c := ⟨_, rfl⟩
      have HIX := Lib.hid (letter_at ls m hlt c hc)
      rw [hc] at hmt hml
      have HFS2 := Lib.hid (show fillE (ls.drop (m + 1)) (l.drop (manyE (ls.take (m + 1)))) (putF ev c (l.drop (manyE (ls.take m)))) = x from by have := HFS.out; rwa [hc] at this)
      have HMT := Lib.hid hmt
      clear hf hc HFS
      have HRW := Lib.hid (HR.out.below hb)
      have HB := Lib.hid hb
      have H4 := Lib.hid h4
      have H5 := Lib.hid h5
      have hll : l.length ≤ 9 := by rw [HL.out]; exact hmx
      have hq : manyE (ls.take m) + wideE c ≤ l.length := by rw [HL.out]; exact hml
      have dk : decide (m < ls.length) = true := decide_eq_true hlt
      have HGD := Lib.hid (show ∀ q e, (l.drop q).getD e 0 = l.getD (q + e) 0 from fun q e => by rw [List.getD_eq_getElem?_getD, List.getD_eq_getElem?_getD, List.getElem?_drop])
      have hlc : l.length ≤ c0 := hc1
      clear hb h4 h5 hml
      generalize hqq : manyE (ls.take m) = q at *
      clear hqq
      have HCL := Lib.hid (show 0 < l.length → ∃ b o, A = some ⟨b, o, none⟩ ∧ b < w.heap.size ∧ ∀ e, e < l.length → wr.cell? ⟨b, o + e, none⟩ = some (.int .i64 (l.getD e 0)) from fun h0 => by
        obtain ⟨b, o, h1, h2, _, h4⟩ := HRW.out.at_ (k := 0) h0
        obtain ⟨b', o', h1', h2', _, _⟩ := HR.out.at_ (k := 0) h0
        rw [h1'] at h1; cases h1
        refine ⟨b, o, h1', h2', fun e he => ?_⟩
        rw [h4 e he, List.getD_eq_getElem?_getD, List.getElem?_eq_getElem he]; rfl)
      have hwr : w.heap.size ≤ wr.heap.size := HB.out.size
      rcases letter5 c with (rfl | rfl | rfl | rfl) | ⟨n1, n2, n3, n4⟩
      · have ix : ∀ w', (Instr.index 9 (.string (bs ls)) (.int .i64 (m : Int))).run Tryz.prog w' = .ok (.int .u8 78) w' := HIX.out
        have hq1 : q + 1 ≤ l.length := hq
        have HPF := Lib.hid (show putF ev 78 (l.drop q) = { ev with n := l.getD q 0 } by unfold putF; rw [if_pos rfl, HGD.out, Nat.add_zero])
        rw [HPF.out] at HFS2
        obtain ⟨b, o, rfl, hbw, hcl⟩ := HCL.out (by omega)
        have cq := hcl q (by omega)
        have dq0 : (0 : Int) ≤ (q : Int) ∧ (q : Int) < (l.length : Int) := by omega
        have dq1 : decide (q < l.length) = true := decide_eq_true (by omega)
        generalize hx : l.getD q 0 = y at *
        clear hx hcl
        have e1 : wr.cell? ⟨w.heap.size + 1, 1, none⟩ = some (.int .i64 ev.n) := blk_cell H5.out 1
        have f1 := blk_free H5.out 1
        go_wp2_with fail
        have H5' := Lib.hid (show (wr.setCell ⟨w.heap.size + 1, 1, none⟩ (.int .i64 y)).heap[w.heap.size + 1]? = some (.cells (Evt.cells { ev with n := y }) 25 (0, 0)) from blk_set H5.out 1 (.int .i64 y))
        have H4' := Lib.hid (blk_far (p := ⟨w.heap.size + 1, 1, none⟩) (.int .i64 y) H4.out (by simp))
        have HB' := Lib.hid (HB.out.setCell (p := ⟨w.heap.size + 1, 1, none⟩) (by simp) (.int .i64 y))
        go_roundw
        case rel => exact ⟨m + 1, { ev with n := y }, by omega, by go_num, by rw [HMT.out]; go_num; try rfl, HFS2.out, H4'.out, H5'.out, HB'.out⟩
        case measure => simp [intOf]; omega
      · have ix : ∀ w', (Instr.index 9 (.string (bs ls)) (.int .i64 (m : Int))).run Tryz.prog w' = .ok (.int .u8 73) w' := HIX.out
        have hq1 : q + 1 ≤ l.length := hq
        have HPF := Lib.hid (show putF ev 73 (l.drop q) = { ev with i := l.getD q 0 } by unfold putF; rw [if_neg (by decide), if_pos rfl, HGD.out, Nat.add_zero])
        rw [HPF.out] at HFS2
        obtain ⟨b, o, rfl, hbw, hcl⟩ := HCL.out (by omega)
        have cq := hcl q (by omega)
        have dq0 : (0 : Int) ≤ (q : Int) ∧ (q : Int) < (l.length : Int) := by omega
        have dq1 : decide (q < l.length) = true := decide_eq_true (by omega)
        generalize hx : l.getD q 0 = y at *
        clear hx hcl
        have e3 : wr.cell? ⟨w.heap.size + 1, 3, none⟩ = some (.int .i64 ev.i) := blk_cell H5.out 3
        have f3 := blk_free H5.out 3
        go_wp2_with fail
        have H5' := Lib.hid (show (wr.setCell ⟨w.heap.size + 1, 3, none⟩ (.int .i64 y)).heap[w.heap.size + 1]? = some (.cells (Evt.cells { ev with i := y }) 25 (0, 0)) from blk_set H5.out 3 (.int .i64 y))
        have H4' := Lib.hid (blk_far (p := ⟨w.heap.size + 1, 3, none⟩) (.int .i64 y) H4.out (by simp))
        have HB' := Lib.hid (HB.out.setCell (p := ⟨w.heap.size + 1, 3, none⟩) (by simp) (.int .i64 y))
        go_roundw
        case rel => exact ⟨m + 1, { ev with i := y }, by omega, by go_num, by rw [HMT.out]; go_num; try rfl, HFS2.out, H4'.out, H5'.out, HB'.out⟩
        case measure => simp [intOf]; omega
      · have ix : ∀ w', (Instr.index 9 (.string (bs ls)) (.int .i64 (m : Int))).run Tryz.prog w' = .ok (.int .u8 74) w' := HIX.out
        have hq1 : q + 1 ≤ l.length := hq
        have HPF := Lib.hid (show putF ev 74 (l.drop q) = { ev with j := l.getD q 0 } by unfold putF; rw [if_neg (by decide), if_neg (by decide), if_pos rfl, HGD.out, Nat.add_zero])
        rw [HPF.out] at HFS2
        obtain ⟨b, o, rfl, hbw, hcl⟩ := HCL.out (by omega)
        have cq := hcl q (by omega)
        have dq0 : (0 : Int) ≤ (q : Int) ∧ (q : Int) < (l.length : Int) := by omega
        have dq1 : decide (q < l.length) = true := decide_eq_true (by omega)
        generalize hx : l.getD q 0 = y at *
        clear hx hcl
        have e2 : wr.cell? ⟨w.heap.size + 1, 2, none⟩ = some (.int .i64 ev.j) := blk_cell H5.out 2
        have f2 := blk_free H5.out 2
        go_wp2_with fail
        have H5' := Lib.hid (show (wr.setCell ⟨w.heap.size + 1, 2, none⟩ (.int .i64 y)).heap[w.heap.size + 1]? = some (.cells (Evt.cells { ev with j := y }) 25 (0, 0)) from blk_set H5.out 2 (.int .i64 y))
        have H4' := Lib.hid (blk_far (p := ⟨w.heap.size + 1, 2, none⟩) (.int .i64 y) H4.out (by simp))
        have HB' := Lib.hid (HB.out.setCell (p := ⟨w.heap.size + 1, 2, none⟩) (by simp) (.int .i64 y))
        go_roundw
        case rel => exact ⟨m + 1, { ev with j := y }, by omega, by go_num, by rw [HMT.out]; go_num; try rfl, HFS2.out, H4'.out, H5'.out, HB'.out⟩
        case measure => simp [intOf]; omega
      · have ix : ∀ w', (Instr.index 9 (.string (bs ls)) (.int .i64 (m : Int))).run Tryz.prog w' = .ok (.int .u8 80) w' := HIX.out
        have hq1 : q + 1 ≤ l.length := hq
        have HPF := Lib.hid (show putF ev 80 (l.drop q) = { ev with p := l.getD q 0 } by unfold putF; rw [if_neg (by decide), if_neg (by decide), if_neg (by decide), if_pos rfl, HGD.out, Nat.add_zero])
        rw [HPF.out] at HFS2
        obtain ⟨b, o, rfl, hbw, hcl⟩ := HCL.out (by omega)
        have cq := hcl q (by omega)
        have dq0 : (0 : Int) ≤ (q : Int) ∧ (q : Int) < (l.length : Int) := by omega
        have dq1 : decide (q < l.length) = true := decide_eq_true (by omega)
        generalize hx : l.getD q 0 = y at *
        clear hx hcl
        have e4 : wr.cell? ⟨w.heap.size + 1, 4, none⟩ = some (.int .i64 ev.p) := blk_cell H5.out 4
        have f4 := blk_free H5.out 4
        go_wp2_with fail
        have H5' := Lib.hid (show (wr.setCell ⟨w.heap.size + 1, 4, none⟩ (.int .i64 y)).heap[w.heap.size + 1]? = some (.cells (Evt.cells { ev with p := y }) 25 (0, 0)) from blk_set H5.out 4 (.int .i64 y))
        have H4' := Lib.hid (blk_far (p := ⟨w.heap.size + 1, 4, none⟩) (.int .i64 y) H4.out (by simp))
        have HB' := Lib.hid (HB.out.setCell (p := ⟨w.heap.size + 1, 4, none⟩) (by simp) (.int .i64 y))
        go_roundw
        case rel => exact ⟨m + 1, { ev with p := y }, by omega, by go_num, by rw [HMT.out]; go_num; try rfl, HFS2.out, H4'.out, H5'.out, HB'.out⟩
        case measure => simp [intOf]; omega
      · have ix : ∀ w', (Instr.index 9 (.string (bs ls)) (.int .i64 (m : Int))).run Tryz.prog w' = .ok (.int .u8 (c.toNat : Int)) w' := HIX.out
        have d1 : ((c.toNat : Int) == 78) = false := toNat_ne n1
        have d2 : ((c.toNat : Int) == 73) = false := toNat_ne n2
        have d3 : ((c.toNat : Int) == 74) = false := toNat_ne n3
        have d4 : ((c.toNat : Int) == 80) = false := toNat_ne n4
        have hw3 : wideE c = 3 := by unfold wideE; rw [if_neg (by rintro (h | h | h | h) <;> contradiction)]
        rw [hw3] at hq
        have HPF := Lib.hid (show putF ev c (l.drop q) = { ev with r := ⟨l.getD q 0, l.getD (q + 1) 0, l.getD (q + 2) 0⟩ } by unfold putF; rw [if_neg n1, if_neg n2, if_neg n3, if_neg n4, HGD.out, HGD.out, HGD.out, Nat.add_zero])
        rw [HPF.out] at HFS2
        obtain ⟨b, o, rfl, hbw, hcl⟩ := HCL.out (by omega)
        have cq := hcl q (by omega)
        have cq1 := hcl (q + 1) (by omega)
        have cq2 := hcl (q + 2) (by omega)
        have dq0 : (0 : Int) ≤ (q : Int) ∧ (q : Int) < (l.length : Int) := by omega
        have dq1 : (0 : Int) ≤ (q : Int) + 1 ∧ (q : Int) + 1 < (l.length : Int) := by omega
        have dq2 : (0 : Int) ≤ (q : Int) + 2 ∧ (q : Int) + 2 < (l.length : Int) := by omega
        have dn0 : q < l.length := by omega
        have w1q : IntKind.i64.wrap ((q : Int) + 1) = (q : Int) + 1 := IntWalk.i64_in _ (by omega)
        have w2q : IntKind.i64.wrap ((q : Int) + 2) = (q : Int) + 2 := IntWalk.i64_in _ (by omega)
        have t1q : ((q : Int) + 1).toNat = q + 1 := by omega
        have t2q : ((q : Int) + 2).toNat = q + 2 := by omega
        generalize hx : l.getD q 0 = ya at *
        generalize hx1 : l.getD (q + 1) 0 = yb at *
        generalize hx2 : l.getD (q + 2) 0 = yc at *
        clear hx hx1 hx2 hcl
        have e5 : wr.cell? ⟨w.heap.size + 1, 5, none⟩ = some (.int .i64 ev.r.a) := blk_cell H5.out 5
        have f5 := blk_free H5.out 5
        have e6 : wr.cell? ⟨w.heap.size + 1, 6, none⟩ = some (.int .i64 ev.r.b) := blk_cell H5.out 6
        have f6 := blk_free H5.out 6
        have e7 : wr.cell? ⟨w.heap.size + 1, 7, none⟩ = some (.int .i64 ev.r.c) := blk_cell H5.out 7
        have f7 := blk_free H5.out 7
        go_wp2_with fail
        go_still_tail 16, (by kernel_rfl)
        change wpList _ _ _ _ _ wr.drew
        have H5b := Lib.hid (show wr.drew.heap[w.heap.size + 1]? = some (.cells ev.cells 25 (0, 0)) from H5.out)
        have H4b := Lib.hid (show wr.drew.heap[w.heap.size]? = some (.cells zeroE.cells 25 (0, 0)) from H4.out)
        have HBb := Lib.hid (HB.out.drew)
        clear e5 e6 e7 f5 f6 f7 HRW HCL H5 H4 HB cq cq1 cq2 hwr
        generalize wr.drew = w2 at *
        have e5 : w2.cell? ⟨w.heap.size + 1, 5, none⟩ = some (.int .i64 ev.r.a) := blk_cell H5b.out 5
        have f5 := blk_free H5b.out 5
        have e6 : w2.cell? ⟨w.heap.size + 1, 6, none⟩ = some (.int .i64 ev.r.b) := blk_cell H5b.out 6
        have f6 := blk_free H5b.out 6
        have e7 : w2.cell? ⟨w.heap.size + 1, 7, none⟩ = some (.int .i64 ev.r.c) := blk_cell H5b.out 7
        have f7 := blk_free H5b.out 7
        go_wp2_with fail
        have H5c := Lib.hid (blk_set (blk_set (blk_set H5b.out 5 (.int .i64 ya)) 6 (.int .i64 yb)) 7 (.int .i64 yc))
        have H4c := Lib.hid (blk_far (p := ⟨w.heap.size + 1, 7, none⟩) (.int .i64 yc) (blk_far (p := ⟨w.heap.size + 1, 6, none⟩) (.int .i64 yb) (blk_far (p := ⟨w.heap.size + 1, 5, none⟩) (.int .i64 ya) H4b.out (by simp)) (by simp)) (by simp))
        have HBc := Lib.hid (((HBb.out.setCell (p := ⟨w.heap.size + 1, 5, none⟩) (by simp) (.int .i64 ya)).setCell (p := ⟨w.heap.size + 1, 6, none⟩) (by simp) (.int .i64 yb)).setCell (p := ⟨w.heap.size + 1, 7, none⟩) (by simp) (.int .i64 yc))
        go_roundw
        case rel => exact ⟨m + 1, { ev with r := ⟨ya, yb, yc⟩ }, by omega, by go_num, by rw [HMT.out, hw3]; go_num; try rfl, HFS2.out, H4c.out, H5c.out, HBc.out⟩
        case measure => simp [intOf]; omega
    · obtain rfl : m = ls.length := by omega
      have dk : decide (ls.length < ls.length) = false := decide_eq_false (by omega)
      rw [List.drop_of_length_le (Nat.le_refl _)] at hf
      have hfx : ev = x := hf
      subst hfx
      have HB := Lib.hid hb
      have H5 := Lib.hid h5
      have H4 := Lib.hid h4
      obtain ⟨e0, e1, e2, e3, e4, e5, e6, e7⟩ := evt_cells h5
      obtain ⟨g0, g1, g2, g3, g4, g5, g6, g7⟩ := evt_cells h4
      obtain ⟨f0, f1, f2, f3, f4, f5, f6, f7⟩ := evt_free h4
      clear h4 h5 hb hf
      go_wp2_with fail
      all_goals exact bodyPost_ret (results_ce rfl rfl (evt_set (v := ev) H4.out) Tryz.underlying25 rfl (by kernel_rfl)) rfl ⟨rfl, HB.out.trans ((evt_only wr w.heap.size ev).below (Nat.le_refl _) HB.out.size)⟩
end Go.Proofs.YtgooepfhapaenaaGreat
/- What the document's own Pure, Check of events come to. Conditions: numbers that an int holds. -/
namespace Go.Proofs.YtgooepfhapaenaaGreat
open Go.ChangeShapes Go.WideShapes Go.ChangeAt Go.RowKit
set_option linter.unusedVariables false
set_option maxRecDepth 100000
set_option linter.unusedSimpArgs false
set_option maxHeartbeats 2000000

theorem eqE_run (w : World) (a b : Evt) :
    (Op.equalIn 10000 25 (.agg #[.int .i64 a.k, .int .i64 a.n, .int .i64 a.j, .int .i64 a.i, .int .i64 a.p, .int .i64 a.r.a, .int .i64 a.r.b, .int .i64 a.r.c]) (.agg #[.int .i64 b.k, .int .i64 b.n, .int .i64 b.j, .int .i64 b.i, .int .i64 b.p, .int .i64 b.r.a, .int .i64 b.r.b, .int .i64 b.r.c])).run Tryz.prog w = .ok (eqE a b) w := by
  have hu : Tryz.prog.underlying 3 = some (.int .i64) := Tryz.underlying3
  have hf : Tryz.prog.underlying 25 = some (.struct (Tryz.prog.fieldsOf 25)) := by kernel_rfl
  obtain ⟨i, hi, hz0, hz1, hz2⟩ := info_parts infoI64
  obtain ⟨ir, hir, hr1⟩ := infoRes
  have hr := eqRes_run w a.r b.r
  rw [run_equalIn_agg w 9999 25 _ _ hf (by kernel_rfl)]
  unfold eqE
  have hag : (isAgg 23).run Tryz.prog w = .ok true w := by kernel_rfl
  cases h1 : a.k == b.k
  · simp [Op.eqFields, Program.fieldsOf, Tryz.underlying25, part, go_sem, hi, hz1, hu, h1]
  cases h2 : a.n == b.n
  · simp [Op.eqFields, Program.fieldsOf, Tryz.underlying25, part, go_sem, hi, hz1, hu, h1, h2]
  cases h3 : a.j == b.j
  · simp [Op.eqFields, Program.fieldsOf, Tryz.underlying25, part, go_sem, hi, hz1, hu, h1, h2, h3]
  cases h4 : a.i == b.i
  · simp [Op.eqFields, Program.fieldsOf, Tryz.underlying25, part, go_sem, hi, hz1, hu, h1, h2, h3, h4]
  cases h5 : a.p == b.p
  · simp [Op.eqFields, Program.fieldsOf, Tryz.underlying25, part, go_sem, hi, hz1, hu, h1, h2, h3, h4, h5]
  simp [Op.eqFields, Program.fieldsOf, Tryz.underlying25, part, go_sem, hi, hz1, hir, hr1, hu, hag, h1, h2, h3, h4, h5, hr]
  cases eq3 a.r b.r <;> rfl
/-- Pure's region that draws: what holds where so many of the chain have come up. -/
def PuC (w0 : World) (v x : Evt) (p : Nat) (w : World) : Prop :=
  w.heap[w0.heap.size]? = some (.cells v.cells 25 (0, 0)) ∧ Below w0.heap.size w0 w ∧ (p ≤ 2 → w.heap[w0.heap.size + 1]? = some (.cells zeroE.cells 25 (0, 0))) ∧ (3 ≤ p → w.heap[w0.heap.size + 1]? = some (.cells x.cells 25 (0, 0)))
theorem rpure_any (v : Evt) (w : World) : Calls Tryz.prog 59 #[v.val] w fun e w' => e = .returned (pureE v).val ∧ Below w.heap.size w w' := by
  have C := Lib.hid (fun w' => rnames_any v.k w')
  have CN := Lib.hid (fun w' => rnumbers_any v w')
  have CM := Lib.hid (fun u K w' h => rmade_any v.k (numsE v (lettersE v.k)) u K w' h (numsE_len v v.k))
  have HP := Lib.hid (show lettersE v.k ≠ [] → pureE v = madeE v.k (numsE v (lettersE v.k)) from fun h => by unfold pureE; rw [if_neg h])
  have HP0 := Lib.hid (show lettersE v.k = [] → pureE v = zeroE from fun h => by unfold pureE; rw [if_pos h])
  generalize madeE v.k (numsE v (lettersE v.k)) = x at *
  generalize numsE v (lettersE v.k) = ns at *
  have hun : undef = Value.tuple #[] := rfl
  cases hl : lettersE v.k with
  | nil =>
    rw [HP0.out hl]
    rw [hl] at C
    have deq : (bs []).toList.isEmpty = true := by rw [bs_toList]; rfl
    clear hl HP HP0 CN CM
    unfold Evt.val
    go_enter Tryz.func59, Tryz.ntmps59
    go_wp2_with fail
    refine (C.out _).mono ?_; rintro e w1 ⟨rfl, hB⟩
    simp only [World.size_alloc] at hB
    have hr5 : w1.heap[w.heap.size + 1]? = some (.cells zeroE.cells 25 (0, 0)) := by
      have := blk_new (w.alloc (.cells v.cells 25)) (.cells zeroE.cells 25)
      rw [World.size_alloc] at this
      exact blk_below hB this (by omega)
    have HB1 := Lib.hid (show Below w.heap.size w w1 from (((Below.refl _ _).alloc (Nat.le_refl _) _).alloc (by simp) _).trans (hB.mono (by omega)))
    have HR5 := Lib.hid hr5
    obtain ⟨e0, e1, e2, e3, e4, e5, e6, e7⟩ := evt_cells hr5
    obtain ⟨f0, f1, f2, f3, f4, f5, f6, f7⟩ := evt_free hr5
    clear hB hr5
    go_wp2_with fail
    all_goals exact bodyPost_ret (results_ce rfl rfl (evt_set (v := zeroE) HR5.out) Tryz.underlying25 rfl (by kernel_rfl)) rfl ⟨rfl, HB1.out.trans ((evt_only w1 (w.heap.size + 1) zeroE).below (by omega) HB1.out.size)⟩
  | cons c0 cr =>
    have hne : lettersE v.k ≠ [] := by rw [hl]; simp
    rw [HP.out hne]
    rw [hl] at C
    have deq : (bs (c0 :: cr)).toList.isEmpty = false := by rw [bs_toList]; rfl
    clear hl HP HP0 hne
    unfold Evt.val
    go_enter Tryz.func59, Tryz.ntmps59
    go_wp2_with fail
    refine (C.out _).mono ?_; rintro e w1 ⟨rfl, hB⟩
    simp only [World.size_alloc] at hB
    have hr4 : w1.heap[w.heap.size]? = some (.cells v.cells 25 (0, 0)) := blk_below hB (blk_old _ (blk_new w _)) (by omega)
    have hr5 : w1.heap[w.heap.size + 1]? = some (.cells zeroE.cells 25 (0, 0)) := by
      have := blk_new (w.alloc (.cells v.cells 25)) (.cells zeroE.cells 25)
      rw [World.size_alloc] at this
      exact blk_below hB this (by omega)
    have hB1 : Below w.heap.size w w1 := (((Below.refl _ _).alloc (Nat.le_refl _) _).alloc (by simp) _).trans (hB.mono (by omega))
    have HS := Lib.hid (show PuC w v x 0 w1.drew from ⟨hr4, hB1.drew, fun _ => hr5, fun h => by omega⟩)
    clear hB hr4 hr5 hB1 C
    go_wp2_with fail
    refine wp_region_holdP [3, 4, 5] (PuC w v x) (by kernel_rfl) (by kernel_rfl) HS.out ?_
    refine holdP_val (v := .pointer (some ⟨w.heap.size, 0, none⟩)) (by rfl) (by rfl) (fun p w' hC => by go_simp) ?_
    simp only [Act.put, List.setIfInBounds_toArray, List.set_cons_zero, List.set_cons_succ]
    refine holdP_val (v := .int .i64 v.k) (by rfl) (by rfl) (fun p w' hC => by
      have e0 := (evt_cells hC.1).1
      go_simp) ?_
    simp only [Act.put, List.setIfInBounds_toArray, List.set_cons_zero, List.set_cons_succ]
    refine holdP_val (v := v.val) (by rfl) (by rfl) (fun p w' hC => by
      obtain ⟨e0, e1, e2, e3, e4, e5, e6, e7⟩ := evt_cells hC.1
      unfold Evt.val
      go_simp) ?_
    simp only [Act.put, List.setIfInBounds_toArray, List.set_cons_zero, List.set_cons_succ]
    refine holdP_some (f := 50) (args := #[v.val]) 0 (fun u p w' => p ≤ 1 → RdI w' (fun b => w.heap.size ≤ b) u ns) rfl (by rfl) (fun w' hC => by go_simp) (fun w' hC => ?_) (fun u => ?_)
    · have hsz : w.heap.size + 1 < w'.heap.size := lt_of_block (hC.2.2.1 (by omega))
      refine (CN.out w').mono fun e w2 hh => ?_
      obtain ⟨u, he, hr, hb⟩ := hh
      exact ⟨u, he, ⟨blk_below hb hC.1 (by omega), hC.2.1.trans (hb.mono (by omega)), fun _ => blk_below hb (hC.2.2.1 (by omega)) hsz, fun h => by omega⟩, fun _ => hr.imp fun b hb _ => by omega⟩
    simp only [Act.put, List.setIfInBounds_toArray, List.set_cons_zero, List.set_cons_succ]
    refine holdP_call (v := x.val) (f := 56) (args := #[.int .i64 v.k, u]) 1 rfl (by rfl) (fun w' hC => by go_simp) (fun w' hC => ?_) ?_
    · obtain ⟨hC, hu⟩ := hC
      have hsz : w.heap.size + 1 < w'.heap.size := lt_of_block (hC.2.2.1 (by omega))
      refine (CM.out u _ w' (hu (by omega) (by omega))).mono fun e w2 hh => ?_
      obtain ⟨he, hb⟩ := hh
      exact ⟨he, ⟨⟨blk_below hb hC.1 (by omega), hC.2.1.trans (hb.mono (by omega)), fun _ => blk_below hb (hC.2.2.1 (by omega)) hsz, fun h => by omega⟩, fun _ h => by omega⟩⟩
    simp only [Act.put, List.setIfInBounds_toArray, List.set_cons_zero, List.set_cons_succ]
    refine holdP_store 2 rfl (by rfl) (fun w' hC => ?_) ?_
    · have hr := hC.1.2.2.1 (by omega)
      obtain ⟨e0, e1, e2, e3, e4, e5, e6, e7⟩ := evt_cells hr
      obtain ⟨f0, f1, f2, f3, f4, f5, f6, f7⟩ := evt_free hr
      refine ⟨evtW w' (w.heap.size + 1) x, ?_, ⟨⟨(evt_only w' _ x).old hC.1.1 (by omega), hC.1.2.1.trans ((evt_only w' _ x).below (by omega) hC.1.2.1.size), fun h => by omega, fun _ => evt_set hr⟩, fun _ h => by omega⟩⟩
      unfold Evt.val
      go_simp
      rfl
    simp only [Act.put, List.setIfInBounds_toArray, List.set_cons_zero, List.set_cons_succ]
    refine holdP_nil (fun w3 hC => ?_)
    have HX := Lib.hid (hC.1.2.2.2 (by decide))
    have HB := Lib.hid hC.1.2.1
    clear hC
    go_wp2_with fail
    exact bodyPost_ret (results_ce rfl rfl HX.out Tryz.underlying25 rfl (by kernel_rfl)) rfl ⟨rfl, HB.out⟩
theorem then_qe {K : Act → World → Prop} {Q : Exit → Act → World → Prop} {a : Act} {w : World} (h : K a w) : Exit.then K Q .normal a w := h
theorem neE_run (w : World) (a b : Evt) : (binOp .neq 25 a.val b.val).run Tryz.prog w = .ok (.bool (!eqE a b)) w := by
  unfold Evt.val
  rw [run_neq_struct, eqE_run]
  rfl
theorem neE_guard (w : World) (a b : Evt) (x y : Operand) : (eqGuard .neq 25 x y a.val b.val).run Tryz.prog w = .ok () w := run_eqGuard_agg w .neq 25 x y _ _ (by kernel_rfl)
theorem letters_mem (k : Int) : ∀ c ∈ lettersE k, c = 78 ∨ c = 73 ∨ c = 74 ∨ c = 80 ∨ c = 82 := by
  rcases letters_cases k with ⟨_, e⟩ | ⟨_, e⟩ | ⟨_, e⟩ | ⟨_, e⟩ | ⟨_, e⟩ | ⟨_, e⟩ | ⟨_, e⟩ | ⟨_, e⟩ <;> rw [e] <;> decide
theorem rcheck_any (v : Evt) (w : World) : Calls Tryz.prog 39 #[v.val] w fun e w' => e = .returned (.int .i64 (checkE v)) ∧ Below w.heap.size w w' := by
  have C := Lib.hid (fun w' => rnames_any v.k w')
  have CP := Lib.hid (fun w' => rpure_any v w')
  have CR := Lib.hid (fun w' => r8right_any v.r w')
  have hlm := letters_mem v.k
  have hlen : (lettersE v.k).length ≤ 3 := by rcases letters_cases v.k with ⟨_, e⟩ | ⟨_, e⟩ | ⟨_, e⟩ | ⟨_, e⟩ | ⟨_, e⟩ | ⟨_, e⟩ | ⟨_, e⟩ | ⟨_, e⟩ <;> rw [e] <;> decide
  have HC0 := Lib.hid (show lettersE v.k = [] → checkE v = 5 from fun h => by unfold checkE; rw [if_pos h])
  have HC1 := Lib.hid (show ∀ c ∈ lettersE v.k, okFv v c = false → checkE v = 1 from fun c hc h => by
    unfold checkE
    rw [if_neg (by intro q; rw [q] at hc; cases hc), if_pos (by
      cases ha : (lettersE v.k).all (okFv v) with
      | false => rfl
      | true => rw [List.all_eq_true.1 ha c hc] at h; cases h)])
  have HC2 := Lib.hid (show lettersE v.k ≠ [] → (lettersE v.k).all (okFv v) = true → checkE v = if eqE (pureE v) v = false then 1 else 0 from fun h1 h2 => by
    unfold checkE
    rw [if_neg h1, if_neg (by rw [h2]; simp)])
  generalize checkE v = r at *
  generalize pureE v = x at *
  generalize lettersE v.k = ls at *
  have hun : undef = Value.tuple #[] := rfl
  by_cases hl : ls = []
  · subst hl
    have h5 := HC0.out rfl
    subst h5
    have deq : (bs []).toList.isEmpty = true := by rw [bs_toList]; rfl
    clear HC0 HC1 HC2 CP CR hlm
    unfold Evt.val
    go_enter Tryz.func39, Tryz.ntmps39
    go_wp2_with fail
    refine (C.out _).mono ?_; rintro e w1 ⟨rfl, hB⟩
    have HB := Lib.hid (show Below w.heap.size w w1 from ((Below.refl _ _).alloc (Nat.le_refl _) _).trans (hB.mono (by simp)))
    clear hB
    go_wp2_with fail
    go_ret
    exact ⟨rfl, HB.out⟩
  · have deq : (bs ls).toList.isEmpty = false := by rw [bs_toList]; cases ls with | nil => exact absurd rfl hl | cons _ _ => rfl
    clear hun
    unfold Evt.val
    go_enter Tryz.func39, Tryz.ntmps39
    go_wp2_with fail
    refine (C.out _).mono ?_; rintro e w1 ⟨rfl, hB⟩
    rw [World.size_alloc] at hB
    have hbx : w1.heap[w.heap.size]? = some (.cells v.cells 25 (0, 0)) := blk_below hB (blk_new w _) (by omega)
    have HB1 := Lib.hid (show Below w.heap.size w w1 from ((Below.refl _ _).alloc (Nat.le_refl _) _).trans (hB.mono (by omega)))
    have HBX := Lib.hid hbx
    clear hB hbx C
    go_wp2_with fail
    go_loopw [4] (fun i wr => ∃ m : Nat, m ≤ ls.length ∧ i = .int .i64 m ∧ (ls.take m).all (okFv v) = true ∧ wr.heap[w.heap.size]? = some (.cells v.cells 25 (0, 0)) ∧ Below w.heap.size w wr) (fun i _ => ls.length - (intOf i).toNat)
    case atStart => exact ⟨0, by omega, rfl, rfl, HBX.out, HB1.out⟩
    case round =>
      obtain ⟨m, hm, rfl, hall, hbx, hb⟩ := hrel
      have HB := Lib.hid hb
      have HX := Lib.hid hbx
      obtain ⟨e0, e1, e2, e3, e4, e5, e6, e7⟩ := evt_cells hbx
      have hwr : w.heap.size < wr.heap.size := lt_of_block hbx
      by_cases hlt : m < ls.length
      · have dk : decide (m < ls.length) = true := decide_eq_true hlt
        have dks : decide (m < (bs ls).size) = true := by rw [bs_size]; exact dk
        have hun : undef = Value.tuple #[] := rfl
        obtain ⟨c, hc⟩ : ∃ c, ls[m] = c := ⟨_, rfl⟩
        have HIX := Lib.hid (letter_at ls m hlt c hc)
        have hcm : c ∈ ls := by rw [← hc]; exact List.getElem_mem hlt
        have HNO := Lib.hid (HC1.out c hcm)
        have HYES := Lib.hid (show okFv v c = true → (ls.take (m + 1)).all (okFv v) = true from fun h => by
          rw [List.take_succ_eq_append_getElem hlt, List.all_append, hall, hc]; simp [h])
        have h5 := hlm c hcm
        have HL0 := Lib.hid (show ∀ w', Below wr.heap.size wr w' → w'.cell? ⟨w.heap.size, 1, none⟩ = some (.int .i64 v.n) ∧ w'.cell? ⟨w.heap.size, 2, none⟩ = some (.int .i64 v.j) ∧ w'.cell? ⟨w.heap.size, 3, none⟩ = some (.int .i64 v.i) ∧ w'.cell? ⟨w.heap.size, 4, none⟩ = some (.int .i64 v.p) ∧ w'.cell? ⟨w.heap.size, 5, none⟩ = some (.int .i64 v.r.a) ∧ w'.cell? ⟨w.heap.size, 6, none⟩ = some (.int .i64 v.r.b) ∧ w'.cell? ⟨w.heap.size, 7, none⟩ = some (.int .i64 v.r.c) from fun w' hw => (evt_cells (blk_below hw HX.out hwr)).2)
        have HL := HL0
        clear hall hb hbx hlm HC0 HC1 HC2 hcm hc e0 e1 e2 e3 e4 e5 e6 e7 HL0
        rcases h5 with rfl | rfl | rfl | rfl | rfl
        · have ix : ∀ w', (Instr.index 9 (.string (bs ls)) (.int .i64 (m : Int))).run Tryz.prog w' = .ok (.int .u8 78) w' := HIX.out
          have HOK := Lib.hid (show okFv v 78 = (decide (0 ≤ v.n) && decide (v.n ≤ 15)) by unfold okFv; rw [if_pos rfl])
          rw [HOK.out] at HNO HYES
          generalize v.n = y at *
          by_cases hy0 : y < 0
          · have hr := HNO.out (by rw [decide_eq_false (by omega)]; rfl)
            have q0 : decide (y < 0) = true := decide_eq_true hy0
            subst hr
            clear hy0
            refine wp_seq (wp_seq (wp_region_holdN (fun w' => Below wr.heap.size wr w') (Below.refl _ _) ?_))
            repeat
              first
              | (refine holdN_skip (by rfl) ?_
                 simp only [Act.put, List.setIfInBounds_toArray, List.set_cons_zero, List.set_cons_succ])
              | (refine holdN_val (v := ?_) (by rfl) ?_ ?_
                 rotate_left
                 · (intro w' hS
                    obtain ⟨e1, e2, e3, e4, e5, e6, e7⟩ := HL.out w' hS
                    go_simp
                    try with_reducible rfl)
                 simp only [Act.put, List.setIfInBounds_toArray, List.set_cons_zero, List.set_cons_succ])
            refine holdN_nil ?_
            intro w5 hS5
            refine then_qe (wp_cond_true (by rfl) (wp_skip (then_qe (wp_seq (wp_block (wp_seq (wp_region_holdN (fun w' => Below wr.heap.size wr w') hS5 ?_)))))))
            repeat
              first
              | (refine holdN_skip (by rfl) ?_
                 simp only [Act.put, List.setIfInBounds_toArray, List.set_cons_zero, List.set_cons_succ])
              | (refine holdN_val (v := ?_) (by rfl) ?_ ?_
                 rotate_left
                 · (intro w' hS
                    obtain ⟨e1, e2, e3, e4, e5, e6, e7⟩ := HL.out w' hS
                    go_simp
                    try with_reducible rfl)
                 simp only [Act.put, List.setIfInBounds_toArray, List.set_cons_zero, List.set_cons_succ])
            refine holdN_nil ?_
            intro w6 hS6
            have HB6 := Lib.hid (HB.out.trans (hS6.mono (by omega)))
            have HX6 := Lib.hid (blk_below hS6 HX.out hwr)
            clear hS6 hS5
            go_wp2_with fail
            go_ret
            exact ⟨rfl, HB6.out⟩
          · by_cases hy1 : y > 15
            · have hr := HNO.out (by rw [decide_eq_false (show ¬ y ≤ 15 by omega), Bool.and_false])
              have q0 : decide (y < 0) = false := decide_eq_false hy0
              have q1 : decide (y > 15) = true := decide_eq_true hy1
              have q2 : decide (15 < y) = true := decide_eq_true hy1
              subst hr
              clear hy0 hy1
              refine wp_seq (wp_seq (wp_region_holdN (fun w' => Below wr.heap.size wr w') (Below.refl _ _) ?_))
              repeat
                first
                | (refine holdN_skip (by rfl) ?_
                   simp only [Act.put, List.setIfInBounds_toArray, List.set_cons_zero, List.set_cons_succ])
                | (refine holdN_val (v := ?_) (by rfl) ?_ ?_
                   rotate_left
                   · (intro w' hS
                      obtain ⟨e1, e2, e3, e4, e5, e6, e7⟩ := HL.out w' hS
                      go_simp
                      try with_reducible rfl)
                   simp only [Act.put, List.setIfInBounds_toArray, List.set_cons_zero, List.set_cons_succ])
              refine holdN_nil ?_
              intro w5 hS5
              refine then_qe (wp_cond_true (by rfl) (wp_skip (then_qe (wp_seq (wp_block (wp_seq (wp_region_holdN (fun w' => Below wr.heap.size wr w') hS5 ?_)))))))
              repeat
                first
                | (refine holdN_skip (by rfl) ?_
                   simp only [Act.put, List.setIfInBounds_toArray, List.set_cons_zero, List.set_cons_succ])
                | (refine holdN_val (v := ?_) (by rfl) ?_ ?_
                   rotate_left
                   · (intro w' hS
                      obtain ⟨e1, e2, e3, e4, e5, e6, e7⟩ := HL.out w' hS
                      go_simp
                      try with_reducible rfl)
                   simp only [Act.put, List.setIfInBounds_toArray, List.set_cons_zero, List.set_cons_succ])
              refine holdN_nil ?_
              intro w6 hS6
              have HB6 := Lib.hid (HB.out.trans (hS6.mono (by omega)))
              have HX6 := Lib.hid (blk_below hS6 HX.out hwr)
              clear hS6 hS5
              go_wp2_with fail
              go_ret
              exact ⟨rfl, HB6.out⟩
            · have hall2 := HYES.out (by rw [decide_eq_true (show 0 ≤ y by omega), decide_eq_true (show y ≤ 15 by omega)]; rfl)
              have q0 : decide (y < 0) = false := decide_eq_false hy0
              have q1 : decide (y > 15) = false := decide_eq_false hy1
              have q2 : decide (15 < y) = false := decide_eq_false hy1
              have HA := Lib.hid hall2
              clear hy0 hy1 hall2
              refine wp_seq (wp_seq (wp_region_holdN (fun w' => Below wr.heap.size wr w') (Below.refl _ _) ?_))
              repeat
                first
                | (refine holdN_skip (by rfl) ?_
                   simp only [Act.put, List.setIfInBounds_toArray, List.set_cons_zero, List.set_cons_succ])
                | (refine holdN_val (v := ?_) (by rfl) ?_ ?_
                   rotate_left
                   · (intro w' hS
                      obtain ⟨e1, e2, e3, e4, e5, e6, e7⟩ := HL.out w' hS
                      go_simp
                      try with_reducible rfl)
                   simp only [Act.put, List.setIfInBounds_toArray, List.set_cons_zero, List.set_cons_succ])
              refine holdN_nil ?_
              intro w5 hS5
              refine then_qe (wp_cond_true (by rfl) (wp_skip (then_qe (wp_seq (wp_block (wp_seq (wp_region_holdN (fun w' => Below wr.heap.size wr w') hS5 ?_)))))))
              repeat
                first
                | (refine holdN_skip (by rfl) ?_
                   simp only [Act.put, List.setIfInBounds_toArray, List.set_cons_zero, List.set_cons_succ])
                | (refine holdN_val (v := ?_) (by rfl) ?_ ?_
                   rotate_left
                   · (intro w' hS
                      obtain ⟨e1, e2, e3, e4, e5, e6, e7⟩ := HL.out w' hS
                      go_simp
                      try with_reducible rfl)
                   simp only [Act.put, List.setIfInBounds_toArray, List.set_cons_zero, List.set_cons_succ])
              refine holdN_nil ?_
              intro w6 hS6
              have HB6 := Lib.hid (HB.out.trans (hS6.mono (by omega)))
              have HX6 := Lib.hid (blk_below hS6 HX.out hwr)
              clear hS6 hS5
              go_wp2_with fail
              clear hun
              go_roundw
              case rel => exact ⟨m + 1, by omega, by go_num, HA.out, HX6.out, HB6.out⟩
              case measure => simp [intOf]; omega
        · have ix : ∀ w', (Instr.index 9 (.string (bs ls)) (.int .i64 (m : Int))).run Tryz.prog w' = .ok (.int .u8 73) w' := HIX.out
          have HOK := Lib.hid (show okFv v 73 = (decide (1 ≤ v.i) && decide (v.i ≤ 2147483647)) by unfold okFv; rw [if_neg (by decide), if_pos rfl])
          rw [HOK.out] at HNO HYES
          generalize v.i = y at *
          by_cases hy0 : y < 1
          · have hr := HNO.out (by rw [decide_eq_false (by omega)]; rfl)
            have q0 : decide (y < 1) = true := decide_eq_true hy0
            subst hr
            clear hy0
            refine wp_seq (wp_seq (wp_region_holdN (fun w' => Below wr.heap.size wr w') (Below.refl _ _) ?_))
            repeat
              first
              | (refine holdN_skip (by rfl) ?_
                 simp only [Act.put, List.setIfInBounds_toArray, List.set_cons_zero, List.set_cons_succ])
              | (refine holdN_val (v := ?_) (by rfl) ?_ ?_
                 rotate_left
                 · (intro w' hS
                    obtain ⟨e1, e2, e3, e4, e5, e6, e7⟩ := HL.out w' hS
                    go_simp
                    try with_reducible rfl)
                 simp only [Act.put, List.setIfInBounds_toArray, List.set_cons_zero, List.set_cons_succ])
            refine holdN_nil ?_
            intro w5 hS5
            refine then_qe (wp_cond_true (by rfl) (wp_skip (then_qe (wp_seq (wp_block (wp_seq (wp_region_holdN (fun w' => Below wr.heap.size wr w') hS5 ?_)))))))
            repeat
              first
              | (refine holdN_skip (by rfl) ?_
                 simp only [Act.put, List.setIfInBounds_toArray, List.set_cons_zero, List.set_cons_succ])
              | (refine holdN_val (v := ?_) (by rfl) ?_ ?_
                 rotate_left
                 · (intro w' hS
                    obtain ⟨e1, e2, e3, e4, e5, e6, e7⟩ := HL.out w' hS
                    go_simp
                    try with_reducible rfl)
                 simp only [Act.put, List.setIfInBounds_toArray, List.set_cons_zero, List.set_cons_succ])
            refine holdN_nil ?_
            intro w6 hS6
            have HB6 := Lib.hid (HB.out.trans (hS6.mono (by omega)))
            have HX6 := Lib.hid (blk_below hS6 HX.out hwr)
            clear hS6 hS5
            go_wp2_with fail
            go_ret
            exact ⟨rfl, HB6.out⟩
          · by_cases hy1 : y > 2147483647
            · have hr := HNO.out (by rw [decide_eq_false (show ¬ y ≤ 2147483647 by omega), Bool.and_false])
              have q0 : decide (y < 1) = false := decide_eq_false hy0
              have q1 : decide (y > 2147483647) = true := decide_eq_true hy1
              have q2 : decide (2147483647 < y) = true := decide_eq_true hy1
              subst hr
              clear hy0 hy1
              refine wp_seq (wp_seq (wp_region_holdN (fun w' => Below wr.heap.size wr w') (Below.refl _ _) ?_))
              repeat
                first
                | (refine holdN_skip (by rfl) ?_
                   simp only [Act.put, List.setIfInBounds_toArray, List.set_cons_zero, List.set_cons_succ])
                | (refine holdN_val (v := ?_) (by rfl) ?_ ?_
                   rotate_left
                   · (intro w' hS
                      obtain ⟨e1, e2, e3, e4, e5, e6, e7⟩ := HL.out w' hS
                      go_simp
                      try with_reducible rfl)
                   simp only [Act.put, List.setIfInBounds_toArray, List.set_cons_zero, List.set_cons_succ])
              refine holdN_nil ?_
              intro w5 hS5
              refine then_qe (wp_cond_true (by rfl) (wp_skip (then_qe (wp_seq (wp_block (wp_seq (wp_region_holdN (fun w' => Below wr.heap.size wr w') hS5 ?_)))))))
              repeat
                first
                | (refine holdN_skip (by rfl) ?_
                   simp only [Act.put, List.setIfInBounds_toArray, List.set_cons_zero, List.set_cons_succ])
                | (refine holdN_val (v := ?_) (by rfl) ?_ ?_
                   rotate_left
                   · (intro w' hS
                      obtain ⟨e1, e2, e3, e4, e5, e6, e7⟩ := HL.out w' hS
                      go_simp
                      try with_reducible rfl)
                   simp only [Act.put, List.setIfInBounds_toArray, List.set_cons_zero, List.set_cons_succ])
              refine holdN_nil ?_
              intro w6 hS6
              have HB6 := Lib.hid (HB.out.trans (hS6.mono (by omega)))
              have HX6 := Lib.hid (blk_below hS6 HX.out hwr)
              clear hS6 hS5
              go_wp2_with fail
              go_ret
              exact ⟨rfl, HB6.out⟩
            · have hall2 := HYES.out (by rw [decide_eq_true (show 1 ≤ y by omega), decide_eq_true (show y ≤ 2147483647 by omega)]; rfl)
              have q0 : decide (y < 1) = false := decide_eq_false hy0
              have q1 : decide (y > 2147483647) = false := decide_eq_false hy1
              have q2 : decide (2147483647 < y) = false := decide_eq_false hy1
              have HA := Lib.hid hall2
              clear hy0 hy1 hall2
              refine wp_seq (wp_seq (wp_region_holdN (fun w' => Below wr.heap.size wr w') (Below.refl _ _) ?_))
              repeat
                first
                | (refine holdN_skip (by rfl) ?_
                   simp only [Act.put, List.setIfInBounds_toArray, List.set_cons_zero, List.set_cons_succ])
                | (refine holdN_val (v := ?_) (by rfl) ?_ ?_
                   rotate_left
                   · (intro w' hS
                      obtain ⟨e1, e2, e3, e4, e5, e6, e7⟩ := HL.out w' hS
                      go_simp
                      try with_reducible rfl)
                   simp only [Act.put, List.setIfInBounds_toArray, List.set_cons_zero, List.set_cons_succ])
              refine holdN_nil ?_
              intro w5 hS5
              refine then_qe (wp_cond_true (by rfl) (wp_skip (then_qe (wp_seq (wp_block (wp_seq (wp_region_holdN (fun w' => Below wr.heap.size wr w') hS5 ?_)))))))
              repeat
                first
                | (refine holdN_skip (by rfl) ?_
                   simp only [Act.put, List.setIfInBounds_toArray, List.set_cons_zero, List.set_cons_succ])
                | (refine holdN_val (v := ?_) (by rfl) ?_ ?_
                   rotate_left
                   · (intro w' hS
                      obtain ⟨e1, e2, e3, e4, e5, e6, e7⟩ := HL.out w' hS
                      go_simp
                      try with_reducible rfl)
                   simp only [Act.put, List.setIfInBounds_toArray, List.set_cons_zero, List.set_cons_succ])
              refine holdN_nil ?_
              intro w6 hS6
              have HB6 := Lib.hid (HB.out.trans (hS6.mono (by omega)))
              have HX6 := Lib.hid (blk_below hS6 HX.out hwr)
              clear hS6 hS5
              go_wp2_with fail
              clear hun
              go_roundw
              case rel => exact ⟨m + 1, by omega, by go_num, HA.out, HX6.out, HB6.out⟩
              case measure => simp [intOf]; omega
        · have ix : ∀ w', (Instr.index 9 (.string (bs ls)) (.int .i64 (m : Int))).run Tryz.prog w' = .ok (.int .u8 74) w' := HIX.out
          have HOK := Lib.hid (show okFv v 74 = (decide (1 ≤ v.j) && decide (v.j ≤ 2147483647)) by unfold okFv; rw [if_neg (by decide), if_neg (by decide), if_pos rfl])
          rw [HOK.out] at HNO HYES
          generalize v.j = y at *
          by_cases hy0 : y < 1
          · have hr := HNO.out (by rw [decide_eq_false (by omega)]; rfl)
            have q0 : decide (y < 1) = true := decide_eq_true hy0
            subst hr
            clear hy0
            refine wp_seq (wp_seq (wp_region_holdN (fun w' => Below wr.heap.size wr w') (Below.refl _ _) ?_))
            repeat
              first
              | (refine holdN_skip (by rfl) ?_
                 simp only [Act.put, List.setIfInBounds_toArray, List.set_cons_zero, List.set_cons_succ])
              | (refine holdN_val (v := ?_) (by rfl) ?_ ?_
                 rotate_left
                 · (intro w' hS
                    obtain ⟨e1, e2, e3, e4, e5, e6, e7⟩ := HL.out w' hS
                    go_simp
                    try with_reducible rfl)
                 simp only [Act.put, List.setIfInBounds_toArray, List.set_cons_zero, List.set_cons_succ])
            refine holdN_nil ?_
            intro w5 hS5
            refine then_qe (wp_cond_true (by rfl) (wp_skip (then_qe (wp_seq (wp_block (wp_seq (wp_region_holdN (fun w' => Below wr.heap.size wr w') hS5 ?_)))))))
            repeat
              first
              | (refine holdN_skip (by rfl) ?_
                 simp only [Act.put, List.setIfInBounds_toArray, List.set_cons_zero, List.set_cons_succ])
              | (refine holdN_val (v := ?_) (by rfl) ?_ ?_
                 rotate_left
                 · (intro w' hS
                    obtain ⟨e1, e2, e3, e4, e5, e6, e7⟩ := HL.out w' hS
                    go_simp
                    try with_reducible rfl)
                 simp only [Act.put, List.setIfInBounds_toArray, List.set_cons_zero, List.set_cons_succ])
            refine holdN_nil ?_
            intro w6 hS6
            have HB6 := Lib.hid (HB.out.trans (hS6.mono (by omega)))
            have HX6 := Lib.hid (blk_below hS6 HX.out hwr)
            clear hS6 hS5
            go_wp2_with fail
            go_ret
            exact ⟨rfl, HB6.out⟩
          · by_cases hy1 : y > 2147483647
            · have hr := HNO.out (by rw [decide_eq_false (show ¬ y ≤ 2147483647 by omega), Bool.and_false])
              have q0 : decide (y < 1) = false := decide_eq_false hy0
              have q1 : decide (y > 2147483647) = true := decide_eq_true hy1
              have q2 : decide (2147483647 < y) = true := decide_eq_true hy1
              subst hr
              clear hy0 hy1
              refine wp_seq (wp_seq (wp_region_holdN (fun w' => Below wr.heap.size wr w') (Below.refl _ _) ?_))
              repeat
                first
                | (refine holdN_skip (by rfl) ?_
                   simp only [Act.put, List.setIfInBounds_toArray, List.set_cons_zero, List.set_cons_succ])
                | (refine holdN_val (v := ?_) (by rfl) ?_ ?_
                   rotate_left
                   · (intro w' hS
                      obtain ⟨e1, e2, e3, e4, e5, e6, e7⟩ := HL.out w' hS
                      go_simp
                      try with_reducible rfl)
                   simp only [Act.put, List.setIfInBounds_toArray, List.set_cons_zero, List.set_cons_succ])
              refine holdN_nil ?_
              intro w5 hS5
              refine then_qe (wp_cond_true (by rfl) (wp_skip (then_qe (wp_seq (wp_block (wp_seq (wp_region_holdN (fun w' => Below wr.heap.size wr w') hS5 ?_)))))))
              repeat
                first
                | (refine holdN_skip (by rfl) ?_
                   simp only [Act.put, List.setIfInBounds_toArray, List.set_cons_zero, List.set_cons_succ])
                | (refine holdN_val (v := ?_) (by rfl) ?_ ?_
                   rotate_left
                   · (intro w' hS
                      obtain ⟨e1, e2, e3, e4, e5, e6, e7⟩ := HL.out w' hS
                      go_simp
                      try with_reducible rfl)
                   simp only [Act.put, List.setIfInBounds_toArray, List.set_cons_zero, List.set_cons_succ])
              refine holdN_nil ?_
              intro w6 hS6
              have HB6 := Lib.hid (HB.out.trans (hS6.mono (by omega)))
              have HX6 := Lib.hid (blk_below hS6 HX.out hwr)
              clear hS6 hS5
              go_wp2_with fail
              go_ret
              exact ⟨rfl, HB6.out⟩
            · have hall2 := HYES.out (by rw [decide_eq_true (show 1 ≤ y by omega), decide_eq_true (show y ≤ 2147483647 by omega)]; rfl)
              have q0 : decide (y < 1) = false := decide_eq_false hy0
              have q1 : decide (y > 2147483647) = false := decide_eq_false hy1
              have q2 : decide (2147483647 < y) = false := decide_eq_false hy1
              have HA := Lib.hid hall2
              clear hy0 hy1 hall2
              refine wp_seq (wp_seq (wp_region_holdN (fun w' => Below wr.heap.size wr w') (Below.refl _ _) ?_))
              repeat
                first
                | (refine holdN_skip (by rfl) ?_
                   simp only [Act.put, List.setIfInBounds_toArray, List.set_cons_zero, List.set_cons_succ])
                | (refine holdN_val (v := ?_) (by rfl) ?_ ?_
                   rotate_left
                   · (intro w' hS
                      obtain ⟨e1, e2, e3, e4, e5, e6, e7⟩ := HL.out w' hS
                      go_simp
                      try with_reducible rfl)
                   simp only [Act.put, List.setIfInBounds_toArray, List.set_cons_zero, List.set_cons_succ])
              refine holdN_nil ?_
              intro w5 hS5
              refine then_qe (wp_cond_true (by rfl) (wp_skip (then_qe (wp_seq (wp_block (wp_seq (wp_region_holdN (fun w' => Below wr.heap.size wr w') hS5 ?_)))))))
              repeat
                first
                | (refine holdN_skip (by rfl) ?_
                   simp only [Act.put, List.setIfInBounds_toArray, List.set_cons_zero, List.set_cons_succ])
                | (refine holdN_val (v := ?_) (by rfl) ?_ ?_
                   rotate_left
                   · (intro w' hS
                      obtain ⟨e1, e2, e3, e4, e5, e6, e7⟩ := HL.out w' hS
                      go_simp
                      try with_reducible rfl)
                   simp only [Act.put, List.setIfInBounds_toArray, List.set_cons_zero, List.set_cons_succ])
              refine holdN_nil ?_
              intro w6 hS6
              have HB6 := Lib.hid (HB.out.trans (hS6.mono (by omega)))
              have HX6 := Lib.hid (blk_below hS6 HX.out hwr)
              clear hS6 hS5
              go_wp2_with fail
              clear hun
              go_roundw
              case rel => exact ⟨m + 1, by omega, by go_num, HA.out, HX6.out, HB6.out⟩
              case measure => simp [intOf]; omega
        · have ix : ∀ w', (Instr.index 9 (.string (bs ls)) (.int .i64 (m : Int))).run Tryz.prog w' = .ok (.int .u8 80) w' := HIX.out
          have HOK := Lib.hid (show okFv v 80 = (decide (0 ≤ v.p) && decide (v.p ≤ 99)) by unfold okFv; rw [if_neg (by decide), if_neg (by decide), if_neg (by decide), if_pos rfl])
          rw [HOK.out] at HNO HYES
          generalize v.p = y at *
          by_cases hy0 : y < 0
          · have hr := HNO.out (by rw [decide_eq_false (by omega)]; rfl)
            have q0 : decide (y < 0) = true := decide_eq_true hy0
            subst hr
            clear hy0
            refine wp_seq (wp_seq (wp_region_holdN (fun w' => Below wr.heap.size wr w') (Below.refl _ _) ?_))
            repeat
              first
              | (refine holdN_skip (by rfl) ?_
                 simp only [Act.put, List.setIfInBounds_toArray, List.set_cons_zero, List.set_cons_succ])
              | (refine holdN_val (v := ?_) (by rfl) ?_ ?_
                 rotate_left
                 · (intro w' hS
                    obtain ⟨e1, e2, e3, e4, e5, e6, e7⟩ := HL.out w' hS
                    go_simp
                    try with_reducible rfl)
                 simp only [Act.put, List.setIfInBounds_toArray, List.set_cons_zero, List.set_cons_succ])
            refine holdN_nil ?_
            intro w5 hS5
            refine then_qe (wp_cond_true (by rfl) (wp_skip (then_qe (wp_seq (wp_block (wp_seq (wp_region_holdN (fun w' => Below wr.heap.size wr w') hS5 ?_)))))))
            repeat
              first
              | (refine holdN_skip (by rfl) ?_
                 simp only [Act.put, List.setIfInBounds_toArray, List.set_cons_zero, List.set_cons_succ])
              | (refine holdN_val (v := ?_) (by rfl) ?_ ?_
                 rotate_left
                 · (intro w' hS
                    obtain ⟨e1, e2, e3, e4, e5, e6, e7⟩ := HL.out w' hS
                    go_simp
                    try with_reducible rfl)
                 simp only [Act.put, List.setIfInBounds_toArray, List.set_cons_zero, List.set_cons_succ])
            refine holdN_nil ?_
            intro w6 hS6
            have HB6 := Lib.hid (HB.out.trans (hS6.mono (by omega)))
            have HX6 := Lib.hid (blk_below hS6 HX.out hwr)
            clear hS6 hS5
            go_wp2_with fail
            go_ret
            exact ⟨rfl, HB6.out⟩
          · by_cases hy1 : y > 99
            · have hr := HNO.out (by rw [decide_eq_false (show ¬ y ≤ 99 by omega), Bool.and_false])
              have q0 : decide (y < 0) = false := decide_eq_false hy0
              have q1 : decide (y > 99) = true := decide_eq_true hy1
              have q2 : decide (99 < y) = true := decide_eq_true hy1
              subst hr
              clear hy0 hy1
              refine wp_seq (wp_seq (wp_region_holdN (fun w' => Below wr.heap.size wr w') (Below.refl _ _) ?_))
              repeat
                first
                | (refine holdN_skip (by rfl) ?_
                   simp only [Act.put, List.setIfInBounds_toArray, List.set_cons_zero, List.set_cons_succ])
                | (refine holdN_val (v := ?_) (by rfl) ?_ ?_
                   rotate_left
                   · (intro w' hS
                      obtain ⟨e1, e2, e3, e4, e5, e6, e7⟩ := HL.out w' hS
                      go_simp
                      try with_reducible rfl)
                   simp only [Act.put, List.setIfInBounds_toArray, List.set_cons_zero, List.set_cons_succ])
              refine holdN_nil ?_
              intro w5 hS5
              refine then_qe (wp_cond_true (by rfl) (wp_skip (then_qe (wp_seq (wp_block (wp_seq (wp_region_holdN (fun w' => Below wr.heap.size wr w') hS5 ?_)))))))
              repeat
                first
                | (refine holdN_skip (by rfl) ?_
                   simp only [Act.put, List.setIfInBounds_toArray, List.set_cons_zero, List.set_cons_succ])
                | (refine holdN_val (v := ?_) (by rfl) ?_ ?_
                   rotate_left
                   · (intro w' hS
                      obtain ⟨e1, e2, e3, e4, e5, e6, e7⟩ := HL.out w' hS
                      go_simp
                      try with_reducible rfl)
                   simp only [Act.put, List.setIfInBounds_toArray, List.set_cons_zero, List.set_cons_succ])
              refine holdN_nil ?_
              intro w6 hS6
              have HB6 := Lib.hid (HB.out.trans (hS6.mono (by omega)))
              have HX6 := Lib.hid (blk_below hS6 HX.out hwr)
              clear hS6 hS5
              go_wp2_with fail
              go_ret
              exact ⟨rfl, HB6.out⟩
            · have hall2 := HYES.out (by rw [decide_eq_true (show 0 ≤ y by omega), decide_eq_true (show y ≤ 99 by omega)]; rfl)
              have q0 : decide (y < 0) = false := decide_eq_false hy0
              have q1 : decide (y > 99) = false := decide_eq_false hy1
              have q2 : decide (99 < y) = false := decide_eq_false hy1
              have HA := Lib.hid hall2
              clear hy0 hy1 hall2
              refine wp_seq (wp_seq (wp_region_holdN (fun w' => Below wr.heap.size wr w') (Below.refl _ _) ?_))
              repeat
                first
                | (refine holdN_skip (by rfl) ?_
                   simp only [Act.put, List.setIfInBounds_toArray, List.set_cons_zero, List.set_cons_succ])
                | (refine holdN_val (v := ?_) (by rfl) ?_ ?_
                   rotate_left
                   · (intro w' hS
                      obtain ⟨e1, e2, e3, e4, e5, e6, e7⟩ := HL.out w' hS
                      go_simp
                      try with_reducible rfl)
                   simp only [Act.put, List.setIfInBounds_toArray, List.set_cons_zero, List.set_cons_succ])
              refine holdN_nil ?_
              intro w5 hS5
              refine then_qe (wp_cond_true (by rfl) (wp_skip (then_qe (wp_seq (wp_block (wp_seq (wp_region_holdN (fun w' => Below wr.heap.size wr w') hS5 ?_)))))))
              repeat
                first
                | (refine holdN_skip (by rfl) ?_
                   simp only [Act.put, List.setIfInBounds_toArray, List.set_cons_zero, List.set_cons_succ])
                | (refine holdN_val (v := ?_) (by rfl) ?_ ?_
                   rotate_left
                   · (intro w' hS
                      obtain ⟨e1, e2, e3, e4, e5, e6, e7⟩ := HL.out w' hS
                      go_simp
                      try with_reducible rfl)
                   simp only [Act.put, List.setIfInBounds_toArray, List.set_cons_zero, List.set_cons_succ])
              refine holdN_nil ?_
              intro w6 hS6
              have HB6 := Lib.hid (HB.out.trans (hS6.mono (by omega)))
              have HX6 := Lib.hid (blk_below hS6 HX.out hwr)
              clear hS6 hS5
              go_wp2_with fail
              clear hun
              go_roundw
              case rel => exact ⟨m + 1, by omega, by go_num, HA.out, HX6.out, HB6.out⟩
              case measure => simp [intOf]; omega
        · have ix : ∀ w', (Instr.index 9 (.string (bs ls)) (.int .i64 (m : Int))).run Tryz.prog w' = .ok (.int .u8 82) w' := HIX.out
          have HOK := Lib.hid (show okFv v 82 = rightB v.r by unfold okFv; rw [if_neg (by decide), if_neg (by decide), if_neg (by decide), if_neg (by decide)])
          rw [HOK.out] at HNO HYES
          have CR2 := CR
          unfold V3.val at CR2
          cases hy : rightB v.r with
          | false =>
            have hr := HNO.out hy
            subst hr
            rw [hy] at CR2
            clear hy
            refine wp_seq (wp_seq (wp_region_holdN (fun w' => Below wr.heap.size wr w') (Below.refl _ _) ?_))
            repeat
              first
              | (refine holdN_skip (by rfl) ?_
                 simp only [Act.put, List.setIfInBounds_toArray, List.set_cons_zero, List.set_cons_succ])
              | (refine holdN_val (v := ?_) (by rfl) ?_ ?_
                 rotate_left
                 · (intro w' hS
                    obtain ⟨e1, e2, e3, e4, e5, e6, e7⟩ := HL.out w' hS
                    go_simp
                    try with_reducible rfl)
                 simp only [Act.put, List.setIfInBounds_toArray, List.set_cons_zero, List.set_cons_succ])
              | (refine holdN_call (by rfl) ?_ (fun w' hS => made_call hS (Nat.le_refl _) (CR2.out w')) ?_
                 · (intro w' hS; go_simp; done)
                 simp only [Act.put, List.setIfInBounds_toArray, List.set_cons_zero, List.set_cons_succ])
            refine holdN_nil ?_
            intro w5 hS5
            refine then_qe (wp_cond_true (by rfl) (wp_skip (then_qe (wp_seq (wp_block (wp_seq (wp_region_holdN (fun w' => Below wr.heap.size wr w') hS5 ?_)))))))
            repeat
              first
              | (refine holdN_skip (by rfl) ?_
                 simp only [Act.put, List.setIfInBounds_toArray, List.set_cons_zero, List.set_cons_succ])
              | (refine holdN_val (v := ?_) (by rfl) ?_ ?_
                 rotate_left
                 · (intro w' hS
                    obtain ⟨e1, e2, e3, e4, e5, e6, e7⟩ := HL.out w' hS
                    go_simp
                    try with_reducible rfl)
                 simp only [Act.put, List.setIfInBounds_toArray, List.set_cons_zero, List.set_cons_succ])
              | (refine holdN_call (by rfl) ?_ (fun w' hS => made_call hS (Nat.le_refl _) (CR2.out w')) ?_
                 · (intro w' hS; go_simp; done)
                 simp only [Act.put, List.setIfInBounds_toArray, List.set_cons_zero, List.set_cons_succ])
            refine holdN_nil ?_
            intro w6 hS6
            have HB6 := Lib.hid (HB.out.trans (hS6.mono (by omega)))
            have HX6 := Lib.hid (blk_below hS6 HX.out hwr)
            clear hS6 hS5
            go_wp2_with fail
            go_ret
            exact ⟨rfl, HB6.out⟩
          | true =>
            have hall2 := HYES.out hy
            rw [hy] at CR2
            have HA := Lib.hid hall2
            clear hy hall2
            refine wp_seq (wp_seq (wp_region_holdN (fun w' => Below wr.heap.size wr w') (Below.refl _ _) ?_))
            repeat
              first
              | (refine holdN_skip (by rfl) ?_
                 simp only [Act.put, List.setIfInBounds_toArray, List.set_cons_zero, List.set_cons_succ])
              | (refine holdN_val (v := ?_) (by rfl) ?_ ?_
                 rotate_left
                 · (intro w' hS
                    obtain ⟨e1, e2, e3, e4, e5, e6, e7⟩ := HL.out w' hS
                    go_simp
                    try with_reducible rfl)
                 simp only [Act.put, List.setIfInBounds_toArray, List.set_cons_zero, List.set_cons_succ])
              | (refine holdN_call (by rfl) ?_ (fun w' hS => made_call hS (Nat.le_refl _) (CR2.out w')) ?_
                 · (intro w' hS; go_simp; done)
                 simp only [Act.put, List.setIfInBounds_toArray, List.set_cons_zero, List.set_cons_succ])
            refine holdN_nil ?_
            intro w5 hS5
            refine then_qe (wp_cond_true (by rfl) (wp_skip (then_qe (wp_seq (wp_block (wp_seq (wp_region_holdN (fun w' => Below wr.heap.size wr w') hS5 ?_)))))))
            repeat
              first
              | (refine holdN_skip (by rfl) ?_
                 simp only [Act.put, List.setIfInBounds_toArray, List.set_cons_zero, List.set_cons_succ])
              | (refine holdN_val (v := ?_) (by rfl) ?_ ?_
                 rotate_left
                 · (intro w' hS
                    obtain ⟨e1, e2, e3, e4, e5, e6, e7⟩ := HL.out w' hS
                    go_simp
                    try with_reducible rfl)
                 simp only [Act.put, List.setIfInBounds_toArray, List.set_cons_zero, List.set_cons_succ])
              | (refine holdN_call (by rfl) ?_ (fun w' hS => made_call hS (Nat.le_refl _) (CR2.out w')) ?_
                 · (intro w' hS; go_simp; done)
                 simp only [Act.put, List.setIfInBounds_toArray, List.set_cons_zero, List.set_cons_succ])
            refine holdN_nil ?_
            intro w6 hS6
            have HB6 := Lib.hid (HB.out.trans (hS6.mono (by omega)))
            have HX6 := Lib.hid (blk_below hS6 HX.out hwr)
            clear hS6 hS5
            go_wp2_with fail
            clear hun
            go_roundw
            case rel => exact ⟨m + 1, by omega, by go_num, HA.out, HX6.out, HB6.out⟩
            case measure => simp [intOf]; omega
      · obtain rfl : m = ls.length := by omega
        have dk : decide (ls.length < ls.length) = false := decide_eq_false (by omega)
        rw [List.take_length] at hall
        have hr := HC2.out hl hall
        have HS := Lib.hid (show wr.drew.heap[w.heap.size]? = some (.cells v.cells 25 (0, 0)) ∧ Below w.heap.size w wr.drew from ⟨hbx, hb.drew⟩)
        clear hall hb hbx hlm HC0 HC1 HC2 e0 e1 e2 e3 e4 e5 e6 e7
        go_wp2_with fail
        refine wp_region_holdP [1] (fun p w' => w'.heap[w.heap.size]? = some (.cells v.cells 25 (0, 0)) ∧ Below w.heap.size w w') (by kernel_rfl) (by kernel_rfl) HS.out ?_
        refine holdP_val (v := v.val) (by rfl) (by rfl) (fun p w' hC => by
          obtain ⟨e0, e1, e2, e3, e4, e5, e6, e7⟩ := evt_cells hC.1
          unfold Evt.val
          go_simp) ?_
        simp only [Act.put, List.setIfInBounds_toArray, List.set_cons_zero, List.set_cons_succ]
        refine holdP_call (v := x.val) (f := 59) (args := #[v.val]) 0 rfl (by rfl) (fun w' hC => by go_simp) (fun w' hC => ?_) ?_
        · have hsz : w.heap.size < w'.heap.size := lt_of_block hC.1
          refine (CP.out w').mono fun e w2 hh => ?_
          obtain ⟨he, hb⟩ := hh
          exact ⟨he, blk_below hb hC.1 hsz, hC.2.trans (hb.mono (by omega))⟩
        simp only [Act.put, List.setIfInBounds_toArray, List.set_cons_zero, List.set_cons_succ]
        refine holdP_val (v := v.val) (by rfl) (by rfl) (fun p w' hC => by
          obtain ⟨e0, e1, e2, e3, e4, e5, e6, e7⟩ := evt_cells hC.1
          unfold Evt.val
          go_simp) ?_
        simp only [Act.put, List.setIfInBounds_toArray, List.set_cons_zero, List.set_cons_succ]
        refine holdP_val (v := .bool (!eqE x v)) (by rfl) (by rfl) (fun p w' hC => by
          have e := neE_run w' x v
          have eg := neE_guard w' x v
          go_simp) ?_
        simp only [Act.put, List.setIfInBounds_toArray, List.set_cons_zero, List.set_cons_succ]
        refine holdP_nil (fun w3 hC => ?_)
        have HB := Lib.hid hC.2
        clear hC
        cases he : eqE x v with
        | false =>
          rw [he, if_pos rfl] at hr
          subst hr
          simp only [Bool.not_false]
          go_wp2_with fail
          go_ret
          exact ⟨rfl, HB.out⟩
        | true =>
          rw [he, if_neg (by simp)] at hr
          subst hr
          simp only [Bool.not_true]
          go_wp2_with fail
          go_ret
          exact ⟨rfl, HB.out⟩
end Go.Proofs.YtgooepfhapaenaaGreat
