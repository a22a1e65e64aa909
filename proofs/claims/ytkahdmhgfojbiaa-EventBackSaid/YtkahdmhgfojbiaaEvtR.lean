/- What the document's own names and numbers of events come to. Conditions: numbers that an int holds. -/
import Derived.Test.YtkahdmhgfojbiaaProg
import Derived.Test.YtkahdmhgfojbiaaEvtPlain
import Derived.Test.YtkahdmhgfojbiaaRdI
import Derived.Test.YtkahdmhgfojbiaaSame
import Derived.Test.YtkahdmhgfojbiaaHolds
namespace Go.Proofs.Ytkahdmhgfojbiaa
open Go.ChangeShapes Go.WideShapes Go.ChangeAt Go.RowKit
set_option linter.unusedVariables false
set_option maxRecDepth 100000
set_option linter.unusedSimpArgs false
set_option maxHeartbeats 2000000

theorem rnames_any (k : Int) (w : World) : Calls Try.prog 21 #[.int .i64 k] w fun e w' => e = .returned (.string (bs (lettersE k))) ∧ Below w.heap.size w w' := by
  have hb : ∀ (X : Obj) (a : World), Below a.heap.size a (a.alloc X) := fun X a => (Below.refl _ _).alloc (Nat.le_refl _) _
  rcases letters_cases k with ⟨rfl, h⟩ | ⟨rfl, h⟩ | ⟨rfl, h⟩ | ⟨rfl, h⟩ | ⟨rfl, h⟩ | ⟨rfl, h⟩ | ⟨rfl, h⟩ | ⟨hk, h⟩
  all_goals
    rw [h]
    clear h
  case inr.inr.inr.inr.inr.inr.inr =>
    rcases hk with hk | hk
    · have d1 : decide (k < 1) = true := decide_eq_true hk
      go_enter Try.func21, Try.ntmps21
      go_wp2_with fail
      go_ret
      exact ⟨rfl, hb _ _⟩
    · have d1 : decide (k < 1) = false := decide_eq_false (by omega)
      have d2 : decide (k > 7) = true := decide_eq_true hk
      have d3 : decide (7 < k) = true := decide_eq_true hk
      go_enter Try.func21, Try.ntmps21
      go_wp2_with fail
      go_ret
      exact ⟨rfl, hb _ _⟩
  all_goals
    go_enter Try.func21, Try.ntmps21
    go_wp2_with fail
    go_ret
    exact ⟨rfl, hb _ _⟩
/-- A letter of a text. -/
theorem letter_at (ls : List UInt8) (m : Nat) (h : m < ls.length) (c : UInt8) (hc : ls[m] = c) (w : World) :
    (Instr.index 9 (.string (bs ls)) (.int .i64 (m : Int))).run Try.prog w = .ok (.int .u8 c.toNat) w := by
  have hs : m < (bs ls).size := by rw [bs_size]; exact h
  rw [ix_at w 9 (bs ls) m hs (by kernel_rfl)]
  have : (bs ls)[m]'hs = c := by rw [← hc]; simp [bs, ByteArray.getElem_eq_getElem_data]
  rw [this]
theorem letter5 (c : UInt8) : (c = 78 ∨ c = 73 ∨ c = 74 ∨ c = 80) ∨ (c ≠ 78 ∧ c ≠ 73 ∧ c ≠ 74 ∧ c ≠ 80) := by
  by_cases h1 : c = 78; · exact .inl (.inl h1)
  by_cases h2 : c = 73; · exact .inl (.inr (.inl h2))
  by_cases h3 : c = 74; · exact .inl (.inr (.inr (.inl h3)))
  by_cases h4 : c = 80; · exact .inl (.inr (.inr (.inr h4)))
  exact .inr ⟨h1, h2, h3, h4⟩
theorem toNat_ne {c d : UInt8} (h : c ≠ d) : ((c.toNat : Int) == (d.toNat : Int)) = false := by
  have : ¬ (c.toNat : Int) = (d.toNat : Int) := fun e => h (UInt8.toNat_inj.1 (by omega))
  simpa using this
theorem numsE_step (v : Evt) (ls : List UInt8) (m : Nat) (h : m < ls.length) : numsE v (ls.take (m + 1)) = numsE v (ls.take m) ++ fieldE v ls[m] := by
  unfold numsE
  rw [List.take_succ_eq_append_getElem h, List.flatMap_append]
  simp
theorem rnumbers_any (v : Evt) (w : World) : Calls Try.prog 19 #[v.val] w fun e w' => ∃ u, e = .returned u ∧ RdI w' (fun b => w.heap.size ≤ b) u (numsE v (lettersE v.k)) ∧ Below w.heap.size w w' := by
  have C := Lib.hid (fun w' => rnames_any v.k w')
  have hlen : (lettersE v.k).length ≤ 3 := by rcases letters_cases v.k with ⟨_, e⟩ | ⟨_, e⟩ | ⟨_, e⟩ | ⟨_, e⟩ | ⟨_, e⟩ | ⟨_, e⟩ | ⟨_, e⟩ | ⟨_, e⟩ <;> rw [e] <;> decide
  generalize lettersE v.k = ls at *
  obtain ⟨it, hit, hz0, hz1, hz2⟩ := info_parts infoI64
  unfold Evt.val
  go_enter Try.func19, Try.ntmps19
  go_wp2_with fail
  refine (C.out _).mono ?_; rintro e w1 ⟨rfl, hB⟩
  rw [World.size_alloc] at hB
  have hbx : w1.heap[w.heap.size]? = some (.cells v.cells 25 (0, 0)) := blk_below hB (blk_new w _) (by omega)
  have hs1 : w.heap.size + 1 ≤ w1.heap.size := by have := hB.size; simpa using this
  have HB1 := Lib.hid (show Below w.heap.size w w1 from ((Below.refl _ _).alloc (Nat.le_refl _) _).trans (hB.mono (by omega)))
  have HBX := Lib.hid hbx
  clear hB hbx
  go_wp2_with fail
  go_loopw [3, 5] (fun r i wr => ∃ m : Nat, m ≤ ls.length ∧ i = .int .i64 m ∧ wr.ownsRow (w.heap.size + 1) 3 1 r (numsE v (ls.take m)).length (ints (numsE v (ls.take m))) ∧ Below (w.heap.size + 1) w1 wr) (fun _ i _ => ls.length - (intOf i).toNat)
  case atStart => exact ⟨0, by omega, rfl, World.ownsRow_nil _ _ _ _, Below.refl _ _⟩
  case round =>
    obtain ⟨m, hm, rfl, hown, hb⟩ := hrel
    have hws : w1.heap.size ≤ wr.heap.size := hb.size
    have HO := Lib.hid hown
    have HB := Lib.hid hb
    by_cases hlt : m < ls.length
    · have hbr : wr.heap[w.heap.size]? = some (.cells v.cells 25 (0, 0)) := blk_below hb HBX.out (by omega)
      have c1 : wr.cell? ⟨w.heap.size, 1, none⟩ = some (.int .i64 v.n) := blk_cell hbr 1
      have c2 : wr.cell? ⟨w.heap.size, 2, none⟩ = some (.int .i64 v.j) := blk_cell hbr 2
      have c3 : wr.cell? ⟨w.heap.size, 3, none⟩ = some (.int .i64 v.i) := blk_cell hbr 3
      have c4 : wr.cell? ⟨w.heap.size, 4, none⟩ = some (.int .i64 v.p) := blk_cell hbr 4
      have dk : decide (m < ls.length) = true := decide_eq_true hlt
      have hnl : (numsE v (ls.take m)).length ≤ 9 := by
        unfold numsE
        rw [List.length_flatMap]
        have h3 : ∀ l : List UInt8, (l.map fun a => (fieldE v a).length).sum ≤ 3 * l.length := fun l => by
          induction l with
          | nil => simp
          | cons a r ih =>
            have : (fieldE v a).length ≤ 3 := by unfold fieldE; repeat' split
                                                 all_goals simp
            simp only [List.map_cons, List.sum_cons, List.length_cons]
            omega
        have := h3 (ls.take m)
        rw [List.length_take] at this
        omega
      have HST := Lib.hid (numsE_step v ls m hlt)
      obtain ⟨c, hc⟩ : ∃ c, ls[m] = c := ⟨_, rfl⟩
      have HIX := Lib.hid (letter_at ls m hlt c hc)
      rw [hc] at HST
      clear hown hb hc
      generalize hxs : numsE v (ls.take m) = xs at *
      clear hxs
      rcases letter5 c with (rfl | rfl | rfl | rfl) | ⟨n1, n2, n3, n4⟩
      · have ix : ∀ w', (Instr.index 9 (.string (bs ls)) (.int .i64 (m : Int))).run Try.prog w' = .ok (.int .u8 78) w' := HIX.out
        have HT := Lib.hid (show numsE v (ls.take (m + 1)) = xs ++ [v.n] from HST.out)
        generalize v.n = f at *
        go_wp2_with (at_builtin; refine wpList_append_rdI rfl _ _ 46 rfl (w.heap.size + 1) 3 infoI64 Try.underlying46 _ _ _ rfl (HO.out.alloc _) (fun _ => True) _ [f] rfl ?c2 ?c3 ?c4 ?_)
        case c2 => exact (rdI_lit _ [f] #[.int .i64 f] 3 rfl (by simp)).imp fun _ _ _ => trivial
        case c3 => simp; omega
        case c4 => simp; omega
        intro v' w4 hown4 hgrow
        have HB4 := Lib.hid (grown_below (HB.out.alloc (by omega) _) hgrow (fun g hg => owns_row HO.out hg) (by simp; omega))
        have HO4 := Lib.hid hown4
        clear hown4 hgrow
        go_wp2_with fail
        go_roundw
        case rel => exact ⟨m + 1, by omega, by go_num, by rw [HT.out]; simpa using HO4.out, HB4.out⟩
        case measure => simp [intOf]; omega
      · have ix : ∀ w', (Instr.index 9 (.string (bs ls)) (.int .i64 (m : Int))).run Try.prog w' = .ok (.int .u8 73) w' := HIX.out
        have HT := Lib.hid (show numsE v (ls.take (m + 1)) = xs ++ [v.i] from HST.out)
        generalize v.i = f at *
        go_wp2_with (at_builtin; refine wpList_append_rdI rfl _ _ 46 rfl (w.heap.size + 1) 3 infoI64 Try.underlying46 _ _ _ rfl (HO.out.alloc _) (fun _ => True) _ [f] rfl ?c2 ?c3 ?c4 ?_)
        case c2 => exact (rdI_lit _ [f] #[.int .i64 f] 3 rfl (by simp)).imp fun _ _ _ => trivial
        case c3 => simp; omega
        case c4 => simp; omega
        intro v' w4 hown4 hgrow
        have HB4 := Lib.hid (grown_below (HB.out.alloc (by omega) _) hgrow (fun g hg => owns_row HO.out hg) (by simp; omega))
        have HO4 := Lib.hid hown4
        clear hown4 hgrow
        go_wp2_with fail
        go_roundw
        case rel => exact ⟨m + 1, by omega, by go_num, by rw [HT.out]; simpa using HO4.out, HB4.out⟩
        case measure => simp [intOf]; omega
      · have ix : ∀ w', (Instr.index 9 (.string (bs ls)) (.int .i64 (m : Int))).run Try.prog w' = .ok (.int .u8 74) w' := HIX.out
        have HT := Lib.hid (show numsE v (ls.take (m + 1)) = xs ++ [v.j] from HST.out)
        generalize v.j = f at *
        go_wp2_with (at_builtin; refine wpList_append_rdI rfl _ _ 46 rfl (w.heap.size + 1) 3 infoI64 Try.underlying46 _ _ _ rfl (HO.out.alloc _) (fun _ => True) _ [f] rfl ?c2 ?c3 ?c4 ?_)
        case c2 => exact (rdI_lit _ [f] #[.int .i64 f] 3 rfl (by simp)).imp fun _ _ _ => trivial
        case c3 => simp; omega
        case c4 => simp; omega
        intro v' w4 hown4 hgrow
        have HB4 := Lib.hid (grown_below (HB.out.alloc (by omega) _) hgrow (fun g hg => owns_row HO.out hg) (by simp; omega))
        have HO4 := Lib.hid hown4
        clear hown4 hgrow
        go_wp2_with fail
        go_roundw
        case rel => exact ⟨m + 1, by omega, by go_num, by rw [HT.out]; simpa using HO4.out, HB4.out⟩
        case measure => simp [intOf]; omega
      · have ix : ∀ w', (Instr.index 9 (.string (bs ls)) (.int .i64 (m : Int))).run Try.prog w' = .ok (.int .u8 80) w' := HIX.out
        have HT := Lib.hid (show numsE v (ls.take (m + 1)) = xs ++ [v.p] from HST.out)
        generalize v.p = f at *
        go_wp2_with (at_builtin; refine wpList_append_rdI rfl _ _ 46 rfl (w.heap.size + 1) 3 infoI64 Try.underlying46 _ _ _ rfl (HO.out.alloc _) (fun _ => True) _ [f] rfl ?c2 ?c3 ?c4 ?_)
        case c2 => exact (rdI_lit _ [f] #[.int .i64 f] 3 rfl (by simp)).imp fun _ _ _ => trivial
        case c3 => simp; omega
        case c4 => simp; omega
        intro v' w4 hown4 hgrow
        have HB4 := Lib.hid (grown_below (HB.out.alloc (by omega) _) hgrow (fun g hg => owns_row HO.out hg) (by simp; omega))
        have HO4 := Lib.hid hown4
        clear hown4 hgrow
        go_wp2_with fail
        go_roundw
        case rel => exact ⟨m + 1, by omega, by go_num, by rw [HT.out]; simpa using HO4.out, HB4.out⟩
        case measure => simp [intOf]; omega
      · have ix : ∀ w', (Instr.index 9 (.string (bs ls)) (.int .i64 (m : Int))).run Try.prog w' = .ok (.int .u8 (c.toNat : Int)) w' := HIX.out
        have e1 : ((c.toNat : Int) == 78) = false := toNat_ne n1
        have e2 : ((c.toNat : Int) == 73) = false := toNat_ne n2
        have e3 : ((c.toNat : Int) == 74) = false := toNat_ne n3
        have e4 : ((c.toNat : Int) == 80) = false := toNat_ne n4
        have c5 : wr.cell? ⟨w.heap.size, 5, none⟩ = some (.int .i64 v.r.a) := blk_cell hbr 5
        have HT := Lib.hid (show numsE v (ls.take (m + 1)) = xs ++ [v.r.a] ++ [v.r.b] ++ [v.r.c] from by rw [HST.out]; unfold fieldE; rw [if_neg n1, if_neg n2, if_neg n3, if_neg n4]; simp)
        have HC := Lib.hid (show ∀ w', Below (w.heap.size + 1) w1 w' → w'.cell? ⟨w.heap.size, 6, none⟩ = some (.int .i64 v.r.b) ∧ w'.cell? ⟨w.heap.size, 7, none⟩ = some (.int .i64 v.r.c) from fun w' hw => ⟨blk_cell (blk_below hw HBX.out (by omega)) 6, blk_cell (blk_below hw HBX.out (by omega)) 7⟩)
        generalize v.r.a = fa at *
        generalize v.r.b = fb at *
        generalize v.r.c = fc at *
        clear n1 n2 n3 n4 c1 c2 c3 c4 hbr
        go_wp2_with (at_builtin; refine wpList_append_rdI rfl _ _ 46 rfl (w.heap.size + 1) 3 infoI64 Try.underlying46 _ _ _ rfl (HO.out.alloc _) (fun _ => True) _ [fa] rfl ?c2 ?c3 ?c4 ?_)
        case c2 => exact (rdI_lit _ [fa] #[.int .i64 fa] 3 rfl (by simp)).imp fun _ _ _ => trivial
        case c3 => simp; omega
        case c4 => simp; omega
        intro v5 w5 hown5 hgrow
        have HB5 := Lib.hid (grown_below (HB.out.alloc (by omega) _) hgrow (fun g hg => owns_row HO.out hg) (by simp; omega))
        have hs5 : w1.heap.size ≤ w5.heap.size := HB5.out.size
        have HO5 := Lib.hid (show w5.ownsRow (w.heap.size + 1) 3 1 v5 (xs ++ [fa]).length (ints (xs ++ [fa])) by simpa using hown5)
        obtain ⟨c6, _⟩ := HC.out _ HB5.out
        clear hown5 hgrow c5
        go_wp2_with (at_builtin; refine wpList_append_rdI rfl _ _ 46 rfl (w.heap.size + 1) 3 infoI64 Try.underlying46 _ _ _ rfl (HO5.out.alloc _) (fun _ => True) _ [fb] rfl ?c2 ?c3 ?c4 ?_)
        case c2 => exact (rdI_lit _ [fb] #[.int .i64 fb] 3 rfl (by simp)).imp fun _ _ _ => trivial
        case c3 => simp; omega
        case c4 => simp; omega
        intro v6 w6 hown6 hgrow
        have HB6 := Lib.hid (grown_below (HB5.out.alloc (by omega) _) hgrow (fun g hg => owns_row HO5.out hg) (by simp; omega))
        have hs6 : w1.heap.size ≤ w6.heap.size := HB6.out.size
        have HO6 := Lib.hid (show w6.ownsRow (w.heap.size + 1) 3 1 v6 (xs ++ [fa] ++ [fb]).length (ints (xs ++ [fa] ++ [fb])) by simpa using hown6)
        obtain ⟨_, c7⟩ := HC.out _ HB6.out
        clear hown6 hgrow c6
        go_wp2_with (at_builtin; refine wpList_append_rdI rfl _ _ 46 rfl (w.heap.size + 1) 3 infoI64 Try.underlying46 _ _ _ rfl (HO6.out.alloc _) (fun _ => True) _ [fc] rfl ?c2 ?c3 ?c4 ?_)
        case c2 => exact (rdI_lit _ [fc] #[.int .i64 fc] 3 rfl (by simp)).imp fun _ _ _ => trivial
        case c3 => simp; omega
        case c4 => simp; omega
        intro v7 w7 hown7 hgrow
        have HB7 := Lib.hid (grown_below (HB6.out.alloc (by omega) _) hgrow (fun g hg => owns_row HO6.out hg) (by simp; omega))
        have HO7 := Lib.hid hown7
        clear hown7 hgrow
        go_wp2_with fail
        go_roundw
        case rel => exact ⟨m + 1, by omega, by go_num, by rw [HT.out]; simpa using HO7.out, HB7.out⟩
        case measure => simp [intOf]; omega
    · obtain rfl : m = ls.length := by omega
      have dk : decide (ls.length < ls.length) = false := decide_eq_false (by omega)
      rw [List.take_length] at HO
      have HF := Lib.hid (show RdI wr (fun b => w.heap.size ≤ b) u3 (numsE v ls) from (RdI.own HO.out rfl).imp fun b hb _ => by omega)
      have HBF := Lib.hid (show Below w.heap.size w wr from HB1.out.trans (hb.mono (by omega)))
      clear hown hb HO
      go_wp2_with fail
      go_ret
      exact ⟨_, rfl, HF.out, HBF.out⟩
end Go.Proofs.Ytkahdmhgfojbiaa
