/- What the document's own Has, Put, Drop on rows of numbers come to. Conditions: rows of at most 100,000 numbers. -/
import Derived.Test.YtjncccongbfoiaaProg
import Derived.Test.YtjncccongbfoiaaDirPlain
import Derived.Test.YtjncccongbfoiaaRdI
import Derived.Test.YtjncccongbfoiaaSame
namespace Go.Proofs.Ytjncccongbfoiaa
open Go.ChangeShapes Go.WideShapes Go.ChangeAt Go.RowKit
set_option linter.unusedVariables false
set_option maxRecDepth 100000
set_option linter.unusedSimpArgs false

theorem k12has_any (v : Value) (l : List Int) (n : Int) (K : Nat → Prop) (w : World) (hn : l.length ≤ 100000) (h : RdI w K v l) :
    Calls Try.prog 7 #[v, .int .i64 n] w fun e w' => e = .returned (.bool (hasI l n)) ∧ w = w' := by
  obtain ⟨A, c, rfl, hc, _⟩ := h.form
  have H := Lib.hid fun k (hk : k < l.length) => h.at_ hk
  clear h hc
  go_enter Try.func7, Try.ntmps7
  go_wp2_with fail
  go_loopw [5] (fun i wr => ∃ k : Nat, k ≤ l.length ∧ i = .int .i64 k ∧ n ∉ l.take k ∧ wr = w) (fun i _ => l.length - (intOf i).toNat)
  case atStart => exact ⟨0, by omega, rfl, by simp, rfl⟩
  case round =>
    obtain ⟨k, hk, rfl, hnot, rfl⟩ := hrel
    by_cases hlt : k < l.length
    · obtain ⟨b, o, rfl, hbl, _, hx⟩ := H.out k hlt
      have g1 := hx k hlt
      have dk : decide (k < l.length) = true := decide_eq_true hlt
      have HT := Lib.hid (show l.take (k + 1) = l.take k ++ [l[k]] from List.take_succ_eq_append_getElem hlt)
      have hmem : l[k] ∈ l := List.getElem_mem hlt
      have HN := Lib.hid hnot
      clear hx hnot
      generalize l[k] = x at *
      by_cases he : x = n
      · subst he
        have de : (x == x) = true := by simp
        have HR := Lib.hid (show Ending.returned (.bool true) = .returned (.bool (hasI l x)) by unfold hasI; rw [decide_eq_true hmem])
        clear hmem
        go_wp2_with fail
        go_ret
        exact ⟨HR.out, rfl⟩
      · have de : (x == n) = false := by simpa using he
        have HNE := Lib.hid he
        clear hmem he
        go_wp2_with fail
        go_roundw
        case rel =>
          refine ⟨k + 1, by omega, by go_num, ?_, trivial⟩
          rw [HT.out, List.mem_append, List.mem_singleton]
          rintro (h | h)
          · exact HN.out h
          · exact HNE.out h.symm
        case measure => simp [intOf]; omega
    · have dk : decide (k < l.length) = false := decide_eq_false hlt
      rw [List.take_of_length_le (by omega)] at hnot
      have HR := Lib.hid (show Ending.returned (.bool false) = .returned (.bool (hasI l n)) by unfold hasI; rw [decide_eq_false hnot])
      clear hnot
      go_wp2_with fail
      go_ret
      exact ⟨HR.out, rfl⟩
theorem dropI_take (l : List Int) (n : Int) (k : Nat) (h : k < l.length) : dropI (l.take (k + 1)) n = dropI (l.take k) n ++ if l[k] = n then [] else [l[k]] := by
  rw [List.take_succ_eq_append_getElem h]
  unfold dropI
  rw [List.filter_append]
  by_cases hid : l[k] = n
  · simp [hid]
  · simp [hid]
theorem k12drop_any (v : Value) (l : List Int) (n : Int) (K : Nat → Prop) (w : World) (hn : l.length ≤ 100000) (h : RdI w K v l) :
    Calls Try.prog 10 #[v, .int .i64 n] w fun e w' => ∃ u, e = .returned u ∧ RdI w' (fun b => w.heap.size ≤ b) u (dropI l n) ∧ Below w.heap.size w w' := by
  obtain ⟨A, c, rfl, hc, _⟩ := h.form
  have H := Lib.hid fun k (hk : k < l.length) => h.at_ hk
  clear h hc
  go_enter Try.func10, Try.ntmps10
  go_wp2_with fail
  go_loopw [5, 6] (fun v i wr => ∃ k : Nat, k ≤ l.length ∧ i = .int .i64 k ∧ wr.ownsRow w.heap.size 3 1 v (dropI (l.take k) n).length (ints (dropI (l.take k) n)) ∧ Below w.heap.size w wr) (fun _ i _ => l.length - (intOf i).toNat)
  case atStart => exact ⟨0, by omega, rfl, World.ownsRow_nil _ _ _ _, Below.refl _ _⟩
  case round =>
    obtain ⟨k, hk, rfl, hown, hb⟩ := hrel
    have HO := Lib.hid hown
    have HB := Lib.hid hb
    have hw3 : w.heap.size ≤ wr.heap.size := hb.size
    have hdl := dropI_le (l.take k) n
    rw [List.length_take] at hdl
    clear hown hb
    by_cases hlt : k < l.length
    · obtain ⟨b, o, rfl, hbl, _, hx⟩ := H.out k hlt
      have g0 : wr.cell? ⟨b, o + k, none⟩ = some (.int .i64 l[k]) := (HB.out.cell (p := ⟨b, o + k, none⟩) hbl).trans (hx k hlt)
      have dk : decide (k < l.length) = true := decide_eq_true hlt
      have ht := dropI_take l n k hlt
      by_cases he : l[k] = n
      · have de : (l[k] != n) = false := by simp [he]
        rw [if_pos he, List.append_nil] at ht
        have HT := Lib.hid ht
        clear ht he hx
        generalize l[k] = T at *
        go_wp2_with fail
        go_roundw
        case rel => exact ⟨k + 1, by omega, by go_num, by rw [HT.out]; exact HO.out, HB.out⟩
        case measure => simp [intOf]; omega
      · have de : (l[k] != n) = true := by simpa using he
        rw [if_neg he] at ht
        have HT := Lib.hid ht
        clear ht he hx
        generalize l[k] = T at *
        go_wp2_with (at_builtin; refine wpList_append_rdI rfl _ _ 29 rfl w.heap.size 3 infoI64 Try.underlying29 _ _ _ rfl (HO.out.alloc _) (fun _ => True) _ [T] rfl ?c2 ?c3 ?c4 ?_)
        case c2 => exact (rdI_lit wr [T] #[.int .i64 T] 3 rfl (by simp)).imp fun _ _ _ => trivial
        case c3 => simp; omega
        case c4 => simp; omega
        intro v' w4 hown4 hgrow
        have HB4 := Lib.hid (grown_below (HB.out.alloc (HB.out.size) _) hgrow (fun g hg => owns_row HO.out hg) (by simp; omega))
        have hown4' : w4.ownsRow w.heap.size 3 1 v' (dropI (l.take (k + 1)) n).length (ints (dropI (l.take (k + 1)) n)) := by
          rw [HT.out, List.length_append]
          exact hown4
        have HO4 := Lib.hid hown4'
        clear hown4 hown4' hgrow
        go_wp2_with fail
        go_roundw
        case rel => exact ⟨k + 1, by omega, by go_num, HO4.out, HB4.out⟩
        case measure => simp [intOf]; omega
    · obtain rfl : k = l.length := by omega
      have dk : decide (l.length < l.length) = false := decide_eq_false hlt
      rw [List.take_length] at HO
      have HR := Lib.hid (RdI.own HO.out rfl)
      obtain ⟨A2, c2, rfl, _, _⟩ := HR.out.form
      go_wp2_with fail
      go_ret
      exact ⟨_, rfl, HR.out, HB.out⟩
theorem less_step (l : List Int) (n : Int) (k : Nat) (h : k < l.length) (hI : lessI l n = k + lessI (l.drop k) n) : (l[k] < n → lessI l n = k + 1 + lessI (l.drop (k + 1)) n) ∧ (¬ l[k] < n → lessI l n = k) := by
  rw [List.drop_eq_getElem_cons h] at hI
  unfold lessI at hI ⊢
  rw [List.takeWhile_cons] at hI
  constructor
  · intro hl
    simp only [decide_eq_true hl, if_true, List.length_cons] at hI
    omega
  · intro hl
    simp only [decide_eq_false hl] at hI
    simpa using hI
theorem k12put_any (v : Value) (l : List Int) (n : Int) (K : Nat → Prop) (w : World) (hn : l.length ≤ 100000) (h : RdI w K v l) :
    Calls Try.prog 8 #[v, .int .i64 n] w fun e w' => ∃ u, e = .returned u ∧ RdI w' (fun b => K b ∨ w.heap.size ≤ b) u (putI l n) ∧ Below w.heap.size w w' := by
  have C := k12has_any v l n K w hn h
  cases hh : hasI l n with
  | true =>
    have HR := Lib.hid (show RdI w (fun b => K b ∨ w.heap.size ≤ b) v (putI l n) from by
      have : putI l n = l := by unfold putI; rw [if_pos (by simpa [hasI] using hh)]
      rw [this]; exact h.imp fun b hb _ => .inl hb)
    rw [hh] at C
    replace C := Lib.hid C
    clear h hh
    go_enter Try.func8, Try.ntmps8
    go_wp2_with fail
    refine C.out.mono ?_; rintro e w1 ⟨rfl, rfl⟩
    go_wp2_with fail
    go_ret
    exact ⟨_, rfl, HR.out, Below.refl _ _⟩
  | false =>
    rw [hh] at C
    replace C := Lib.hid C
    have hnot : n ∉ l := by simpa [hasI] using hh
    have HPU := Lib.hid (show putI l n = l.take (lessI l n) ++ n :: l.drop (lessI l n) by unfold putI; rw [if_neg hnot])
    obtain ⟨A, c, rfl, hc, _⟩ := h.form
    have HRD := Lib.hid h
    have H := Lib.hid fun k (hk : k < l.length) => h.at_ hk
    clear h hh hnot
    go_enter Try.func8, Try.ntmps8
    go_wp2_with fail
    refine C.out.mono ?_; rintro e w1 ⟨rfl, rfl⟩
    go_wp2_with fail
    go_loopw [5] (fun i wr => ∃ k : Nat, k ≤ l.length ∧ i = .int .i64 k ∧ lessI l n = k + lessI (l.drop k) n ∧ wr = w) (fun i _ => l.length - (intOf i).toNat)
    case atStart => exact ⟨0, by omega, rfl, by simp, rfl⟩
    case round =>
      obtain ⟨k, hk, rfl, hI, rfl⟩ := hrel
      by_cases hlt : k < l.length
      · obtain ⟨b, o, rfl, hbl, _, hx⟩ := H.out k hlt
        have g1 := hx k hlt
        have dk : decide (k < l.length) = true := decide_eq_true hlt
        have HS := Lib.hid (less_step l n k hlt hI)
        clear hx hI
        by_cases hl : l[k] < n
        · have HI := Lib.hid (HS.out.1 hl)
          generalize l[k] = x at *
          have dl : decide (x < n) = true := decide_eq_true hl
          clear hl HS
          go_wp2_with fail
          go_roundw
          case rel => exact ⟨k + 1, by omega, by go_num, HI.out, trivial⟩
          case measure => simp [intOf]; omega
        · have HK := Lib.hid (HS.out.2 hl)
          generalize l[k] = x at *
          have dl : decide (x < n) = false := decide_eq_false hl
          clear hl HS
          have hs1 := fun w => run_slice_hd (P := Try.prog) w 29 3 (some ⟨b, o, none⟩) l.length c k Try.underlying29 Try.sizeOf3 (by omega)
          have hs2 := fun w => run_slice_tl (P := Try.prog) w 29 3 (some ⟨b, o, none⟩) l.length c k Try.underlying29 Try.sizeOf3 (by omega)
          have R1 := Lib.hid (HRD.out.take k (by omega))
          have R2 := HRD.out.drop k (by omega)
          generalize sliced (some ⟨b, o, none⟩) k l.length c 1 = s2 at hs2 R2
          have R2 := Lib.hid R2
          have htl : (l.take k).length = k := by rw [List.length_take]; omega
          have hdl : (l.drop k).length = l.length - k := List.length_drop
          obtain ⟨lt, hlt0⟩ : ∃ lt, l.take k = lt := ⟨_, rfl⟩
          obtain ⟨ld, hld0⟩ : ∃ ld, l.drop k = ld := ⟨_, rfl⟩
          have HE := Lib.hid (show putI l n = lt ++ n :: ld by rw [HPU.out, HK.out, hlt0, hld0])
          rw [hlt0] at R1 htl
          rw [hld0] at R2 hdl
          clear hlt0 hld0
          go_wp2_with (at_builtin; refine wpList_append_rdI rfl _ _ 29 rfl wr.heap.size 3 infoI64 Try.underlying29 _ 0 [] rfl (World.ownsRow_nil _ _ _ _) K _ lt rfl R1.out ?q2 ?q3 ?_)
          case q2 => omega
          case q3 => exact Nat.le_refl _
          intro v1 w1 hown1 hgrow1
          have HB1 := Lib.hid (grown_below (Below.refl _ _) hgrow1 (fun g hg => by cases hg) (Nat.le_refl _))
          have hw1 : wr.heap.size ≤ w1.heap.size := HB1.out.size
          have HO1 := Lib.hid hown1
          clear hown1 hgrow1
          go_wp2_with (at_builtin; refine wpList_append_rdI rfl _ _ 29 rfl wr.heap.size 3 infoI64 Try.underlying29 _ _ _ rfl (HO1.out.alloc _) (fun _ => True) _ [n] rfl ?q12 ?q13 ?q14 ?_)
          case q12 => exact (rdI_lit w1 [n] #[.int .i64 n] 3 rfl (by simp)).imp fun _ _ _ => trivial
          case q13 => first | omega | (simp; omega)
          case q14 => first | omega | (simp; omega)
          intro v2 w2 hown2 hgrow2
          have HB2 := Lib.hid (grown_below (HB1.out.alloc (HB1.out.size) _) hgrow2 (fun g hg => owns_row HO1.out hg) (by simp; omega))
          have hw2 : wr.heap.size ≤ w2.heap.size := HB2.out.size
          have HO2 := Lib.hid hown2
          clear hown2 hgrow2
          go_wp2_with (at_builtin; refine wpList_append_rdI rfl _ _ 29 rfl wr.heap.size 3 infoI64 Try.underlying29 _ _ _ rfl HO2.out K _ ld rfl ?q22 ?q23 ?q24 ?_)
          case q22 => exact R2.out.below HB2.out
          case q23 => first | omega | (simp; omega)
          case q24 => omega
          intro v3 w3 hown3 hgrow3
          have HB3 := Lib.hid (grown_below HB2.out hgrow3 (fun g hg => owns_row HO2.out hg) hw2)
          have HR := Lib.hid (show RdI w3 (fun b => K b ∨ wr.heap.size ≤ b) v3 (putI l n) from by
            rw [HE.out]
            have h := RdI.own (ns := lt ++ n :: ld) (by simpa using hown3) (by simp; omega)
            exact h.imp fun b hb _ => .inr hb)
          clear hown3 hgrow3
          obtain ⟨A3, c3, rfl, _, _⟩ := HR.out.form
          go_wp2_with fail
          go_ret
          exact ⟨_, rfl, HR.out, HB3.out⟩
      · have dk : decide (k < l.length) = false := decide_eq_false hlt
        have HK := Lib.hid (show lessI l n = k by
          rw [List.drop_of_length_le (by omega)] at hI
          exact hI)
        clear hI
        have hs1 := fun w => run_slice_hd (P := Try.prog) w 29 3 A l.length c k Try.underlying29 Try.sizeOf3 (by omega)
        have hs2 := fun w => run_slice_tl (P := Try.prog) w 29 3 A l.length c k Try.underlying29 Try.sizeOf3 (by omega)
        have R1 := Lib.hid (HRD.out.take k (by omega))
        have R2 := HRD.out.drop k (by omega)
        generalize sliced A k l.length c 1 = s2 at hs2 R2
        have R2 := Lib.hid R2
        have htl : (l.take k).length = k := by rw [List.length_take]; omega
        have hdl : (l.drop k).length = l.length - k := List.length_drop
        obtain ⟨lt, hlt0⟩ : ∃ lt, l.take k = lt := ⟨_, rfl⟩
        obtain ⟨ld, hld0⟩ : ∃ ld, l.drop k = ld := ⟨_, rfl⟩
        have HE := Lib.hid (show putI l n = lt ++ n :: ld by rw [HPU.out, HK.out, hlt0, hld0])
        rw [hlt0] at R1 htl
        rw [hld0] at R2 hdl
        clear hlt0 hld0
        go_wp2_with (at_builtin; refine wpList_append_rdI rfl _ _ 29 rfl wr.heap.size 3 infoI64 Try.underlying29 _ 0 [] rfl (World.ownsRow_nil _ _ _ _) K _ lt rfl R1.out ?p2 ?p3 ?_)
        case p2 => omega
        case p3 => exact Nat.le_refl _
        intro v1 w1 hown1 hgrow1
        have HB1 := Lib.hid (grown_below (Below.refl _ _) hgrow1 (fun g hg => by cases hg) (Nat.le_refl _))
        have hw1 : wr.heap.size ≤ w1.heap.size := HB1.out.size
        have HO1 := Lib.hid hown1
        clear hown1 hgrow1
        go_wp2_with (at_builtin; refine wpList_append_rdI rfl _ _ 29 rfl wr.heap.size 3 infoI64 Try.underlying29 _ _ _ rfl (HO1.out.alloc _) (fun _ => True) _ [n] rfl ?p12 ?p13 ?p14 ?_)
        case p12 => exact (rdI_lit w1 [n] #[.int .i64 n] 3 rfl (by simp)).imp fun _ _ _ => trivial
        case p13 => first | omega | (simp; omega)
        case p14 => first | omega | (simp; omega)
        intro v2 w2 hown2 hgrow2
        have HB2 := Lib.hid (grown_below (HB1.out.alloc (HB1.out.size) _) hgrow2 (fun g hg => owns_row HO1.out hg) (by simp; omega))
        have hw2 : wr.heap.size ≤ w2.heap.size := HB2.out.size
        have HO2 := Lib.hid hown2
        clear hown2 hgrow2
        go_wp2_with (at_builtin; refine wpList_append_rdI rfl _ _ 29 rfl wr.heap.size 3 infoI64 Try.underlying29 _ _ _ rfl HO2.out K _ ld rfl ?p22 ?p23 ?p24 ?_)
        case p22 => exact R2.out.below HB2.out
        case p23 => first | omega | (simp; omega)
        case p24 => omega
        intro v3 w3 hown3 hgrow3
        have HB3 := Lib.hid (grown_below HB2.out hgrow3 (fun g hg => owns_row HO2.out hg) hw2)
        have HR := Lib.hid (show RdI w3 (fun b => K b ∨ wr.heap.size ≤ b) v3 (putI l n) from by
          rw [HE.out]
          have h := RdI.own (ns := lt ++ n :: ld) (by simpa using hown3) (by simp; omega)
          exact h.imp fun b hb _ => .inr hb)
        clear hown3 hgrow3
        obtain ⟨A3, c3, rfl, _, _⟩ := HR.out.form
        go_wp2_with fail
        go_ret
        exact ⟨_, rfl, HR.out, HB3.out⟩
end Go.Proofs.Ytjncccongbfoiaa
