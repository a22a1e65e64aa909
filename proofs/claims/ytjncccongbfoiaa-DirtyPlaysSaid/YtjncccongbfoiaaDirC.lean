/- Mark. Conditions: as stated. -/
import Derived.Test.YtjncccongbfoiaaDirA
namespace Go.Proofs.Ytjncccongbfoiaa
open Go.ChangeShapes Go.WideShapes Go.ChangeAt Go.RowKit
set_option linter.unusedVariables false
set_option maxRecDepth 100000
set_option linter.unusedSimpArgs false

theorem seql_some (bm : Nat) (w : World) : (binOp .eql 26 (.map (some bm)) (.map none)).run Try.prog w = .ok (.bool false) w := by kernel_rfl
theorem seql_nil (w : World) : (binOp .eql 26 (.map none) (.map none)).run Try.prog w = .ok (.bool true) w := by kernel_rfl
theorem smark_some (b m : Nat) (l ns : List Int) (A : Option Addr) (c : Nat) (w : World) (hl : l.length ≤ 100000) (hns : ns.length ≤ 1000) (hin : ∀ x ∈ ns, inI x)
    (hb : w.heap[b]? = some (sX (.map (some m)))) (hm : MapB w m l.length (inF l)) (hbm : b ≠ m) (hx : ∀ k (hk : k < ns.length), ∃ g o, A = some ⟨g, o, none⟩ ∧ g ≠ m ∧ g < w.heap.size ∧ w.cell? ⟨g, o + k, none⟩ = some (.int .i64 ns[k])) :
    Calls Try.prog 9 #[.pointer (some ⟨b, 0, none⟩), .slice A ns.length c] w fun e w' => e = .returned (.int .i64 (((putsI l ns).length : Int) - (l.length : Int))) ∧ MapB w' m (putsI l ns).length (inF (putsI l ns)) ∧ Only m w w' := by
  have c0 : w.cell? ⟨b, 0, none⟩ = some (.map (some m)) := blk_cell hb 0
  have hlen := fun ty => MapF.len (t := 26) (e := 4) hm Try.underlying26 ty
  have HM := Lib.hid hm
  have HX := Lib.hid hx
  have HIN := Lib.hid hin
  have HB := Lib.hid (show ∀ w', Only m w w' → w'.cell? ⟨b, 0, none⟩ = some (.map (some m)) from fun w' ho => blk_cell (ho.old hb hbm) 0)
  have hp := putsI_len_le ns l
  have hq := seql_some m w
  clear hm hx hin hb
  go_enter Try.func9, Try.ntmps9
  go_wp2_with fail
  go_loopw [26] (fun i wr => ∃ k : Nat, k ≤ ns.length ∧ i = .int .i64 k ∧ MapB wr m (putsI l (ns.take k)).length (inF (putsI l (ns.take k))) ∧ Only m w wr) (fun i _ => ns.length - (intOf i).toNat)
  case atStart => exact ⟨0, by omega, rfl, HM.out, Only.refl _ _⟩
  case round =>
    obtain ⟨k, hk, rfl, hm, ho⟩ := hrel
    have d0 := HB.out _ ho
    by_cases hlt : k < ns.length
    · obtain ⟨g, o, rfl, hg, hgl, hc⟩ := HX.out k hlt
      have g1 : wr.cell? ⟨g, o + k, none⟩ = some (.int .i64 ns[k]) := by
        rw [← hc]; unfold World.cell?; rw [ho.block g hgl hg]
      have hi : inI ns[k] := HIN.out _ (List.getElem_mem hlt)
      have dk : decide (k < ns.length) = true := decide_eq_true hlt
      have HS := Lib.hid (putsI_snoc l ns k hlt)
      have hp2 := putsI_len_le (ns.take k) l
      have ht : (ns.take k).length ≤ ns.length := by rw [List.length_take]; omega
      generalize hlk : putsI l (ns.take k) = lk at *
      generalize ns[k] = x at *
      obtain ⟨n', hn'⟩ : ∃ n', lk.length + (if (inF lk x).isNone = true then 1 else 0) = n' := ⟨_, rfl⟩
      have HN := Lib.hid hn'
      have HO := Lib.hid ho
      clear hc HX HIN ho hn'
      go_wp2_with (first | (refine wpList_store_mapF rfl _ _ _ _ rfl 3 4 boolV_inj Try.underlying3 Try.underlying26 m _ (by unfold maxLen; omega) rfl hm x hi rfl true rfl n' HN.out ?_; intro w2 hm2 ho2))
      go_roundw
      case rel =>
        refine ⟨k + 1, by omega, by go_num, ?_, HO.out.trans ho2⟩
        rw [HS.out]
        refine mapB_same hm2 (fun i => inF_put lk x i) ?_
        rw [← HN.out, putI_len]
        have e1 := inF_some lk x
        cases hh : hasI lk x <;> rw [hh] at e1 <;> cases hv : inF lk x <;> rw [hv] at e1 <;> simp at e1 ⊢
      case measure => simp [intOf]; omega
    · have dk : decide (k < ns.length) = false := decide_eq_false hlt
      obtain rfl : k = ns.length := by omega
      rw [List.take_length] at hm
      have hlen2 := fun ty => MapF.len (t := 26) (e := 4) hm Try.underlying26 ty
      have q1 : IntKind.i64.wrap (((putsI l ns).length : Int) - (l.length : Int)) = ((putsI l ns).length : Int) - (l.length : Int) := IntWalk.i64_in _ (by omega)
      have HM2 := Lib.hid hm
      have HO := Lib.hid ho
      clear hm ho HX HIN HM HB
      go_wp2_with fail
      go_ret
      exact ⟨rfl, HM2.out, HO.out⟩
theorem smark_none (b : Nat) (ns : List Int) (A : Option Addr) (c : Nat) (w : World) (hns : ns.length ≤ 1000) (hin : ∀ x ∈ ns, inI x)
    (hb : w.heap[b]? = some (sX (.map none))) (hx : ∀ k (hk : k < ns.length), ∃ g o, A = some ⟨g, o, none⟩ ∧ g ≠ b ∧ g < w.heap.size ∧ w.cell? ⟨g, o + k, none⟩ = some (.int .i64 ns[k])) :
    Calls Try.prog 9 #[.pointer (some ⟨b, 0, none⟩), .slice A ns.length c] w fun e w' => e = .returned (.int .i64 ((putsI [] ns).length : Int)) ∧ MapB w' w.heap.size (putsI [] ns).length (inF (putsI [] ns)) ∧ w'.heap[b]? = some (sX (.map (some w.heap.size))) ∧ Turned (fun k => k = b) w w' := by
  have hbl := lt_of_block hb
  have c0 : w.cell? ⟨b, 0, none⟩ = some (.map none) := blk_cell hb 0
  have f0 : w.frozen? ⟨b, 0, none⟩ = false := blk_free hb 0
  have c2 : (w.alloc (.map #[] 0)).cell? ⟨b, 0, none⟩ = some (.map none) := blk_cell (blk_old _ hb) 0
  have f2 : (w.alloc (.map #[] 0)).frozen? ⟨b, 0, none⟩ = false := blk_free (blk_old _ hb) 0
  have hmm := @run_makeMap Try.prog
  have hq := seql_nil w
  obtain ⟨m, hm0⟩ : ∃ m, w.heap.size = m := ⟨_, rfl⟩
  have HW := Lib.hid (show (((w.alloc (.map #[] 0)).setCell ⟨b, 0, none⟩ (.map (some m))).heap[b]? = some (sX (.map (some m)))) ∧ MapB ((w.alloc (.map #[] 0)).setCell ⟨b, 0, none⟩ (.map (some m))) m 0 (fun _ => none) ∧ Only b w ((w.alloc (.map #[] 0)).setCell ⟨b, 0, none⟩ (.map (some m))) from by
    subst hm0
    have ha : Below w.heap.size w (w.alloc (.map #[] 0)) := (Below.refl _ _).alloc (Nat.le_refl _) _
    have hb1 : (w.alloc (.map #[] 0)).heap[b]? = some (sX (.map none)) := blk_old _ hb
    refine ⟨blk_set hb1 0 _, (mapF_made w _ _ _ _).keep (Below.heap_setCell _ _ _ _ (fun e => by have : w.heap.size = b := e; omega)), ((Only.refl b w).alloc _).setCell 0 _⟩)
  obtain ⟨w1, hw1⟩ : ∃ w1, (w.alloc (.map #[] 0)).setCell ⟨b, 0, none⟩ (.map (some m)) = w1 := ⟨_, rfl⟩
  have HW1 := Lib.hid hw1
  rw [hw1] at HW
  obtain ⟨hb1, hm1, hO⟩ := HW.out
  have hbm : b ≠ m := by omega
  have hlen := fun ty => MapF.len (t := 26) (e := 4) hm1 Try.underlying26 ty
  have c1 : w1.cell? ⟨b, 0, none⟩ = some (.map (some m)) := blk_cell hb1 0
  rw [← hw1] at hlen c1
  have HM := Lib.hid (show MapB w1 m ([] : List Int).length (inF []) from mapB_same hm1 (fun i => by simp [inF]) rfl)
  have HX := Lib.hid (show ∀ k (hk : k < ns.length), ∃ g o, A = some ⟨g, o, none⟩ ∧ g ≠ m ∧ g < w1.heap.size ∧ w1.cell? ⟨g, o + k, none⟩ = some (.int .i64 ns[k]) from fun k hk => by
    obtain ⟨g, o, e, h1, h2, h3⟩ := hx k hk
    refine ⟨g, o, e, by omega, Nat.lt_of_lt_of_le h2 hO.size, ?_⟩
    rw [← h3]; unfold World.cell?; rw [hO.block g h2 h1])
  have HIN := Lib.hid hin
  have HB := Lib.hid (show ∀ w', Only m w1 w' → w'.cell? ⟨b, 0, none⟩ = some (.map (some m)) from fun w' ho => blk_cell (ho.old hb1 hbm) 0)
  have HE := Lib.hid (show ∀ w', Only m w1 w' → w'.heap[b]? = some (sX (.map (some m))) ∧ Turned (fun k => k = b) w w' from fun w' ho =>
    ⟨ho.old hb1 hbm, (show Turned (fun k => k = b) w w1 from ⟨hO.os, hO.tape, hO.output, hO.size, fun k hk hf => hO.block k hk hf⟩).trans (G := fun k => k = m) ⟨ho.os, ho.tape, ho.output, ho.size, fun k hk hf => ho.block k hk hf⟩ (fun k e => .inr (by omega))⟩)
  have hp := putsI_len_le ns []
  have hl : ([] : List Int).length ≤ 100000 := by simp
  have e0 : (([] : List Int).length : Int) = 0 := rfl
  clear hb hx hin hw1 hb1 hm1 hO HW
  generalize hl0 : ([] : List Int) = l at *
  clear hl0
  go_enter Try.func9, Try.ntmps9
  rw [hm0]
  go_wp2_with fail
  rw [HW1.out]
  go_loopw [26] (fun i wr => ∃ k : Nat, k ≤ ns.length ∧ i = .int .i64 k ∧ MapB wr m (putsI l (ns.take k)).length (inF (putsI l (ns.take k))) ∧ Only m w1 wr) (fun i _ => ns.length - (intOf i).toNat)
  case atStart => exact ⟨0, by omega, rfl, HM.out, Only.refl _ _⟩
  case round =>
    obtain ⟨k, hk, rfl, hm, ho⟩ := hrel
    have d0 := HB.out _ ho
    by_cases hlt : k < ns.length
    · obtain ⟨g, o, rfl, hg, hgl, hc⟩ := HX.out k hlt
      have g1 : wr.cell? ⟨g, o + k, none⟩ = some (.int .i64 ns[k]) := by
        rw [← hc]; unfold World.cell?; rw [ho.block g hgl hg]
      have hi : inI ns[k] := HIN.out _ (List.getElem_mem hlt)
      have dk : decide (k < ns.length) = true := decide_eq_true hlt
      have HS := Lib.hid (putsI_snoc l ns k hlt)
      have hp2 := putsI_len_le (ns.take k) l
      have ht : (ns.take k).length ≤ ns.length := by rw [List.length_take]; omega
      generalize hlk : putsI l (ns.take k) = lk at *
      generalize ns[k] = x at *
      obtain ⟨n', hn'⟩ : ∃ n', lk.length + (if (inF lk x).isNone = true then 1 else 0) = n' := ⟨_, rfl⟩
      have HN := Lib.hid hn'
      have HO := Lib.hid ho
      clear hc HX HIN ho hn'
      go_wp2_with (first | (refine wpList_store_mapF rfl _ _ _ _ rfl 3 4 boolV_inj Try.underlying3 Try.underlying26 m _ (by unfold maxLen; omega) rfl hm x hi rfl true rfl n' HN.out ?_; intro w2 hm2 ho2))
      go_roundw
      case rel =>
        refine ⟨k + 1, by omega, by go_num, ?_, HO.out.trans ho2⟩
        rw [HS.out]
        refine mapB_same hm2 (fun i => inF_put lk x i) ?_
        rw [← HN.out, putI_len]
        have e1 := inF_some lk x
        cases hh : hasI lk x <;> rw [hh] at e1 <;> cases hv : inF lk x <;> rw [hv] at e1 <;> simp at e1 ⊢
      case measure => simp [intOf]; omega
    · have dk : decide (k < ns.length) = false := decide_eq_false hlt
      obtain rfl : k = ns.length := by omega
      rw [List.take_length] at hm
      have hlen2 := fun ty => MapF.len (t := 26) (e := 4) hm Try.underlying26 ty
      have q1 : IntKind.i64.wrap (((putsI l ns).length : Int) - (l.length : Int)) = ((putsI l ns).length : Int) - (l.length : Int) := IntWalk.i64_in _ (by omega)
      have HM2 := Lib.hid hm
      have HO := Lib.hid ho
      clear hm ho HX HIN HM HB
      go_wp2_with fail
      go_ret
      exact ⟨rfl, HM2.out, HE.out _ HO.out⟩
/-- Mark. -/
theorem smark_any (F : Nat → Prop) (v sv : Value) (l ns : List Int) (w : World) (hl : l.length ≤ 100000) (hns : ns.length ≤ 1000) (hin : ∀ x ∈ ns, inI x) (hr : RdI w (fun k => ¬ F k) sv ns) (h : SP F v l w) :
    Calls Try.prog 9 #[v, sv] w fun e w' => e = .returned (.int .i64 (((putsI l ns).length : Int) - (l.length : Int))) ∧ SPost F v (putsI l ns) w w' := by
  obtain ⟨b, mv, rfl, h2, h3, h4, h5, h6, h7⟩ := h
  have h6' : ∀ x ∈ putsI l ns, inI x := fun x hx => by
    rcases (mem_putsI ns l x).1 hx with hx | hx
    · exact hin x hx
    · exact h6 x hx
  obtain ⟨A, c, rfl, _, _⟩ := hr.form
  have hx : ∀ k (hk : k < ns.length), ∃ g o, A = some ⟨g, o, none⟩ ∧ ¬ F g ∧ g < w.heap.size ∧ w.cell? ⟨g, o + k, none⟩ = some (.int .i64 ns[k]) := fun k hk => by
    obtain ⟨g, o, e, r1, r2, r3⟩ := hr.at_ hk
    exact ⟨g, o, e, r2, r1, r3 k hk⟩
  rcases h3 with ⟨rfl, rfl⟩ | ⟨m, rfl, h3⟩
  · refine (smark_none b ns A c w hns hin h2 fun k hk => ?_).mono fun e w' ⟨he, hm, hb, ht⟩ => ⟨by rw [he]; simp, ⟨fun k => k = b ∨ k = w.heap.size, ⟨b, .map (some w.heap.size), rfl, hb, .inr ⟨_, rfl, hm⟩, fun e => ?_, rise_putsI ns h5, h6', fun k => ?_⟩, ht.imp fun k _ hk => (h7 k).2 (.inl hk), fun k hk => ?_⟩⟩
    · obtain ⟨g, o, e, r1, r2, r3⟩ := hx k hk
      exact ⟨g, o, e, fun e => r1 ((h7 g).2 (.inl e)), r2, r3⟩
    · have := lt_of_block h2
      have e : w.heap.size = b := by simpa using e
      omega
    · constructor
      · rintro (e | e)
        · exact .inl e
        · exact .inr (by rw [e])
      · rintro (e | e)
        · exact .inl e
        · exact .inr (by simpa using e.symm)
    · rcases hk with e | e
      · exact .inl ((h7 k).2 (.inl e))
      · exact .inr (by omega)
  · have hbm : b ≠ m := fun e => h4 (by rw [e])
    refine (smark_some b m l ns A c w hl hns hin h2 h3 hbm fun k hk => ?_).mono fun e w' ⟨he, hm, ho⟩ => ⟨he, ⟨F, ⟨b, .map (some m), rfl, ho.old h2 hbm, .inr ⟨_, rfl, hm⟩, h4, rise_putsI ns h5, h6', h7⟩, ⟨ho.os, ho.tape, ho.output, ho.size, fun k hk hf => ho.block k hk (fun e => hf ((h7 k).2 (.inr (by rw [e]))))⟩, fun k hk => .inl hk⟩⟩
    obtain ⟨g, o, e, r1, r2, r3⟩ := hx k hk
    exact ⟨g, o, e, fun e => r1 ((h7 g).2 (.inr (by rw [e]))), r2, r3⟩
end Go.Proofs.Ytjncccongbfoiaa
