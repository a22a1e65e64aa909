/- What the document's own Put of events comes to. Conditions: numbers that an int holds. -/
import Derived.Test.YtkahdmhgfojbiaaEvtT
import Derived.Test.YtkahdmhgfojbiaaOctC
import Derived.Test.YtkahdmhgfojbiaaOctD
namespace Go.Proofs.Ytkahdmhgfojbiaa
open Go.ChangeShapes Go.WideShapes Go.ChangeAt Go.RowKit
set_option linter.unusedVariables false
set_option maxRecDepth 100000
set_option linter.unusedSimpArgs false
set_option maxHeartbeats 2000000

theorem fixS_one (k : Nat) : fixS k 1 = bs [UInt8.ofNat k] := by
  unfold fixS
  simp [fixL]
theorem kind_small {k : Int} (h : lettersE k ≠ []) : 1 ≤ k ∧ k ≤ 7 := by
  rcases letters_cases k with ⟨e, _⟩ | ⟨e, _⟩ | ⟨e, _⟩ | ⟨e, _⟩ | ⟨e, _⟩ | ⟨e, _⟩ | ⟨e, _⟩ | ⟨_, e⟩
  all_goals first | omega | exact absurd e h
theorem many_small (k : Int) : manyE (lettersE k) ≤ 5 := by
  rcases letters_cases k with ⟨_, e⟩ | ⟨_, e⟩ | ⟨_, e⟩ | ⟨_, e⟩ | ⟨_, e⟩ | ⟨_, e⟩ | ⟨_, e⟩ | ⟨_, e⟩ <;> rw [e] <;> decide
theorem bytesN_step (l : List Int) (m : Nat) (h : m < l.length) : bs (bytesN (l.take (m + 1))) = bs (bytesN (l.take m)) ++ varS l[m] := by
  unfold bytesN varS
  rw [List.take_succ_eq_append_getElem h, List.flatMap_append]
  split <;> rw [bs_append] <;> simp [*]
theorem bytesN_len : ∀ (l : List Int), (∀ n ∈ l, 0 ≤ n ∧ n ≤ 2147483647) → (bytesN l).length ≤ 9 * l.length
  | [], _ => Nat.le_refl _
  | n :: l, h => by
    obtain ⟨h0, h1⟩ := h n List.mem_cons_self
    have ih := bytesN_len l fun m hm => h m (List.mem_cons_of_mem _ hm)
    have h9 := varL_nine n.toNat (by omega)
    rw [bs_size] at h9
    unfold bytesN at ih ⊢
    rw [List.flatMap_cons, if_neg (by omega), List.length_append, List.length_cons]
    omega
theorem varS_len {n : Int} (h0 : 0 ≤ n) (h1 : n ≤ 2147483647) : (varS n).size ≤ 9 := by
  unfold varS
  rw [if_neg (by omega)]
  exact varL_nine n.toNat (by omega)
theorem rputE_any (v : Evt) (w : World) (hok : v.ok) : Calls Try.prog 7 #[v.val] w fun e w' => e = .returned (.tuple #[.string (bs (putE v).1), .int .i64 (putE v).2]) ∧ Below w.heap.size w w' := by
  have CC := Lib.hid (fun w' => rcheck_any v w')
  have CN := Lib.hid (fun w' => rnumbers_any v w')
  by_cases hc : checkE v = 0
  · have HP := Lib.hid (show putE v = (bytesE v, 0) by unfold putE; rw [if_pos hc])
    rw [HP.out]
    obtain ⟨h1, h2, h3⟩ := check_ok hc
    have hk := kind_small h1
    have hns := nums_ok h2
    have hnl := numsE_len v v.k
    have hms := many_small v.k
    have CF := Lib.hid (fun w' => rfixed_any v.k 1 w' (by omega) (by omega))
    rw [fixS_one] at CF
    have HBY := Lib.hid (show bytesE v = UInt8.ofNat v.k.toNat :: bytesN (numsE v (lettersE v.k)) from rfl)
    generalize numsE v (lettersE v.k) = ns at *
    have hlen : ns.length ≤ 5 := by omega
    have CV := Lib.hid (show ∀ m (h : m < ns.length) w', Calls Try.prog 20 #[.int .i64 ns[m]] w' fun e w'' => e = .returned (.string (varS ns[m])) ∧ Below w'.heap.size w' w'' from fun m h w' => rvar_any _ w' (by have := hns ns[m] (List.getElem_mem h); omega))
    have HST := Lib.hid (fun m h => bytesN_step ns m h)
    have HSZ := Lib.hid (show ∀ m (h : m < ns.length), (bs [UInt8.ofNat v.k.toNat]).size + (bs (bytesN (ns.take m))).size + (varS ns[m]).size ≤ 1000 from fun m h => by
      have h1 := bytesN_len (ns.take m) (fun n hn => hns n (List.mem_of_mem_take hn))
      have h2 := varS_len (hns ns[m] (List.getElem_mem h)).1 (hns ns[m] (List.getElem_mem h)).2
      rw [bs_size, bs_size]
      rw [List.length_take] at h1
      simp only [List.length_cons, List.length_nil]
      omega)
    rw [hc] at CC
    clear hc h1 h2 h3 hns hnl hms HP
    unfold Evt.val at CC CN ⊢
    go_enter Try.func7, Try.ntmps7
    have hbx0 : (w.alloc (.cells v.cells 25)).heap[w.heap.size]? = some (.cells v.cells 25 (0, 0)) := blk_new w _
    go_wp2_with fail
    refine (CC.out _).mono ?_; rintro e w1 ⟨rfl, hB⟩
    rw [World.size_alloc] at hB
    have hs1 : w.heap.size + 1 ≤ w1.heap.size := by have := hB.size; simpa using this
    have HBX := Lib.hid (blk_below hB hbx0 (by omega))
    have HB1 := Lib.hid (show Below w.heap.size w w1 from ((Below.refl _ _).alloc (Nat.le_refl _) _).trans (hB.mono (by omega)))
    clear hB hbx0
    obtain ⟨e0, e1, e2, e3, e4, e5, e6, e7⟩ := evt_cells HBX.out
    go_wp2_with fail
    refine (CF.out _).mono ?_; rintro e w2 ⟨rfl, hB⟩
    have hs2 : w1.heap.size ≤ w2.heap.size := hB.size
    have HBX2 := Lib.hid (blk_below hB HBX.out (by omega))
    have HB2 := Lib.hid (HB1.out.trans (hB.mono (by omega)))
    clear hB e0 e1 e2 e3 e4 e5 e6 e7 HBX HB1
    obtain ⟨e0, e1, e2, e3, e4, e5, e6, e7⟩ := evt_cells HBX2.out
    go_wp2_with fail
    refine (CN.out _).mono ?_; rintro e w3 ⟨u, rfl, hr, hB⟩
    have HB3 := Lib.hid (HB2.out.trans (hB.mono (by omega)))
    have HR := Lib.hid hr
    obtain ⟨A, c0, rfl, hc1, hc2⟩ := hr.form
    clear hB hr e0 e1 e2 e3 e4 e5 e6 e7 HBX2 HB2
    go_wp2_with fail
    go_loopw [5, 7] (fun s i wr => ∃ m : Nat, m ≤ ns.length ∧ i = .int .i64 m ∧ s = .string (bs [UInt8.ofNat v.k.toNat] ++ bs (bytesN (ns.take m))) ∧ Below w3.heap.size w3 wr) (fun _ i _ => ns.length - (intOf i).toNat)
    case atStart => exact ⟨0, by omega, rfl, by rw [List.take_zero]; rfl, Below.refl _ _⟩
    case round =>
      obtain ⟨m, hm, rfl, rfl, hb⟩ := hrel
      have HB := Lib.hid hb
      by_cases hlt : m < ns.length
      · obtain ⟨b, o, rfl, hbw, _, hcl⟩ := HR.out.at_ hlt
        have hq : wr.cell? ⟨b, o + m, none⟩ = some (.int .i64 ns[m]) := (hb.cell (p := ⟨b, o + m, none⟩) hbw).trans (hcl m hlt)
        have CVM := Lib.hid (CV.out m hlt)
        have HS := Lib.hid (HST.out m hlt)
        have hsz := HSZ.out m hlt
        have dk : decide (m < ns.length) = true := decide_eq_true hlt
        have dk2 : decide ((m : Int) < (ns.length : Int)) = true := decide_eq_true (by omega)
        generalize ns[m] = y at *
        clear hb hcl
        go_wp2_with fail
        refine (CVM.out _).mono ?_; rintro e w4 ⟨rfl, hB⟩
        have HB4 := Lib.hid (HB.out.trans (hB.mono HB.out.size))
        clear hB
        go_wp2_with fail
        go_roundw
        case rel => exact ⟨m + 1, by omega, by go_num, by rw [HS.out, ByteArray.append_assoc], HB4.out⟩
        case measure => simp [intOf]; omega
      · obtain rfl : m = ns.length := by omega
        have dk2 : decide ((ns.length : Int) < (ns.length : Int)) = false := decide_eq_false (by omega)
        have HF := Lib.hid (show Ending.returned (.tuple #[.string (bs [UInt8.ofNat v.k.toNat] ++ bs (bytesN (ns.take ns.length))), .int .i64 0]) = Ending.returned (.tuple #[.string (bs (bytesE v)), .int .i64 0]) by
          rw [List.take_length, HBY.out, bs_append]; rfl)
        have HBF := Lib.hid (HB3.out.trans (hb.mono HB3.out.size))
        clear hb HB
        go_wp2_with fail
        go_ret2
        exact ⟨HF.out, HBF.out⟩
  · have HP := Lib.hid (show putE v = ([], checkE v) by unfold putE; rw [if_neg hc])
    rw [HP.out]
    have dn : (checkE v != 0) = true := by simpa using hc
    generalize checkE v = r at *
    clear hc HP CN
    unfold Evt.val at CC ⊢
    go_enter Try.func7, Try.ntmps7
    go_wp2_with fail
    refine (CC.out _).mono ?_; rintro e w1 ⟨rfl, hB⟩
    rw [World.size_alloc] at hB
    have HB1 := Lib.hid (show Below w.heap.size w w1 from ((Below.refl _ _).alloc (Nat.le_refl _) _).trans (hB.mono (by omega)))
    clear hB
    go_wp2_with fail
    go_ret2
    exact ⟨rfl, HB1.out⟩
end Go.Proofs.Ytkahdmhgfojbiaa
