/- What the document's own Put of events comes to. Conditions: numbers that an int holds. -/
import Derived.Test.YtgooepfhapaenaaGreatEvtT
import Derived.Test.YtgooepfhapaenaaGreatOctJ
namespace Go.Proofs.YtgooepfhapaenaaGreat
open Go.ChangeShapes Go.WideShapes Go.ChangeAt Go.RowKit
set_option linter.unusedVariables false
set_option maxRecDepth 100000
set_option linter.unusedSimpArgs false
set_option maxHeartbeats 2000000

theorem fixS_one (k : Nat) : fixS k 1 = bs [UInt8.ofNat k] := by
  unfold fixS
  simp [fixL]
theorem kind_small {k : Int} (h : lettersE k ≠ []) : 1 ≤ k ∧ k ≤ 7 := by
  rcases letters_cases k with ⟨e, _⟩ | ⟨e, _⟩ | ⟨e, _⟩ | ⟨e, _⟩ | ⟨e, _⟩ | ⟨e, _⟩ | ⟨e, _⟩ | ⟨_, e⟩
  all_goals first | omega | exact absurd e h
theorem many_small (k : Int) : manyE (lettersE k) ≤ 5 := by
  rcases letters_cases k with ⟨_, e⟩ | ⟨_, e⟩ | ⟨_, e⟩ | ⟨_, e⟩ | ⟨_, e⟩ | ⟨_, e⟩ | ⟨_, e⟩ | ⟨_, e⟩ <;> rw [e] <;> decide
theorem bytesN_step (l : List Int) (m : Nat) (h : m < l.length) : bs (bytesN (l.take (m + 1))) = bs (bytesN (l.take m)) ++ varS l[m] := by
  unfold bytesN varS
  rw [List.take_succ_eq_append_getElem h, List.flatMap_append]
  split <;> rw [bs_append] <;> simp [*]
theorem bytesN_len : ∀ (l : List Int), (∀ n ∈ l, 0 ≤ n ∧ n ≤ 2147483647) → (bytesN l).length ≤ 9 * l.length
  | [], _ => Nat.le_refl _
  | n :: l, h => by
    obtain ⟨h0, h1⟩ := h n List.mem_cons_self
    have ih := bytesN_len l fun m hm => h m (List.mem_cons_of_mem _ hm)
    have h9 := varL_nine n.toNat (by omega)
    rw [bs_size] at h9
    unfold bytesN at ih ⊢
    rw [List.flatMap_cons, if_neg (by omega), List.length_append, List.length_cons]
    omega
theorem varS_len {n : Int} (h0 : 0 ≤ n) (h1 : n ≤ 2147483647) : (varS n).size ≤ 9 := by
  unfold varS
  rw [if_neg (by omega)]
  exact varL_nine n.toNat (by omega)
theorem rputE_any (v : Evt) (w : World) (hok : v.ok) : Calls Tryz.prog 18 #[v.val] w fun e w' => e = .returned (.tuple #[.string (bs (putE v).1), .int .i64 (putE v).2]) ∧ Below w.heap.size w w' := by
  have CC := Lib.hid (fun w' => rcheck_any v w')
  have CN := Lib.hid (fun w' => rnumbers_any v w')
  by_cases hc : checkE v = 0
  · have HP := Lib.hid (show putE v = (bytesE v, 0) by unfold putE; rw [if_pos hc])
    rw [HP.out]
    obtain ⟨h1, h2, h3⟩ := check_ok hc
    have hk := kind_small h1
    have hns := nums_ok h2
    have hnl := numsE_len v v.k
    have hms := many_small v.k
    have CF := Lib.hid (fun w' => rfixed_any v.k 1 w' (by omega) (by omega))
    rw [fixS_one] at CF
    have HBY := Lib.hid (show bytesE v = UInt8.ofNat v.k.toNat :: bytesN (numsE v (lettersE v.k)) from rfl)
    generalize numsE v (lettersE v.k) = ns at *
    have hlen : ns.length ≤ 5 := by omega
    have CV := Lib.hid (show ∀ m (h : m < ns.length) w', Calls Tryz.prog 20 #[.int .i64 ns[m]] w' fun e w'' => e = .returned (.string (varS ns[m])) ∧ Below w'.heap.size w' w'' from fun m h w' => rvar_any _ w' (by have := hns ns[m] (List.getElem_mem h); omega))
    have HST := Lib.hid (fun m h => bytesN_step ns m h)
    have HSZ := Lib.hid (show ∀ m (h : m < ns.length), (bs [UInt8.ofNat v.k.toNat]).size + (bs (bytesN (ns.take m))).size + (varS ns[m]).size ≤ 1000 from fun m h => by
      have h1 := bytesN_len (ns.take m) (fun n hn => hns n (List.mem_of_mem_take hn))
      have h2 := varS_len (hns ns[m] (List.getElem_mem h)).1 (hns ns[m] (List.getElem_mem h)).2
      rw [bs_size, bs_size]
      rw [List.length_take] at h1
      simp only [List.length_cons, List.length_nil]
      omega)
    rw [hc] at CC
    clear hc h1 h2 h3 hns hnl hms HP
    unfold Evt.val at CC CN ⊢
    go_enter Tryz.func18, Tryz.ntmps18
    have hbx0 : (w.alloc (.cells v.cells 25)).heap[w.heap.size]? = some (.cells v.cells 25 (0, 0)) := blk_new w _
    go_wp2_with fail
    refine (CC.out _).mono ?_; rintro e w1 ⟨rfl, hB⟩
    rw [World.size_alloc] at hB
    have hs1 : w.heap.size + 1 ≤ w1.heap.size := by have := hB.size; simpa using this
    have HBX := Lib.hid (blk_below hB hbx0 (by omega))
    have HB1 := Lib.hid (show Below w.heap.size w w1 from ((Below.refl _ _).alloc (Nat.le_refl _) _).trans (hB.mono (by omega)))
    clear hB hbx0
    obtain ⟨e0, e1, e2, e3, e4, e5, e6, e7⟩ := evt_cells HBX.out
    go_wp2_with fail
    refine (CF.out _).mono ?_; rintro e w2 ⟨rfl, hB⟩
    have hs2 : w1.heap.size ≤ w2.heap.size := hB.size
    have HBX2 := Lib.hid (blk_below hB HBX.out (by omega))
    have HB2 := Lib.hid (HB1.out.trans (hB.mono (by omega)))
    clear hB e0 e1 e2 e3 e4 e5 e6 e7 HBX HB1
    obtain ⟨e0, e1, e2, e3, e4, e5, e6, e7⟩ := evt_cells HBX2.out
    go_wp2_with fail
    refine (CN.out _).mono ?_; rintro e w3 ⟨u, rfl, hr, hB⟩
    have HB3 := Lib.hid (HB2.out.trans (hB.mono (by omega)))
    have HR := Lib.hid hr
    obtain ⟨A, c0, rfl, hc1, hc2⟩ := hr.form
    clear hB hr e0 e1 e2 e3 e4 e5 e6 e7 HBX2 HB2
    go_wp2_with fail
    go_loopw [5, 7] (fun s i wr => ∃ m : Nat, m ≤ ns.length ∧ i = .int .i64 m ∧ s = .string (bs [UInt8.ofNat v.k.toNat] ++ bs (bytesN (ns.take m))) ∧ Below w3.heap.size w3 wr) (fun _ i _ => ns.length - (intOf i).toNat)
    case atStart => exact ⟨0, by omega, rfl, by rw [List.take_zero]; rfl, Below.refl _ _⟩
    case round =>
      obtain ⟨m, hm, rfl, rfl, hb⟩ := hrel
      have HB := Lib.hid hb
      by_cases hlt : m < ns.length
      · obtain ⟨b, o, rfl, hbw, _, hcl⟩ := HR.out.at_ hlt
        have hq : wr.cell? ⟨b, o + m, none⟩ = some (.int .i64 ns[m]) := (hb.cell (p := ⟨b, o + m, none⟩) hbw).trans (hcl m hlt)
        have CVM := Lib.hid (CV.out m hlt)
        have HS := Lib.hid (HST.out m hlt)
        have hsz := HSZ.out m hlt
        have dk : decide (m < ns.length) = true := decide_eq_true hlt
        have dk2 : decide ((m : Int) < (ns.length : Int)) = true := decide_eq_true (by omega)
        generalize ns[m] = y at *
        clear hb hcl
        go_wp2_with fail
        refine (CVM.out _).mono ?_; rintro e w4 ⟨rfl, hB⟩
        have HB4 := Lib.hid (HB.out.trans (hB.mono HB.out.size))
        clear hB
        go_wp2_with fail
        go_roundw
        case rel => exact ⟨m + 1, by omega, by go_num, by rw [HS.out, ByteArray.append_assoc], HB4.out⟩
        case measure => simp [intOf]; omega
      · obtain rfl : m = ns.length := by omega
        have dk2 : decide ((ns.length : Int) < (ns.length : Int)) = false := decide_eq_false (by omega)
        have HF := Lib.hid (show Ending.returned (.tuple #[.string (bs [UInt8.ofNat v.k.toNat] ++ bs (bytesN (ns.take ns.length))), .int .i64 0]) = Ending.returned (.tuple #[.string (bs (bytesE v)), .int .i64 0]) by
          rw [List.take_length, HBY.out, bs_append]; rfl)
        have HBF := Lib.hid (HB3.out.trans (hb.mono HB3.out.size))
        clear hb HB
        go_wp2_with fail
        go_ret2
        exact ⟨HF.out, HBF.out⟩
  · have HP := Lib.hid (show putE v = ([], checkE v) by unfold putE; rw [if_neg hc])
    rw [HP.out]
    have dn : (checkE v != 0) = true := by simpa using hc
    generalize checkE v = r at *
    clear hc HP CN
    unfold Evt.val at CC ⊢
    go_enter Tryz.func18, Tryz.ntmps18
    go_wp2_with fail
    refine (CC.out _).mono ?_; rintro e w1 ⟨rfl, hB⟩
    rw [World.size_alloc] at hB
    have HB1 := Lib.hid (show Below w.heap.size w w1 from ((Below.refl _ _).alloc (Nat.le_refl _) _).trans (hB.mono (by omega)))
    clear hB
    go_wp2_with fail
    go_ret2
    exact ⟨rfl, HB1.out⟩
end Go.Proofs.YtgooepfhapaenaaGreat
/- What the document's own Get of events comes to. Conditions: texts of up to 100,000 bytes. -/
namespace Go.Proofs.YtgooepfhapaenaaGreat
open Go.ChangeShapes Go.WideShapes Go.ChangeAt Go.RowKit
set_option linter.unusedVariables false
set_option maxRecDepth 100000
set_option linter.unusedSimpArgs false
set_option maxHeartbeats 4000000

/-- How far the numbers are taken off: xs, the next one at a. -/
structure TkS (M : Nat) (t s : List UInt8) (xs : List Int) (a : Nat) : Prop where
  one : (takesE M t).1 = xs ++ (takesE (M - xs.length) (s.drop a)).1
  two : (takesE M t).2 = (takesE (M - xs.length) (s.drop a)).2
  len : xs.length ≤ M
  at_ : a ≤ s.length
theorem TkS.bad {M : Nat} {t s : List UInt8} {xs : List Int} {a : Nat} (h : TkS M t s xs a) (hl : xs.length < M) (he : tvE (s.drop a) ≠ 0) : (takesE M t).2.2 = tvE (s.drop a) := by
  rw [h.two]
  obtain ⟨q, hq⟩ : ∃ q, M - xs.length = q + 1 := ⟨M - xs.length - 1, by omega⟩
  rw [hq]
  unfold takesE
  rw [if_neg he]
theorem TkS.next {M : Nat} {t s : List UInt8} {xs : List Int} {a : Nat} (h : TkS M t s xs a) (hl : xs.length < M) (he : tvE (s.drop a) = 0) : TkS M t s (xs ++ [((tvV (s.drop a) : Nat) : Int)]) (a + tvM (s.drop a)) := by
  obtain ⟨q, hq⟩ : ∃ q, M - xs.length = q + 1 := ⟨M - xs.length - 1, by omega⟩
  have e : takesE (q + 1) (s.drop a) = (((tvV (s.drop a) : Nat) : Int) :: (takesE q ((s.drop a).drop (tvM (s.drop a)))).1, (takesE q ((s.drop a).drop (tvM (s.drop a)))).2) := by
    conv => lhs; unfold takesE
    rw [if_pos he]
  have h1 := h.one
  have h2 := h.two
  rw [hq, e, List.drop_drop] at h1 h2
  have hq2 : M - (xs ++ [((tvV (s.drop a) : Nat) : Int)]).length = q := by simp; omega
  refine ⟨?_, ?_, by simp; omega, ?_⟩
  · rw [hq2, h1, List.append_assoc]; rfl
  · rw [hq2, h2]
  · have := tvM_le (s.drop a)
    rw [List.length_drop] at this
    have := h.at_
    omega
theorem TkS.done {M : Nat} {t s : List UInt8} {xs : List Int} {a : Nat} (h : TkS M t s xs a) (hl : ¬ xs.length < M) : (takesE M t).1 = xs ∧ (takesE M t).2.1 = s.drop a ∧ (takesE M t).2.2 = 0 ∧ xs.length = M := by
  have e : M - xs.length = 0 := by omega
  have h1 := h.one
  have h2 := h.two
  rw [e] at h1 h2
  have hl2 := h.len
  refine ⟨?_, ?_, ?_, by omega⟩
  · rw [h1]; unfold takesE; simp
  · rw [h2]; rfl
  · rw [h2]; rfl
theorem rgetE_any (s : ByteArray) (w : World) (hs : s.size ≤ 100000) : Calls Tryz.prog 33 #[.string s] w fun e w' => e = .returned (.tuple #[(getE s.data.toList).1.val, .int .i64 (getE s.data.toList).2]) ∧ Below w.heap.size w w' := by
  have hb : ∀ (X : Obj) (a : World), Below a.heap.size a (a.alloc X) := fun X a => (Below.refl _ _).alloc (Nat.le_refl _) _
  have H0 := Lib.hid (show (w.alloc (.cells zeroE.cells 25)).heap[w.heap.size]? = some (.cells zeroE.cells 25 (0, 0)) from blk_new w _)
  have HB0 := Lib.hid (hb (.cells zeroE.cells 25) w)
  have hsz : s.data.toList.length = s.size := data_len s
  have FIN := Lib.hid (show ∀ w' : World, w'.heap[w.heap.size]? = some (.cells zeroE.cells 25 (0, 0)) → Below w.heap.size w w' → (evtW w' w.heap.size zeroE).heap[w.heap.size]? = some (.cells zeroE.cells 25 (0, 0)) ∧ Below w.heap.size w (evtW w' w.heap.size zeroE) from fun w' h1 h2 => ⟨evt_set h1, h2.trans ((evt_only w' _ zeroE).below (Nat.le_refl _) h2.size)⟩)
  cases hd : s.data.toList with
  | nil =>
    have h00 : s.size = 0 := by rw [← hsz, hd]; rfl
    have hE : getE [] = (zeroE, 3) := rfl
    rw [hE]
    clear hsz hd hb
    go_enter Tryz.func33, Tryz.ntmps33
    obtain ⟨e0, e1, e2, e3, e4, e5, e6, e7⟩ := evt_cells H0.out
    go_wp2_with fail
    exact bodyPost_ret (results_cv rfl rfl rfl (blk_new w _) Tryz.underlying25 rfl (by kernel_rfl)) rfl ⟨rfl, HB0.out⟩
  | cons c t =>
    have h01 : 0 < s.size := by rw [← hsz, hd]; simp
    have dz : ((s.size : Int) == 0) = false := by
      have : ¬ (s.size : Int) = 0 := by omega
      simpa using this
    have ix : ∀ w', (Instr.index 9 (.string s) (.int .i64 0)).run Tryz.prog w' = .ok (.int .u8 (c.toNat : Int)) w' := fun w' => by
      have e := ix_at (P := Tryz.prog) w' 9 s 0 h01 (by kernel_rfl)
      have e2 : s[0]'h01 = c := by
        have : s.data.toList[0]'(by rw [hsz]; exact h01) = c := by simp [hd]
        rw [← this]; rfl
      rw [e2] at e
      exact e
    have hc256 : c.toNat < 256 := c.toNat_lt
    have CN := Lib.hid (fun w' => rnames_any (c.toNat : Int) w')
    by_cases hl : lettersE (c.toNat : Int) = []
    · have hE : getE (c :: t) = (zeroE, 5) := by unfold getE; simp only; rw [if_pos hl]
      rw [hE]
      rw [hl] at CN
      have deq : (bs []).toList.isEmpty = true := by rw [bs_toList]; rfl
      clear hsz hd hb hl hE
      go_enter Tryz.func33, Tryz.ntmps33
      go_wp2_with fail
      refine (CN.out _).mono ?_; rintro e w1 ⟨rfl, hB⟩
      rw [World.size_alloc] at hB
      have HZ := Lib.hid (show w1.heap[w.heap.size]? = some (.cells zeroE.cells 25 (0, 0)) from blk_below hB H0.out (by omega))
      have HB1 := Lib.hid (HB0.out.trans (hB.mono (by omega)))
      clear hB
      obtain ⟨e0, e1, e2, e3, e4, e5, e6, e7⟩ := evt_cells HZ.out
      obtain ⟨f0, f1, f2, f3, f4, f5, f6, f7⟩ := evt_free HZ.out
      go_wp2_with fail
      all_goals exact bodyPost_ret (results_cv rfl rfl rfl (FIN.out w1 HZ.out HB1.out).1 Tryz.underlying25 rfl (by kernel_rfl)) rfl ⟨rfl, (FIN.out w1 HZ.out HB1.out).2⟩
    · have hM := many_small (c.toNat : Int)
      have CQ := Lib.hid (show ∀ w', Calls Tryz.prog 50 #[.agg #[.int .i64 (c.toNat : Int), .int .i64 0, .int .i64 0, .int .i64 0, .int .i64 0, .int .i64 0, .int .i64 0, .int .i64 0]] w' fun e w'' => ∃ A c0, e = .returned (.slice A (manyE (lettersE (c.toNat : Int))) c0) ∧ Below w'.heap.size w' w'' from fun w' => (rnumbers_any ⟨c.toNat, 0, 0, 0, 0, zero3⟩ w').mono fun e w'' ⟨u, he, hr, hb⟩ => by
        obtain ⟨A, c0, h1, _, _⟩ := hr.form
        rw [numsE_len] at h1
        exact ⟨A, c0, by rw [he, h1], hb⟩)
      have CT := Lib.hid (show ∀ a w', Calls Tryz.prog 32 #[.string (s.extract a s.size)] w' fun e w'' => e = .returned (.tuple #[.int .i64 (tvV ((c :: t).drop a)), .int .i64 (tvM ((c :: t).drop a)), .int .i64 (tvE ((c :: t).drop a))]) ∧ Below w'.heap.size w' w'' from fun a w' => by
        have h1 := rtakeVar_any (s.extract a s.size) w' (by rw [ByteArray.size_extract]; omega)
        have h2 : (s.extract a s.size).data.toList = (c :: t).drop a := by rw [extract_list, ← hsz, hd, List.take_of_length_le (Nat.le_refl _)]
        rw [h2] at h1
        exact h1)
      have HT0 := Lib.hid (show TkS (manyE (lettersE (c.toNat : Int))) t (c :: t) [] 1 from ⟨by simp, by simp, Nat.zero_le _, by simp⟩)
      have HE := Lib.hid (show getE (c :: t) = if (takesE (manyE (lettersE c.toNat)) t).2.2 ≠ 0 then (zeroE, ((takesE (manyE (lettersE c.toNat)) t).2.2 : Int)) else if (takesE (manyE (lettersE c.toNat)) t).2.1 ≠ [] then (zeroE, 2) else if checkE (madeE c.toNat (takesE (manyE (lettersE c.toNat)) t).1) = 0 then (madeE c.toNat (takesE (manyE (lettersE c.toNat)) t).1, 0) else (zeroE, checkE (madeE c.toNat (takesE (manyE (lettersE c.toNat)) t).1)) by
        conv => lhs; unfold getE
        simp only
        rw [if_neg hl])
      have hsl : (c :: t).length = s.size := by rw [← hd]; exact hsz
      have CM := Lib.hid (fun l u K w' (h : RdI w' K u l) hl => rmade_any (c.toNat : Int) l u K w' h hl)
      have deq : (bs (lettersE (c.toNat : Int))).toList.isEmpty = false := by rw [bs_toList]; cases hq : lettersE (c.toNat : Int) with | nil => exact absurd hq hl | cons _ _ => rfl
      generalize hMM : manyE (lettersE (c.toNat : Int)) = M at *
      clear hsz hd hb hl
      go_enter Tryz.func33, Tryz.ntmps33
      go_wp2_with fail
      refine (CN.out _).mono ?_; rintro e w1 ⟨rfl, hB⟩
      rw [World.size_alloc] at hB
      have HZ := Lib.hid (show w1.heap[w.heap.size]? = some (.cells zeroE.cells 25 (0, 0)) from blk_below hB H0.out (by omega))
      have HB1 := Lib.hid (HB0.out.trans (hB.mono (by omega)))
      have hs1 : w.heap.size + 1 ≤ w1.heap.size := by have := hB.size; simpa using this
      clear hB CN
      go_wp2_with fail
      go_loopw [5, 6] (fun v i wr => ∃ (xs : List Int) (a : Nat), i = .int .i64 a ∧ 1 ≤ a ∧ TkS M t (c :: t) xs a ∧ wr.ownsRow (w.heap.size + 1) 3 1 v xs.length (ints xs) ∧ wr.heap[w.heap.size]? = some (.cells zeroE.cells 25 (0, 0)) ∧ Below w.heap.size w wr ∧ w.heap.size + 1 ≤ wr.heap.size) (fun v _ _ => M - lenV v)
      case atStart => exact ⟨[], 1, rfl, Nat.le_refl _, HT0.out, World.ownsRow_nil _ _ _ _, HZ.out, HB1.out, hs1⟩
      case round =>
        obtain ⟨xs, a, rfl, ha1, hT, hown, hz, hb, hsw⟩ := hrel
        have HTK := Lib.hid hT
        have hxl := hT.len
        have hal := hT.at_
        rw [hsl] at hal
        obtain ⟨A, c0, rfl⟩ := owns_form hown
        have HO := Lib.hid hown
        have HZr := Lib.hid hz
        have HBr := Lib.hid hb
        clear hT hown hz hb
        go_wp2_with fail
        refine (CQ.out _).mono ?_; rintro e w2 ⟨A2, c2, rfl, hB⟩
        have hs2 : wr.heap.size ≤ w2.heap.size := hB.size
        have HO2 := Lib.hid (owns_below HO.out hB)
        have HZ2 := Lib.hid (blk_below hB HZr.out (by omega))
        have HB2 := Lib.hid (HBr.out.trans (hB.mono (by omega)))
        clear hB HO HZr HBr
        by_cases hlt : xs.length < M
        · have dk : decide ((xs.length : Int) < (M : Int)) = true := decide_eq_true (by omega)
          have dk2 : decide (xs.length < M) = true := decide_eq_true hlt
          have ha0 : (0 : Int) ≤ (a : Int) ∧ (a : Int) ≤ (s.size : Int) := by omega
          have CTA := Lib.hid (CT.out a)
          have htl := tvM_le ((c :: t).drop a)
          have htv := tvV_lt ((c :: t).drop a)
          rw [List.length_drop, hsl] at htl
          by_cases he : tvE ((c :: t).drop a) = 0
          · have HN := Lib.hid (HTK.out.next hlt he)
            rw [he] at CTA
            generalize tvV ((c :: t).drop a) = V at *
            generalize tvM ((c :: t).drop a) = D at *
            clear he
            go_wp2_with fail
            refine (CTA.out _).mono ?_; rintro e w3 ⟨rfl, hB⟩
            have hs3 : w2.heap.size ≤ w3.heap.size := hB.size
            have HO3 := Lib.hid (owns_below HO2.out hB)
            have HZ3 := Lib.hid (blk_below hB HZ2.out (by omega))
            have HB3 := Lib.hid (HB2.out.trans (hB.mono (by omega)))
            clear hB
            go_wp2_with (at_builtin; refine wpList_append_rdI rfl _ _ 70 rfl (w.heap.size + 1) 3 infoI64 Tryz.underlying70 _ _ _ rfl (HO3.out.alloc _) (fun _ => True) _ [(V : Int)] rfl ?c2 ?c3 ?c4 ?_)
            case c2 => exact (rdI_lit _ [(V : Int)] #[.int .i64 (V : Int)] 3 rfl (by simp)).imp fun _ _ _ => trivial
            case c3 => simp; omega
            case c4 => simp; omega
            intro v' w4 hown4 hgrow
            have hgs := hgrow.size
            rw [World.size_alloc] at hgs
            have HB4 := Lib.hid (grown_below (HB3.out.alloc (by omega) (.cells #[.int .i64 (V : Int)] 3)) hgrow (fun g hg => by have := owns_row HO3.out hg; omega) (by simp; omega))
            have HZ4 := Lib.hid (show w4.heap[w.heap.size]? = some (.cells zeroE.cells 25 (0, 0)) from grown_blk (blk_old _ HZ3.out) hgrow (fun g hg => by have := owns_row HO3.out hg; omega))
            have HO4 := Lib.hid hown4
            have HVF := Lib.hid (owns_form hown4)
            clear hown4 hgrow
            go_wp2_with fail
            go_roundw
            case rel => exact ⟨xs ++ [(V : Int)], a + D, by go_num; try rfl, by omega, HN.out, by simpa using HO4.out, HZ4.out, HB4.out, by omega⟩
            case measure =>
              obtain ⟨A5, c5, e5⟩ := HVF.out
              rw [e5]
              simp only [lenV, List.length_cons, List.length_nil]
              omega
          · have hbad := HTK.out.bad hlt he
            have HEE := Lib.hid (show getE (c :: t) = (zeroE, ((tvE ((c :: t).drop a) : Nat) : Int)) by rw [HE.out, hbad, if_pos he])
            have dn : (((tvE ((c :: t).drop a) : Nat) : Int) != 0) = true := by
              have : ¬ ((tvE ((c :: t).drop a) : Nat) : Int) = 0 := by omega
              simpa using this
            generalize tvE ((c :: t).drop a) = E at *
            generalize tvV ((c :: t).drop a) = V at *
            generalize tvM ((c :: t).drop a) = D at *
            clear he hbad
            go_wp2_with fail
            refine (CTA.out _).mono ?_; rintro e w3 ⟨rfl, hB⟩
            have hs3 : w2.heap.size ≤ w3.heap.size := hB.size
            have HZ3 := Lib.hid (blk_below hB HZ2.out (by omega))
            have HB3 := Lib.hid (HB2.out.trans (hB.mono (by omega)))
            clear hB
            obtain ⟨e0, e1, e2, e3, e4, e5, e6, e7⟩ := evt_cells HZ3.out
            obtain ⟨f0, f1, f2, f3, f4, f5, f6, f7⟩ := evt_free HZ3.out
            go_wp2_with fail
            all_goals exact bodyPost_ret (results_cv rfl rfl rfl (FIN.out w3 HZ3.out HB3.out).1 Tryz.underlying25 rfl (by kernel_rfl)) rfl ⟨by rw [HEE.out]; rfl, (FIN.out w3 HZ3.out HB3.out).2⟩
        · have dk : decide ((xs.length : Int) < (M : Int)) = false := decide_eq_false (by omega)
          have dk2 : decide (xs.length < M) = false := decide_eq_false hlt
          obtain ⟨q1, q2, q3, q4⟩ := HTK.out.done hlt
          by_cases hend : a < s.size
          · have HEE := Lib.hid (show getE (c :: t) = (zeroE, 2) by
              rw [HE.out, q3, if_neg (by simp), q2, if_pos (by
                intro h
                have := congrArg List.length h
                rw [List.length_drop, hsl] at this
                simp at this
                omega)])
            have da : decide (a < s.size) = true := decide_eq_true hend
            have da2 : decide ((a : Int) < (s.size : Int)) = true := decide_eq_true (by omega)
            clear q1 q2 q3 q4
            obtain ⟨e0, e1, e2, e3, e4, e5, e6, e7⟩ := evt_cells HZ2.out
            obtain ⟨f0, f1, f2, f3, f4, f5, f6, f7⟩ := evt_free HZ2.out
            go_wp2_with fail
            all_goals exact bodyPost_ret (results_cv rfl rfl rfl (FIN.out w2 HZ2.out HB2.out).1 Tryz.underlying25 rfl (by kernel_rfl)) rfl ⟨by rw [HEE.out]; rfl, (FIN.out w2 HZ2.out HB2.out).2⟩
          · have HEE := Lib.hid (show getE (c :: t) = if checkE (madeE c.toNat xs) = 0 then (madeE c.toNat xs, 0) else (zeroE, checkE (madeE c.toNat xs)) by
              rw [HE.out, q3, if_neg (by simp), q2, if_neg (by
                intro h
                refine h ?_
                exact List.drop_of_length_le (by omega)), q1])
            have da : decide (a < s.size) = false := decide_eq_false hend
            have da2 : decide ((a : Int) < (s.size : Int)) = false := decide_eq_false (by omega)
            have CMM := Lib.hid (CM.out xs _ _ w2 (RdI.own HO2.out rfl) q4)
            have CC := Lib.hid (fun w' => rcheck_any (madeE c.toNat xs) w')
            generalize madeE c.toNat xs = x at *
            clear q1 q2 q3 q4
            go_wp2_with fail
            refine CMM.out.mono ?_; rintro e w3 ⟨rfl, hB⟩
            have hs3 : w2.heap.size ≤ w3.heap.size := hB.size
            have HZ3 := Lib.hid (blk_below hB HZ2.out (by omega))
            have HB3 := Lib.hid (HB2.out.trans (hB.mono (by omega)))
            clear hB
            unfold Evt.val at CC ⊢
            have hbx : (w3.alloc (.cells x.cells 25)).heap[w3.heap.size]? = some (.cells x.cells 25 (0, 0)) := blk_new w3 _
            have HBa := Lib.hid (HB3.out.alloc HB3.out.size (.cells x.cells 25))
            have HZa := Lib.hid (blk_old (.cells x.cells 25) HZ3.out)
            go_wp2_with fail
            refine (CC.out _).mono ?_; rintro e w4 ⟨rfl, hB⟩
            rw [World.size_alloc] at hB
            have hs4 : w3.heap.size + 1 ≤ w4.heap.size := by have := hB.size; simpa using this
            have HX4 := Lib.hid (blk_below hB hbx (by omega))
            have HZ4 := Lib.hid (blk_below hB HZa.out (by omega))
            have HB4 := Lib.hid (HBa.out.trans (hB.mono (by omega)))
            clear hB hbx
            obtain ⟨e0, e1, e2, e3, e4, e5, e6, e7⟩ := evt_cells HZ4.out
            obtain ⟨f0, f1, f2, f3, f4, f5, f6, f7⟩ := evt_free HZ4.out
            by_cases hck : checkE x = 0
            · have HE2 := Lib.hid (show getE (c :: t) = (x, 0) by rw [HEE.out, if_pos hck])
              obtain ⟨x0, x1, x2, x3, x4, x5, x6, x7⟩ := evt_cells HX4.out
              rw [hck]
              clear hck
              go_wp2_with fail
              all_goals exact bodyPost_ret (results_cv rfl rfl rfl (evt_set (v := x) HZ4.out) Tryz.underlying25 rfl (by kernel_rfl)) rfl ⟨by rw [HE2.out]; rfl, HB4.out.trans ((evt_only w4 _ x).below (Nat.le_refl _) HB4.out.size)⟩
            · have HE2 := Lib.hid (show getE (c :: t) = (zeroE, checkE x) by rw [HEE.out, if_neg hck])
              have dn : (checkE x != 0) = true := by simpa using hck
              generalize checkE x = r at *
              clear hck
              go_wp2_with fail
              all_goals exact bodyPost_ret (results_cv rfl rfl rfl (FIN.out w4 HZ4.out HB4.out).1 Tryz.underlying25 rfl (by kernel_rfl)) rfl ⟨by rw [HE2.out]; rfl, (FIN.out w4 HZ4.out HB4.out).2⟩
end Go.Proofs.YtgooepfhapaenaaGreat
