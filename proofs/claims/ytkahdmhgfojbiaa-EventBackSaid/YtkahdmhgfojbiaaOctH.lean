/- What the cursor's number gives. Conditions: the text is no longer than any text. -/
import Derived.Test.YtkahdmhgfojbiaaOctG
import Derived.Deep.WholeRow
namespace Go.Proofs.Ytkahdmhgfojbiaa
open Go.ChangeShapes Go.WideShapes Go.ChangeAt Go.RowKit
set_option linter.unusedVariables false
set_option maxRecDepth 100000
set_option linter.unusedSimpArgs false

theorem store9n {ops : Array Oper} {rest : List Oper} {o : Oper} {a : Act} {w : World} {Q : Exit → Act → World → Prop} (x y : Operand) (ho : o.op = .store 63 x y) (hgd : o.guard = none)
    (old cs : Array Value) (hold : old.size = 9) (hs : cs.size = 9) (h1 : cs.all (·.oneCell') = true) (hx : a.eval x = .pointer (some ⟨w.heap.size, 0, none⟩)) (hy : a.eval y = .agg cs)
    (h : wpList Try.prog ops Q rest (a.put o.dst undef) (w.alloc (.cells cs 63))) : wpList Try.prog ops Q (o :: rest) a (w.alloc (.cells old 63)) :=
  store9 x y ho hgd w.heap.size old cs hold hs h1 (blk_new _ _) hx hy (by rw [World.setRow_alloc_new]; exact h)
theorem grpA_at (l : List UInt8) (k i : Nat) (h : i < k) (h9 : i < 9) (hi : i < l.length) : (grpA l k)[i]? = some (.int .u8 (l[i]).toNat) := by
  unfold grpA
  rw [varA_at _ _ (by rw [List.length_take]; omega), List.getElem_take]
theorem i64_or7 (x y : Nat) (hx : x < 72057594037927936) (hy : y < 128) : bits .or .i64 ((x : Int) * 128) (y : Int) = ((x * 128 + y : Nat) : Int) := by
  have := bits_join .i64 63 (by decide) (fun n h0 h1 => IntWalk.i64_in _ (by omega)) 7 ((x : Int) * 128) (y : Int) (by omega) (by omega) (by omega) (by omega) (by omega) (by omega)
  rw [this]; omega

set_option maxRecDepth 100000 in
set_option maxHeartbeats 2000000 in
theorem number_gen (p : Value) (l : List UInt8) (w : World) (H : Calls Try.prog 44 #[p] w fun e w' => e = .returned (groupsV l) ∧ Below w.heap.size w w') :
    Calls Try.prog 38 #[p] w fun e w' => e = .returned (.tuple #[.int .i64 (tvV l), .int .i64 (tvM l), .int .i64 (tvE l)]) ∧ Below w.heap.size w w' := by
  have hz := varA_zero
  by_cases h1 : l.length ≤ leadN l
  · have e1 := tvE_short h1
    obtain ⟨e2, e3⟩ := tvE_ne (l := l) (by omega)
    rw [e1, e2, e3]
    rw [groupsV, if_pos h1] at H
    have HH := Lib.hid H
    have HZ := Lib.hid hz
    clear e1 e2 e3 H hz
    go_enter Try.func38, Try.ntmps38
    go_wp2_with fail
    refine HH.out.mono ?_
    rintro e w1 ⟨rfl, hb⟩
    go_wp2_with (refine store9n (.tmp 5) (.tmp 13) rfl rfl _ (varA []) rfl (varA_size _ (by simp)) (u8s_one _) (by simp [Act.eval, Act.put]) (by simp [Act.eval, Act.put]) ?_)
    go_ret3
    exact ⟨rfl, hb.alloc hb.size _⟩
  · rw [groupsV, if_neg h1] at H
    by_cases h9 : 9 ≤ leadN l
    · have e1 := tvE_form (l := l) (by omega) (Or.inl h9)
      obtain ⟨e2, e3⟩ := tvE_ne (l := l) (by omega)
      rw [e1, e2, e3]
      generalize leadN l = e at *
      have HH := Lib.hid H
      have hsz := grpA_size l (e + 1)
      have HZ := Lib.hid hz
      clear e1 e2 e3 H hz hsz
      go_enter Try.func38, Try.ntmps38
      go_wp2_with fail
      refine HH.out.mono ?_
      rintro ee w1 ⟨rfl, hb⟩
      go_wp2_with (refine store9n (.tmp 5) (.tmp 13) rfl rfl _ (grpA l (e + 1)) rfl (grpA_size _ _) (u8s_one _) (by simp [Act.eval, Act.put]) (by simp [Act.eval, Act.put]) ?_)
      go_ret3
      exact ⟨rfl, hb.alloc hb.size _⟩
    · obtain ⟨e, he⟩ : ∃ e, leadN l = e := ⟨_, rfl⟩
      rw [he] at H h1 h9
      have hel : e < l.length := by omega
      have hat := grpA_at l (e + 1) e (by omega) (by omega) hel
      by_cases h0 : 0 < e ∧ l[e]? = some 0
      · have e1 := tvE_form (l := l) (by omega) (Or.inr (by rw [he]; exact h0))
        obtain ⟨e2, e3⟩ := tvE_ne (l := l) (by omega)
        rw [e1, e2, e3]
        have hv : l[e] = 0 := by have := h0.2; rw [List.getElem?_eq_getElem hel] at this; injection this
        rw [hv] at hat
        have he0 := h0.1
        have HH := Lib.hid H
        clear e1 e2 e3 H hz he h0 hv
        go_enter Try.func38, Try.ntmps38
        go_wp2_with fail
        refine HH.out.mono ?_
        rintro ee w1 ⟨rfl, hb⟩
        go_wp2_with (refine store9n (.tmp 5) (.tmp 13) rfl rfl _ (grpA l (e + 1)) rfl (grpA_size _ _) (u8s_one _) (by simp [Act.eval, Act.put]) (by simp [Act.eval, Act.put]) ?_)
        go_ret3
        exact ⟨rfl, hb.alloc hb.size _⟩
      · have HL := Lib.hid (fun i (h : i < e + 1) => grpA_at l (e + 1) i h (by omega) (Nat.lt_of_lt_of_le h hel))
        have e1 := tvE_ok (l := l) (by omega) (fun g => g.elim (fun g => by omega) (fun g => h0 (by rw [he] at g; exact g)))
        have e2 : tvV l = val (l.take (e + 1)) := by rw [tvV, if_pos e1, he]
        have e3 : tvM l = e + 1 := by rw [tvM, if_pos e1, he]
        rw [e1, e2, e3]
        have hne : 0 < e → (((l[e]).toNat : Int) == 0) = false := by
          intro h
          have : l[e] ≠ 0 := fun g => h0 ⟨h, by rw [List.getElem?_eq_getElem hel, g]⟩
          have h3 : (l[e]).toNat ≠ 0 := fun g => this (by rw [← UInt8.toNat_inj]; simpa using g)
          simp; omega
        have HH := Lib.hid H
        have hlt : ∀ j, 1 ≤ j → val ((l.take (e + 1)).drop j) < 72057594037927936 := fun j hj => by
          have hl := val_lt ((l.take (e + 1)).drop j)
          have hp : 128 ^ ((l.take (e + 1)).drop j).length ≤ 128 ^ 8 := Nat.pow_le_pow_right (by omega) (by rw [List.length_drop, List.length_take]; omega)
          have e8 : 128 ^ 8 = 72057594037927936 := by decide
          omega
        have HT := Lib.hid hlt
        have hx := (l[e]).toNat_lt
        clear e1 e2 e3 H hz he h0 hlt
        by_cases he0 : 0 < e
        · have hne2 := hne he0
          generalize (l[e]).toNat = x at *
          clear hne
          go_enter Try.func38, Try.ntmps38
          go_wp2_with fail
          refine HH.out.mono ?_
          rintro ee w1 ⟨rfl, hb⟩
          have g9 : decide ((9 : Int) < (e : Int) + 1) = false := decide_eq_false (by omega)
          have g1 : decide ((1 : Int) < (e : Int) + 1) = true := decide_eq_true (by omega)
          go_wp2_with (refine store9n (.tmp 5) (.tmp 13) rfl rfl _ (grpA l (e + 1)) rfl (grpA_size _ _) (u8s_one _) (by simp [Act.eval, Act.put]) (by simp [Act.eval, Act.put]) ?_)
          go_loop [8, 9] (fun n i => ∃ j : Nat, j ≤ e + 1 ∧ n = .int .i64 ((val ((l.take (e + 1)).drop j) : Nat) : Int) ∧ i = .int .i64 ((j : Int) - 1)) (fun _ i => (intOf i + 1).toNat)
          case atStart => exact ⟨e + 1, by omega, by rw [List.drop_eq_nil_of_le (by rw [List.length_take]; omega)]; rfl, by go_num⟩
          case round =>
            obtain ⟨j, hj, rfl, rfl⟩ := hrel
            by_cases hj0 : 0 < j
            · obtain ⟨i, rfl⟩ : ∃ i, j = i + 1 := ⟨j - 1, by omega⟩
              have hm := HT.out (i + 1) (by omega)
              have hci := HL.out i (by omega)
              have hv : val ((l.take (e + 1)).drop i) = (l[i]).toNat % 128 + 128 * val ((l.take (e + 1)).drop (i + 1)) := by
                have hlen : i < (l.take (e + 1)).length := by rw [List.length_take]; omega
                rw [List.drop_eq_getElem_cons hlen, List.getElem_take]; rfl
              have hu := (l[i]).toNat_lt
              have HV := Lib.hid hv
              clear hv
              generalize val ((l.take (e + 1)).drop (i + 1)) = m at *
              generalize (l[i]).toNat = y at *
              have hb1 := u8_not128n y hu
              have hb2 := i64_or7 m (y % 128) hm (by omega)
              rw [show ((y % 128 : Nat) : Int) = (y : Int) % 128 by omega] at hb1 hb2
              have HB2 := Lib.hid hb2
              clear hb2
              go_wp2
              go_round
              case rel => exact ⟨i, by omega, by rw [HV.out, HB2.out, Nat.mul_comm m, Nat.add_comm], by go_num⟩
              case measure => simp [intOf]
            · obtain rfl : j = 0 := by omega
              rw [List.drop_zero]
              go_wp2
              go_ret3
              exact ⟨rfl, hb.alloc hb.size _⟩
        · obtain rfl : e = 0 := by omega
          have H1 := HH.out
          rw [show ((0 + 1 : Nat) : Int) = 1 by rfl, show 0 + 1 = 1 by rfl] at H1
          have hl1 := HL.out
          have ht1 := HT.out
          rw [show 0 + 1 = 1 by rfl] at ht1
          have HL := Lib.hid (show ∀ (i : Nat) (h : i < 1), (grpA l 1)[i]? = some (Value.int IntKind.u8 (l[i]'(by omega)).toNat) from fun i h => hl1 i h)
          have HT := Lib.hid ht1
          have HH := Lib.hid H1
          clear hne hat H1 hl1 ht1
          go_enter Try.func38, Try.ntmps38
          go_wp2_with fail
          refine HH.out.mono ?_
          rintro ee w1 ⟨rfl, hb⟩
          go_wp2_with (refine store9n (.tmp 5) (.tmp 13) rfl rfl _ (grpA l (1)) rfl (grpA_size _ _) (u8s_one _) (by simp [Act.eval, Act.put]) (by simp [Act.eval, Act.put]) ?_)
          go_loop [8, 9] (fun n i => ∃ j : Nat, j ≤ 1 ∧ n = .int .i64 ((val ((l.take (1)).drop j) : Nat) : Int) ∧ i = .int .i64 ((j : Int) - 1)) (fun _ i => (intOf i + 1).toNat)
          case atStart => exact ⟨1, by omega, by rw [List.drop_eq_nil_of_le (by rw [List.length_take]; omega)]; rfl, by go_num⟩
          case round =>
            obtain ⟨j, hj, rfl, rfl⟩ := hrel
            by_cases hj0 : 0 < j
            · obtain ⟨i, rfl⟩ : ∃ i, j = i + 1 := ⟨j - 1, by omega⟩
              have hm := HT.out (i + 1) (by omega)
              have hci := HL.out i (by omega)
              have hv : val ((l.take (1)).drop i) = (l[i]).toNat % 128 + 128 * val ((l.take (1)).drop (i + 1)) := by
                have hlen : i < (l.take (1)).length := by rw [List.length_take]; omega
                rw [List.drop_eq_getElem_cons hlen, List.getElem_take]; rfl
              have hu := (l[i]).toNat_lt
              have HV := Lib.hid hv
              clear hv
              generalize val ((l.take (1)).drop (i + 1)) = m at *
              generalize (l[i]).toNat = y at *
              have hb1 := u8_not128n y hu
              have hb2 := i64_or7 m (y % 128) hm (by omega)
              rw [show ((y % 128 : Nat) : Int) = (y : Int) % 128 by omega] at hb1 hb2
              have HB2 := Lib.hid hb2
              clear hb2
              go_wp2
              go_round
              case rel => exact ⟨i, by omega, by rw [HV.out, HB2.out, Nat.mul_comm m, Nat.add_comm], by go_num⟩
              case measure => simp [intOf]
            · obtain rfl : j = 0 := by omega
              rw [List.drop_zero]
              go_wp2
              go_ret3
              exact ⟨rfl, hb.alloc hb.size _⟩
end Go.Proofs.Ytkahdmhgfojbiaa
