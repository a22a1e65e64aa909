/- dec's List and Hex. Conditions: texts of at most 100,000 bytes, lists of at most 1,000 numbers; the library's table holds what it was laid with. -/
import Derived.Test.YtgiofaccigkfjaaDoorDecB
import Derived.Test.YtgiofaccigkfjaaDoorBldK
namespace Go.Proofs.YtgiofaccigkfjaaDoor
open Go.ChangeShapes Go.WideShapes Go.ChangeAt Go.RowKit
set_option linter.unusedVariables false
set_option maxRecDepth 100000
set_option linter.unusedSimpArgs false

theorem ints_at (ns : List Int) (k : Nat) (h : k < ns.length) : (ints ns)[k]'(by rw [ints_len]; exact h) = .int .i64 ns[k] := ints_get ns k (by rw [ints_len]; exact h)
set_option maxHeartbeats 1000000 in
theorem dlist_any (v : Value) (ns : List Int) (w : World) (hn : ns.length ≤ 1000) (hi : ∀ n ∈ ns, inI n) (h : Rd w w.heap.size v (ints ns)) (ht : Tb w) :
    Calls Tryd.prog 35 #[v] w fun e w' => e = .returned (.string (bs (listL ns))) ∧ Below w.heap.size w w' := by
  obtain ⟨A, c, rfl, hc, hc2⟩ := h.form
  have H1 := Lib.hid fun k (hk : k < ns.length) => h.at_ (k := k) (by rw [ints_len]; exact hk)
  have HT := Lib.hid ht
  have HI := Lib.hid hi
  have hlen := fun k => listL_len ns hi k
  rw [ints_len]
  clear h ht hi hc hc2
  have HL := Lib.hid hlen
  clear hlen
  go_enter Tryd.func35, Tryd.ntmps35
  go_wp2_with fail
  go_loopw [8] (fun i wr => ∃ k : Nat, k ≤ ns.length ∧ i = .int .i64 k ∧ IsB w.heap.size w.heap.size (listL (ns.take k)) wr ∧ Below w.heap.size w wr) (fun i _ => ns.length - (intOf i).toNat)
  case atStart => exact ⟨0, by omega, rfl, isB_fresh w, (Below.refl _ w).alloc (Nat.le_refl _) _⟩
  case round =>
    obtain ⟨k, hk, rfl, hB, hb⟩ := hrel
    have HB := Lib.hid hB
    have HW := Lib.hid hb
    have hlk := HL.out k
    clear hB hb
    by_cases hlt : k < ns.length
    · obtain ⟨b1, o1, rfl, hb1, hx1⟩ := H1.out k hlt
      have g1 : wr.cell? ⟨b1, o1 + k, none⟩ = some (.int .i64 ns[k]) := by
        rw [HW.out.cell (p := ⟨b1, o1 + k, none⟩) hb1, hx1 k (by rw [ints_len]; exact hlt), ints_at ns k hlt]
      have dk : decide (k < ns.length) = true := decide_eq_true hlt
      have hin := HI.out _ (List.getElem_mem hlt)
      have htl := textL_len _ hin
      have T1 := Lib.hid fun w (h : Tb w) => dtext_any _ hin w h
      have HS := Lib.hid (listL_snoc (ns.take k) ns[k])
      have htk : ns.take (k + 1) = ns.take k ++ [ns[k]] := by rw [List.take_succ_eq_append_getElem hlt]
      have HTK := Lib.hid htk
      have hw0 := HW.out.size
      clear htk hx1 hin H1
      generalize hx : ns[k] = x at *
      clear hx
      rcases Nat.eq_zero_or_pos k with rfl | hk0
      · rw [List.take_zero] at HS HB
        rw [Nat.add_zero] at g1
        go_wp2_with fail
        refine (T1.out _ (tb_below HT.out HW.out)).mono ?_; rintro e w1 ⟨rfl, b1⟩
        have HW1 := Lib.hid (HW.out.trans (b1.mono HW.out.size))
        have W1 := isB_string w.heap.size w.heap.size _ (textL x) w1 (isB_below HB.out b1) (by simp [listL, joinS]) (by omega) HW1.out.size
        have W1 := Lib.hid W1
        clear b1
        go_wp2_with fail
        refine W1.out.mono ?_; rintro e w2 ⟨rfl, B2, b2⟩
        have HW2 := Lib.hid (HW1.out.trans b2)
        have HB2 := Lib.hid B2
        clear b2 B2
        go_wp2_with fail
        go_roundw
        case rel => exact ⟨1, by omega, by go_num, by rw [HTK.out, List.take_zero, HS.out]; simp only [if_true]; exact HB2.out, HW2.out⟩
        case measure => simp [intOf]; omega
      · have d0 : decide ((0 : Int) < (k : Int)) = true := decide_eq_true (by omega)
        have d00 : decide (0 < k) = true := decide_eq_true hk0
        have hne : ns.take k ≠ [] := fun e => by have := congrArg List.length e; rw [List.length_take, List.length_nil] at this; omega
        have W0 := isB_string w.heap.size w.heap.size _ [44] wr HB.out (by omega) (by simp) hw0
        rw [show bs [44] = ByteArray.mk #[44] from rfl] at W0
        have W0 := Lib.hid W0
        have HNE := Lib.hid hne
        clear hne
        go_wp2_with fail
        refine W0.out.mono ?_; rintro e w0 ⟨rfl, B0, b0⟩
        have HW0 := Lib.hid (HW.out.trans b0)
        have HB0 := Lib.hid B0
        clear b0 B0
        go_wp2_with fail
        refine (T1.out _ (tb_below HT.out HW0.out)).mono ?_; rintro e w1 ⟨rfl, b1⟩
        have HW1 := Lib.hid (HW0.out.trans (b1.mono HW0.out.size))
        have W1 := isB_string w.heap.size w.heap.size (listL (ns.take k) ++ [44]) (textL x) w1 (isB_below HB0.out b1) (by simp only [List.length_append, List.length_cons, List.length_nil]; omega) (by omega) HW1.out.size
        have W1 := Lib.hid W1
        clear b1
        go_wp2_with fail
        refine W1.out.mono ?_; rintro e w2 ⟨rfl, B2, b2⟩
        have HW2 := Lib.hid (HW1.out.trans b2)
        have HB2 := Lib.hid B2
        clear b2 B2
        go_wp2_with fail
        go_roundw
        case rel => exact ⟨k + 1, by omega, by go_num, by
          have := HB2.out
          rw [List.append_assoc] at this
          rw [HTK.out, HS.out, if_neg HNE.out]; exact this, HW2.out⟩
        case measure => simp [intOf]; omega
    · obtain rfl : k = ns.length := by omega
      have dk : decide (ns.length < ns.length) = false := decide_eq_false hlt
      rw [List.take_length] at HB
      have S1 := Lib.hid (isB_text w.heap.size w.heap.size _ wr HB.out HW.out.size)
      clear hlk
      go_wp2_with fail
      refine S1.out.mono ?_; rintro e w2 ⟨rfl, b2⟩
      have HW2 := Lib.hid (HW.out.trans b2)
      clear b2
      go_wp2_with fail
      go_ret
      exact ⟨rfl, HW2.out⟩
theorem sign_elem (k : Nat) (h : k < 16) : (ByteArray.mk #[48, 49, 50, 51, 52, 53, 54, 55, 56, 57, 97, 98, 99, 100, 101, 102])[k]'(by show _ < 16; exact h) = signC k := by
  have hg := sign_get k h
  have hk : k < (ByteArray.mk #[48, 49, 50, 51, 52, 53, 54, 55, 56, 57, 97, 98, 99, 100, 101, 102]).data.size := h
  rw [Array.getElem?_eq_getElem hk] at hg
  exact Option.some.inj hg
end Go.Proofs.YtgiofaccigkfjaaDoor
