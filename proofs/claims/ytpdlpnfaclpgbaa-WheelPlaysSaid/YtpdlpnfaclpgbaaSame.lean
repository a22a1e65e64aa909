/- The answers' Same, at slices that read the same; facts on element types; bytes of the call's own as a text. Conditions: none. -/
import Derived.Test.YtpdlpnfaclpgbaaRows
import Derived.Test.YtpdlpnfaclpgbaaSlices
import Derived.Laws.IdiomStrings
import Derived.Laws.BytesArg
namespace Go.Proofs.Ytpdlpnfaclpgbaa
open Go.ChangeShapes Go.WideShapes Go.ChangeAt Go.RowKit
set_option linter.unusedVariables false
set_option maxRecDepth 100000
set_option linter.unusedSimpArgs false

theorem infoS : (Try.prog.info? 9).map (fun i => (i.zero, i.size, i.bytes)) = some (some (.string ⟨#[]⟩), 1, 16) := by kernel_rfl
theorem infoI64 : (Try.prog.info? 3).map (fun i => (i.zero, i.size, i.bytes)) = some (some (.int .i64 0), 1, 8) := by kernel_rfl
theorem infoU8 : (Try.prog.info? 5).map (fun i => (i.zero, i.size, i.bytes)) = some (some (.int .u8 0), 1, 1) := by kernel_rfl
/-- 'string(b)' of what is the call's own. -/
theorem conv_own (w : World) (base n : Nat) (v : Value) (l : List UInt8) (h : w.ownsRow base 5 1 v n (u8v l)) :
    (convert 51 9 v).run Try.prog w = .ok (.string (bs l)) w := by
  have hl : l.length = n := by have := h.1; simp [u8v] at this; omega
  rcases h.2 with ⟨rfl, h0⟩ | ⟨g, cap, cur, rfl, _, hg, hc, hm, hs, ht⟩
  · obtain rfl : l = [] := List.eq_nil_of_length_eq_zero (by omega)
    exact run_convert_bytes_nil (P := Try.prog) w 51 5 (by kernel_rfl) (by kernel_rfl) 0 0 9 (by kernel_rfl)
  · have := run_convert_bytes_back (P := Try.prog) w 51 9 5 ⟨g, 0, none⟩ cap l (by kernel_rfl) (by kernel_rfl) (by kernel_rfl) (fun j hj => h.cells (g := g) rfl j _ (by simp [u8v, hj]))
    rw [hl] at this
    exact this
set_option maxHeartbeats 1000000 in
theorem isame_true (v1 v2 : Value) (ns : List Int) (B : Nat) (w : World) (hn : ns.length ≤ 1000000) (h1 : Rd w B v1 (ints ns)) (h2 : Rd w B v2 (ints ns)) :
    Calls Try.prog 13 #[v1, v2] w fun e w' => e = .returned (.bool true) ∧ ∃ n, w' = w.drewN n := by
  obtain ⟨A1, c1, rfl, hc1, _⟩ := h1.form
  obtain ⟨A2, c2, rfl, hc2, _⟩ := h2.form
  have H1 := Lib.hid fun k (hk : k < ns.length) => h1.at_ (k := k) (by rw [ints_len]; exact hk)
  have H2 := Lib.hid fun k (hk : k < ns.length) => h2.at_ (k := k) (by rw [ints_len]; exact hk)
  rw [ints_len]
  clear h1 h2 hc1 hc2
  go_enter Try.func13, Try.ntmps13
  go_wp2_with fail
  go_loopw [5] (fun i wr => ∃ k n : Nat, k ≤ ns.length ∧ i = .int .i64 k ∧ wr = w.drewN n) (fun i _ => ns.length - (intOf i).toNat)
  case atStart => exact ⟨0, 0, by omega, rfl, rfl⟩
  case round =>
    obtain ⟨k, n, hk, rfl, rfl⟩ := hrel
    by_cases hlt : k < ns.length
    · obtain ⟨b1, o1, rfl, hb1, hx1⟩ := H1.out k hlt
      obtain ⟨b2, o2, rfl, hb2, hx2⟩ := H2.out k hlt
      have g1 : w.cell? ⟨b1, o1 + k, none⟩ = some (.int .i64 ns[k]) := by have := hx1 k (by rw [ints_len]; exact hlt); rw [this, ints_get]
      have g2 : w.cell? ⟨b2, o2 + k, none⟩ = some (.int .i64 ns[k]) := by have := hx2 k (by rw [ints_len]; exact hlt); rw [this, ints_get]
      have dk : decide (k < ns.length) = true := decide_eq_true hlt
      generalize ns[k] = x at *
      clear hx1 hx2 H1 H2
      go_wp2_with fail
      go_quiet (fail)
      go_wp2_with fail
      go_roundw
      case rel => exact ⟨k + 1, _, by omega, by go_num, rfl⟩
      case measure => simp [intOf]; omega
    · have dk : decide (k < ns.length) = false := decide_eq_false hlt
      go_wp2_with fail
      go_ret
      exact ⟨rfl, _, rfl⟩
end Go.Proofs.Ytpdlpnfaclpgbaa
