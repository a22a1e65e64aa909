/- What the cursor's reader, and the function that it gives, come to. Conditions: the text is no longer than any text. -/
import Derived.Test.YtkahdmhgfojbiaaOctE
namespace Go.Proofs.Ytkahdmhgfojbiaa
open Go.ChangeShapes Go.WideShapes Go.ChangeAt Go.RowKit
set_option linter.unusedVariables false
set_option maxRecDepth 100000
set_option linter.unusedSimpArgs false

theorem next_nil (w : World) : Calls Try.prog 42 #[] w fun e w' => e = .returned (.tuple #[.int .u8 0, .bool false]) ∧ w = w' := by
  go_enter Try.func42, Try.ntmps42
  go_wp2
  go_ret2
  exact ⟨rfl, rfl⟩
theorem reader_nil (w : World) : Calls Try.prog 37 #[.pointer none] w fun e w' => e = .returned (.func (.func 42) #[] #[]) ∧ w = w' := by
  go_enter Try.func37, Try.ntmps37
  go_wp2
  go_ret
  exact ⟨rfl, rfl⟩
theorem reader_any (b : Nat) (s : ByteArray) (k : Nat) (w : World) (hs : s.size ≤ 9223372036854775000) (hc : Cur w b s k) :
    Calls Try.prog 37 #[.pointer (some ⟨b, 0, none⟩)] w fun e w' => ∃ r a : Nat, ∃ t : ByteArray, e = .returned (.func (.func 43) #[] #[.pointer (some ⟨a, 0, none⟩), .pointer (some ⟨r, 0, none⟩)]) ∧
      t.data.toList = rest s k ∧ w.heap.size ≤ a ∧ w.heap.size ≤ r ∧ w'.heap[a]? = some (.cells #[.int .i64 0] 3 (0, 0)) ∧ w'.heap[r]? = some (.cells #[.string t] 9 (0, 0)) ∧ Below w.heap.size w w' := by
  have hmf : ∀ (fn : Fn) (first cap : Array Value) (w : World), (Instr.makeFunc fn first cap).run Try.prog w = .ok (.func fn first cap) w := fun _ _ _ _ => rfl
  obtain ⟨hb, hk⟩ := hc
  have c0 : w.cell? ⟨b, 0, none⟩ = some (.string s) := cell_of_row w b 0 _ _ _ hb
  have c1 : w.cell? ⟨b, 1, none⟩ = some (.int .i64 k) := cell_of_row w b 1 _ _ _ hb
  have hbs : b < w.heap.size := lt_of_block hb
  have hl : (rest s k) = (s.extract k s.size).data.toList := by
    rw [extract_list, ← data_len, List.take_length]; rfl
  have HL := Lib.hid hl
  clear hb hl
  go_enter Try.func37, Try.ntmps37
  go_wp2
  go_region
  go_wp2
  go_ret
  refine ⟨w.heap.size, w.heap.size + 1, s.extract k s.size, rfl, HL.out.symm, by omega, by omega, ?_, ?_, ?_⟩
  · have := blk_new (w.alloc (Obj.cells #[Value.string (s.extract k s.size)] 9)) (Obj.cells #[Value.int IntKind.i64 0] 3)
    rw [World.size_alloc] at this
    exact this
  · exact blk_old _ (blk_new w (Obj.cells #[Value.string (s.extract k s.size)] 9))
  · exact (((Below.refl _ _).alloc (Nat.le_refl _) _).alloc (by simp) _).drew
theorem next_end (a r : Nat) (t : ByteArray) (w : World) (ht : t.size ≤ 9223372036854775000) (ha : w.heap[a]? = some (.cells #[.int .i64 t.size] 3 (0, 0))) (hr : w.heap[r]? = some (.cells #[.string t] 9 (0, 0))) :
    Calls Try.prog 43 #[.pointer (some ⟨a, 0, none⟩), .pointer (some ⟨r, 0, none⟩)] w fun e w' => e = .returned (.tuple #[.int .u8 0, .bool false]) ∧ w = w' := by
  have c0 := cell_of_one ha
  have c1 := cell_of_one hr
  clear ha hr
  go_enter Try.func43, Try.ntmps43
  go_wp2
  go_ret2
  exact ⟨rfl, rfl⟩
theorem next_any (a r i : Nat) (t : ByteArray) (w : World) (ht : t.size ≤ 9223372036854775000) (hi : i < t.size) (ha : w.heap[a]? = some (.cells #[.int .i64 i] 3 (0, 0))) (hr : w.heap[r]? = some (.cells #[.string t] 9 (0, 0))) :
    Calls Try.prog 43 #[.pointer (some ⟨a, 0, none⟩), .pointer (some ⟨r, 0, none⟩)] w fun e w' => e = .returned (.tuple #[.int .u8 (t[i]).toNat, .bool true]) ∧ w' = w.setCell ⟨a, 0, none⟩ (.int .i64 ((i : Int) + 1)) := by
  have c0 := cell_of_one ha
  have c1 := cell_of_one hr
  have f0 := free_of_one ha
  clear ha hr
  go_enter Try.func43, Try.ntmps43
  go_wp2
  go_ret2
  exact ⟨rfl, rfl⟩
end Go.Proofs.Ytkahdmhgfojbiaa
