/- What dec's number comes to, of any digit function. Conditions: texts of at most 100,000 bytes. -/
import Derived.Test.YthpijibcfkcenaaDoorDecRef3
import Derived.Laws.RangeAny
import Derived.Lib.OthersKept
namespace Go.Proofs.YthpijibcfkcenaaDoor
open Go.ChangeShapes Go.WideShapes Go.ChangeAt Go.RowKit
set_option linter.unusedVariables false
set_option maxRecDepth 100000
set_option linter.unusedSimpArgs false

/-- The number that digits come to, as the machine reckons. -/
def numW (b : Int) (V : UInt8 → Nat) : Int → List UInt8 → Int
  | a, [] => a
  | a, c :: l => numW b V (IntKind.i64.wrap (IntKind.i64.wrap (a * b) + (V c : Int))) l
theorem numW_append (b : Int) (V : UInt8 → Nat) (l r : List UInt8) : ∀ a, numW b V a (l ++ r) = numW b V (numW b V a l) r := by
  induction l with
  | nil => intro a; rfl
  | cons c l ih => intro a; exact ih _
theorem numW_in (b : Int) (V : UInt8 → Nat) (l : List UInt8) : ∀ a, inI a → inI (numW b V a l) := by
  induction l with
  | nil => intro a h; exact h
  | cons c l ih => intro a h; exact ih _ (by unfold inI; rw [IntKind.wrap_i64]; omega)
def numV (b : Int) (V : UInt8 → Nat) (good : UInt8 → Bool) (l : List UInt8) : Ending :=
  .returned (.tuple #[.int .i64 (if l.all good = true then numW b V 0 l else 0), .bool (l.all good)])
theorem all_bad {good : UInt8 → Bool} (s : ByteArray) (k : Nat) (h : k < s.size) (hb : good (s[k]'h) = false) : s.data.toList.all good = false := by
  rw [List.all_eq_false]
  exact ⟨s[k]'h, by rw [← lget s k h]; exact List.getElem_mem _, by simp [hb]⟩
set_option maxHeartbeats 1000000 in
theorem number_dec (b : Int) (V : UInt8 → Nat) (good : UInt8 → Bool) (s : ByteArray) (w : World) (hs : s.size ≤ 100000) (hb : 0 ≤ b) (hb2 : b ≤ 100)
    (hV : ∀ c, V c ≤ 255) (hg : ∀ c, good c = true → c.toNat < 128)
    (HT : ∀ c : UInt8, good c = true → ∀ wr : World, Calls Tryd.prog 65 #[.int .i32 (c.toNat : Nat)] wr fun e w' => e = .returned (.tuple #[.int .i64 (V c : Nat), .bool true]) ∧ Below wr.heap.size wr w')
    (HN : ∀ r : Nat, r ≤ 2147483647 → (r < 128 → good (UInt8.ofNat r) = false) → ∀ wr : World, Calls Tryd.prog 65 #[.int .i32 (r : Nat)] wr fun e w' => (∃ d : Int, e = .returned (.tuple #[.int .i64 d, .bool false])) ∧ Below wr.heap.size wr w') :
    Calls Tryd.prog 64 #[.string s, .int .i64 b, .func (.func 65) #[] #[]] w fun e w' => e = numV b V good s.data.toList ∧ Below w.heap.size w w' := by
  have HT := Lib.hid HT
  have HN := Lib.hid HN
  have HG := Lib.hid hg
  have HV := Lib.hid hV
  clear hg hV
  go_enter Tryd.func64, Tryd.ntmps64
  go_wp2_with fail
  go_loopw [8] (fun n wr => ∃ pos : Nat, pos ≤ s.size ∧ n = .int .i64 (numW b V 0 (s.data.toList.take pos)) ∧ (s.data.toList.take pos).all good = true ∧ wr.heap[w.heap.size]? = some (.stringIter s pos) ∧ Below w.heap.size w wr) (fun _ wr => s.size - wr.iterPos w.heap.size)
  case atStart =>
    refine ⟨0, by omega, rfl, rfl, ?_, ((Below.refl _ w).alloc (Nat.le_refl _) _)⟩
    have := World.iter_heap w s 0
    simpa using this
  case round =>
    obtain ⟨pos, hpos, rfl, hall, hit, hbw⟩ := hrel
    have hin := numW_in b V (s.data.toList.take pos) 0 (by unfold inI; omega)
    have hsz : w.heap.size < wr.heap.size := (Array.getElem?_eq_some_iff.1 hit).1
    have HIT := Lib.hid hit
    by_cases hp : pos < s.size
    · have hnx : ∀ ty, (Instr.next (.pointer (some ⟨w.heap.size, 0, none⟩)) true ty).run Tryd.prog wr = _ := fun ty => Lib.run_next_any_at wr w.heap.size s pos ty hit hp
      have hit2 := Lib.iterAt_heap wr w.heap.size s pos (pos + (Utf8.decode s pos).2) hit
      have hbw2 := Lib.below_iterAt hbw (k := w.heap.size) (Nat.le_refl _) s (pos + (Utf8.decode s pos).2)
      have hsz2 : w.heap.size < (wr.iterAt w.heap.size s (pos + (Utf8.decode s pos).2)).heap.size := by rw [Lib.iterAt_size]; omega
      by_cases ha : good (s[pos]'hp) = true
      · have hlo := HG.out _ ha
        have hde := decode_ascii s pos hp hlo
        rw [hde] at hnx hit2 hbw2 hsz2
        have hT := HT.out _ ha
        have hvle := HV.out (s[pos]'hp)
        have htk := ltake s pos hp
        have e1 : numW b V 0 (s.data.toList.take (pos + 1)) = IntKind.i64.wrap (IntKind.i64.wrap (numW b V 0 (s.data.toList.take pos) * b) + (V (s[pos]'hp) : Int)) := by rw [htk, numW_append]; rfl
        have e2 : (s.data.toList.take (pos + 1)).all good = true := by rw [htk, List.all_append, hall]; simp [ha]
        have E1 := Lib.hid e1
        have E2 := Lib.hid e2
        have HB2 := Lib.hid hbw2
        have HI2 := Lib.hid hit2
        have HSZ := Lib.hid hsz2
        clear e1 e2 htk hbw2 hit2 hit hsz hsz2 hall hbw hde ha
        dsimp only at hnx HB2 HI2 HSZ
        generalize hw2 : wr.iterAt w.heap.size s (pos + 1) = wr2 at *
        clear hw2
        generalize numW b V 0 (s.data.toList.take pos) = n0 at *
        generalize V (s[pos]'hp) = d at *
        go_wp2_with fail
        refine (hT _).mono ?_
        rintro e w3 ⟨rfl, b3⟩
        have hit3 := blk_below b3 HI2.out HSZ.out
        have HB3 := Lib.hid (HB2.out.trans (b3.mono (Nat.le_of_lt HSZ.out)))
        have HI3 := Lib.hid hit3
        clear b3 hit3
        go_wp2_with fail
        go_roundw
        case rel => exact ⟨pos + 1, by omega, by rw [E1.out]; congr 1; simp only [IntKind.wrap_i64, wrap64] <;> omega, E2.out, HI3.out, HB3.out⟩
        case measure => simp only [World.iterPos, HI3.out, HIT.out]; omega
      · have ha2 : good (s[pos]'hp) = false := by simpa using ha
        have hd1 := decode_le s pos
        have hN := HN.out (Utf8.decode s pos).1 hd1 (fun h => by
          by_cases hlo : (s[pos]'hp).toNat < 128
          · rw [decode_ascii s pos hp hlo]; simpa using ha2
          · have := (decode_high s pos hp (by omega)).1; omega)
        have HX := Lib.hid (show numV b V good s.data.toList = .returned (.tuple #[.int .i64 0, .bool false]) by unfold numV; rw [all_bad s pos hp ha2]; rfl)
        have HB2 := Lib.hid hbw2
        have HSZ := Lib.hid hsz2
        clear hbw2 hit2 hit hsz hsz2 hall hbw ha ha2
        generalize wr.iterAt w.heap.size s (pos + (Utf8.decode s pos).2) = wr2 at *
        generalize (Utf8.decode s pos).1 = r at *
        go_wp2_with fail
        refine (hN _).mono ?_
        rintro e w3 ⟨⟨d, rfl⟩, b3⟩
        have HB3 := Lib.hid (HB2.out.trans (b3.mono (Nat.le_of_lt HSZ.out)))
        clear b3
        go_wp2_with fail
        go_ret2
        exact ⟨HX.out.symm, HB3.out⟩
    · obtain rfl : pos = s.size := by omega
      have hnx : ∀ ty, (Instr.next (.pointer (some ⟨w.heap.size, 0, none⟩)) true ty).run Tryd.prog wr = _ := fun ty => Lib.run_next_end_at wr w.heap.size s s.size ty hit hp
      rw [List.take_of_length_le (by rw [data_len]; exact Nat.le_refl _)] at hall hin ⊢
      have HX := Lib.hid (show numV b V good s.data.toList = .returned (.tuple #[.int .i64 (numW b V 0 s.data.toList), .bool true]) by unfold numV; rw [hall]; rfl)
      clear hall hit
      generalize numW b V 0 s.data.toList = n0 at *
      go_wp2_with fail
      go_ret2
      exact ⟨HX.out.symm, hbw⟩
end Go.Proofs.YthpijibcfkcenaaDoor
