/- What frame's Open and All come to. Conditions: texts of at most 100,000 bytes. -/
import Derived.Test.YtkipgipfplejoaaFrmC
import Derived.Test.YtkipgipfplejoaaSlices
namespace Go.Proofs.Ytkipgipfplejoaa
open Go.ChangeShapes Go.WideShapes Go.ChangeAt Go.RowKit
set_option linter.unusedVariables false
set_option maxRecDepth 100000
set_option linter.unusedSimpArgs false

theorem fopen_any (s : ByteArray) (w : World) (hs : s.size ≤ 9223372036854775000) :
    Calls Try.prog 8 #[.string s] w fun e w' => e = .returned (.tuple #[.string (bs (openB s.data.toList)), .int .i64 (openN s.data.toList), .int .i64 (openE s.data.toList)]) ∧ Below w.heap.size w w' := by
  have H := Lib.hid (open_any w.heap.size false s _ hs (tab_new0 w))
  have b1 := (Below.refl w.heap.size w).alloc (Nat.le_refl _) (.cells (cellsC 0 0 0 0) 68)
  have hz : (w.alloc (.cells (cellsC 0 0 0 0) 68)).heap.size = w.heap.size + 1 := by simp
  have N := Lib.hid (tnew_any w)
  generalize w.alloc (.cells (cellsC 0 0 0 0) 68) = w1 at *
  go_enter Try.func8, Try.ntmps8
  go_wp2_with fail
  refine N.out.mono ?_
  rintro e w2 ⟨rfl, rfl⟩
  go_wp2_with fail
  refine H.out.mono ?_
  rintro e w3 ⟨rfl, -, o3⟩
  have b3 := Lib.hid (b1.trans (o3.below (Nat.le_refl _) (by omega)))
  go_wp2_with fail
  go_ret3
  exact ⟨rfl, b3.out⟩
/-- Texts, as cells. -/
def strs (l : List (List UInt8)) : List Value := l.map fun b => .string (bs b)
def AllR (l : List UInt8) (w : World) (e : Ending) (w' : World) : Prop :=
  ∃ v, e = .returned (.tuple #[v, .int .i64 (used l)]) ∧ Rd w' w'.heap.size v (strs (bodies l)) ∧ Below w.heap.size w w'
theorem infoS : (Try.prog.info? 9).map (fun i => (i.zero, i.size, i.bytes)) = some (some (.string ⟨#[]⟩), 1, 16) := by kernel_rfl
/-- So much is behind a round. -/
def AllI (l : List UInt8) (k : Nat) (out : List (List UInt8)) : Prop := k ≤ l.length ∧ bodies l = out ++ bodies (l.drop k) ∧ used l = k + used (l.drop k) ∧ out.length ≤ k
theorem allI_zero (l : List UInt8) : AllI l 0 [] := ⟨Nat.zero_le _, by simp, by simp, Nat.zero_le _⟩
theorem allI_next {l : List UInt8} {k : Nat} {out : List (List UInt8)} (h : AllI l k out) (he : openE (l.drop k) = 0) : AllI l (k + openN (l.drop k)) (out ++ [openB (l.drop k)]) := by
  obtain ⟨h1, h2, h3, h4⟩ := h
  have hn := openN_le he
  rw [List.length_drop] at hn
  refine ⟨by omega, ?_, ?_, by simp; omega⟩
  · rw [h2, bodies_ok he, List.drop_drop]; simp
  · rw [h3, used_ok he, List.drop_drop]; omega
theorem allI_end {l : List UInt8} {k : Nat} {out : List (List UInt8)} (h : AllI l k out) (he : openE (l.drop k) ≠ 0) : bodies l = out ∧ used l = k := by
  obtain ⟨h1, h2, h3, h4⟩ := h
  rw [bodies_end he] at h2
  rw [used_end he] at h3
  exact ⟨by simpa using h2, by omega⟩
set_option maxHeartbeats 1000000 in
theorem fall_any (s : ByteArray) (w : World) (hs : s.size ≤ 100000) :
    Calls Try.prog 10 #[.string s] w (AllR s.data.toList w) := by
  obtain ⟨i0, hi, hz0, hz1, hz2⟩ := info_parts infoS
  have hl : s.data.toList.length = s.size := data_len s
  have b1 := (Below.refl w.heap.size w).alloc (Nat.le_refl _) (.cells (cellsC 0 0 0 0) 68)
  have hz : (w.alloc (.cells (cellsC 0 0 0 0) 68)).heap.size = w.heap.size + 1 := by simp
  have ht : TabS (w.alloc (.cells (cellsC 0 0 0 0) 68)) w.heap.size := ⟨false, tab_new0 w⟩
  have N := Lib.hid (tnew_any w)
  generalize w.alloc (.cells (cellsC 0 0 0 0) 68) = w1 at *
  have HZ := Lib.hid hz
  clear hz
  go_enter Try.func10, Try.ntmps10
  go_wp2_with fail
  refine N.out.mono ?_
  rintro e w2 ⟨rfl, rfl⟩
  go_wp2_with fail
  go_loopw [4, 5] (fun v i wr => ∃ (k : Nat) (out : List (List UInt8)), i = .int .i64 k ∧ AllI s.data.toList k out ∧ wr.ownsRow (w.heap.size + 1) 9 1 v out.length (strs out) ∧ TabS wr w.heap.size ∧ Below w.heap.size w wr) (fun _ i _ => s.size - (intOf i).toNat)
  case atStart => exact ⟨0, [], rfl, allI_zero _, World.ownsRow_nil _ _ _ _, ht, b1⟩
  case round =>
    obtain ⟨k, out, rfl, hI, hown, ⟨d, ht2⟩, hb⟩ := hrel
    have hk : k ≤ s.size := by rw [← hl]; exact hI.1
    have ho := hI.2.2.2
    have hR : (s.extract k s.size).data.toList = s.data.toList.drop k := by rw [extract_list, ← data_len, List.take_length]
    have hRs : (s.extract k s.size).size ≤ 9223372036854775000 := by rw [← data_len, hR, List.length_drop]; omega
    have H := open_any w.heap.size d (s.extract k s.size) wr hRs ht2
    rw [hR] at H
    have hsl := fun w => run_slice_string_l (P := Try.prog) w 9 s (by kernel_rfl) .i64 (k : Int) (by omega) (by omega)
    rw [Int.toNat_natCast] at hsl
    have HI := Lib.hid hI
    have HO := Lib.hid hown
    have HB := Lib.hid hb
    have H := Lib.hid H
    have HL := Lib.hid hl
    generalize s.extract k s.size = R at *
    clear ht ht2 hown hb hI hR hl
    by_cases he : openE (s.data.toList.drop k) = 0
    · have hn := openN_le he
      rw [List.length_drop, HL.out] at hn
      have HN := Lib.hid (allI_next HI.out he)
      unfold OpenR at H
      rw [he] at H
      generalize openN (s.data.toList.drop k) = nn at *
      generalize openB (s.data.toList.drop k) = bb at *
      clear he
      go_wp2_with fail
      refine H.out.mono ?_
      rintro e w3 ⟨rfl, ⟨d3, ht3⟩, o3⟩
      have hb3 := HB.out.trans (o3.below (Nat.le_refl _) (HB.out.size))
      have ho3 := owns_only HO.out o3 (by omega)
      have HT3 := Lib.hid ht3
      have HB3 := Lib.hid hb3
      have HO3 := Lib.hid ho3
      have hw3 : w.heap.size < w3.heap.size := tab_lt ht3
      clear o3 ht3 hb3 ho3
      go_wp2_with (at_builtin; refine wpList_append_own _ rfl _ _ 28 rfl (w.heap.size + 1) 9 i0 (.string ⟨#[]⟩) 1 16 Try.underlying28 hi hz0 hz1 hz2 rfl (by decide) _ _ _ rfl (HO3.out.alloc _) ⟨w3.heap.size, 0, none⟩ 1 1 [.string (bs bb)] rfl rfl (cell_one_new _ _ _) ?c2 ?c3 ?c4 ?c5 ?_)
      case c2 => intro u hu; simp at hu; subst hu; rfl
      case c3 => unfold maxLen; omega
      case c4 => omega
      case c5 => simp; omega
      intro v' w4 hown4 hgrow _
      have hrow : ∀ g, u4.ownBlock = some g → w.heap.size + 1 ≤ g := fun g hg => owns_row HO3.out hg
      have hb4 := grown_below (HB3.out.alloc (HB3.out.size) _) hgrow (fun g hg => by have := hrow g hg; omega) (by simp; omega)
      have ht4 : Tab w4 w.heap.size d3 := by
        cases d3
        · exact grown_blk (blk_old _ HT3.out) hgrow (fun g hg => by have := hrow g hg; omega)
        · exact grown_blk (blk_old _ HT3.out) hgrow (fun g hg => by have := hrow g hg; omega)
      have HT4 := Lib.hid ht4
      have HB4 := Lib.hid hb4
      have hown4' : w4.ownsRow (w.heap.size + 1) 9 1 v' (out ++ [bb]).length (strs (out ++ [bb])) := by
        simpa [strs] using hown4
      have HO4 := Lib.hid hown4'
      clear hrow hb4 ht4 hown4 hown4' hgrow
      go_wp2_with fail
      go_roundw
      case rel => exact ⟨k + nn, out ++ [bb], by go_num, HN.out, HO4.out, ⟨d3, HT4.out⟩, HB4.out⟩
      case measure => simp [intOf]; omega
    · have HN := Lib.hid (allI_end HI.out he)
      have hd : ((openE (s.data.toList.drop k) : Int) == 0) = false := by simpa using he
      have hd2 : ((openE (s.data.toList.drop k) : Int) != 0) = true := by simpa using he
      unfold OpenR at H
      generalize openE (s.data.toList.drop k) = ee at *
      generalize openN (s.data.toList.drop k) = nn at *
      generalize bs (openB (s.data.toList.drop k)) = bb at *
      clear he
      go_wp2_with fail
      refine H.out.mono ?_
      rintro e w3 ⟨rfl, -, o3⟩
      have hb3 := Lib.hid (HB.out.trans (o3.below (Nat.le_refl _) (HB.out.size)))
      have ho3 := Lib.hid (owns_only HO.out o3 (by omega))
      clear o3
      go_wp2_with fail
      go_ret2
      refine ⟨u4, ?_, ?_, hb3.out⟩
      · rw [HN.out.2]; rfl
      · rw [HN.out.1]; exact Rd.own ho3.out
end Go.Proofs.Ytkipgipfplejoaa
