/- Rows of jobs; what the library's stable sort and clone come to there; what rank's Jobs comes to. Conditions: lists of at most 1,000,000 jobs. -/
import Derived.Test.YtipmlbbbjafpiaaRnkA
import Derived.Test.YtipmlbbbjafpiaaStbD
import Derived.Test.YtipmlbbbjafpiaaRdm
import Derived.Laws.AppendOwnNone
import Derived.ChangeKeysEq
import Derived.Laws.StructEq
namespace Go.Proofs.Ytipmlbbbjafpiaa
open Go.ChangeShapes Go.WideShapes Go.ChangeAt Go.RowKit
open Go.Sort (SWO HoldsK flatK Holds grow swp)
set_option linter.unusedVariables false
set_option maxRecDepth 100000
set_option linter.unusedSimpArgs false

def rowsJ (l : List Jb) : List (List Value) := l.map Jb.row
theorem rowsJ_len (l : List Jb) : (rowsJ l).length = l.length := by simp [rowsJ]
theorem rowsJ_eight (l : List Jb) : ∀ r ∈ rowsJ l, r.length = 8 := by
  intro r hr
  obtain ⟨x, _, rfl⟩ := List.mem_map.1 hr
  rfl
theorem rowsJ_get (l : List Jb) (k : Nat) (h : k < l.length) : (rowsJ l)[k]? = some l[k].row := by simp [rowsJ, h]
theorem rowsJ_append (l r : List Jb) : rowsJ (l ++ r) = rowsJ l ++ rowsJ r := by simp [rowsJ]
theorem jrow_one (x : Jb) : ∀ v ∈ Jb.row x, v.oneCell' = true := by
  intro v hv; unfold Jb.row at hv; simp at hv
  rcases hv with rfl | rfl | rfl | rfl | rfl | rfl | rfl | rfl <;> rfl
theorem rowsJ_one (l : List Jb) : ∀ u ∈ (rowsJ l).flatten, u.oneCell' = true := by
  intro u hu
  obtain ⟨r, hr, hu⟩ := List.mem_flatten.1 hu
  obtain ⟨t, _, rfl⟩ := List.mem_map.1 hr
  exact jrow_one t u hu
theorem rowsJ_flat (l : List Jb) : (rowsJ l).flatten.length = l.length * 8 := by rw [flat_len 8 _ (rowsJ_eight _), rowsJ_len]
theorem infoJ : (Try.prog.info? 25).map (fun i => (i.zero, i.size, i.bytes)) = some (some (.agg #[.int .i64 0, .int .i64 0, .int .i64 0, .int .i64 0, .int .i64 0, .int .i64 0, .int .i64 0, .int .i64 0]), 8, 64) := by kernel_rfl
/-- A result that is a slice of jobs, in memory of the call's own. -/
def JobsR (l : List Jb) (w : World) (e : Ending) (w' : World) : Prop :=
  ∃ v, e = .returned v ∧ RdK 8 w' (fun b => w.heap.size ≤ b) v (rowsJ l) ∧ Below w.heap.size w w'
theorem row_holdsJ {w : World} {base g cap : Nat} {l : List Jb} (h : w.ownsRow base 25 8 (.slice (some ⟨g, 0, none⟩) l.length cap) l.length (rowsJ l).flatten) : HoldsK Jb.row 8 w g 0 l.toArray := by
  intro j hj
  rw [Go.Sort.size_flatK, List.size_toArray] at hj
  rw [Go.Sort.get_flatK _ _ _ _ (by simpa using hj)]
  have hq : j / 8 < l.length := by omega
  have hm : j % 8 < 8 := by omega
  have hfl := flat_get 8 (rowsJ l) (rowsJ_eight l) (j / 8) _ (rowsJ_get l _ hq) (j % 8) (l[j / 8].row[j % 8]'(by show j % 8 < 8; exact hm)) (List.getElem?_eq_getElem _)
  have hc := h.cells (g := g) rfl (j / 8 * 8 + j % 8) _ hfl
  rw [show j / 8 * 8 + j % 8 = j by omega] at hc
  rw [show ((⟨g, 0, none⟩ : Addr).add j) = ⟨g, 0 + j, none⟩ by unfold Addr.add; split <;> simp_all] at hc
  refine ⟨?_, ?_⟩
  · rw [hc, get_in l _ hq]
    have : (l[j / 8].row)[j % 8]! = l[j / 8].row[j % 8]'(by show j % 8 < 8; exact hm) := getElem!_pos _ _ _
    rw [this]; rfl
  · rcases h.2 with ⟨h, _⟩ | ⟨g', c, cur, hv, h0, hg, _⟩
    · cases h
    · cases hv; exact blk_free hg _
theorem holds_rdJ {w : World} {g cap : Nat} {l : List Jb} {K : Nat → Prop} (h : HoldsK Jb.row 8 w g 0 l.toArray) (hg : g < w.heap.size) (hK : K g) (hc : l.length ≤ cap) (hm : cap ≤ maxLen) : RdK 8 w K (.slice (some ⟨g, 0, none⟩) l.length cap) (rowsJ l) := by
  refine ⟨some ⟨g, 0, none⟩, cap, by rw [rowsJ_len], by rw [rowsJ_len]; exact hc, hm, fun h0 => ⟨g, 0, rfl, hg, hK, fun i r hi j x hj => ?_⟩⟩
  have hil : i < l.length := by have := (List.getElem?_eq_some_iff.1 hi).1; rwa [rowsJ_len] at this
  rw [rowsJ_get l i hil] at hi
  simp at hi
  subst hi
  have hj8 : j < 8 := (List.getElem?_eq_some_iff.1 hj).1
  have := (h.cell (i := i) (c := j) (by simpa using hil) hj8).1
  rw [get_in l i hil] at this
  rw [this]
  have e : (l[i].row)[j]! = (l[i].row)[j]'hj8 := getElem!_pos _ _ _
  rw [e, ← hj]; exact (List.getElem?_eq_getElem _).symm
theorem sortJ_only {w w' : World} {g : Nat} {d : Array Jb} (h : SWK Jb.row 8 w g 0 d w') : Only g w w' := by
  obtain ⟨n, os, rfl⟩ := h
  unfold Go.Proofs.sortWorldK
  refine ⟨rfl, rfl, rfl, ?_, fun k hk hne => ?_⟩
  · simp [Go.Sort.putRowK, Go.Sort.putRow, Go.Sort.mapBlock, Go.Sort.ahead]
  · rw [Go.Sort.heap_grow_old _ _ (by simpa [Go.Sort.putRowK, Go.Sort.putRow, Go.Sort.mapBlock, Go.Sort.ahead] using hk)]
    simp [Go.Sort.putRowK, Go.Sort.putRow, Go.Sort.mapBlock, Go.Sort.ahead, Array.getElem?_modify]
    exact fun e => absurd e.symm hne
theorem lt_job : ltOf cmpJ = jobB := by funext x y; exact cmpJ_lt x y
theorem swoC : SWO (ltOf cmpJ) := by rw [lt_job]; exact swoJ
set_option maxHeartbeats 1000000 in
theorem jsort_any (base g cap : Nat) (l : List Jb) (w : World) (hn : l.length ≤ 1000000) (h : w.ownsRow base 25 8 (.slice (some ⟨g, 0, none⟩) l.length cap) l.length (rowsJ l).flatten) :
    Calls Try.prog 23 #[.slice (some ⟨g, 0, none⟩) l.length cap, .func (.func 24) #[] #[]] w fun e w' => e = .returned (.tuple #[]) ∧ RdK 8 w' (fun b => base ≤ b) (.slice (some ⟨g, 0, none⟩) l.length cap) (rowsJ (stb jobB l)) ∧ Only g w w' := by
  have hgb := h.lt g rfl
  have hH := row_holdsJ h
  have hcap : l.length ≤ cap ∧ cap ≤ maxLen := by
    rcases h.2 with ⟨e, _⟩ | ⟨_, _, _, e, _, _, q2, q3, _⟩
    · cases e
    · cases e; exact ⟨q2, q3⟩
  have R : RowK Jb.row 8 w g 0 l.toArray := ⟨fun _ => rfl, jrow_one, hH, hgb.2⟩
  have hcon := stb_stable stL_here Try.insJob Try.isAgg25 Try.sizeOf25 R cmpJ 24 #[] swoC (enters_of Try.func24 (by kernel_rfl) rfl) (fun m os dk _ x y => jcmp_any x y _) cap l.length l w (by simp) rfl (by omega) (SWK.start hH)
  rw [lt_job] at hcon
  have HC := Lib.hid hcon
  have HF := Lib.hid (show ∀ w', SL Jb.row 8 w g 0 (stb jobB l) w' → RdK 8 w' (fun b => base ≤ b) (.slice (some ⟨g, 0, none⟩) l.length cap) (rowsJ (stb jobB l)) ∧ Only g w w' from fun w' hS => by
    have h1 := SWK.holds hS hgb.2 hH (by simp [stb_len])
    have := holds_rdJ (K := fun b => base ≤ b) (cap := cap) h1 (SWK.lt hS hgb.2) hgb.1 (by rw [stb_len]; exact hcap.1) hcap.2
    rw [stb_len] at this
    exact ⟨this, sortJ_only hS⟩)
  clear hcon h hH R hcap hgb
  go_enter Try.func23, Try.ntmps23
  go_wp2_with fail
  refine HC.out.mono ?_; rintro e w1 ⟨rfl, hS⟩
  have HQ := Lib.hid (HF.out _ hS)
  clear hS
  go_wp2_with fail
  go_end0
  exact ⟨rfl, HQ.out⟩
theorem own_formJ {w : World} {base m n : Nat} {e : TypeId} {v : Value} {xs : List Value} (h : w.ownsRow base e m v n xs) : (v = .slice none 0 0 ∧ n = 0) ∨ ∃ g c, v = .slice (some ⟨g, 0, none⟩) n c := by
  rcases h.2 with ⟨h1, h2⟩ | ⟨g, cap, cur, h, _⟩
  · refine .inl ⟨h1, ?_⟩
    first | exact h2 | omega
  · exact .inr ⟨g, cap, h⟩
theorem jins_nil (fv : Value) (w : World) : Calls Try.prog 30 #[.slice none 0 0, .int .i64 0, .int .i64 0, fv] w fun e w' => e = .returned (.tuple #[]) ∧ w = w' := by
  go_enter Try.func30, Try.ntmps30
  go_wp2_with fail
  go_loopg [8] 0 (fun g i wr => i = .int .i64 1 ∧ w = wr)
  case atStart => exact ⟨rfl, rfl⟩
  case round =>
    obtain ⟨rfl, rfl⟩ := hrel
    go_wp2_with fail
    go_end0
    exact ⟨rfl, rfl⟩
theorem jstab_nil (fv : Value) (w : World) : Calls Try.prog 27 #[.slice none 0 0, .int .i64 0, fv] w fun e w' => e = .returned (.tuple #[]) ∧ w = w' := by
  have H1 := Lib.hid fun w => jins_nil fv w
  go_enter Try.func27, Try.ntmps27
  go_wp2_with fail
  go_loopg [7, 8] 0 (fun g a b wr => a = .int .i64 0 ∧ b = .int .i64 20 ∧ w = wr)
  case atStart => exact ⟨rfl, rfl, rfl⟩
  case round =>
    obtain ⟨rfl, rfl, rfl⟩ := hrel
    go_wp2_with fail
    refine (H1.out _).mono ?_; rintro e w1 ⟨rfl, rfl⟩
    go_wp2_with fail
    go_loopg [6] 0 (fun g a wr => a = .int .i64 20 ∧ w = wr)
    case atStart => exact ⟨rfl, rfl⟩
    case round =>
      obtain ⟨rfl, rfl⟩ := hrel
      go_wp2_with fail
      go_end0
      exact ⟨rfl, rfl⟩
theorem jsort_nil (fv : Value) (w : World) : Calls Try.prog 23 #[.slice none 0 0, fv] w fun e w' => e = .returned (.tuple #[]) ∧ w = w' := by
  have H1 := Lib.hid fun w => jstab_nil fv w
  go_enter Try.func23, Try.ntmps23
  go_wp2_with fail
  refine (H1.out _).mono ?_; rintro e w1 ⟨rfl, rfl⟩
  go_wp2_with fail
  go_end0
  exact ⟨rfl, rfl⟩
theorem RdK.cellsA {w : World} {K : Nat → Prop} {rs : List (List Value)} {m : Nat} {ad : Addr} {l c : Nat} (h : RdK m w K (.slice (some ad) l c) rs) (h0 : 0 < m) (hm : ∀ r ∈ rs, r.length = m) {B : Nat} {w' : World} (hb : Below w.heap.size w w') : ∀ j u, rs.flatten[j]? = some u → w'.cell? (ad.add j) = some u :=
  (h.below hb).cells h0 hm
set_option maxHeartbeats 1000000 in
theorem jclone_some (ad : Addr) (cap : Nat) (l : List Jb) (K : Nat → Prop) (w : World) (hn : l.length ≤ 1000000) (h : RdK 8 w K (.slice (some ad) l.length cap) (rowsJ l)) :
    Calls Try.prog 22 #[.slice (some ad) l.length cap] w fun e w' => ∃ v, e = .returned v ∧ w'.ownsRow w.heap.size 25 8 v l.length (rowsJ l).flatten ∧ Below w.heap.size w w' := by
  obtain ⟨i0, hi, hz0, hz1, hz2⟩ := info_parts infoJ
  have hB := Below.refl w.heap.size w
  have HCL := Lib.hid (show ∀ j u, (rowsJ l).flatten[j]? = some u → (w.alloc (.cells #[] 25)).cell? (ad.add j) = some u from h.cellsA (B := 0) (by omega) (rowsJ_eight l) (hB.alloc (Nat.le_refl _) (.cells #[] 25)))
  have HO := Lib.hid (show (w.alloc (.cells #[] 25)).ownsRow w.heap.size 25 8 (.slice (some ⟨w.heap.size, 0, none⟩) 0 0) 0 [] from ⟨rfl, .inr ⟨w.heap.size, 0, #[], rfl, Nat.le_refl _, blk_new _ _, Nat.le_refl _, by unfold maxLen; omega, rfl, rfl⟩⟩)
  have HBB := Lib.hid (hB.alloc (Nat.le_refl _) (.cells #[] 25))
  have HLN := Lib.hid (rowsJ_flat l)
  have HON := Lib.hid (rowsJ_one l)
  have e1 : ∀ w, (binOp .eql 26 (.slice (some ad) l.length cap) (.slice none 0 0)).run Try.prog w = .ok (.bool false) w := fun w => by kernel_rfl
  clear h hB
  go_enter Try.func22, Try.ntmps22
  go_wp2_with (at_builtin; refine wpList_append_own _ rfl _ _ 26 rfl w.heap.size 25 i0 (.agg #[.int .i64 0, .int .i64 0, .int .i64 0, .int .i64 0, .int .i64 0, .int .i64 0, .int .i64 0, .int .i64 0]) 8 64 Try.underlying26 hi hz0 hz1 hz2 rfl (by decide) _ _ _ rfl HO.out ad l.length cap (rowsJ l).flatten rfl HLN.out HCL.out HON.out ?c3 ?c4 ?c5 ?_)
  case c3 => unfold maxLen; omega
  case c4 => omega
  case c5 => simp
  intro v' w4 hown hgrow _
  have HB := Lib.hid (grown_below HBB.out hgrow (fun g hg => owns_row HO.out hg) (by simp))
  have HQ := Lib.hid hown
  clear hown hgrow
  go_wp2_with fail
  go_ret
  exact ⟨v', rfl, by simpa using HQ.out, HB.out⟩
theorem jclone_nil (c : Nat) (w : World) : Calls Try.prog 22 #[.slice none 0 c] w fun e w' => e = .returned (.slice none 0 0) ∧ w = w' := by
  have e1 : ∀ w, (binOp .eql 26 (.slice none 0 c) (.slice none 0 0)).run Try.prog w = .ok (.bool true) w := fun w => by kernel_rfl
  go_enter Try.func22, Try.ntmps22
  go_wp2_with fail
  go_ret
  exact ⟨rfl, rfl⟩
set_option maxHeartbeats 1000000 in
theorem jjobs_any (v : Value) (l : List Jb) (K : Nat → Prop) (w : World) (hn : l.length ≤ 1000000) (h : RdK 8 w K v (rowsJ l)) :
    Calls Try.prog 12 #[v] w (JobsR (stb jobB l) w) := by
  obtain ⟨A, c, rfl, hc, hm⟩ := h.form
  have hfm : (A = none ∧ l = []) ∨ (∃ ad, A = some ad) := by
    cases A with
    | some ad => exact .inr ⟨ad, rfl⟩
    | none =>
      refine .inl ⟨rfl, ?_⟩
      rcases Nat.eq_zero_or_pos l.length with h0 | h0
      · exact List.eq_nil_of_length_eq_zero h0
      · obtain ⟨b, o, he, _⟩ := h.at_ (k := 0) (by rw [rowsJ_len]; exact h0)
        cases he
  rw [rowsJ_len] at h ⊢
  unfold JobsR
  rcases hfm with ⟨rfl, rfl⟩ | ⟨ad, rfl⟩
  · have H1 := Lib.hid fun w => jclone_nil c w
    have H2 := Lib.hid fun fv w => jsort_nil fv w
    clear h hc hm hn
    go_enter Try.func12, Try.ntmps12
    go_wp2_with fail
    refine (H1.out _).mono ?_; rintro e w1 ⟨rfl, rfl⟩
    go_wp2_with fail
    refine (H2.out _ _).mono ?_; rintro e w1 ⟨rfl, rfl⟩
    go_wp2_with fail
    go_ret
    exact ⟨_, rfl, RdK.nil _ _ _, Below.refl _ _⟩
  · have H1 := Lib.hid (jclone_some ad c l K w hn h)
    have HN := Lib.hid hn
    clear h hc hm hn
    go_enter Try.func12, Try.ntmps12
    go_wp2_with fail
    refine H1.out.mono ?_; rintro e w1 ⟨v1, rfl, hown, b1⟩
    rcases own_formJ hown with ⟨rfl, h0⟩ | ⟨g, c1, rfl⟩
    · obtain rfl := List.eq_nil_of_length_eq_zero h0
      have H2 := Lib.hid fun fv w => jsort_nil fv w
      have HB := Lib.hid b1
      clear b1 hown h0
      go_wp2_with fail
      refine (H2.out _ _).mono ?_; rintro e w2 ⟨rfl, rfl⟩
      go_wp2_with fail
      go_ret
      exact ⟨_, rfl, RdK.nil _ _ _, HB.out⟩
    · have H2 := Lib.hid (jsort_any w.heap.size g c1 l w1 HN.out hown)
      have HB := Lib.hid b1
      have HG := Lib.hid (hown.lt g rfl)
      clear b1 hown
      go_wp2_with fail
      refine H2.out.mono ?_; rintro e w2 ⟨rfl, hr, ho⟩
      have HR := Lib.hid hr
      have HB2 := Lib.hid (show Below w.heap.size w w2 from HB.out.trans (ho.below HG.out.1 HB.out.size))
      clear hr ho
      go_wp2_with fail
      go_ret
      exact ⟨_, rfl, HR.out, HB2.out⟩
end Go.Proofs.Ytipmlbbbjafpiaa
