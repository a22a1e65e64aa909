/- Rows of events in memory; the document's comparison of two that are equal. Conditions: rows of up to 100,000. -/
import Derived.Test.YthpijibcfkcenaaDoorEvtT
import Derived.Test.YthpijibcfkcenaaDoorRdA
namespace Go.Proofs.YthpijibcfkcenaaDoor
open Go.ChangeShapes Go.WideShapes Go.ChangeAt Go.RowKit
set_option linter.unusedVariables false
set_option maxRecDepth 100000
set_option linter.unusedSimpArgs false
set_option maxHeartbeats 2000000

def rowsV (l : List Evt) : List (List Value) := l.map Evt.row
theorem rowsV_len (l : List Evt) : (rowsV l).length = l.length := by simp [rowsV]
theorem rowsV_get (l : List Evt) (k : Nat) (h : k < l.length) : (rowsV l)[k]? = some l[k].row := by simp [rowsV, h]
theorem rowsV_eight (l : List Evt) : ∀ r ∈ rowsV l, r.length = 8 := by
  intro r hr
  unfold rowsV at hr
  obtain ⟨v, _, rfl⟩ := List.mem_map.1 hr
  rfl
theorem rowsV_one (l : List Evt) : ∀ u ∈ (rowsV l).flatten, u.oneCell' = true := by
  intro u hu
  obtain ⟨r, hr, hu⟩ := List.mem_flatten.1 hu
  unfold rowsV at hr
  obtain ⟨v, _, rfl⟩ := List.mem_map.1 hr
  simp [Evt.row] at hu
  rcases hu with rfl | rfl | rfl | rfl | rfl | rfl | rfl | rfl <;> rfl
theorem rowsV_append (a b : List Evt) : (rowsV (a ++ b)).flatten = (rowsV a).flatten ++ (rowsV b).flatten := by unfold rowsV; rw [List.map_append, List.flatten_append]
/-- A row of events in blocks of K. -/
abbrev RdV (w : World) (K : Nat → Prop) (v : Value) (l : List Evt) : Prop := RdK 8 w K v (rowsV l)
def zeroEv : Value := .agg #[.int .i64 0, .int .i64 0, .int .i64 0, .int .i64 0, .int .i64 0, .int .i64 0, .int .i64 0, .int .i64 0]
theorem infoEv : (Tryd.prog.info? 25).map (fun i => (i.zero, i.size, i.bytes)) = some (some zeroEv, 8, 64) := by kernel_rfl
theorem rdV_form {w : World} {K : Nat → Prop} {v : Value} {l : List Evt} (h : RdV w K v l) : ∃ A c, v = .slice A l.length c ∧ l.length ≤ c ∧ c ≤ maxLen := by
  have := h.form
  rwa [rowsV_len] at this
/-- An event's cells from an address on. -/
structure EvAt (w : World) (b o : Nat) (v : Evt) : Prop where
  c0 : w.cell? ⟨b, o, none⟩ = some (.int .i64 v.k)
  c1 : w.cell? ⟨b, o + 1, none⟩ = some (.int .i64 v.n)
  c2 : w.cell? ⟨b, o + 2, none⟩ = some (.int .i64 v.j)
  c3 : w.cell? ⟨b, o + 3, none⟩ = some (.int .i64 v.i)
  c4 : w.cell? ⟨b, o + 4, none⟩ = some (.int .i64 v.p)
  c5 : w.cell? ⟨b, o + 5, none⟩ = some (.int .i64 v.r.a)
  c6 : w.cell? ⟨b, o + 6, none⟩ = some (.int .i64 v.r.b)
  c7 : w.cell? ⟨b, o + 7, none⟩ = some (.int .i64 v.r.c)
theorem EvAt.below {w w' : World} {b o : Nat} {v : Evt} {B : Nat} (h : EvAt w b o v) (hb : Below B w w') (hl : b < B) : EvAt w' b o v :=
  ⟨(hb.cell (p := ⟨b, _, none⟩) hl).trans h.c0, (hb.cell (p := ⟨b, _, none⟩) hl).trans h.c1, (hb.cell (p := ⟨b, _, none⟩) hl).trans h.c2, (hb.cell (p := ⟨b, _, none⟩) hl).trans h.c3, (hb.cell (p := ⟨b, _, none⟩) hl).trans h.c4, (hb.cell (p := ⟨b, _, none⟩) hl).trans h.c5, (hb.cell (p := ⟨b, _, none⟩) hl).trans h.c6, (hb.cell (p := ⟨b, _, none⟩) hl).trans h.c7⟩
theorem rdV_at {w : World} {K : Nat → Prop} {l : List Evt} {A : Option Addr} {n c k : Nat} (h : RdV w K (.slice A n c) l) (hk : k < l.length) :
    ∃ b o, A = some ⟨b, o, none⟩ ∧ b < w.heap.size ∧ EvAt w b (o + k * 8) l[k] := by
  obtain ⟨b, o, h1, h2, _, h3⟩ := h.at_ (k := k) (by rw [rowsV_len]; exact hk)
  have h4 := h3 k _ (rowsV_get l k hk)
  exact ⟨b, o, h1, h2, h4 0 _ rfl, h4 1 _ rfl, h4 2 _ rfl, h4 3 _ rfl, h4 4 _ rfl, h4 5 _ rfl, h4 6 _ rfl, h4 7 _ rfl⟩
theorem rdV_own {w : World} {base n : Nat} {e : TypeId} {v : Value} {l : List Evt} (h : w.ownsRow base e 8 v n (rowsV l).flatten) (hn : l.length = n) : RdV w (fun b => base ≤ b) v l := RdK.own h (by rw [rowsV_len]; exact hn) (rowsV_eight l)
theorem esame_any (v u : Value) (l : List Evt) (K1 K2 : Nat → Prop) (w : World) (hn : l.length ≤ 100000) (h1 : RdV w K1 v l) (h2 : RdV w K2 u l) :
    Calls Tryd.prog 17 #[v, u] w fun e w' => e = .returned (.bool true) ∧ Below w.heap.size w w' := by
  obtain ⟨A, c, rfl, _, _⟩ := rdV_form h1
  obtain ⟨A', c', rfl, _, _⟩ := rdV_form h2
  have H1 := Lib.hid fun k (hk : k < l.length) => rdV_at h1 hk
  have H2 := Lib.hid fun k (hk : k < l.length) => rdV_at h2 hk
  clear h1 h2
  obtain ⟨it, hit, hz0, hz1, hz2⟩ := info_parts infoEv
  have e0 : ((l.length : Int) != (l.length : Int)) = false := by simp
  go_enter Tryd.func17, Tryd.ntmps17
  go_wp2_with fail
  go_loopw [5] (fun i wr => ∃ k : Nat, k ≤ l.length ∧ i = .int .i64 k ∧ Below w.heap.size w wr) (fun i _ => l.length - (intOf i).toNat)
  case atStart => exact ⟨0, by omega, rfl, Below.refl _ _⟩
  case round =>
    obtain ⟨k, hk, rfl, hb⟩ := hrel
    have HB := Lib.hid hb
    by_cases hlt : k < l.length
    · have dk : decide (k < l.length) = true := decide_eq_true hlt
      obtain ⟨b, o, rfl, hbl, x0⟩ := H1.out k hlt
      obtain ⟨b', o', rfl, hbl', y0⟩ := H2.out k hlt
      obtain ⟨c0, c1, c2, c3, c4, c5, c6, c7⟩ := x0.below hb hbl
      obtain ⟨d0, d1, d2, d3, d4, d5, d6, d7⟩ := y0.below hb hbl'
      have E1 := fun w => neE_run w l[k] l[k]
      have E2 := fun w => neE_guard w l[k] l[k]
      rw [show eqE l[k] l[k] = true from (eqE_iff _ _).2 rfl] at E1
      unfold Evt.val at E1 E2
      clear x0 y0 hb
      generalize l[k] = x at *
      go_wp2_with fail
      go_quiet (fail)
      have HB2 := Lib.hid (show Below w.heap.size w (wr.drewN nq) from ⟨HB.out.os, HB.out.tape, HB.out.output, HB.out.size, HB.out.block⟩)
      generalize wr.drewN nq = w2 at *
      go_wp2_with fail
      go_roundw
      case rel => exact ⟨k + 1, by omega, by go_num, HB2.out⟩
      case measure => simp [intOf]; omega
    · obtain rfl : k = l.length := by omega
      have dk : decide (l.length < l.length) = false := decide_eq_false hlt
      clear hb
      go_wp2_with fail
      go_ret
      exact ⟨rfl, HB.out⟩
end Go.Proofs.YthpijibcfkcenaaDoor
