/- What the document's own Find, without, Same on rows of beats come to; the law's others. Conditions: rows of at most 100,000 beats. -/
import Derived.Test.YtdlkpkigpnlanaaProg
import Derived.Test.YtdlkpkigpnlanaaBeaPlain
import Derived.Test.YtdlkpkigpnlanaaRdA
import Derived.Test.YtdlkpkigpnlanaaSame
import Derived.Test.YtdlkpkigpnlanaaHolds
import Derived.Deep.LoopGhost
import Derived.Laws.StructEq
namespace Go.Proofs.Ytdlkpkigpnlanaa
open Go.ChangeShapes Go.WideShapes Go.ChangeAt Go.RowKit
set_option linter.unusedVariables false
set_option maxRecDepth 100000
set_option linter.unusedSimpArgs false
set_option maxHeartbeats 2000000

/-- A row of beats in blocks of K. -/
abbrev RdB (w : World) (K : Nat → Prop) (v : Value) (l : List Bt) : Prop := RdK 3 w K v (rowsB l)
theorem infoBt : (Try.prog.info? 51).map (fun i => (i.zero, i.size, i.bytes)) = some (some (.agg #[.int .i64 0, .int .i64 0, .int .i64 0]), 3, 24) := by kernel_rfl
theorem rdB_form {w : World} {K : Nat → Prop} {v : Value} {l : List Bt} (h : RdB w K v l) : ∃ A c, v = .slice A l.length c ∧ l.length ≤ c ∧ c ≤ maxLen := by
  have := h.form
  rwa [rowsB_len] at this
theorem rdB_at {w : World} {K : Nat → Prop} {l : List Bt} {A : Option Addr} {n c k : Nat} (h : RdB w K (.slice A n c) l) (hk : k < l.length) :
    ∃ b o, A = some ⟨b, o, none⟩ ∧ b < w.heap.size ∧ w.cell? ⟨b, o + k * 3, none⟩ = some (.int .i64 l[k].n) ∧ w.cell? ⟨b, o + k * 3 + 1, none⟩ = some (.int .i64 l[k].i) ∧ w.cell? ⟨b, o + k * 3 + 2, none⟩ = some (.int .i64 l[k].u) := by
  obtain ⟨b, o, h1, h2, _, h3⟩ := h.at_ (k := k) (by rw [rowsB_len]; exact hk)
  exact ⟨b, o, h1, h2, h3 k _ (rowsB_get l k hk) 0 _ rfl, h3 k _ (rowsB_get l k hk) 1 _ rfl, h3 k _ (rowsB_get l k hk) 2 _ rfl⟩
theorem rdB_own {w : World} {base n : Nat} {e : TypeId} {v : Value} {l : List Bt} (h : w.ownsRow base e 3 v n (rowsB l).flatten) (hn : l.length = n) : RdB w (fun b => base ≤ b) v l := RdK.own h (by rw [rowsB_len]; exact hn) (rowsB_three l)
theorem RdK.all {m : Nat} {w : World} {K : Nat → Prop} {v : Value} {rs : List (List Value)} (h : RdK m w K v rs) : RdK m w (fun _ => True) v rs := h.imp fun _ _ _ => trivial
def findZB (l : List Bt) (id : Int) : Int := match findB l id with
  | some k => (k : Int)
  | none => -1
theorem bfind_any (v : Value) (l : List Bt) (id : Int) (K : Nat → Prop) (w : World) (hn : l.length ≤ 100000) (h : RdB w K v l) :
    Calls Try.prog 16 #[v, .int .i64 id] w fun e w' => e = .returned (.int .i64 (findZB l id)) ∧ w = w' := by
  obtain ⟨A, c, rfl, hc, _⟩ := rdB_form h
  have H := Lib.hid fun k (hk : k < l.length) => rdB_at h hk
  clear h hc
  go_enter Try.func16, Try.ntmps16
  go_wp2_with fail
  go_loopw [5] (fun i wr => ∃ k : Nat, k ≤ l.length ∧ i = .int .i64 k ∧ findB l id = (findB (l.drop k) id).map (· + k) ∧ wr = w) (fun i _ => l.length - (intOf i).toNat)
  case atStart => exact ⟨0, by omega, rfl, by simp, rfl⟩
  case round =>
    obtain ⟨k, hk, rfl, hI, rfl⟩ := hrel
    by_cases hlt : k < l.length
    · obtain ⟨b, o, rfl, hbl, g0, g1, g2⟩ := H.out k hlt
      have dk : decide (k < l.length) = true := decide_eq_true hlt
      have HS := Lib.hid (findB_step l id k hlt hI)
      clear hI
      by_cases he : l[k].n = id
      · have HR := Lib.hid (show Ending.returned (.int .i64 (k : Int)) = .returned (.int .i64 (findZB l id)) by unfold findZB; rw [HS.out.1 he])
        have de : (l[k].n == id) = true := by simp [he]
        generalize l[k].n = x at *
        clear he HS
        go_wp2_with fail
        go_ret
        exact ⟨HR.out, rfl⟩
      · have de : (l[k].n == id) = false := by simpa using he
        have HI := Lib.hid (HS.out.2 he)
        generalize l[k].n = x at *
        clear he HS
        go_wp2_with fail
        go_roundw
        case rel => exact ⟨k + 1, by omega, by go_num, HI.out, trivial⟩
        case measure => simp [intOf]; omega
    · have dk : decide (k < l.length) = false := decide_eq_false hlt
      rw [List.drop_of_length_le (by omega)] at hI
      have HR := Lib.hid (show Ending.returned (.int .i64 (-1)) = .returned (.int .i64 (findZB l id)) by unfold findZB; rw [hI]; rfl)
      clear hI
      go_wp2_with fail
      go_ret
      exact ⟨HR.out, rfl⟩
theorem bwob_any (v : Value) (l : List Bt) (id : Int) (K : Nat → Prop) (w : World) (hn : l.length ≤ 100000) (h : RdB w K v l) :
    Calls Try.prog 21 #[v, .int .i64 id] w fun e w' => ∃ u, e = .returned u ∧ RdB w' (fun b => w.heap.size ≤ b) u (wobB l id) ∧ Below w.heap.size w w' := by
  obtain ⟨A, c, rfl, hc, _⟩ := rdB_form h
  have H := Lib.hid fun k (hk : k < l.length) => rdB_at h hk
  clear h hc
  go_enter Try.func21, Try.ntmps21
  go_wp2_with fail
  go_loopw [5, 6] (fun v i wr => ∃ k : Nat, k ≤ l.length ∧ i = .int .i64 k ∧ wr.ownsRow w.heap.size 51 3 v (wobB (l.take k) id).length (rowsB (wobB (l.take k) id)).flatten ∧ Below w.heap.size w wr) (fun _ i _ => l.length - (intOf i).toNat)
  case atStart => exact ⟨0, by omega, rfl, World.ownsRow_nil _ _ _ _, Below.refl _ _⟩
  case round =>
    obtain ⟨k, hk, rfl, hown, hb⟩ := hrel
    have HO := Lib.hid hown
    have HB := Lib.hid hb
    have hw3 : w.heap.size ≤ wr.heap.size := hb.size
    have hdl := wobB_len (l.take k) id
    rw [List.length_take] at hdl
    clear hown hb
    by_cases hlt : k < l.length
    · obtain ⟨b, o, rfl, hbl, x0, x1, x2⟩ := H.out k hlt
      have g0 : wr.cell? ⟨b, o + k * 3, none⟩ = some (.int .i64 l[k].n) := (HB.out.cell (p := ⟨b, o + k * 3, none⟩) hbl).trans x0
      have g1 : wr.cell? ⟨b, o + k * 3 + 1, none⟩ = some (.int .i64 l[k].i) := (HB.out.cell (p := ⟨b, o + k * 3 + 1, none⟩) hbl).trans x1
      have g2 : wr.cell? ⟨b, o + k * 3 + 2, none⟩ = some (.int .i64 l[k].u) := (HB.out.cell (p := ⟨b, o + k * 3 + 2, none⟩) hbl).trans x2
      have dk : decide (k < l.length) = true := decide_eq_true hlt
      have ht := wobB_take l id k hlt
      by_cases he : l[k].n = id
      · have de : (l[k].n != id) = false := by simp [he]
        rw [if_pos he, List.append_nil] at ht
        have HT := Lib.hid ht
        clear ht he x0 x1 x2
        generalize l[k] = T at *
        go_wp2_with fail
        go_roundw
        case rel => exact ⟨k + 1, by omega, by go_num, by rw [HT.out]; exact HO.out, HB.out⟩
        case measure => simp [intOf]; omega
      · have de : (l[k].n != id) = true := by simpa using he
        rw [if_neg he] at ht
        have HT := Lib.hid ht
        clear ht he x0 x1 x2
        generalize l[k] = T at *
        go_wp2_with (at_builtin; refine wpList_append_rdK rfl _ _ 28 rfl w.heap.size 51 (.agg #[.int .i64 0, .int .i64 0, .int .i64 0]) 3 24 infoBt rfl (by decide) (by decide) Try.underlying28 _ _ _ rfl (HO.out.alloc _) (fun _ => True) _ (rowsB [T]) rfl ?c2 (rowsB_three _) (rowsB_one _) ?c3 ?c4 ?_)
        case c2 => exact (rdK_lit1 wr T.row #[.int .i64 T.n, .int .i64 T.i, .int .i64 T.u] 51 rfl).imp fun _ _ _ => trivial
        case c3 => rw [rowsB_len]; simp; omega
        case c4 => simp; omega
        intro v' w4 hown4 hgrow
        have HB4 := Lib.hid (grown_below (HB.out.alloc (HB.out.size) _) hgrow (fun g hg => owns_row HO.out hg) (by simp; omega))
        have hown4' : w4.ownsRow w.heap.size 51 3 v' (wobB (l.take (k + 1)) id).length (rowsB (wobB (l.take (k + 1)) id)).flatten := by
          rw [HT.out, List.length_append, rowsB_append]
          exact hown4
        have HO4 := Lib.hid hown4'
        clear hown4 hown4' hgrow
        go_wp2_with fail
        go_roundw
        case rel => exact ⟨k + 1, by omega, by go_num, HO4.out, HB4.out⟩
        case measure => simp [intOf]; omega
    · obtain rfl : k = l.length := by omega
      have dk : decide (l.length < l.length) = false := decide_eq_false hlt
      rw [List.take_length] at HO
      have HR := Lib.hid (rdB_own HO.out rfl)
      obtain ⟨A2, c2, rfl, _, _⟩ := rdB_form HR.out
      go_wp2_with fail
      go_ret
      exact ⟨_, rfl, HR.out, HB.out⟩
theorem bothers_any (v : Value) (l : List Bt) (id : Int) (K : Nat → Prop) (w : World) (hn : l.length ≤ 100000) (h : RdB w K v l) :
    Calls Try.prog 18 #[v, .int .i64 id] w fun e w' => ∃ u, e = .returned u ∧ RdB w' (fun b => w.heap.size ≤ b) u (wobB l id) ∧ Below w.heap.size w w' := by
  obtain ⟨A, c, rfl, hc, _⟩ := rdB_form h
  have H := Lib.hid fun k (hk : k < l.length) => rdB_at h hk
  clear h hc
  go_enter Try.func18, Try.ntmps18
  go_wp2_with fail
  go_loopw [5, 6] (fun v i wr => ∃ k : Nat, k ≤ l.length ∧ i = .int .i64 k ∧ wr.ownsRow w.heap.size 51 3 v (wobB (l.take k) id).length (rowsB (wobB (l.take k) id)).flatten ∧ Below w.heap.size w wr) (fun _ i _ => l.length - (intOf i).toNat)
  case atStart => exact ⟨0, by omega, rfl, World.ownsRow_nil _ _ _ _, Below.refl _ _⟩
  case round =>
    obtain ⟨k, hk, rfl, hown, hb⟩ := hrel
    have HO := Lib.hid hown
    have HB := Lib.hid hb
    have hw3 : w.heap.size ≤ wr.heap.size := hb.size
    have hdl := wobB_len (l.take k) id
    rw [List.length_take] at hdl
    clear hown hb
    by_cases hlt : k < l.length
    · obtain ⟨b, o, rfl, hbl, x0, x1, x2⟩ := H.out k hlt
      have g0 : wr.cell? ⟨b, o + k * 3, none⟩ = some (.int .i64 l[k].n) := (HB.out.cell (p := ⟨b, o + k * 3, none⟩) hbl).trans x0
      have g1 : wr.cell? ⟨b, o + k * 3 + 1, none⟩ = some (.int .i64 l[k].i) := (HB.out.cell (p := ⟨b, o + k * 3 + 1, none⟩) hbl).trans x1
      have g2 : wr.cell? ⟨b, o + k * 3 + 2, none⟩ = some (.int .i64 l[k].u) := (HB.out.cell (p := ⟨b, o + k * 3 + 2, none⟩) hbl).trans x2
      have dk : decide (k < l.length) = true := decide_eq_true hlt
      have ht := wobB_take l id k hlt
      by_cases he : l[k].n = id
      · have de : (l[k].n != id) = false := by simp [he]
        rw [if_pos he, List.append_nil] at ht
        have HT := Lib.hid ht
        clear ht he x0 x1 x2
        generalize l[k] = T at *
        go_wp2_with fail
        go_roundw
        case rel => exact ⟨k + 1, by omega, by go_num, by rw [HT.out]; exact HO.out, HB.out⟩
        case measure => simp [intOf]; omega
      · have de : (l[k].n != id) = true := by simpa using he
        rw [if_neg he] at ht
        have HT := Lib.hid ht
        clear ht he x0 x1 x2
        generalize l[k] = T at *
        go_wp2_with (at_builtin; refine wpList_append_rdK rfl _ _ 28 rfl w.heap.size 51 (.agg #[.int .i64 0, .int .i64 0, .int .i64 0]) 3 24 infoBt rfl (by decide) (by decide) Try.underlying28 _ _ _ rfl (HO.out.alloc _) (fun _ => True) _ (rowsB [T]) rfl ?c2 (rowsB_three _) (rowsB_one _) ?c3 ?c4 ?_)
        case c2 => exact (rdK_lit1 wr T.row #[.int .i64 T.n, .int .i64 T.i, .int .i64 T.u] 51 rfl).imp fun _ _ _ => trivial
        case c3 => rw [rowsB_len]; simp; omega
        case c4 => simp; omega
        intro v' w4 hown4 hgrow
        have HB4 := Lib.hid (grown_below (HB.out.alloc (HB.out.size) _) hgrow (fun g hg => owns_row HO.out hg) (by simp; omega))
        have hown4' : w4.ownsRow w.heap.size 51 3 v' (wobB (l.take (k + 1)) id).length (rowsB (wobB (l.take (k + 1)) id)).flatten := by
          rw [HT.out, List.length_append, rowsB_append]
          exact hown4
        have HO4 := Lib.hid hown4'
        clear hown4 hown4' hgrow
        go_wp2_with fail
        go_roundw
        case rel => exact ⟨k + 1, by omega, by go_num, HO4.out, HB4.out⟩
        case measure => simp [intOf]; omega
    · obtain rfl : k = l.length := by omega
      have dk : decide (l.length < l.length) = false := decide_eq_false hlt
      rw [List.take_length] at HO
      have HR := Lib.hid (rdB_own HO.out rfl)
      obtain ⟨A2, c2, rfl, _, _⟩ := rdB_form HR.out
      go_wp2_with fail
      go_ret
      exact ⟨_, rfl, HR.out, HB.out⟩
theorem eqB_run (w : World) (x : Bt) :
    (Op.equalIn 10000 51 (.agg #[.int .i64 x.n, .int .i64 x.i, .int .i64 x.u]) (.agg #[.int .i64 x.n, .int .i64 x.i, .int .i64 x.u])).run Try.prog w = .ok true w := by
  have hu : Try.prog.underlying 3 = some (.int .i64) := Try.underlying3
  have hf : Try.prog.underlying 51 = some (.struct (Try.prog.fieldsOf 51)) := by kernel_rfl
  obtain ⟨i, hi, hz0, hz1, hz2⟩ := info_parts infoI64
  rw [run_equalIn_agg w 9999 51 _ _ hf (by kernel_rfl)]
  simp [Op.eqFields, Program.fieldsOf, Try.underlying51, part, go_sem, hi, hz1, hu]
theorem bsame_any (v u : Value) (l : List Bt) (K1 K2 : Nat → Prop) (w : World) (hn : l.length ≤ 100000) (h1 : RdB w K1 v l) (h2 : RdB w K2 u l) :
    Calls Try.prog 13 #[v, u] w fun e w' => e = .returned (.bool true) ∧ Below w.heap.size w w' := by
  obtain ⟨A, c, rfl, _, _⟩ := rdB_form h1
  obtain ⟨A', c', rfl, _, _⟩ := rdB_form h2
  have H1 := Lib.hid fun k (hk : k < l.length) => rdB_at h1 hk
  have H2 := Lib.hid fun k (hk : k < l.length) => rdB_at h2 hk
  clear h1 h2
  have e0 : ((l.length : Int) != (l.length : Int)) = false := by simp
  go_enter Try.func13, Try.ntmps13
  go_wp2_with fail
  go_loopw [5] (fun i wr => ∃ k : Nat, k ≤ l.length ∧ i = .int .i64 k ∧ Below w.heap.size w wr) (fun i _ => l.length - (intOf i).toNat)
  case atStart => exact ⟨0, by omega, rfl, Below.refl _ _⟩
  case round =>
    obtain ⟨k, hk, rfl, hb⟩ := hrel
    have HB := Lib.hid hb
    by_cases hlt : k < l.length
    · have dk : decide (k < l.length) = true := decide_eq_true hlt
      obtain ⟨b, o, rfl, hbl, x0, x1, x2⟩ := H1.out k hlt
      obtain ⟨b', o', rfl, hbl', y0, y1, y2⟩ := H2.out k hlt
      have c0 := (hb.cell (p := ⟨b, o + k * 3, none⟩) hbl).trans x0
      have c1 := (hb.cell (p := ⟨b, o + k * 3 + 1, none⟩) hbl).trans x1
      have c2 := (hb.cell (p := ⟨b, o + k * 3 + 2, none⟩) hbl).trans x2
      have d0 := (hb.cell (p := ⟨b', o' + k * 3, none⟩) hbl').trans y0
      have d1 := (hb.cell (p := ⟨b', o' + k * 3 + 1, none⟩) hbl').trans y1
      have d2 := (hb.cell (p := ⟨b', o' + k * 3 + 2, none⟩) hbl').trans y2
      have E1 := fun w => eqB_run w l[k]
      clear x0 x1 x2 y0 y1 y2 hb
      generalize l[k] = x at *
      go_wp2_with fail
      go_quiet (fail)
      have HB2 := Lib.hid (show Below w.heap.size w (wr.drewN nq) from ⟨HB.out.os, HB.out.tape, HB.out.output, HB.out.size, HB.out.block⟩)
      generalize wr.drewN nq = w2 at *
      go_wp2_with fail
      go_roundw
      case rel => exact ⟨k + 1, by omega, by go_num, HB2.out⟩
      case measure => simp [intOf]; omega
    · obtain rfl : k = l.length := by omega
      have dk : decide (l.length < l.length) = false := decide_eq_false hlt
      clear hb
      go_wp2_with fail
      go_ret
      exact ⟨rfl, HB.out⟩
end Go.Proofs.Ytdlkpkigpnlanaa
