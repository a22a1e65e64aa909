/- What the document's own Seen of a table of beats comes to. Conditions: tables of at most 100,000 beats. -/
import Derived.Test.YtdlkpkigpnlanaaBeaS
namespace Go.Proofs.Ytdlkpkigpnlanaa
open Go.ChangeShapes Go.WideShapes Go.ChangeAt Go.RowKit
set_option linter.unusedVariables false
set_option maxRecDepth 100000
set_option linter.unusedSimpArgs false
set_option maxHeartbeats 4000000

/-- The three blocks of Seen: the table, what it tells, the beat. -/
structure TX (wL : World) (bx rs : Array Value) (x : Bt) (w : World) : Prop where
  tr : TR wL bx rs w
  btx : w.heap[wL.heap.size + 2]? = some (.cells #[.int .i64 x.n, .int .i64 x.i, .int .i64 x.u] 51 (0, 0))
theorem tx_start (wL : World) (bx rs : Array Value) (x : Bt) : TX wL bx rs x (((wL.alloc (.cells bx 30)).alloc (.cells rs 30)).alloc (.cells #[.int .i64 x.n, .int .i64 x.i, .int .i64 x.u] 51)) := by
  have e2 : ((wL.alloc (.cells bx 30)).alloc (.cells rs 30)).heap.size = wL.heap.size + 2 := by simp
  refine ⟨(tr_start wL bx rs).below ((Below.refl _ _).alloc (Nat.le_refl _) _), ?_⟩
  have := blk_new ((wL.alloc (.cells bx 30)).alloc (.cells rs 30)) (.cells #[.int .i64 x.n, .int .i64 x.i, .int .i64 x.u] 51)
  rwa [e2] at this
section
variable {wL w w' : World} {bx rs : Array Value} {x : Bt} {s t : Int} {v u : Value}
theorem TX.below (h : TX wL bx rs x w) (hb : Below w.heap.size w w') : TX wL bx rs x w' := ⟨h.tr.below hb, blk_below hb h.btx (lt_of_block h.btx)⟩
theorem TX.draws (h : TX wL bx rs x w) : TX wL bx rs x w.drew := h.below ⟨rfl, rfl, rfl, Nat.le_refl _, fun _ _ => rfl⟩
theorem TX.beat (h : TX wL bx rs x w) : w.cell? ⟨wL.heap.size + 2, 0, none⟩ = some (.int .i64 x.n) ∧ w.cell? ⟨wL.heap.size + 2, 1, none⟩ = some (.int .i64 x.i) ∧ w.cell? ⟨wL.heap.size + 2, 2, none⟩ = some (.int .i64 x.u) ∧ w.frozen? ⟨wL.heap.size + 2, 2, none⟩ = false :=
  ⟨by rw [blk_cell h.btx]; rfl, by rw [blk_cell h.btx]; rfl, by rw [blk_cell h.btx]; rfl, blk_free h.btx 2⟩
theorem TX.until (y : Int) (h : TX wL bx rs x w) : TX wL bx rs ⟨x.n, x.i, y⟩ (w.setCell ⟨wL.heap.size + 2, 2, none⟩ (.int .i64 y)) :=
  ⟨⟨blk_far (p := ⟨wL.heap.size + 2, 2, none⟩) _ h.tr.box (by simp), blk_far (p := ⟨wL.heap.size + 2, 2, none⟩) _ h.tr.res (by simp), h.tr.bel.trans (((Only.refl (wL.heap.size + 2) w).setCell 2 (.int .i64 y)).below (by omega) h.tr.bel.size)⟩, blk_set h.btx 2 _⟩
theorem TX.size (h : TX wL bx rs x w) : wL.heap.size + 3 ≤ w.heap.size := lt_of_block h.btx
end
/-- Region 11: what holds ahead of its store, and behind it. -/
def C11 (wL : World) (bx rs : Array Value) (x : Bt) (mx : Int) : Nat → World → Prop
  | 0, w => TX wL bx rs x w
  | _ + 1, w => TX wL bx rs ⟨x.n, x.i, mx⟩ w
theorem c11_tr {wL w : World} {bx rs : Array Value} {x : Bt} {mx : Int} : ∀ {p : Nat}, C11 wL bx rs x mx p w → TR wL bx rs w
  | 0, h => TX.tr h
  | _ + 1, h => TX.tr h
theorem c11_x {wL w : World} {bx rs : Array Value} {x : Bt} {mx : Int} : ∀ {p : Nat}, p ≤ 0 → C11 wL bx rs x mx p w → TX wL bx rs x w
  | 0, _, h => h
  | _ + 1, hp, _ => by omega
theorem sb_none {s : Int} {l : List Bt} {n i now : Int} (hs : s ≠ 0) (hm : mayB n i now = true) (hb : beatB l n = none) : seenB s l n i now = (putB l ⟨n, i, laterV now s⟩, 0) := by
  unfold seenB; rw [if_neg hs, if_neg (by rw [hm]; simp), hb]
theorem sb_some {s : Int} {l : List Bt} {n i now : Int} {x : Bt} (hs : s ≠ 0) (hm : mayB n i now = true) (hb : beatB l n = some x) :
    (i < x.i → seenB s l n i now = (l, 11)) ∧ (¬ i < x.i → x.i = i → seenB s l n i now = (putB l ⟨n, i, max (laterV now s) x.u⟩, 0)) ∧ (¬ i < x.i → ¬ x.i = i → seenB s l n i now = (putB l ⟨n, i, laterV now s⟩, 0)) := by
  unfold seenB
  rw [if_neg hs, if_neg (by rw [hm]; simp), hb]
  refine ⟨fun h => by simp only [if_pos h], fun h k => by simp only [if_neg h, if_pos k], fun h k => by simp only [if_neg h, if_neg k]⟩
theorem insB_eq (l : List Bt) (x : Bt) (k : Nat) (h : aheadB l x.n = k) : insB l x = l.take k ++ x :: l.drop k := by unfold insB; rw [h]
theorem rdB_take {w : World} {K : Nat → Prop} {l : List Bt} {A : Option Addr} {n c : Nat} (k : Nat) (h : RdB w K (.slice A n c) l) (hk : k ≤ l.length) : RdB w K (.slice A k c) (l.take k) := by
  have := RdK.take k h (by rw [rowsB_len]; exact hk)
  have e : (rowsB l).take k = rowsB (l.take k) := by unfold rowsB; rw [List.map_take]
  rw [e] at this; exact this
theorem bseen_zero (s : Int) (v : Value) (l : List Bt) (n i now : Int) (K : Nat → Prop) (w : World) (hn : l.length ≤ 100000) (h : RdB w K v l) (hs : s = 0) : Calls Try.prog 8 #[tbV s v, .int .i64 n, .int .i64 i, .int .i64 now] w fun e w' => ∃ u, e = .returned (.tuple #[tbV s u, .int .i64 (seenB s l n i now).2]) ∧ RdB w' (fun b => (K b ∧ b < w.heap.size) ∨ w.heap.size + 2 ≤ b) u (seenB s l n i now).1 ∧ Below w.heap.size w w' := by
  rw [show seenB s l n i now = (l, 7) by unfold seenB; rw [if_pos hs]]
  obtain ⟨A, c, rfl, hc, _⟩ := rdB_form h
  have HR0 := Lib.hid (h.imp (K' := fun b => K b ∧ b < w.heap.size) fun b hb hl => ⟨hb, hl⟩)
  have S0 := Lib.hid (tr_start w (tb2 s (.slice A l.length c)) (tb2 0 (.slice none 0 0)))
  have SX := Lib.hid (tr_start w (tb2 s (.slice A l.length c)) (tb2 s (.slice A l.length c)))
  obtain ⟨y0, y1, yf1, z0, z1, zf0, zf1⟩ := TR.cells S0.out
  clear h
  unfold tbV
  have d1 : (s == 0) = true := by simpa using hs
  clear hs
  go_enter Try.func8, Try.ntmps8
  go_wp2_with fail
  refine bodyPost_ret (results_ctv (g := w.heap.size + 1) (x := .int .i64 7) rfl ?_ ?_ SX.out.res Try.underlying30 rfl (by kernel_rfl)) rfl ⟨_, rfl, (HR0.out.below SX.out.bel).imp fun b hb _ => .inl hb, SX.out.bel⟩
  all_goals rfl
theorem bseen_not (s : Int) (v : Value) (l : List Bt) (n i now : Int) (K : Nat → Prop) (w : World) (hn : l.length ≤ 100000) (h : RdB w K v l) (hs : s ≠ 0) (hm : mayB n i now = false) : Calls Try.prog 8 #[tbV s v, .int .i64 n, .int .i64 i, .int .i64 now] w fun e w' => ∃ u, e = .returned (.tuple #[tbV s u, .int .i64 (seenB s l n i now).2]) ∧ RdB w' (fun b => (K b ∧ b < w.heap.size) ∨ w.heap.size + 2 ≤ b) u (seenB s l n i now).1 ∧ Below w.heap.size w w' := by
  rw [show seenB s l n i now = (l, 1) by unfold seenB; rw [if_neg hs, if_pos hm]]
  obtain ⟨A, c, rfl, hc, _⟩ := rdB_form h
  have HR0 := Lib.hid (h.imp (K' := fun b => K b ∧ b < w.heap.size) fun b hb hl => ⟨hb, hl⟩)
  have S0 := Lib.hid (tr_start w (tb2 s (.slice A l.length c)) (tb2 0 (.slice none 0 0)))
  have SX := Lib.hid (tr_start w (tb2 s (.slice A l.length c)) (tb2 s (.slice A l.length c)))
  obtain ⟨y0, y1, yf1, z0, z1, zf0, zf1⟩ := TR.cells S0.out
  clear h
  unfold tbV
  have d1 : (s == 0) = false := by simpa using hs
  have hun : undef = Value.tuple #[] := rfl
  have hm2 : n < 0 ∨ 15 < n ∨ i < 1 ∨ 2147483647 < i ∨ now < 0 ∨ 1099511627776 < now := by
    unfold mayB at hm; simp at hm; omega
  clear hs hm
  by_cases p0 : n < 0
  · have q0 : decide (n < 0) = true := decide_eq_true (by omega)
    have r0 : decide (n < 0) = true := decide_eq_true (by omega)
    clear hm2
    clear p0
    go_enter Try.func8, Try.ntmps8
    go_wp2_with fail
    refine bodyPost_ret (results_ctv (g := w.heap.size + 1) (x := .int .i64 1) rfl ?_ ?_ SX.out.res Try.underlying30 rfl (by kernel_rfl)) rfl ⟨_, rfl, (HR0.out.below SX.out.bel).imp fun b hb _ => .inl hb, SX.out.bel⟩
    all_goals rfl
  · have q0 : decide (n < 0) = false := decide_eq_false (by omega)
    have r0 : decide (n < 0) = false := decide_eq_false (by omega)
    by_cases p1 : 15 < n
    · have q1 : decide (n > 15) = true := decide_eq_true (by omega)
      have r1 : decide (15 < n) = true := decide_eq_true (by omega)
      clear hm2
      clear p0
      clear p1
      go_enter Try.func8, Try.ntmps8
      go_wp2_with fail
      refine bodyPost_ret (results_ctv (g := w.heap.size + 1) (x := .int .i64 1) rfl ?_ ?_ SX.out.res Try.underlying30 rfl (by kernel_rfl)) rfl ⟨_, rfl, (HR0.out.below SX.out.bel).imp fun b hb _ => .inl hb, SX.out.bel⟩
      all_goals rfl
    · have q1 : decide (n > 15) = false := decide_eq_false (by omega)
      have r1 : decide (15 < n) = false := decide_eq_false (by omega)
      by_cases p2 : i < 1
      · have q2 : decide (i < 1) = true := decide_eq_true (by omega)
        have r2 : decide (i < 1) = true := decide_eq_true (by omega)
        clear hm2
        clear p0
        clear p1
        clear p2
        go_enter Try.func8, Try.ntmps8
        go_wp2_with fail
        refine bodyPost_ret (results_ctv (g := w.heap.size + 1) (x := .int .i64 1) rfl ?_ ?_ SX.out.res Try.underlying30 rfl (by kernel_rfl)) rfl ⟨_, rfl, (HR0.out.below SX.out.bel).imp fun b hb _ => .inl hb, SX.out.bel⟩
        all_goals rfl
      · have q2 : decide (i < 1) = false := decide_eq_false (by omega)
        have r2 : decide (i < 1) = false := decide_eq_false (by omega)
        by_cases p3 : 2147483647 < i
        · have q3 : decide (i > 2147483647) = true := decide_eq_true (by omega)
          have r3 : decide (2147483647 < i) = true := decide_eq_true (by omega)
          clear hm2
          clear p0
          clear p1
          clear p2
          clear p3
          go_enter Try.func8, Try.ntmps8
          go_wp2_with fail
          refine bodyPost_ret (results_ctv (g := w.heap.size + 1) (x := .int .i64 1) rfl ?_ ?_ SX.out.res Try.underlying30 rfl (by kernel_rfl)) rfl ⟨_, rfl, (HR0.out.below SX.out.bel).imp fun b hb _ => .inl hb, SX.out.bel⟩
          all_goals rfl
        · have q3 : decide (i > 2147483647) = false := decide_eq_false (by omega)
          have r3 : decide (2147483647 < i) = false := decide_eq_false (by omega)
          by_cases p4 : now < 0
          · have q4 : decide (now < 0) = true := decide_eq_true (by omega)
            have r4 : decide (now < 0) = true := decide_eq_true (by omega)
            clear hm2
            clear p0
            clear p1
            clear p2
            clear p3
            clear p4
            go_enter Try.func8, Try.ntmps8
            go_wp2_with fail
            refine bodyPost_ret (results_ctv (g := w.heap.size + 1) (x := .int .i64 1) rfl ?_ ?_ SX.out.res Try.underlying30 rfl (by kernel_rfl)) rfl ⟨_, rfl, (HR0.out.below SX.out.bel).imp fun b hb _ => .inl hb, SX.out.bel⟩
            all_goals rfl
          · have q4 : decide (now < 0) = false := decide_eq_false (by omega)
            have r4 : decide (now < 0) = false := decide_eq_false (by omega)
            have q5 : decide (now > 1099511627776) = true := decide_eq_true (by omega)
            have r5 : decide (1099511627776 < now) = true := decide_eq_true (by omega)
            clear hm2
            go_enter Try.func8, Try.ntmps8
            go_wp2_with fail
            refine bodyPost_ret (results_ctv (g := w.heap.size + 1) (x := .int .i64 1) rfl ?_ ?_ SX.out.res Try.underlying30 rfl (by kernel_rfl)) rfl ⟨_, rfl, (HR0.out.below SX.out.bel).imp fun b hb _ => .inl hb, SX.out.bel⟩
            all_goals rfl
theorem bseen_none (s : Int) (v : Value) (l : List Bt) (n i now : Int) (K : Nat → Prop) (w : World) (hn : l.length ≤ 100000) (h : RdB w K v l) (hs : s ≠ 0) (hm : mayB n i now = true) (hz : findB l n = none) (hb : beatB l n = none) : Calls Try.prog 8 #[tbV s v, .int .i64 n, .int .i64 i, .int .i64 now] w fun e w' => ∃ u, e = .returned (.tuple #[tbV s u, .int .i64 (seenB s l n i now).2]) ∧ RdB w' (fun b => (K b ∧ b < w.heap.size) ∨ w.heap.size + 2 ≤ b) u (seenB s l n i now).1 ∧ Below w.heap.size w w' := by
  rw [sb_none hs hm hb]
  obtain ⟨A, c, rfl, hc, _⟩ := rdB_form h
  have HR0 := Lib.hid (h.imp (K' := fun b => K b ∧ b < w.heap.size) fun b hb hl => ⟨hb, hl⟩)
  have S0 := Lib.hid (tr_start w (tb2 s (.slice A l.length c)) (tb2 0 (.slice none 0 0)))
  obtain ⟨y0, y1, yf1, z0, z1, zf0, zf1⟩ := TR.cells S0.out
  clear h
  unfold tbV
  have d1 : (s == 0) = false := by simpa using hs
  have hm2 : (0 ≤ n ∧ n ≤ 15) ∧ (1 ≤ i ∧ i ≤ 2147483647) ∧ 0 ≤ now ∧ now ≤ 1099511627776 := by unfold mayB at hm; simp at hm; omega
  have q0 : decide (n < 0) = false := decide_eq_false (by omega)
  have r0 : decide (n < 0) = false := decide_eq_false (by omega)
  have q1 : decide (n > 15) = false := decide_eq_false (by omega)
  have r1 : decide (15 < n) = false := decide_eq_false (by omega)
  have q2 : decide (i < 1) = false := decide_eq_false (by omega)
  have r2 : decide (i < 1) = false := decide_eq_false (by omega)
  have q3 : decide (i > 2147483647) = false := decide_eq_false (by omega)
  have r3 : decide (2147483647 < i) = false := decide_eq_false (by omega)
  have q4 : decide (now < 0) = false := decide_eq_false (by omega)
  have r4 : decide (now < 0) = false := decide_eq_false (by omega)
  have q5 : decide (now > 1099511627776) = false := decide_eq_false (by omega)
  have r5 : decide (1099511627776 < now) = false := decide_eq_false (by omega)
  clear hs hm hm2
  have LT := Lib.hid fun w => rlater_any now s w
  generalize laterV now s = un at *
  have FN := Lib.hid (fun w' (hb : Below w.heap.size w w') => bfind_any _ l n _ w' hn (HR0.out.below hb))
  have WB := Lib.hid (fun w' (hb : Below w.heap.size w w') => bwob_any _ l n _ w' hn (HR0.out.below hb))
  have S5 := Lib.hid (tx_start w (tb2 s (.slice A l.length c)) (tb2 0 (.slice none 0 0)) ⟨n, i, un⟩)
  unfold tb2 at S5
  have hz2 : findZB l n = -1 := by unfold findZB; rw [hz]
  rw [hz2] at FN
  clear hz hz2 hb
  unfold putB
  go_enter Try.func8, Try.ntmps8
  go_wp2_with fail
  refine (LT.out _).mono ?_; rintro e w1 ⟨rfl, rfl⟩
  go_wp2_with fail
  refine (FN.out _ S5.out.tr.bel).mono ?_; rintro e w1 ⟨rfl, rfl⟩
  clear LT FN S0
  clear y0 y1 yf1 z0 z1 zf0 zf1
  obtain ⟨y0, y1, yf1, z0, z1, zf0, zf1⟩ := TR.cells S5.out.tr
  go_wp2_with fail
  refine (WB.out _ S5.out.tr.bel).mono ?_; rintro e w2 ⟨u, rfl, hu, hb2⟩
  have S6 := Lib.hid (S5.out.below hb2)
  have hs2 : w.heap.size + 3 ≤ w2.heap.size := S6.out.size
  have hld := wobB_len l n
  obtain ⟨l1, hl1⟩ : ∃ l1, wobB l n = l1 := ⟨_, rfl⟩
  rw [hl1] at hu hld
  have HL1 := Lib.hid hl1
  clear hl1
  have HU := Lib.hid (hu.imp (K' := fun b => w.heap.size + 3 ≤ b ∧ b < w2.heap.size) fun b hb hl => ⟨by have := S5.out.size; omega, hl⟩)
  obtain ⟨A1, c1, rfl, hc1, _⟩ := rdB_form hu
  have H := Lib.hid fun k (hk : k < l1.length) => rdB_at HU.out hk
  clear hu hb2 WB
  clear y0 y1 yf1 z0 z1 zf0 zf1
  go_wp2_with fail
  go_loopw [13] (fun i wr => ∃ k : Nat, k ≤ l1.length ∧ i = .int .i64 k ∧ aheadB l1 n = k + aheadB (l1.drop k) n ∧ wr = w2) (fun i _ => l1.length - (intOf i).toNat)
  case atStart => exact ⟨0, by omega, rfl, by simp, rfl⟩
  case round =>
    obtain ⟨k, hk, rfl, hI, rfl⟩ := hrel
    by_cases hlt : k < l1.length
    · obtain ⟨b1, o1, rfl, hbl1, g0, g1, g2⟩ := H.out k hlt
      have dk : decide (k < l1.length) = true := decide_eq_true hlt
      have dk2 : decide ((k : Int) < (l1.length : Int)) = true := decide_eq_true (by omega)
      have i0k : (0 : Int) ≤ (k : Int) := by omega
      have i1k : (k : Int) < (l1.length : Int) := by omega
      have HS := Lib.hid (aheadB_step l1 n k hlt hI)
      clear hI
      by_cases t1 : l1[k].n < n
      · have dt : decide (l1[k].n < n) = true := decide_eq_true t1
        have HI := Lib.hid (HS.out.1 t1)
        generalize l1[k] = T at *
        clear HS t1
        go_wp2_with fail
        go_roundw
        case rel => exact ⟨k + 1, by omega, by go_num, HI.out, trivial⟩
        case measure => simp [intOf]; omega
      · have dt : decide (l1[k].n < n) = false := decide_eq_false t1
        have HK := Lib.hid (HS.out.2 t1)
        generalize l1[k] = T at *
        clear HS t1
        have hs1 := fun w => run_slice_hd (P := Try.prog) w 28 51 (some ⟨b1, o1, none⟩) l1.length c1 k Try.underlying28 Try.sizeOf51 (by omega)
        have hs2' := fun w => run_slice_tl (P := Try.prog) w 28 51 (some ⟨b1, o1, none⟩) l1.length c1 k Try.underlying28 Try.sizeOf51 (by omega)
        have R1 := rdB_take k HU.out (by omega)
        have R2 := RdK.drop k HU.out (by rw [rowsB_len]; omega)
        generalize sliced (some ⟨b1, o1, none⟩) k l1.length c1 3 = s2 at hs2' R2
        have e2 : (rowsB l1).drop k = rowsB (l1.drop k) := by unfold rowsB; rw [List.map_drop]
        rw [e2] at R2
        have htl : (l1.take k).length = k := by rw [List.length_take]; omega
        have hdl : (l1.drop k).length = l1.length - k := List.length_drop
        have HE := Lib.hid (insB_eq l1 ⟨n, i, un⟩ k HK.out)
        clear HK e2 HU H
        generalize l1.take k = lt at *
        generalize l1.drop k = ld at *
        have R1 := Lib.hid R1
        have R2 := Lib.hid R2
        go_wp2_with (at_builtin; refine wpList_append_rdK rfl _ _ 28 rfl wr.heap.size 51 (.agg #[.int .i64 0, .int .i64 0, .int .i64 0]) 3 24 infoBt rfl (by decide) (by decide) Try.underlying28 _ 0 [] rfl (World.ownsRow_nil _ _ _ _) (fun _ => True) _ (rowsB lt) rfl ?aX1 (rowsB_three _) (rowsB_one _) ?aX2 (Nat.le_refl _) ?_)
        case aX1 => have h := R1.out.all; rw [← htl] at h; first | exact h | (rw [htl] at h; exact h)
        case aX2 => rw [rowsB_len]; omega
        intro v1 w3 hown1 hgrow1
        have HB3 := Lib.hid (grown_below (Below.refl _ _) hgrow1 (fun g hg => by cases hg) (Nat.le_refl _))
        have hw3 : wr.heap.size ≤ w3.heap.size := HB3.out.size
        have S7 := Lib.hid (S6.out.below HB3.out)
        obtain ⟨x0, x1, x2, _⟩ := S7.out.beat
        have HO1 := Lib.hid hown1
        clear hown1 hgrow1
        go_wp2_with (at_builtin; refine wpList_append_rdK rfl _ _ 28 rfl wr.heap.size 51 (.agg #[.int .i64 0, .int .i64 0, .int .i64 0]) 3 24 infoBt rfl (by decide) (by decide) Try.underlying28 _ _ _ rfl (HO1.out.alloc _) (fun _ => True) _ (rowsB [⟨n, i, un⟩]) rfl ?aY1 (rowsB_three _) (rowsB_one _) ?aY2 ?aY3 ?_)
        case aY1 => exact (rdK_lit1 w3 (Bt.row ⟨n, i, un⟩) #[.int .i64 n, .int .i64 i, .int .i64 un] 51 rfl).imp fun _ _ _ => trivial
        case aY2 => rw [rowsB_len, rowsB_len]; simp; omega
        case aY3 => first | omega | (simp; omega)
        intro v2 w4 hown2 hgrow2
        have HB4 := Lib.hid (grown_below (HB3.out.alloc (HB3.out.size) _) hgrow2 (fun g hg => owns_row HO1.out hg) (by simp; omega))
        have hw4 : wr.heap.size ≤ w4.heap.size := HB4.out.size
        have HO2 := Lib.hid hown2
        clear hown2 hgrow2 x0 x1 x2
        have S8 := Lib.hid (S6.out.below HB4.out)
        obtain ⟨y0, y1, yf1, z0, z1, zf0, zf1⟩ := TR.cells S8.out.tr
        go_wp2_with (at_builtin; refine wpList_append_rdK rfl _ _ 28 rfl wr.heap.size 51 (.agg #[.int .i64 0, .int .i64 0, .int .i64 0]) 3 24 infoBt rfl (by decide) (by decide) Try.underlying28 _ _ _ rfl HO2.out (fun _ => True) _ (rowsB ld) rfl ?aZ1 (rowsB_three _) (rowsB_one _) ?aZ2 ?aZ3 ?_)
        case aZ1 => exact (R2.out.below HB4.out).all
        case aZ2 => rw [rowsB_len, rowsB_len, rowsB_len]; simp; omega
        case aZ3 => omega
        intro v3 w5 hown3 hgrow3
        have HB5 := Lib.hid (grown_below HB4.out hgrow3 (fun g hg => owns_row HO2.out hg) hw4)
        have HR := Lib.hid (show RdB w5 (fun b => wr.heap.size ≤ b) v3 (insB l1 ⟨n, i, un⟩) from by
          rw [HE.out]
          have h := rdB_own (l := lt ++ ⟨n, i, un⟩ :: ld) (n := (lt ++ ⟨n, i, un⟩ :: ld).length) (by
            have e : (rowsB (lt ++ ⟨n, i, un⟩ :: ld)).flatten = (rowsB lt).flatten ++ (rowsB [⟨n, i, un⟩]).flatten ++ (rowsB ld).flatten := by unfold rowsB; simp
            have e2 : (lt ++ ⟨n, i, un⟩ :: ld).length = 0 + (rowsB lt).length + (rowsB [⟨n, i, un⟩]).length + (rowsB ld).length := by rw [rowsB_len, rowsB_len, rowsB_len]; simp; omega
            rw [e, e2]
            simpa using hown3) rfl
          exact h)
        clear hown3 hgrow3 y0 y1 yf1 z0 z1 zf0 zf1
        obtain ⟨A3, c3, rfl, _, _⟩ := rdB_form HR.out
        have S9 := Lib.hid (S6.out.below HB5.out)
        obtain ⟨y0, y1, yf1, z0, z1, zf0, zf1⟩ := TR.cells S9.out.tr
        have T9 := Lib.hid (TR.beats (.slice A3 (insB l1 ⟨n, i, un⟩).length c3) S9.out.tr)
        have HR2 := Lib.hid (rdB_only HR.out ((Only.refl w.heap.size w5).setCell 1 (.slice A3 (insB l1 ⟨n, i, un⟩).length c3)) (fun k hk => by omega))
        have ST := Lib.hid (T9.out.tell s (.slice A3 (insB l1 ⟨n, i, un⟩).length c3))
        have HRF := Lib.hid (rdB_only HR2.out ST.out.2.2.1 (fun k hk => by omega))
        clear S6 S7 S8 S9 T9 HR HR2 HB3 HB4 HB5 HO1 HO2 R1 R2
        generalize (insB l1 ⟨n, i, un⟩).length = m at *
        obtain ⟨lf, hlf⟩ : ∃ lf, insB l1 ⟨n, i, un⟩ = lf := ⟨_, rfl⟩
        rw [hlf] at HRF
        have HLF := Lib.hid hlf
        clear hlf
        go_wp2_with fail
        refine bodyPost_ret (results_ctv (g := w.heap.size + 1) (x := .int .i64 0) rfl ?_ ?_ ST.out.1 Try.underlying30 rfl (by kernel_rfl)) rfl ⟨_, rfl, (by rw [HL1.out, HLF.out]; exact HRF.out.imp fun b hb _ => .inr (by omega)), ST.out.2.2.2⟩
        all_goals rfl
    · have dk : decide (k < l1.length) = false := decide_eq_false hlt
      have dk2 : decide ((k : Int) < (l1.length : Int)) = false := decide_eq_false (by omega)
      have HK := Lib.hid (show aheadB l1 n = k by rw [hI, List.drop_of_length_le (by omega)]; rfl)
      clear hI
      have hs1 := fun w => run_slice_hd (P := Try.prog) w 28 51 A1 l1.length c1 k Try.underlying28 Try.sizeOf51 (by omega)
      have hs2' := fun w => run_slice_tl (P := Try.prog) w 28 51 A1 l1.length c1 k Try.underlying28 Try.sizeOf51 (by omega)
      have R1 := rdB_take k HU.out (by omega)
      have R2 := RdK.drop k HU.out (by rw [rowsB_len]; omega)
      generalize sliced A1 k l1.length c1 3 = s2 at hs2' R2
      have e2 : (rowsB l1).drop k = rowsB (l1.drop k) := by unfold rowsB; rw [List.map_drop]
      rw [e2] at R2
      have htl : (l1.take k).length = k := by rw [List.length_take]; omega
      have hdl : (l1.drop k).length = l1.length - k := List.length_drop
      have HE := Lib.hid (insB_eq l1 ⟨n, i, un⟩ k HK.out)
      clear HK e2 HU H
      generalize l1.take k = lt at *
      generalize l1.drop k = ld at *
      have R1 := Lib.hid R1
      have R2 := Lib.hid R2
      go_wp2_with (at_builtin; refine wpList_append_rdK rfl _ _ 28 rfl wr.heap.size 51 (.agg #[.int .i64 0, .int .i64 0, .int .i64 0]) 3 24 infoBt rfl (by decide) (by decide) Try.underlying28 _ 0 [] rfl (World.ownsRow_nil _ _ _ _) (fun _ => True) _ (rowsB lt) rfl ?bX1 (rowsB_three _) (rowsB_one _) ?bX2 (Nat.le_refl _) ?_)
      case bX1 => have h := R1.out.all; rw [← htl] at h; first | exact h | (rw [htl] at h; exact h)
      case bX2 => rw [rowsB_len]; omega
      intro v1 w3 hown1 hgrow1
      have HB3 := Lib.hid (grown_below (Below.refl _ _) hgrow1 (fun g hg => by cases hg) (Nat.le_refl _))
      have hw3 : wr.heap.size ≤ w3.heap.size := HB3.out.size
      have S7 := Lib.hid (S6.out.below HB3.out)
      obtain ⟨x0, x1, x2, _⟩ := S7.out.beat
      have HO1 := Lib.hid hown1
      clear hown1 hgrow1
      go_wp2_with (at_builtin; refine wpList_append_rdK rfl _ _ 28 rfl wr.heap.size 51 (.agg #[.int .i64 0, .int .i64 0, .int .i64 0]) 3 24 infoBt rfl (by decide) (by decide) Try.underlying28 _ _ _ rfl (HO1.out.alloc _) (fun _ => True) _ (rowsB [⟨n, i, un⟩]) rfl ?bY1 (rowsB_three _) (rowsB_one _) ?bY2 ?bY3 ?_)
      case bY1 => exact (rdK_lit1 w3 (Bt.row ⟨n, i, un⟩) #[.int .i64 n, .int .i64 i, .int .i64 un] 51 rfl).imp fun _ _ _ => trivial
      case bY2 => rw [rowsB_len, rowsB_len]; simp; omega
      case bY3 => first | omega | (simp; omega)
      intro v2 w4 hown2 hgrow2
      have HB4 := Lib.hid (grown_below (HB3.out.alloc (HB3.out.size) _) hgrow2 (fun g hg => owns_row HO1.out hg) (by simp; omega))
      have hw4 : wr.heap.size ≤ w4.heap.size := HB4.out.size
      have HO2 := Lib.hid hown2
      clear hown2 hgrow2 x0 x1 x2
      have S8 := Lib.hid (S6.out.below HB4.out)
      obtain ⟨y0, y1, yf1, z0, z1, zf0, zf1⟩ := TR.cells S8.out.tr
      go_wp2_with (at_builtin; refine wpList_append_rdK rfl _ _ 28 rfl wr.heap.size 51 (.agg #[.int .i64 0, .int .i64 0, .int .i64 0]) 3 24 infoBt rfl (by decide) (by decide) Try.underlying28 _ _ _ rfl HO2.out (fun _ => True) _ (rowsB ld) rfl ?bZ1 (rowsB_three _) (rowsB_one _) ?bZ2 ?bZ3 ?_)
      case bZ1 => exact (R2.out.below HB4.out).all
      case bZ2 => rw [rowsB_len, rowsB_len, rowsB_len]; simp; omega
      case bZ3 => omega
      intro v3 w5 hown3 hgrow3
      have HB5 := Lib.hid (grown_below HB4.out hgrow3 (fun g hg => owns_row HO2.out hg) hw4)
      have HR := Lib.hid (show RdB w5 (fun b => wr.heap.size ≤ b) v3 (insB l1 ⟨n, i, un⟩) from by
        rw [HE.out]
        have h := rdB_own (l := lt ++ ⟨n, i, un⟩ :: ld) (n := (lt ++ ⟨n, i, un⟩ :: ld).length) (by
          have e : (rowsB (lt ++ ⟨n, i, un⟩ :: ld)).flatten = (rowsB lt).flatten ++ (rowsB [⟨n, i, un⟩]).flatten ++ (rowsB ld).flatten := by unfold rowsB; simp
          have e2 : (lt ++ ⟨n, i, un⟩ :: ld).length = 0 + (rowsB lt).length + (rowsB [⟨n, i, un⟩]).length + (rowsB ld).length := by rw [rowsB_len, rowsB_len, rowsB_len]; simp; omega
          rw [e, e2]
          simpa using hown3) rfl
        exact h)
      clear hown3 hgrow3 y0 y1 yf1 z0 z1 zf0 zf1
      obtain ⟨A3, c3, rfl, _, _⟩ := rdB_form HR.out
      have S9 := Lib.hid (S6.out.below HB5.out)
      obtain ⟨y0, y1, yf1, z0, z1, zf0, zf1⟩ := TR.cells S9.out.tr
      have T9 := Lib.hid (TR.beats (.slice A3 (insB l1 ⟨n, i, un⟩).length c3) S9.out.tr)
      have HR2 := Lib.hid (rdB_only HR.out ((Only.refl w.heap.size w5).setCell 1 (.slice A3 (insB l1 ⟨n, i, un⟩).length c3)) (fun k hk => by omega))
      have ST := Lib.hid (T9.out.tell s (.slice A3 (insB l1 ⟨n, i, un⟩).length c3))
      have HRF := Lib.hid (rdB_only HR2.out ST.out.2.2.1 (fun k hk => by omega))
      clear S6 S7 S8 S9 T9 HR HR2 HB3 HB4 HB5 HO1 HO2 R1 R2
      generalize (insB l1 ⟨n, i, un⟩).length = m at *
      obtain ⟨lf, hlf⟩ : ∃ lf, insB l1 ⟨n, i, un⟩ = lf := ⟨_, rfl⟩
      rw [hlf] at HRF
      have HLF := Lib.hid hlf
      clear hlf
      go_wp2_with fail
      refine bodyPost_ret (results_ctv (g := w.heap.size + 1) (x := .int .i64 0) rfl ?_ ?_ ST.out.1 Try.underlying30 rfl (by kernel_rfl)) rfl ⟨_, rfl, (by rw [HL1.out, HLF.out]; exact HRF.out.imp fun b hb _ => .inr (by omega)), ST.out.2.2.2⟩
      all_goals rfl
theorem bseen_fence (s : Int) (v : Value) (l : List Bt) (n i now : Int) (K : Nat → Prop) (w : World) (hn : l.length ≤ 100000) (h : RdB w K v l) (hs : s ≠ 0) (hm : mayB n i now = true) (k0 : Nat) (hk0 : k0 < l.length) (hz : findB l n = some k0) (hb : beatB l n = some l[k0]) (hi : i < l[k0].i) : Calls Try.prog 8 #[tbV s v, .int .i64 n, .int .i64 i, .int .i64 now] w fun e w' => ∃ u, e = .returned (.tuple #[tbV s u, .int .i64 (seenB s l n i now).2]) ∧ RdB w' (fun b => (K b ∧ b < w.heap.size) ∨ w.heap.size + 2 ≤ b) u (seenB s l n i now).1 ∧ Below w.heap.size w w' := by
  rw [(sb_some hs hm hb).1 hi]
  obtain ⟨A, c, rfl, hc, _⟩ := rdB_form h
  have HR0 := Lib.hid (h.imp (K' := fun b => K b ∧ b < w.heap.size) fun b hb hl => ⟨hb, hl⟩)
  have S0 := Lib.hid (tr_start w (tb2 s (.slice A l.length c)) (tb2 0 (.slice none 0 0)))
  obtain ⟨y0, y1, yf1, z0, z1, zf0, zf1⟩ := TR.cells S0.out
  clear h
  unfold tbV
  have d1 : (s == 0) = false := by simpa using hs
  have hm2 : (0 ≤ n ∧ n ≤ 15) ∧ (1 ≤ i ∧ i ≤ 2147483647) ∧ 0 ≤ now ∧ now ≤ 1099511627776 := by unfold mayB at hm; simp at hm; omega
  have q0 : decide (n < 0) = false := decide_eq_false (by omega)
  have r0 : decide (n < 0) = false := decide_eq_false (by omega)
  have q1 : decide (n > 15) = false := decide_eq_false (by omega)
  have r1 : decide (15 < n) = false := decide_eq_false (by omega)
  have q2 : decide (i < 1) = false := decide_eq_false (by omega)
  have r2 : decide (i < 1) = false := decide_eq_false (by omega)
  have q3 : decide (i > 2147483647) = false := decide_eq_false (by omega)
  have r3 : decide (2147483647 < i) = false := decide_eq_false (by omega)
  have q4 : decide (now < 0) = false := decide_eq_false (by omega)
  have r4 : decide (now < 0) = false := decide_eq_false (by omega)
  have q5 : decide (now > 1099511627776) = false := decide_eq_false (by omega)
  have r5 : decide (1099511627776 < now) = false := decide_eq_false (by omega)
  clear hs hm hm2
  have LT := Lib.hid fun w => rlater_any now s w
  generalize laterV now s = un at *
  have FN := Lib.hid (fun w' (hb : Below w.heap.size w w') => bfind_any _ l n _ w' hn (HR0.out.below hb))
  have WB := Lib.hid (fun w' (hb : Below w.heap.size w w') => bwob_any _ l n _ w' hn (HR0.out.below hb))
  have S5 := Lib.hid (tx_start w (tb2 s (.slice A l.length c)) (tb2 0 (.slice none 0 0)) ⟨n, i, un⟩)
  unfold tb2 at S5
  have hz2 : findZB l n = (k0 : Int) := by unfold findZB; rw [hz]
  rw [hz2] at FN
  obtain ⟨ba, oa, rfl, hbl, e0, e1, e2⟩ := rdB_at HR0.out hk0
  have e5 := (S5.out.tr.bel.cell (p := ⟨ba, oa + k0 * 3 + 1, none⟩) hbl).trans e1
  have e6 := (S5.out.tr.bel.cell (p := ⟨ba, oa + k0 * 3 + 2, none⟩) hbl).trans e2
  have v0 : decide ((k0 : Int) ≥ 0) = true := decide_eq_true (by omega)
  have v1 : (0 : Int) ≤ (k0 : Int) := by omega
  have v2 : (k0 : Int) < (l.length : Int) := by omega
  have dg : decide (l[k0].i > i) = true := decide_eq_true hi
  have dg2 : decide (i < l[k0].i) = true := decide_eq_true hi
  have SF := Lib.hid (tx_start w (tb2 s (.slice (some ⟨ba, oa, none⟩) l.length c)) (tb2 s (.slice (some ⟨ba, oa, none⟩) l.length c)) ⟨n, i, un⟩)
  have HRF := Lib.hid (HR0.out.below SF.out.tr.bel)
  generalize l[k0] = T at *
  clear hz hz2 hb hi
  go_enter Try.func8, Try.ntmps8
  go_wp2_with fail
  refine (LT.out _).mono ?_; rintro e w1 ⟨rfl, rfl⟩
  go_wp2_with fail
  refine (FN.out _ S5.out.tr.bel).mono ?_; rintro e w1 ⟨rfl, rfl⟩
  clear LT FN S0
  clear y0 y1 yf1 z0 z1 zf0 zf1
  obtain ⟨y0, y1, yf1, z0, z1, zf0, zf1⟩ := TR.cells S5.out.tr
  go_wp2_with fail
  refine bodyPost_ret (results_ctv (g := w.heap.size + 1) (x := .int .i64 11) rfl ?_ ?_ SF.out.tr.res Try.underlying30 rfl (by kernel_rfl)) rfl ⟨_, rfl, HRF.out.imp fun b hb _ => .inl hb, SF.out.tr.bel⟩
  all_goals rfl
theorem bseen_new (s : Int) (v : Value) (l : List Bt) (n i now : Int) (K : Nat → Prop) (w : World) (hn : l.length ≤ 100000) (h : RdB w K v l) (hs : s ≠ 0) (hm : mayB n i now = true) (k0 : Nat) (hk0 : k0 < l.length) (hz : findB l n = some k0) (hb : beatB l n = some l[k0]) (hi : ¬ i < l[k0].i) (hq : ¬ l[k0].i = i) : Calls Try.prog 8 #[tbV s v, .int .i64 n, .int .i64 i, .int .i64 now] w fun e w' => ∃ u, e = .returned (.tuple #[tbV s u, .int .i64 (seenB s l n i now).2]) ∧ RdB w' (fun b => (K b ∧ b < w.heap.size) ∨ w.heap.size + 2 ≤ b) u (seenB s l n i now).1 ∧ Below w.heap.size w w' := by
  rw [(sb_some hs hm hb).2.2 hi hq]
  obtain ⟨A, c, rfl, hc, _⟩ := rdB_form h
  have HR0 := Lib.hid (h.imp (K' := fun b => K b ∧ b < w.heap.size) fun b hb hl => ⟨hb, hl⟩)
  have S0 := Lib.hid (tr_start w (tb2 s (.slice A l.length c)) (tb2 0 (.slice none 0 0)))
  obtain ⟨y0, y1, yf1, z0, z1, zf0, zf1⟩ := TR.cells S0.out
  clear h
  unfold tbV
  have d1 : (s == 0) = false := by simpa using hs
  have hm2 : (0 ≤ n ∧ n ≤ 15) ∧ (1 ≤ i ∧ i ≤ 2147483647) ∧ 0 ≤ now ∧ now ≤ 1099511627776 := by unfold mayB at hm; simp at hm; omega
  have q0 : decide (n < 0) = false := decide_eq_false (by omega)
  have r0 : decide (n < 0) = false := decide_eq_false (by omega)
  have q1 : decide (n > 15) = false := decide_eq_false (by omega)
  have r1 : decide (15 < n) = false := decide_eq_false (by omega)
  have q2 : decide (i < 1) = false := decide_eq_false (by omega)
  have r2 : decide (i < 1) = false := decide_eq_false (by omega)
  have q3 : decide (i > 2147483647) = false := decide_eq_false (by omega)
  have r3 : decide (2147483647 < i) = false := decide_eq_false (by omega)
  have q4 : decide (now < 0) = false := decide_eq_false (by omega)
  have r4 : decide (now < 0) = false := decide_eq_false (by omega)
  have q5 : decide (now > 1099511627776) = false := decide_eq_false (by omega)
  have r5 : decide (1099511627776 < now) = false := decide_eq_false (by omega)
  clear hs hm hm2
  have LT := Lib.hid fun w => rlater_any now s w
  generalize laterV now s = un at *
  have FN := Lib.hid (fun w' (hb : Below w.heap.size w w') => bfind_any _ l n _ w' hn (HR0.out.below hb))
  have WB := Lib.hid (fun w' (hb : Below w.heap.size w w') => bwob_any _ l n _ w' hn (HR0.out.below hb))
  have S5 := Lib.hid (tx_start w (tb2 s (.slice A l.length c)) (tb2 0 (.slice none 0 0)) ⟨n, i, un⟩)
  unfold tb2 at S5
  have hz2 : findZB l n = (k0 : Int) := by unfold findZB; rw [hz]
  rw [hz2] at FN
  obtain ⟨ba, oa, rfl, hbl, e0, e1, e2⟩ := rdB_at HR0.out hk0
  have e5 := (S5.out.tr.bel.cell (p := ⟨ba, oa + k0 * 3 + 1, none⟩) hbl).trans e1
  have e6 := (S5.out.tr.bel.cell (p := ⟨ba, oa + k0 * 3 + 2, none⟩) hbl).trans e2
  have v0 : decide ((k0 : Int) ≥ 0) = true := decide_eq_true (by omega)
  have v1 : (0 : Int) ≤ (k0 : Int) := by omega
  have v2 : (k0 : Int) < (l.length : Int) := by omega
  have dg : decide (l[k0].i > i) = false := decide_eq_false hi
  have dg2 : decide (i < l[k0].i) = false := decide_eq_false hi
  have dq : (l[k0].i == i) = false := by simpa using hq
  generalize l[k0] = T at *
  clear hz hz2 hb hi hq
  unfold putB
  go_enter Try.func8, Try.ntmps8
  go_wp2_with fail
  refine (LT.out _).mono ?_; rintro e w1 ⟨rfl, rfl⟩
  go_wp2_with fail
  refine (FN.out _ S5.out.tr.bel).mono ?_; rintro e w1 ⟨rfl, rfl⟩
  clear LT FN S0
  clear y0 y1 yf1 z0 z1 zf0 zf1
  obtain ⟨y0, y1, yf1, z0, z1, zf0, zf1⟩ := TR.cells S5.out.tr
  go_wp2_with fail
  refine (WB.out _ S5.out.tr.bel).mono ?_; rintro e w2 ⟨u, rfl, hu, hb2⟩
  have S6 := Lib.hid (S5.out.below hb2)
  have hs2 : w.heap.size + 3 ≤ w2.heap.size := S6.out.size
  have hld := wobB_len l n
  obtain ⟨l1, hl1⟩ : ∃ l1, wobB l n = l1 := ⟨_, rfl⟩
  rw [hl1] at hu hld
  have HL1 := Lib.hid hl1
  clear hl1
  have HU := Lib.hid (hu.imp (K' := fun b => w.heap.size + 3 ≤ b ∧ b < w2.heap.size) fun b hb hl => ⟨by have := S5.out.size; omega, hl⟩)
  obtain ⟨A1, c1, rfl, hc1, _⟩ := rdB_form hu
  have H := Lib.hid fun k (hk : k < l1.length) => rdB_at HU.out hk
  clear hu hb2 WB
  clear y0 y1 yf1 z0 z1 zf0 zf1 e0 e1 e2 e5 e6
  go_wp2_with fail
  go_loopw [13] (fun i wr => ∃ k : Nat, k ≤ l1.length ∧ i = .int .i64 k ∧ aheadB l1 n = k + aheadB (l1.drop k) n ∧ wr = w2) (fun i _ => l1.length - (intOf i).toNat)
  case atStart => exact ⟨0, by omega, rfl, by simp, rfl⟩
  case round =>
    obtain ⟨k, hk, rfl, hI, rfl⟩ := hrel
    by_cases hlt : k < l1.length
    · obtain ⟨b1, o1, rfl, hbl1, g0, g1, g2⟩ := H.out k hlt
      have dk : decide (k < l1.length) = true := decide_eq_true hlt
      have dk2 : decide ((k : Int) < (l1.length : Int)) = true := decide_eq_true (by omega)
      have i0k : (0 : Int) ≤ (k : Int) := by omega
      have i1k : (k : Int) < (l1.length : Int) := by omega
      have HS := Lib.hid (aheadB_step l1 n k hlt hI)
      clear hI
      by_cases t1 : l1[k].n < n
      · have dt : decide (l1[k].n < n) = true := decide_eq_true t1
        have HI := Lib.hid (HS.out.1 t1)
        generalize l1[k] = T at *
        clear HS t1
        go_wp2_with fail
        go_roundw
        case rel => exact ⟨k + 1, by omega, by go_num, HI.out, trivial⟩
        case measure => simp [intOf]; omega
      · have dt : decide (l1[k].n < n) = false := decide_eq_false t1
        have HK := Lib.hid (HS.out.2 t1)
        generalize l1[k] = T at *
        clear HS t1
        have hs1 := fun w => run_slice_hd (P := Try.prog) w 28 51 (some ⟨b1, o1, none⟩) l1.length c1 k Try.underlying28 Try.sizeOf51 (by omega)
        have hs2' := fun w => run_slice_tl (P := Try.prog) w 28 51 (some ⟨b1, o1, none⟩) l1.length c1 k Try.underlying28 Try.sizeOf51 (by omega)
        have R1 := rdB_take k HU.out (by omega)
        have R2 := RdK.drop k HU.out (by rw [rowsB_len]; omega)
        generalize sliced (some ⟨b1, o1, none⟩) k l1.length c1 3 = s2 at hs2' R2
        have e2 : (rowsB l1).drop k = rowsB (l1.drop k) := by unfold rowsB; rw [List.map_drop]
        rw [e2] at R2
        have htl : (l1.take k).length = k := by rw [List.length_take]; omega
        have hdl : (l1.drop k).length = l1.length - k := List.length_drop
        have HE := Lib.hid (insB_eq l1 ⟨n, i, un⟩ k HK.out)
        clear HK e2 HU H
        generalize l1.take k = lt at *
        generalize l1.drop k = ld at *
        have R1 := Lib.hid R1
        have R2 := Lib.hid R2
        go_wp2_with (at_builtin; refine wpList_append_rdK rfl _ _ 28 rfl wr.heap.size 51 (.agg #[.int .i64 0, .int .i64 0, .int .i64 0]) 3 24 infoBt rfl (by decide) (by decide) Try.underlying28 _ 0 [] rfl (World.ownsRow_nil _ _ _ _) (fun _ => True) _ (rowsB lt) rfl ?aX1 (rowsB_three _) (rowsB_one _) ?aX2 (Nat.le_refl _) ?_)
        case aX1 => have h := R1.out.all; rw [← htl] at h; first | exact h | (rw [htl] at h; exact h)
        case aX2 => rw [rowsB_len]; omega
        intro v1 w3 hown1 hgrow1
        have HB3 := Lib.hid (grown_below (Below.refl _ _) hgrow1 (fun g hg => by cases hg) (Nat.le_refl _))
        have hw3 : wr.heap.size ≤ w3.heap.size := HB3.out.size
        have S7 := Lib.hid (S6.out.below HB3.out)
        obtain ⟨x0, x1, x2, _⟩ := S7.out.beat
        have HO1 := Lib.hid hown1
        clear hown1 hgrow1
        go_wp2_with (at_builtin; refine wpList_append_rdK rfl _ _ 28 rfl wr.heap.size 51 (.agg #[.int .i64 0, .int .i64 0, .int .i64 0]) 3 24 infoBt rfl (by decide) (by decide) Try.underlying28 _ _ _ rfl (HO1.out.alloc _) (fun _ => True) _ (rowsB [⟨n, i, un⟩]) rfl ?aY1 (rowsB_three _) (rowsB_one _) ?aY2 ?aY3 ?_)
        case aY1 => exact (rdK_lit1 w3 (Bt.row ⟨n, i, un⟩) #[.int .i64 n, .int .i64 i, .int .i64 un] 51 rfl).imp fun _ _ _ => trivial
        case aY2 => rw [rowsB_len, rowsB_len]; simp; omega
        case aY3 => first | omega | (simp; omega)
        intro v2 w4 hown2 hgrow2
        have HB4 := Lib.hid (grown_below (HB3.out.alloc (HB3.out.size) _) hgrow2 (fun g hg => owns_row HO1.out hg) (by simp; omega))
        have hw4 : wr.heap.size ≤ w4.heap.size := HB4.out.size
        have HO2 := Lib.hid hown2
        clear hown2 hgrow2 x0 x1 x2
        have S8 := Lib.hid (S6.out.below HB4.out)
        obtain ⟨y0, y1, yf1, z0, z1, zf0, zf1⟩ := TR.cells S8.out.tr
        go_wp2_with (at_builtin; refine wpList_append_rdK rfl _ _ 28 rfl wr.heap.size 51 (.agg #[.int .i64 0, .int .i64 0, .int .i64 0]) 3 24 infoBt rfl (by decide) (by decide) Try.underlying28 _ _ _ rfl HO2.out (fun _ => True) _ (rowsB ld) rfl ?aZ1 (rowsB_three _) (rowsB_one _) ?aZ2 ?aZ3 ?_)
        case aZ1 => exact (R2.out.below HB4.out).all
        case aZ2 => rw [rowsB_len, rowsB_len, rowsB_len]; simp; omega
        case aZ3 => omega
        intro v3 w5 hown3 hgrow3
        have HB5 := Lib.hid (grown_below HB4.out hgrow3 (fun g hg => owns_row HO2.out hg) hw4)
        have HR := Lib.hid (show RdB w5 (fun b => wr.heap.size ≤ b) v3 (insB l1 ⟨n, i, un⟩) from by
          rw [HE.out]
          have h := rdB_own (l := lt ++ ⟨n, i, un⟩ :: ld) (n := (lt ++ ⟨n, i, un⟩ :: ld).length) (by
            have e : (rowsB (lt ++ ⟨n, i, un⟩ :: ld)).flatten = (rowsB lt).flatten ++ (rowsB [⟨n, i, un⟩]).flatten ++ (rowsB ld).flatten := by unfold rowsB; simp
            have e2 : (lt ++ ⟨n, i, un⟩ :: ld).length = 0 + (rowsB lt).length + (rowsB [⟨n, i, un⟩]).length + (rowsB ld).length := by rw [rowsB_len, rowsB_len, rowsB_len]; simp; omega
            rw [e, e2]
            simpa using hown3) rfl
          exact h)
        clear hown3 hgrow3 y0 y1 yf1 z0 z1 zf0 zf1
        obtain ⟨A3, c3, rfl, _, _⟩ := rdB_form HR.out
        have S9 := Lib.hid (S6.out.below HB5.out)
        obtain ⟨y0, y1, yf1, z0, z1, zf0, zf1⟩ := TR.cells S9.out.tr
        have T9 := Lib.hid (TR.beats (.slice A3 (insB l1 ⟨n, i, un⟩).length c3) S9.out.tr)
        have HR2 := Lib.hid (rdB_only HR.out ((Only.refl w.heap.size w5).setCell 1 (.slice A3 (insB l1 ⟨n, i, un⟩).length c3)) (fun k hk => by omega))
        have ST := Lib.hid (T9.out.tell s (.slice A3 (insB l1 ⟨n, i, un⟩).length c3))
        have HRF := Lib.hid (rdB_only HR2.out ST.out.2.2.1 (fun k hk => by omega))
        clear S6 S7 S8 S9 T9 HR HR2 HB3 HB4 HB5 HO1 HO2 R1 R2
        generalize (insB l1 ⟨n, i, un⟩).length = m at *
        obtain ⟨lf, hlf⟩ : ∃ lf, insB l1 ⟨n, i, un⟩ = lf := ⟨_, rfl⟩
        rw [hlf] at HRF
        have HLF := Lib.hid hlf
        clear hlf
        go_wp2_with fail
        refine bodyPost_ret (results_ctv (g := w.heap.size + 1) (x := .int .i64 0) rfl ?_ ?_ ST.out.1 Try.underlying30 rfl (by kernel_rfl)) rfl ⟨_, rfl, (by rw [HL1.out, HLF.out]; exact HRF.out.imp fun b hb _ => .inr (by omega)), ST.out.2.2.2⟩
        all_goals rfl
    · have dk : decide (k < l1.length) = false := decide_eq_false hlt
      have dk2 : decide ((k : Int) < (l1.length : Int)) = false := decide_eq_false (by omega)
      have HK := Lib.hid (show aheadB l1 n = k by rw [hI, List.drop_of_length_le (by omega)]; rfl)
      clear hI
      have hs1 := fun w => run_slice_hd (P := Try.prog) w 28 51 A1 l1.length c1 k Try.underlying28 Try.sizeOf51 (by omega)
      have hs2' := fun w => run_slice_tl (P := Try.prog) w 28 51 A1 l1.length c1 k Try.underlying28 Try.sizeOf51 (by omega)
      have R1 := rdB_take k HU.out (by omega)
      have R2 := RdK.drop k HU.out (by rw [rowsB_len]; omega)
      generalize sliced A1 k l1.length c1 3 = s2 at hs2' R2
      have e2 : (rowsB l1).drop k = rowsB (l1.drop k) := by unfold rowsB; rw [List.map_drop]
      rw [e2] at R2
      have htl : (l1.take k).length = k := by rw [List.length_take]; omega
      have hdl : (l1.drop k).length = l1.length - k := List.length_drop
      have HE := Lib.hid (insB_eq l1 ⟨n, i, un⟩ k HK.out)
      clear HK e2 HU H
      generalize l1.take k = lt at *
      generalize l1.drop k = ld at *
      have R1 := Lib.hid R1
      have R2 := Lib.hid R2
      go_wp2_with (at_builtin; refine wpList_append_rdK rfl _ _ 28 rfl wr.heap.size 51 (.agg #[.int .i64 0, .int .i64 0, .int .i64 0]) 3 24 infoBt rfl (by decide) (by decide) Try.underlying28 _ 0 [] rfl (World.ownsRow_nil _ _ _ _) (fun _ => True) _ (rowsB lt) rfl ?bX1 (rowsB_three _) (rowsB_one _) ?bX2 (Nat.le_refl _) ?_)
      case bX1 => have h := R1.out.all; rw [← htl] at h; first | exact h | (rw [htl] at h; exact h)
      case bX2 => rw [rowsB_len]; omega
      intro v1 w3 hown1 hgrow1
      have HB3 := Lib.hid (grown_below (Below.refl _ _) hgrow1 (fun g hg => by cases hg) (Nat.le_refl _))
      have hw3 : wr.heap.size ≤ w3.heap.size := HB3.out.size
      have S7 := Lib.hid (S6.out.below HB3.out)
      obtain ⟨x0, x1, x2, _⟩ := S7.out.beat
      have HO1 := Lib.hid hown1
      clear hown1 hgrow1
      go_wp2_with (at_builtin; refine wpList_append_rdK rfl _ _ 28 rfl wr.heap.size 51 (.agg #[.int .i64 0, .int .i64 0, .int .i64 0]) 3 24 infoBt rfl (by decide) (by decide) Try.underlying28 _ _ _ rfl (HO1.out.alloc _) (fun _ => True) _ (rowsB [⟨n, i, un⟩]) rfl ?bY1 (rowsB_three _) (rowsB_one _) ?bY2 ?bY3 ?_)
      case bY1 => exact (rdK_lit1 w3 (Bt.row ⟨n, i, un⟩) #[.int .i64 n, .int .i64 i, .int .i64 un] 51 rfl).imp fun _ _ _ => trivial
      case bY2 => rw [rowsB_len, rowsB_len]; simp; omega
      case bY3 => first | omega | (simp; omega)
      intro v2 w4 hown2 hgrow2
      have HB4 := Lib.hid (grown_below (HB3.out.alloc (HB3.out.size) _) hgrow2 (fun g hg => owns_row HO1.out hg) (by simp; omega))
      have hw4 : wr.heap.size ≤ w4.heap.size := HB4.out.size
      have HO2 := Lib.hid hown2
      clear hown2 hgrow2 x0 x1 x2
      have S8 := Lib.hid (S6.out.below HB4.out)
      obtain ⟨y0, y1, yf1, z0, z1, zf0, zf1⟩ := TR.cells S8.out.tr
      go_wp2_with (at_builtin; refine wpList_append_rdK rfl _ _ 28 rfl wr.heap.size 51 (.agg #[.int .i64 0, .int .i64 0, .int .i64 0]) 3 24 infoBt rfl (by decide) (by decide) Try.underlying28 _ _ _ rfl HO2.out (fun _ => True) _ (rowsB ld) rfl ?bZ1 (rowsB_three _) (rowsB_one _) ?bZ2 ?bZ3 ?_)
      case bZ1 => exact (R2.out.below HB4.out).all
      case bZ2 => rw [rowsB_len, rowsB_len, rowsB_len]; simp; omega
      case bZ3 => omega
      intro v3 w5 hown3 hgrow3
      have HB5 := Lib.hid (grown_below HB4.out hgrow3 (fun g hg => owns_row HO2.out hg) hw4)
      have HR := Lib.hid (show RdB w5 (fun b => wr.heap.size ≤ b) v3 (insB l1 ⟨n, i, un⟩) from by
        rw [HE.out]
        have h := rdB_own (l := lt ++ ⟨n, i, un⟩ :: ld) (n := (lt ++ ⟨n, i, un⟩ :: ld).length) (by
          have e : (rowsB (lt ++ ⟨n, i, un⟩ :: ld)).flatten = (rowsB lt).flatten ++ (rowsB [⟨n, i, un⟩]).flatten ++ (rowsB ld).flatten := by unfold rowsB; simp
          have e2 : (lt ++ ⟨n, i, un⟩ :: ld).length = 0 + (rowsB lt).length + (rowsB [⟨n, i, un⟩]).length + (rowsB ld).length := by rw [rowsB_len, rowsB_len, rowsB_len]; simp; omega
          rw [e, e2]
          simpa using hown3) rfl
        exact h)
      clear hown3 hgrow3 y0 y1 yf1 z0 z1 zf0 zf1
      obtain ⟨A3, c3, rfl, _, _⟩ := rdB_form HR.out
      have S9 := Lib.hid (S6.out.below HB5.out)
      obtain ⟨y0, y1, yf1, z0, z1, zf0, zf1⟩ := TR.cells S9.out.tr
      have T9 := Lib.hid (TR.beats (.slice A3 (insB l1 ⟨n, i, un⟩).length c3) S9.out.tr)
      have HR2 := Lib.hid (rdB_only HR.out ((Only.refl w.heap.size w5).setCell 1 (.slice A3 (insB l1 ⟨n, i, un⟩).length c3)) (fun k hk => by omega))
      have ST := Lib.hid (T9.out.tell s (.slice A3 (insB l1 ⟨n, i, un⟩).length c3))
      have HRF := Lib.hid (rdB_only HR2.out ST.out.2.2.1 (fun k hk => by omega))
      clear S6 S7 S8 S9 T9 HR HR2 HB3 HB4 HB5 HO1 HO2 R1 R2
      generalize (insB l1 ⟨n, i, un⟩).length = m at *
      obtain ⟨lf, hlf⟩ : ∃ lf, insB l1 ⟨n, i, un⟩ = lf := ⟨_, rfl⟩
      rw [hlf] at HRF
      have HLF := Lib.hid hlf
      clear hlf
      go_wp2_with fail
      refine bodyPost_ret (results_ctv (g := w.heap.size + 1) (x := .int .i64 0) rfl ?_ ?_ ST.out.1 Try.underlying30 rfl (by kernel_rfl)) rfl ⟨_, rfl, (by rw [HL1.out, HLF.out]; exact HRF.out.imp fun b hb _ => .inr (by omega)), ST.out.2.2.2⟩
      all_goals rfl
theorem bseen_same (s : Int) (v : Value) (l : List Bt) (n i now : Int) (K : Nat → Prop) (w : World) (hn : l.length ≤ 100000) (h : RdB w K v l) (hs : s ≠ 0) (hm : mayB n i now = true) (k0 : Nat) (hk0 : k0 < l.length) (hz : findB l n = some k0) (hb : beatB l n = some l[k0]) (hi : ¬ i < l[k0].i) (hq : l[k0].i = i) : Calls Try.prog 8 #[tbV s v, .int .i64 n, .int .i64 i, .int .i64 now] w fun e w' => ∃ u, e = .returned (.tuple #[tbV s u, .int .i64 (seenB s l n i now).2]) ∧ RdB w' (fun b => (K b ∧ b < w.heap.size) ∨ w.heap.size + 2 ≤ b) u (seenB s l n i now).1 ∧ Below w.heap.size w w' := by
  rw [(sb_some hs hm hb).2.1 hi hq]
  obtain ⟨A, c, rfl, hc, _⟩ := rdB_form h
  have HR0 := Lib.hid (h.imp (K' := fun b => K b ∧ b < w.heap.size) fun b hb hl => ⟨hb, hl⟩)
  have S0 := Lib.hid (tr_start w (tb2 s (.slice A l.length c)) (tb2 0 (.slice none 0 0)))
  obtain ⟨y0, y1, yf1, z0, z1, zf0, zf1⟩ := TR.cells S0.out
  clear h
  unfold tbV
  have d1 : (s == 0) = false := by simpa using hs
  have hm2 : (0 ≤ n ∧ n ≤ 15) ∧ (1 ≤ i ∧ i ≤ 2147483647) ∧ 0 ≤ now ∧ now ≤ 1099511627776 := by unfold mayB at hm; simp at hm; omega
  have q0 : decide (n < 0) = false := decide_eq_false (by omega)
  have r0 : decide (n < 0) = false := decide_eq_false (by omega)
  have q1 : decide (n > 15) = false := decide_eq_false (by omega)
  have r1 : decide (15 < n) = false := decide_eq_false (by omega)
  have q2 : decide (i < 1) = false := decide_eq_false (by omega)
  have r2 : decide (i < 1) = false := decide_eq_false (by omega)
  have q3 : decide (i > 2147483647) = false := decide_eq_false (by omega)
  have r3 : decide (2147483647 < i) = false := decide_eq_false (by omega)
  have q4 : decide (now < 0) = false := decide_eq_false (by omega)
  have r4 : decide (now < 0) = false := decide_eq_false (by omega)
  have q5 : decide (now > 1099511627776) = false := decide_eq_false (by omega)
  have r5 : decide (1099511627776 < now) = false := decide_eq_false (by omega)
  clear hs hm hm2
  have LT := Lib.hid fun w => rlater_any now s w
  generalize laterV now s = un at *
  have FN := Lib.hid (fun w' (hb : Below w.heap.size w w') => bfind_any _ l n _ w' hn (HR0.out.below hb))
  have WB := Lib.hid (fun w' (hb : Below w.heap.size w w') => bwob_any _ l n _ w' hn (HR0.out.below hb))
  have S5 := Lib.hid (tx_start w (tb2 s (.slice A l.length c)) (tb2 0 (.slice none 0 0)) ⟨n, i, un⟩)
  unfold tb2 at S5
  have hz2 : findZB l n = (k0 : Int) := by unfold findZB; rw [hz]
  rw [hz2] at FN
  obtain ⟨ba, oa, rfl, hbl, e0, e1, e2⟩ := rdB_at HR0.out hk0
  have e5 := (S5.out.tr.bel.cell (p := ⟨ba, oa + k0 * 3 + 1, none⟩) hbl).trans e1
  have e6 := (S5.out.tr.bel.cell (p := ⟨ba, oa + k0 * 3 + 2, none⟩) hbl).trans e2
  have v0 : decide ((k0 : Int) ≥ 0) = true := decide_eq_true (by omega)
  have v1 : (0 : Int) ≤ (k0 : Int) := by omega
  have v2 : (k0 : Int) < (l.length : Int) := by omega
  have dg : decide (l[k0].i > i) = false := decide_eq_false hi
  have dg2 : decide (i < l[k0].i) = false := decide_eq_false hi
  have dq : (l[k0].i == i) = true := by simpa using hq
  generalize l[k0] = T at *
  clear hz hz2 hb hi hq
  unfold putB
  go_enter Try.func8, Try.ntmps8
  go_wp2_with fail
  refine (LT.out _).mono ?_; rintro e w1 ⟨rfl, rfl⟩
  go_wp2_with fail
  refine (FN.out _ S5.out.tr.bel).mono ?_; rintro e w1 ⟨rfl, rfl⟩
  clear LT FN S0
  clear y0 y1 yf1 z0 z1 zf0 zf1
  obtain ⟨y0, y1, yf1, z0, z1, zf0, zf1⟩ := TR.cells S5.out.tr
  have HI0 := Lib.hid S5.out.draws
  have SLV := Lib.hid (show ∀ p w', C11 w (tb2 s (.slice (some ⟨ba, oa, none⟩) l.length c)) (tb2 0 (.slice none 0 0)) ⟨n, i, un⟩ (max un T.u) p w' → (w'.cell? ⟨w.heap.size, 0, none⟩ = some (.int .i64 s) ∧ w'.cell? ⟨w.heap.size, 1, none⟩ = some (.slice (some ⟨ba, oa, none⟩) l.length c)) ∧ w'.cell? ⟨ba, oa + k0 * 3 + 2, none⟩ = some (.int .i64 T.u) from fun p w' hC => ⟨⟨(TR.cells (c11_tr hC)).1, (TR.cells (c11_tr hC)).2.1⟩, ((c11_tr hC).bel.cell (p := ⟨ba, oa + k0 * 3 + 2, none⟩) hbl).trans e2⟩)
  go_wp2_with fail
  clear y0 y1 yf1 z0 z1 zf0 zf1 e0 e1 e2 e5 e6
  refine wp_region_holdP [10] (C11 w (tb2 s (.slice (some ⟨ba, oa, none⟩) l.length c)) (tb2 0 (.slice none 0 0)) ⟨n, i, un⟩ (max un T.u)) (by kernel_rfl) (by kernel_rfl) HI0.out ?_
  refine holdP_val (v := ?_) (by rfl) ?_ ?_ ?_
  rotate_left
  · simp [Region.wanted]
  · intro p w' hC
    clear hC
    go_simp
    try with_reducible rfl
  refine holdP_valA (v := .int .i64 un) 0 10 _ rfl rfl (by kernel_rfl) (by rfl) ?_ (fun p w' hp hC => ?_) ?_
  · simp [Region.wanted]
  · obtain ⟨x0, x1, x2, xf⟩ := (c11_x hp hC).beat
    clear hC
    go_simp
    try with_reducible rfl
  repeat
    refine holdP_val (v := ?_) (by rfl) ?_ ?_ ?_
    rotate_left
    · first
      | (simp [Region.wanted]; done)
      | (simp [Region.wanted, yielded, Act.put]; done)
    · intro p w' hC
      obtain ⟨⟨y0, y1⟩, y2⟩ := SLV.out p w' hC
      clear hC
      go_simp
      try with_reducible rfl
  refine holdP_store 0 rfl ?_ (fun w' hC => ⟨w'.setCell ⟨w.heap.size + 2, 2, none⟩ (.int .i64 (max un T.u)), ?_, TX.until _ hC⟩) ?_
  · simp [Region.wanted]
  · obtain ⟨x0, x1, x2, xf⟩ := TX.beat hC
    clear hC
    go_simp
    try with_reducible rfl
  refine holdP_nil (fun w3 hC => ?_)
  have S5b := Lib.hid (show TX w (tb2 s (.slice (some ⟨ba, oa, none⟩) l.length c)) (tb2 0 (.slice none 0 0)) ⟨n, i, max un T.u⟩ w3 from hC)
  clear hC SLV HI0 S5
  obtain ⟨mx, hmx⟩ : ∃ mx, (max un T.u) = mx := ⟨_, rfl⟩
  rw [hmx] at S5b
  have HMX := Lib.hid hmx
  clear hmx
  obtain ⟨y0, y1, yf1, z0, z1, zf0, zf1⟩ := TR.cells S5b.out.tr
  go_wp2_with fail
  refine (WB.out _ S5b.out.tr.bel).mono ?_; rintro e w2 ⟨u, rfl, hu, hb2⟩
  have S6 := Lib.hid (S5b.out.below hb2)
  have hs2 : w.heap.size + 3 ≤ w2.heap.size := S6.out.size
  have hld := wobB_len l n
  obtain ⟨l1, hl1⟩ : ∃ l1, wobB l n = l1 := ⟨_, rfl⟩
  rw [hl1] at hu hld
  have HL1 := Lib.hid hl1
  clear hl1
  have HU := Lib.hid (hu.imp (K' := fun b => w.heap.size + 3 ≤ b ∧ b < w2.heap.size) fun b hb hl => ⟨by have := S5b.out.size; omega, hl⟩)
  obtain ⟨A1, c1, rfl, hc1, _⟩ := rdB_form hu
  have H := Lib.hid fun k (hk : k < l1.length) => rdB_at HU.out hk
  clear hu hb2 WB
  clear y0 y1 yf1 z0 z1 zf0 zf1
  go_wp2_with fail
  go_loopw [13] (fun i wr => ∃ k : Nat, k ≤ l1.length ∧ i = .int .i64 k ∧ aheadB l1 n = k + aheadB (l1.drop k) n ∧ wr = w2) (fun i _ => l1.length - (intOf i).toNat)
  case atStart => exact ⟨0, by omega, rfl, by simp, rfl⟩
  case round =>
    obtain ⟨k, hk, rfl, hI, rfl⟩ := hrel
    by_cases hlt : k < l1.length
    · obtain ⟨b1, o1, rfl, hbl1, g0, g1, g2⟩ := H.out k hlt
      have dk : decide (k < l1.length) = true := decide_eq_true hlt
      have dk2 : decide ((k : Int) < (l1.length : Int)) = true := decide_eq_true (by omega)
      have i0k : (0 : Int) ≤ (k : Int) := by omega
      have i1k : (k : Int) < (l1.length : Int) := by omega
      have HS := Lib.hid (aheadB_step l1 n k hlt hI)
      clear hI
      by_cases t1 : l1[k].n < n
      · have dt : decide (l1[k].n < n) = true := decide_eq_true t1
        have HI := Lib.hid (HS.out.1 t1)
        generalize l1[k] = T at *
        clear HS t1
        go_wp2_with fail
        go_roundw
        case rel => exact ⟨k + 1, by omega, by go_num, HI.out, trivial⟩
        case measure => simp [intOf]; omega
      · have dt : decide (l1[k].n < n) = false := decide_eq_false t1
        have HK := Lib.hid (HS.out.2 t1)
        generalize l1[k] = T at *
        clear HS t1
        have hs1 := fun w => run_slice_hd (P := Try.prog) w 28 51 (some ⟨b1, o1, none⟩) l1.length c1 k Try.underlying28 Try.sizeOf51 (by omega)
        have hs2' := fun w => run_slice_tl (P := Try.prog) w 28 51 (some ⟨b1, o1, none⟩) l1.length c1 k Try.underlying28 Try.sizeOf51 (by omega)
        have R1 := rdB_take k HU.out (by omega)
        have R2 := RdK.drop k HU.out (by rw [rowsB_len]; omega)
        generalize sliced (some ⟨b1, o1, none⟩) k l1.length c1 3 = s2 at hs2' R2
        have e2 : (rowsB l1).drop k = rowsB (l1.drop k) := by unfold rowsB; rw [List.map_drop]
        rw [e2] at R2
        have htl : (l1.take k).length = k := by rw [List.length_take]; omega
        have hdl : (l1.drop k).length = l1.length - k := List.length_drop
        have HE := Lib.hid (insB_eq l1 ⟨n, i, mx⟩ k HK.out)
        clear HK e2 HU H
        generalize l1.take k = lt at *
        generalize l1.drop k = ld at *
        have R1 := Lib.hid R1
        have R2 := Lib.hid R2
        go_wp2_with (at_builtin; refine wpList_append_rdK rfl _ _ 28 rfl wr.heap.size 51 (.agg #[.int .i64 0, .int .i64 0, .int .i64 0]) 3 24 infoBt rfl (by decide) (by decide) Try.underlying28 _ 0 [] rfl (World.ownsRow_nil _ _ _ _) (fun _ => True) _ (rowsB lt) rfl ?aX1 (rowsB_three _) (rowsB_one _) ?aX2 (Nat.le_refl _) ?_)
        case aX1 => have h := R1.out.all; rw [← htl] at h; first | exact h | (rw [htl] at h; exact h)
        case aX2 => rw [rowsB_len]; omega
        intro v1 w3 hown1 hgrow1
        have HB3 := Lib.hid (grown_below (Below.refl _ _) hgrow1 (fun g hg => by cases hg) (Nat.le_refl _))
        have hw3 : wr.heap.size ≤ w3.heap.size := HB3.out.size
        have S7 := Lib.hid (S6.out.below HB3.out)
        obtain ⟨x0, x1, x2, _⟩ := S7.out.beat
        have HO1 := Lib.hid hown1
        clear hown1 hgrow1
        go_wp2_with (at_builtin; refine wpList_append_rdK rfl _ _ 28 rfl wr.heap.size 51 (.agg #[.int .i64 0, .int .i64 0, .int .i64 0]) 3 24 infoBt rfl (by decide) (by decide) Try.underlying28 _ _ _ rfl (HO1.out.alloc _) (fun _ => True) _ (rowsB [⟨n, i, mx⟩]) rfl ?aY1 (rowsB_three _) (rowsB_one _) ?aY2 ?aY3 ?_)
        case aY1 => exact (rdK_lit1 w3 (Bt.row ⟨n, i, mx⟩) #[.int .i64 n, .int .i64 i, .int .i64 mx] 51 rfl).imp fun _ _ _ => trivial
        case aY2 => rw [rowsB_len, rowsB_len]; simp; omega
        case aY3 => first | omega | (simp; omega)
        intro v2 w4 hown2 hgrow2
        have HB4 := Lib.hid (grown_below (HB3.out.alloc (HB3.out.size) _) hgrow2 (fun g hg => owns_row HO1.out hg) (by simp; omega))
        have hw4 : wr.heap.size ≤ w4.heap.size := HB4.out.size
        have HO2 := Lib.hid hown2
        clear hown2 hgrow2 x0 x1 x2
        have S8 := Lib.hid (S6.out.below HB4.out)
        obtain ⟨y0, y1, yf1, z0, z1, zf0, zf1⟩ := TR.cells S8.out.tr
        go_wp2_with (at_builtin; refine wpList_append_rdK rfl _ _ 28 rfl wr.heap.size 51 (.agg #[.int .i64 0, .int .i64 0, .int .i64 0]) 3 24 infoBt rfl (by decide) (by decide) Try.underlying28 _ _ _ rfl HO2.out (fun _ => True) _ (rowsB ld) rfl ?aZ1 (rowsB_three _) (rowsB_one _) ?aZ2 ?aZ3 ?_)
        case aZ1 => exact (R2.out.below HB4.out).all
        case aZ2 => rw [rowsB_len, rowsB_len, rowsB_len]; simp; omega
        case aZ3 => omega
        intro v3 w5 hown3 hgrow3
        have HB5 := Lib.hid (grown_below HB4.out hgrow3 (fun g hg => owns_row HO2.out hg) hw4)
        have HR := Lib.hid (show RdB w5 (fun b => wr.heap.size ≤ b) v3 (insB l1 ⟨n, i, mx⟩) from by
          rw [HE.out]
          have h := rdB_own (l := lt ++ ⟨n, i, mx⟩ :: ld) (n := (lt ++ ⟨n, i, mx⟩ :: ld).length) (by
            have e : (rowsB (lt ++ ⟨n, i, mx⟩ :: ld)).flatten = (rowsB lt).flatten ++ (rowsB [⟨n, i, mx⟩]).flatten ++ (rowsB ld).flatten := by unfold rowsB; simp
            have e2 : (lt ++ ⟨n, i, mx⟩ :: ld).length = 0 + (rowsB lt).length + (rowsB [⟨n, i, mx⟩]).length + (rowsB ld).length := by rw [rowsB_len, rowsB_len, rowsB_len]; simp; omega
            rw [e, e2]
            simpa using hown3) rfl
          exact h)
        clear hown3 hgrow3 y0 y1 yf1 z0 z1 zf0 zf1
        obtain ⟨A3, c3, rfl, _, _⟩ := rdB_form HR.out
        have S9 := Lib.hid (S6.out.below HB5.out)
        obtain ⟨y0, y1, yf1, z0, z1, zf0, zf1⟩ := TR.cells S9.out.tr
        have T9 := Lib.hid (TR.beats (.slice A3 (insB l1 ⟨n, i, mx⟩).length c3) S9.out.tr)
        have HR2 := Lib.hid (rdB_only HR.out ((Only.refl w.heap.size w5).setCell 1 (.slice A3 (insB l1 ⟨n, i, mx⟩).length c3)) (fun k hk => by omega))
        have ST := Lib.hid (T9.out.tell s (.slice A3 (insB l1 ⟨n, i, mx⟩).length c3))
        have HRF := Lib.hid (rdB_only HR2.out ST.out.2.2.1 (fun k hk => by omega))
        clear S6 S7 S8 S9 T9 HR HR2 HB3 HB4 HB5 HO1 HO2 R1 R2
        generalize (insB l1 ⟨n, i, mx⟩).length = m at *
        obtain ⟨lf, hlf⟩ : ∃ lf, insB l1 ⟨n, i, mx⟩ = lf := ⟨_, rfl⟩
        rw [hlf] at HRF
        have HLF := Lib.hid hlf
        clear hlf
        go_wp2_with fail
        refine bodyPost_ret (results_ctv (g := w.heap.size + 1) (x := .int .i64 0) rfl ?_ ?_ ST.out.1 Try.underlying30 rfl (by kernel_rfl)) rfl ⟨_, rfl, (by rw [HMX.out, HL1.out, HLF.out]; exact HRF.out.imp fun b hb _ => .inr (by omega)), ST.out.2.2.2⟩
        all_goals rfl
    · have dk : decide (k < l1.length) = false := decide_eq_false hlt
      have dk2 : decide ((k : Int) < (l1.length : Int)) = false := decide_eq_false (by omega)
      have HK := Lib.hid (show aheadB l1 n = k by rw [hI, List.drop_of_length_le (by omega)]; rfl)
      clear hI
      have hs1 := fun w => run_slice_hd (P := Try.prog) w 28 51 A1 l1.length c1 k Try.underlying28 Try.sizeOf51 (by omega)
      have hs2' := fun w => run_slice_tl (P := Try.prog) w 28 51 A1 l1.length c1 k Try.underlying28 Try.sizeOf51 (by omega)
      have R1 := rdB_take k HU.out (by omega)
      have R2 := RdK.drop k HU.out (by rw [rowsB_len]; omega)
      generalize sliced A1 k l1.length c1 3 = s2 at hs2' R2
      have e2 : (rowsB l1).drop k = rowsB (l1.drop k) := by unfold rowsB; rw [List.map_drop]
      rw [e2] at R2
      have htl : (l1.take k).length = k := by rw [List.length_take]; omega
      have hdl : (l1.drop k).length = l1.length - k := List.length_drop
      have HE := Lib.hid (insB_eq l1 ⟨n, i, mx⟩ k HK.out)
      clear HK e2 HU H
      generalize l1.take k = lt at *
      generalize l1.drop k = ld at *
      have R1 := Lib.hid R1
      have R2 := Lib.hid R2
      go_wp2_with (at_builtin; refine wpList_append_rdK rfl _ _ 28 rfl wr.heap.size 51 (.agg #[.int .i64 0, .int .i64 0, .int .i64 0]) 3 24 infoBt rfl (by decide) (by decide) Try.underlying28 _ 0 [] rfl (World.ownsRow_nil _ _ _ _) (fun _ => True) _ (rowsB lt) rfl ?bX1 (rowsB_three _) (rowsB_one _) ?bX2 (Nat.le_refl _) ?_)
      case bX1 => have h := R1.out.all; rw [← htl] at h; first | exact h | (rw [htl] at h; exact h)
      case bX2 => rw [rowsB_len]; omega
      intro v1 w3 hown1 hgrow1
      have HB3 := Lib.hid (grown_below (Below.refl _ _) hgrow1 (fun g hg => by cases hg) (Nat.le_refl _))
      have hw3 : wr.heap.size ≤ w3.heap.size := HB3.out.size
      have S7 := Lib.hid (S6.out.below HB3.out)
      obtain ⟨x0, x1, x2, _⟩ := S7.out.beat
      have HO1 := Lib.hid hown1
      clear hown1 hgrow1
      go_wp2_with (at_builtin; refine wpList_append_rdK rfl _ _ 28 rfl wr.heap.size 51 (.agg #[.int .i64 0, .int .i64 0, .int .i64 0]) 3 24 infoBt rfl (by decide) (by decide) Try.underlying28 _ _ _ rfl (HO1.out.alloc _) (fun _ => True) _ (rowsB [⟨n, i, mx⟩]) rfl ?bY1 (rowsB_three _) (rowsB_one _) ?bY2 ?bY3 ?_)
      case bY1 => exact (rdK_lit1 w3 (Bt.row ⟨n, i, mx⟩) #[.int .i64 n, .int .i64 i, .int .i64 mx] 51 rfl).imp fun _ _ _ => trivial
      case bY2 => rw [rowsB_len, rowsB_len]; simp; omega
      case bY3 => first | omega | (simp; omega)
      intro v2 w4 hown2 hgrow2
      have HB4 := Lib.hid (grown_below (HB3.out.alloc (HB3.out.size) _) hgrow2 (fun g hg => owns_row HO1.out hg) (by simp; omega))
      have hw4 : wr.heap.size ≤ w4.heap.size := HB4.out.size
      have HO2 := Lib.hid hown2
      clear hown2 hgrow2 x0 x1 x2
      have S8 := Lib.hid (S6.out.below HB4.out)
      obtain ⟨y0, y1, yf1, z0, z1, zf0, zf1⟩ := TR.cells S8.out.tr
      go_wp2_with (at_builtin; refine wpList_append_rdK rfl _ _ 28 rfl wr.heap.size 51 (.agg #[.int .i64 0, .int .i64 0, .int .i64 0]) 3 24 infoBt rfl (by decide) (by decide) Try.underlying28 _ _ _ rfl HO2.out (fun _ => True) _ (rowsB ld) rfl ?bZ1 (rowsB_three _) (rowsB_one _) ?bZ2 ?bZ3 ?_)
      case bZ1 => exact (R2.out.below HB4.out).all
      case bZ2 => rw [rowsB_len, rowsB_len, rowsB_len]; simp; omega
      case bZ3 => omega
      intro v3 w5 hown3 hgrow3
      have HB5 := Lib.hid (grown_below HB4.out hgrow3 (fun g hg => owns_row HO2.out hg) hw4)
      have HR := Lib.hid (show RdB w5 (fun b => wr.heap.size ≤ b) v3 (insB l1 ⟨n, i, mx⟩) from by
        rw [HE.out]
        have h := rdB_own (l := lt ++ ⟨n, i, mx⟩ :: ld) (n := (lt ++ ⟨n, i, mx⟩ :: ld).length) (by
          have e : (rowsB (lt ++ ⟨n, i, mx⟩ :: ld)).flatten = (rowsB lt).flatten ++ (rowsB [⟨n, i, mx⟩]).flatten ++ (rowsB ld).flatten := by unfold rowsB; simp
          have e2 : (lt ++ ⟨n, i, mx⟩ :: ld).length = 0 + (rowsB lt).length + (rowsB [⟨n, i, mx⟩]).length + (rowsB ld).length := by rw [rowsB_len, rowsB_len, rowsB_len]; simp; omega
          rw [e, e2]
          simpa using hown3) rfl
        exact h)
      clear hown3 hgrow3 y0 y1 yf1 z0 z1 zf0 zf1
      obtain ⟨A3, c3, rfl, _, _⟩ := rdB_form HR.out
      have S9 := Lib.hid (S6.out.below HB5.out)
      obtain ⟨y0, y1, yf1, z0, z1, zf0, zf1⟩ := TR.cells S9.out.tr
      have T9 := Lib.hid (TR.beats (.slice A3 (insB l1 ⟨n, i, mx⟩).length c3) S9.out.tr)
      have HR2 := Lib.hid (rdB_only HR.out ((Only.refl w.heap.size w5).setCell 1 (.slice A3 (insB l1 ⟨n, i, mx⟩).length c3)) (fun k hk => by omega))
      have ST := Lib.hid (T9.out.tell s (.slice A3 (insB l1 ⟨n, i, mx⟩).length c3))
      have HRF := Lib.hid (rdB_only HR2.out ST.out.2.2.1 (fun k hk => by omega))
      clear S6 S7 S8 S9 T9 HR HR2 HB3 HB4 HB5 HO1 HO2 R1 R2
      generalize (insB l1 ⟨n, i, mx⟩).length = m at *
      obtain ⟨lf, hlf⟩ : ∃ lf, insB l1 ⟨n, i, mx⟩ = lf := ⟨_, rfl⟩
      rw [hlf] at HRF
      have HLF := Lib.hid hlf
      clear hlf
      go_wp2_with fail
      refine bodyPost_ret (results_ctv (g := w.heap.size + 1) (x := .int .i64 0) rfl ?_ ?_ ST.out.1 Try.underlying30 rfl (by kernel_rfl)) rfl ⟨_, rfl, (by rw [HMX.out, HL1.out, HLF.out]; exact HRF.out.imp fun b hb _ => .inr (by omega)), ST.out.2.2.2⟩
      all_goals rfl
theorem bseen_any (s : Int) (v : Value) (l : List Bt) (n i now : Int) (K : Nat → Prop) (w : World) (hn : l.length ≤ 100000) (h : RdB w K v l) : Calls Try.prog 8 #[tbV s v, .int .i64 n, .int .i64 i, .int .i64 now] w fun e w' => ∃ u, e = .returned (.tuple #[tbV s u, .int .i64 (seenB s l n i now).2]) ∧ RdB w' (fun b => (K b ∧ b < w.heap.size) ∨ w.heap.size + 2 ≤ b) u (seenB s l n i now).1 ∧ Below w.heap.size w w' := by
  by_cases hs : s = 0
  · exact bseen_zero s v l n i now K w hn h hs
  · cases hm : mayB n i now with
    | false => exact bseen_not s v l n i now K w hn h hs hm
    | true =>
      rcases findB_beat l n with ⟨h1, h2⟩ | ⟨k, hk, h1, h2, h3⟩
      · exact bseen_none s v l n i now K w hn h hs hm h1 h2
      · by_cases hi : i < l[k].i
        · exact bseen_fence s v l n i now K w hn h hs hm k hk h1 h3 hi
        · by_cases hq : l[k].i = i
          · exact bseen_same s v l n i now K w hn h hs hm k hk h1 h3 hi hq
          · exact bseen_new s v l n i now K w hn h hs hm k hk h1 h3 hi hq
end Go.Proofs.Ytdlkpkigpnlanaa
