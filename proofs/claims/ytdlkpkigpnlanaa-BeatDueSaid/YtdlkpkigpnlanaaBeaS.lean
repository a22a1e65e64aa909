/- What the document's own Drop of a table of beats comes to. Conditions: tables of at most 100,000 beats. -/
import Derived.Test.YtdlkpkigpnlanaaBeaR
import Derived.Test.YtdlkpkigpnlanaaHoldR
namespace Go.Proofs.Ytdlkpkigpnlanaa
open Go.ChangeShapes Go.WideShapes Go.ChangeAt Go.RowKit
set_option linter.unusedVariables false
set_option maxRecDepth 100000
set_option linter.unusedSimpArgs false
set_option maxHeartbeats 2000000

/-- A table's value: its span, its beats. -/
def tbV (s : Int) (v : Value) : Value := .agg #[.int .i64 s, v]
def tb2 (s : Int) (v : Value) : Array Value := #[.int .i64 s, v]
theorem results_ctv {P : Program} {fn : Func} {p u : Tmp} {ty : TypeId} (h : fn.results = #[.cell p ty, .tmp u]) {tmps : Array Value} {w : World} {g : Nat} {t : TypeId} {cs : Array Value} {d : TypeDesc} {x : Value}
    (hp : tmps.getD p undef = .pointer (some ⟨g, 0, none⟩)) (hx : tmps.getD u undef = x) (hg : w.heap[g]? = some (.cells cs t (0, 0)))
    (hu : P.underlying ty = some d) (hd : (match d with | .struct _ | .array _ _ => true | _ => false) = true) (hi : (P.info? ty).map (·.size) = some cs.size) : (results fn tmps).run P w = .ok (.tuple #[.agg cs, x]) w := by
  have hp' : tmps[p]?.getD undef = .pointer (some ⟨g, 0, none⟩) := by simpa using hp
  have hx' : tmps[u]?.getD undef = x := by simpa using hx
  simp [results, h, hp', hx', asAddr, run_loadVar_row w g t ty cs (0, 0) d hg hu hd hi]
/-- The two blocks of a call: the table, what it tells. -/
structure TR (wL : World) (bx rs : Array Value) (w : World) : Prop where
  box : w.heap[wL.heap.size]? = some (.cells bx 30 (0, 0))
  res : w.heap[wL.heap.size + 1]? = some (.cells rs 30 (0, 0))
  bel : Below wL.heap.size wL w
theorem tr_start (wL : World) (bx rs : Array Value) : TR wL bx rs ((wL.alloc (.cells bx 30)).alloc (.cells rs 30)) := by
  have e1 : (wL.alloc (.cells bx 30)).heap.size = wL.heap.size + 1 := by simp
  refine ⟨blk_old _ (blk_new _ _), ?_, ((Below.refl _ wL).alloc (Nat.le_refl _) _).alloc (by simp) _⟩
  have := blk_new (wL.alloc (.cells bx 30)) (.cells rs 30)
  rwa [e1] at this
section
variable {wL w w' : World} {bx rs : Array Value} {s t : Int} {v u : Value}
theorem TR.below (h : TR wL bx rs w) (hb : Below w.heap.size w w') : TR wL bx rs w' :=
  ⟨blk_below hb h.box (lt_of_block h.box), blk_below hb h.res (lt_of_block h.res), h.bel.trans (hb.mono h.bel.size)⟩
theorem TR.draws (h : TR wL bx rs w) : TR wL bx rs w.drew := h.below ⟨rfl, rfl, rfl, Nat.le_refl _, fun _ _ => rfl⟩
theorem TR.cells (h : TR wL (tb2 s v) (tb2 t u) w) : w.cell? ⟨wL.heap.size, 0, none⟩ = some (.int .i64 s) ∧ w.cell? ⟨wL.heap.size, 1, none⟩ = some v ∧ w.frozen? ⟨wL.heap.size, 1, none⟩ = false ∧
    w.cell? ⟨wL.heap.size + 1, 0, none⟩ = some (.int .i64 t) ∧ w.cell? ⟨wL.heap.size + 1, 1, none⟩ = some u ∧ w.frozen? ⟨wL.heap.size + 1, 0, none⟩ = false ∧ w.frozen? ⟨wL.heap.size + 1, 1, none⟩ = false :=
  ⟨by rw [blk_cell h.box]; rfl, by rw [blk_cell h.box]; rfl, blk_free h.box 1, by rw [blk_cell h.res]; rfl, by rw [blk_cell h.res]; rfl, blk_free h.res 0, blk_free h.res 1⟩
theorem TR.beats (x : Value) (h : TR wL (tb2 s v) rs w) : TR wL (tb2 s x) rs (w.setCell ⟨wL.heap.size, 1, none⟩ x) :=
  ⟨blk_set h.box 1 _, blk_far (p := ⟨wL.heap.size, 1, none⟩) _ h.res (by simp), h.bel.trans (((Only.refl wL.heap.size w).setCell 1 x).below (Nat.le_refl _) h.bel.size)⟩
theorem TR.tell (a : Int) (x : Value) (h : TR wL bx (tb2 t u) w) :
    ((w.setCell ⟨wL.heap.size + 1, 0, none⟩ (.int .i64 a)).setCell ⟨wL.heap.size + 1, 1, none⟩ x).heap[wL.heap.size + 1]? = some (.cells #[.int .i64 a, x] 30 (0, 0)) ∧
    Below w.heap.size w w ∧ Only (wL.heap.size + 1) w ((w.setCell ⟨wL.heap.size + 1, 0, none⟩ (.int .i64 a)).setCell ⟨wL.heap.size + 1, 1, none⟩ x) ∧
    Below wL.heap.size wL ((w.setCell ⟨wL.heap.size + 1, 0, none⟩ (.int .i64 a)).setCell ⟨wL.heap.size + 1, 1, none⟩ x) :=
  ⟨blk_set (blk_set h.res 0 _) 1 _, Below.refl _ _, ((Only.refl (wL.heap.size + 1) w).setCell 0 _).setCell 1 _, h.bel.trans ((((Only.refl (wL.heap.size + 1) w).setCell 0 _).setCell 1 _).below (Nat.le_succ _) h.bel.size)⟩
/-- A row that the call had come in with, and what is the call's own, stays when the call writes its own two blocks. -/
theorem rdB_only {K : Nat → Prop} {l : List Bt} {b : Nat} (h : RdB w K v l) (ho : Only b w w') (hK : ∀ k, K k → k ≠ b) : RdB w' K v l :=
  h.keep (fun k hk hl => ho.block k hl (hK k hk)) ho.size
end
theorem bdrop_any (s : Int) (v : Value) (l : List Bt) (n i : Int) (K : Nat → Prop) (w : World) (hn : l.length ≤ 100000) (h : RdB w K v l) :
    Calls Try.prog 10 #[tbV s v, .int .i64 n, .int .i64 i] w fun e w' => ∃ u, e = .returned (.tuple #[tbV s u, .bool (dropB l n i).2]) ∧ RdB w' (fun b => (K b ∧ b < w.heap.size) ∨ w.heap.size + 2 ≤ b) u (dropB l n i).1 ∧ Below w.heap.size w w' := by
  obtain ⟨A, c, rfl, hc, _⟩ := rdB_form h
  have HR0 := Lib.hid (h.imp (K' := fun b => K b ∧ b < w.heap.size) fun b hb hl => ⟨hb, hl⟩)
  have S0 := Lib.hid (tr_start w (tb2 s (.slice A l.length c)) (tb2 0 (.slice none 0 0)))
  have FN := Lib.hid (fun w' (hb : Below w.heap.size w w') => bfind_any _ l n _ w' hn (HR0.out.below hb))
  have WB := Lib.hid (fun w' (hb : Below w.heap.size w w') => bwob_any _ l n _ w' hn (HR0.out.below hb))
  have HA := Lib.hid fun k (hk : k < l.length) => rdB_at HR0.out hk
  unfold tbV dropB
  unfold tb2 at S0
  obtain ⟨y0, y1, yf1, z0, z1, zf0, zf1⟩ := TR.cells (show TR w (tb2 s (.slice A l.length c)) (tb2 0 (.slice none 0 0)) _ from S0.out)
  clear h
  rcases findB_beat l n with ⟨h1, h2⟩ | ⟨k, hk, h1, h2, h3⟩
  · rw [h2]
    have hz : findZB l n = -1 := by unfold findZB; rw [h1]
    rw [hz] at FN
    clear hz h1 h2 HA WB
    go_enter Try.func10, Try.ntmps10
    go_wp2_with fail
    refine (FN.out _ S0.out.bel).mono ?_; rintro e w1 ⟨rfl, rfl⟩
    clear FN
    have SX := Lib.hid (tr_start w (tb2 s (.slice A l.length c)) (tb2 s (.slice A l.length c)))
    have HRF := Lib.hid (HR0.out.below SX.out.bel)
    go_wp2_with fail
    refine bodyPost_ret (results_ctv (g := w.heap.size + 1) (x := .bool false) rfl ?_ ?_ SX.out.res Try.underlying30 rfl (by kernel_rfl)) rfl ⟨_, rfl, HRF.out.imp fun b hb _ => .inl hb, SX.out.bel⟩
    all_goals rfl
  · rw [h3]
    have hz : findZB l n = (k : Int) := by unfold findZB; rw [h1]
    rw [hz] at FN
    obtain ⟨b, o, rfl, hbl, g0, g1, g2⟩ := HA.out k hk
    have k0 : decide ((k : Int) < 0) = false := decide_eq_false (by omega)
    have k1 : (0 : Int) ≤ (k : Int) := by omega
    have k2 : (k : Int) < (l.length : Int) := by omega
    by_cases he : l[k].i = i
    · have de : (l[k].i != i) = false := by simpa using he
      simp only [if_pos he]
      generalize l[k] = T at *
      clear hz h1 h2 h3 he HA
      go_enter Try.func10, Try.ntmps10
      go_wp2_with fail
      refine (FN.out _ S0.out.bel).mono ?_; rintro e w1 ⟨rfl, rfl⟩
      clear FN
      go_wp2_with fail
      refine (WB.out _ S0.out.bel).mono ?_; rintro e w2 ⟨u, rfl, hu, hb2⟩
      have S2 := Lib.hid (TR.below S0.out hb2)
      have hs2 : w.heap.size + 2 ≤ w2.heap.size := by have := hb2.size; simp at this; omega
      have HU := Lib.hid (hu.imp (K' := fun b => w.heap.size + 2 ≤ b) fun b hb _ => by simp at hb; omega)
      obtain ⟨A2, c2, rfl, _, _⟩ := rdB_form hu
      clear hu hb2 WB y0 y1 yf1 z0 z1 zf0 zf1 g0 g1 g2
      obtain ⟨y0, y1, yf1, z0, z1, zf0, zf1⟩ := TR.cells (show TR w (tb2 s (.slice (some ⟨b, o, none⟩) l.length c)) (tb2 0 (.slice none 0 0)) _ from S2.out)
      have S3 := Lib.hid (TR.beats (.slice A2 (wobB l n).length c2) (show TR w (tb2 s (.slice (some ⟨b, o, none⟩) l.length c)) (tb2 0 (.slice none 0 0)) _ from S2.out))
      have HU3 := Lib.hid (rdB_only HU.out ((Only.refl w.heap.size w2).setCell 1 (.slice A2 (wobB l n).length c2)) (fun k hk => by omega))
      have ST := Lib.hid (S3.out.tell s (.slice A2 (wobB l n).length c2))
      have HRF := Lib.hid (rdB_only HU3.out ST.out.2.2.1 (fun k hk => by omega))
      clear S0 S2 S3 HU HU3 HR0
      generalize (wobB l n).length = m at *
      go_wp2_with fail
      refine bodyPost_ret (results_ctv (g := w.heap.size + 1) (x := .bool true) rfl ?_ ?_ ST.out.1 Try.underlying30 rfl (by kernel_rfl)) rfl ⟨_, rfl, HRF.out.imp fun b hb _ => .inr hb, ST.out.2.2.2⟩
      all_goals rfl
    · have de : (l[k].i != i) = true := by simpa using he
      simp only [if_neg he]
      generalize l[k] = T at *
      clear hz h1 h2 h3 he HA WB
      go_enter Try.func10, Try.ntmps10
      go_wp2_with fail
      refine (FN.out _ S0.out.bel).mono ?_; rintro e w1 ⟨rfl, rfl⟩
      clear FN
      have SX := Lib.hid (tr_start w (tb2 s (.slice (some ⟨b, o, none⟩) l.length c)) (tb2 s (.slice (some ⟨b, o, none⟩) l.length c)))
      have HRF := Lib.hid (HR0.out.below SX.out.bel)
      go_wp2_with fail
      refine bodyPost_ret (results_ctv (g := w.heap.size + 1) (x := .bool false) rfl ?_ ?_ SX.out.res Try.underlying30 rfl (by kernel_rfl)) rfl ⟨_, rfl, HRF.out.imp fun b hb _ => .inl hb, SX.out.bel⟩
      all_goals rfl
end Go.Proofs.Ytdlkpkigpnlanaa
