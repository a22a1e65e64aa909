/- The frame of WheelPlays; two wheels and a row of timers beside the call at hand. Conditions: as stated. -/
import Derived.Test.YtpdlpnfaclpgbaaWhlArgs
import Derived.Test.YtpdlpnfaclpgbaaFv
import Derived.StillTailTactics
namespace Go.Proofs.Ytpdlpnfaclpgbaa
open Go.ChangeShapes Go.WideShapes Go.ChangeAt Go.RowKit
set_option linter.unusedVariables false
set_option maxRecDepth 100000
set_option linter.unusedSimpArgs false
set_option maxHeartbeats 4000000

noncomputable def wpR (n : Nat) : Code := ((Try.f3.body.bind (codeAt n)).getD .skip)
noncomputable def wpLp : Code := ((Try.f3.body.bind loopAt).getD .skip)
abbrev ptrB (b : Nat) : Value := .pointer (some ⟨b, 0, none⟩)
structure LD (A : Act) (av : Value) (id : Int) (vh vz : Value) : Prop where
  bs : A.tmps.size = 248
  bd : A.defers = []
  l0 : sl A.tmps 0 = av
  l1 : sl A.tmps 1 = .int .i64 id
  l5 : sl A.tmps 5 = vh
  l6 : sl A.tmps 6 = vz
/-- All slots ahead of n as they were, but from e on up to below f. -/
def NearD (n e f : Nat) (A A' : Act) : Prop := A'.tmps.size = 248 ∧ A'.defers = [] ∧ ∀ i, i < n → (i < e ∨ f ≤ i) → sl A'.tmps i = sl A.tmps i
theorem LD.keep {A A' : Act} {av : Value} {id : Int} {vh vz : Value} {n e f : Nat} (h : LD A av id vh vz) (hn : NearD n e f A A') (h7 : 7 ≤ n) (he : 7 ≤ e) : LD A' av id vh vz :=
  ⟨hn.1, hn.2.1, (hn.2.2 0 (by omega) (by omega)).trans h.l0, (hn.2.2 1 (by omega) (by omega)).trans h.l1, (hn.2.2 5 (by omega) (by omega)).trans h.l5, (hn.2.2 6 (by omega) (by omega)).trans h.l6⟩
theorem NearD.at_ {n e f : Nat} {A A' : Act} (hn : NearD n e f A A') {i : Nat} {v : Value} (h : sl A.tmps i = v) (hi : i < n) (he : i < e ∨ f ≤ i) : sl A'.tmps i = v := (hn.2.2 i hi he).trans h
def rdrW : Rdr (List Tm) := ⟨fun w K v l => RdW w K v l, fun h hk hs => RdK.keep h hk hs, fun h hk => RdK.imp h hk⟩
/-- The call at hand, in a block of its own. -/
def actB (w : World) (g : Nat) (a : ActD) : Prop := w.heap[g]? = some (.cells #[.int .i64 a.kind, .int .i64 a.n, .int .i64 a.m] 32 (0, 0))
def TI (wL : World) (G : Nat → Prop) (g : Nat) (a : ActD) (vh : Value) (l1 : List Tm) (vz : Value) (l2 : List Tm) (row : Value) (l3 : List Tm) (w : World) : Prop :=
  Two whlO rdrW wL G vh l1 vz l2 row l3 w ∧ G g ∧ actB w g a
/-- And what was due by the row. -/
def TD (wL : World) (G : Nat → Prop) (g : Nat) (a : ActD) (vh : Value) (l1 : List Tm) (vz : Value) (l2 : List Tm) (row : Value) (l3 : List Tm) (u : Value) (ds : List Int) (w : World) : Prop :=
  TI wL G g a vh l1 vz l2 row l3 w ∧ RdI w G u ds
abbrev Two0 (wL : World) (vh : Value) (l1 : List Tm) (vz : Value) (l2 : List Tm) (row : Value) (l3 : List Tm) (w : World) : Prop := Two whlO rdrW wL (fun _ => False) vh l1 vz l2 row l3 w
section
variable {wL : World} {G : Nat → Prop} {g : Nat} {a : ActD} {vh vz row : Value} {l1 l2 l3 : List Tm} {w w' : World} {u : Value} {ds : List Int}
theorem TI.bel (h : TI wL G g a vh l1 vz l2 row l3 w) : Below wL.heap.size wL w := h.1.bel
theorem TI.below (h : TI wL G g a vh l1 vz l2 row l3 w) (hb : Below w.heap.size w w') : TI wL G g a vh l1 vz l2 row l3 w' := ⟨h.1.below hb, h.2.1, (h.1.stay hb g h.2.1).trans h.2.2⟩
theorem TI.less (h : TI wL G g a vh l1 vz l2 row l3 w) : Two0 wL vh l1 vz l2 row l3 w := h.1.less fun _ e => e.elim
theorem TI.sorted (h : TI wL G g a vh l1 vz l2 row l3 w) : SortedW l1 := by
  obtain ⟨⟨F1, F2, h1, _⟩, _⟩ := h
  exact wp_sorted h1
theorem TI.row_ (h : TI wL G g a vh l1 vz l2 row l3 w) : ∃ K, RdW w K row l3 := h.1.rd
theorem TI.cells (h : TI wL G g a vh l1 vz l2 row l3 w) : w.cell? ⟨g, 0, none⟩ = some (.int .i64 a.kind) ∧ w.cell? ⟨g, 1, none⟩ = some (.int .i64 a.n) ∧ w.cell? ⟨g, 2, none⟩ = some (.int .i64 a.m) :=
  ⟨by rw [blk_cell h.2.2 0]; rfl, by rw [blk_cell h.2.2 1]; rfl, by rw [blk_cell h.2.2 2]; rfl⟩
theorem TI.turn {k1 k2 k3 : List Tm} {row' : Value} (p : Two whlO rdrW wL G vh k1 vz k2 row' k3 w' ∧ Stay G w w') (h : G g ∧ actB w g a) : TI wL G g a vh k1 vz k2 row' k3 w' := ⟨p.1, h.1, (p.2 g h.1).trans h.2⟩
theorem TD.below (h : TD wL G g a vh l1 vz l2 row l3 u ds w) (hb : Below w.heap.size w w') : TD wL G g a vh l1 vz l2 row l3 u ds w' := ⟨h.1.below hb, h.2.below hb⟩
theorem ti_start (h : Two0 wL vh l1 vz l2 row l3 w) (hb : Below w.heap.size w w') (hg : actB w' w.heap.size a) : TI wL (fun k => k = w.heap.size) w.heap.size a vh l1 vz l2 row l3 w' :=
  ⟨h.more hb fun k hk => .inr (by have := lt_of_block hg; omega), rfl, hg⟩
/-! The calls -/
theorem ti_seth {n m : Int} (hn : inI n) (hm : inI m) (hl : l1.length ≤ 1000000) (h : TI wL G g a vh l1 vz l2 row l3 w) :
    Calls Try.prog 8 #[vh, .int .i64 n, .int .i64 m] w fun e w' => e = .returned (.bool (mayW m)) ∧ TI wL G g a vh (setW l1 ⟨n, m⟩) vz l2 row l3 w' := by
  obtain ⟨⟨F1, F2, h1, h2, h3, h4, h5, h6, h7, h8⟩, hga⟩ := h
  exact (wset_any F1 vh l1 n m w h1 hn hm hl).mono fun e w' ⟨he, hp⟩ => ⟨he, TI.turn (two_turn1 h2 h3 h4 h5 h6 h7 h8 hp) hga⟩
theorem ti_droph {n : Int} (hn : inI n) (h : TI wL G g a vh l1 vz l2 row l3 w) :
    Calls Try.prog 10 #[vh, .int .i64 n] w fun e w' => e = .returned (.bool (tickW l1 n).isSome) ∧ TI wL G g a vh (dropW l1 n) vz l2 row l3 w' := by
  obtain ⟨⟨F1, F2, h1, h2, h3, h4, h5, h6, h7, h8⟩, hga⟩ := h
  exact (wdrop_any F1 vh l1 n w h1 hn).mono fun e w' ⟨he, hp⟩ => ⟨he, TI.turn (two_turn1 h2 h3 h4 h5 h6 h7 h8 hp) hga⟩
theorem ti_setz {n m : Int} (hn : inI n) (hm : inI m) (hl : l2.length ≤ 1000000) (h : TI wL G g a vh l1 vz l2 row l3 w) :
    Calls Try.prog 8 #[vz, .int .i64 n, .int .i64 m] w fun e w' => e = .returned (.bool (mayW m)) ∧ TI wL G g a vh l1 vz (setW l2 ⟨n, m⟩) row l3 w' := by
  obtain ⟨⟨F1, F2, h1, h2, h3, h4, h5, h6, h7, h8⟩, hga⟩ := h
  exact (wset_any F2 vz l2 n m w h2 hn hm hl).mono fun e w' ⟨he, hp⟩ => ⟨he, TI.turn (two_turn2 h1 h3 h4 h5 h6 h7 h8 hp) hga⟩
theorem ti_dropz {n : Int} (hn : inI n) (h : TI wL G g a vh l1 vz l2 row l3 w) :
    Calls Try.prog 10 #[vz, .int .i64 n] w fun e w' => e = .returned (.bool (tickW l2 n).isSome) ∧ TI wL G g a vh l1 vz (dropW l2 n) row l3 w' := by
  obtain ⟨⟨F1, F2, h1, h2, h3, h4, h5, h6, h7, h8⟩, hga⟩ := h
  exact (wdrop_any F2 vz l2 n w h2 hn).mono fun e w' ⟨he, hp⟩ => ⟨he, TI.turn (two_turn2 h1 h3 h4 h5 h6 h7 h8 hp) hga⟩
theorem td_dueh (m : Int) (hl : l1.length ≤ 1000000) (h : TD wL G g a vh l1 vz l2 row l3 u ds w) :
    Calls Try.prog 14 #[vh, .int .i64 m] w fun e w' => ∃ u', e = .returned u' ∧ RdI w' (fun k => w.heap.size ≤ k) u' (dueW l1 m) ∧ TD wL G g a vh (leftW l1 m) vz l2 row l3 u ds w' := by
  obtain ⟨⟨⟨F1, F2, h1, h2, h3, h4, h5, h6, h7, h8⟩, hga⟩, hu⟩ := h
  exact (wdue_any F1 vh l1 m w h1 hl).mono fun e w' ⟨u', he, hr, hp, ht⟩ => by
    have p := two_turn1 h2 h3 h4 h5 h6 h7 h8 ⟨F1, hp, ht, fun k hk => .inl hk⟩
    exact ⟨u', he, hr, TI.turn p hga, hu.keep (fun b hb _ => p.2 b hb) ht.size⟩
theorem td_duez (m : Int) (hl : l2.length ≤ 1000000) (h : TD wL G g a vh l1 vz l2 row l3 u ds w) :
    Calls Try.prog 14 #[vz, .int .i64 m] w fun e w' => ∃ u', e = .returned u' ∧ RdI w' (fun k => w.heap.size ≤ k) u' (dueW l2 m) ∧ TD wL G g a vh l1 vz (leftW l2 m) row l3 u ds w' := by
  obtain ⟨⟨⟨F1, F2, h1, h2, h3, h4, h5, h6, h7, h8⟩, hga⟩, hu⟩ := h
  exact (wdue_any F2 vz l2 m w h2 hl).mono fun e w' ⟨u', he, hr, hp, ht⟩ => by
    have p := two_turn2 h1 h3 h4 h5 h6 h7 h8 ⟨F2, hp, ht, fun k hk => .inl hk⟩
    exact ⟨u', he, hr, TI.turn p hga, hu.keep (fun b hb _ => p.2 b hb) ht.size⟩
theorem ti_lenh (hl : l1.length ≤ 1000000) (h : TI wL G g a vh l1 vz l2 row l3 w) :
    Calls Try.prog 17 #[vh] w fun e w' => e = .returned (.int .i64 l1.length) ∧ TI wL G g a vh l1 vz l2 row l3 w' ∧ Below w.heap.size w w' := by
  have h0 := h
  obtain ⟨⟨F1, F2, h1, h2, _⟩, _⟩ := h
  exact (wlen_any F1 vh l1 w h1 hl).mono fun e w' ⟨he, hb⟩ => ⟨he, h0.below hb, hb⟩
theorem ti_lenz (hl : l2.length ≤ 1000000) (h : TI wL G g a vh l1 vz l2 row l3 w) :
    Calls Try.prog 17 #[vz] w fun e w' => e = .returned (.int .i64 l2.length) ∧ TI wL G g a vh l1 vz l2 row l3 w' ∧ Below w.heap.size w w' := by
  have h0 := h
  obtain ⟨⟨F1, F2, h1, h2, _⟩, _⟩ := h
  exact (wlen_any F2 vz l2 w h2 hl).mono fun e w' ⟨he, hb⟩ => ⟨he, h0.below hb, hb⟩
theorem ti_at {id : Int} (hid : inI id) (h : TI wL G g a vh l1 vz l2 row l3 w) :
    Calls Try.prog 15 #[vh, .int .i64 id] w fun e w' => e = .returned (.tuple #[.int .i64 ((tickW l1 id).getD 0), .bool (tickW l1 id).isSome]) ∧ TI wL G g a vh l1 vz l2 row l3 w' := by
  have h0 := h
  obtain ⟨⟨F1, F2, h1, _⟩, _⟩ := h
  exact (wat_any F1 vh l1 id w h1 hid).mono fun e w' ⟨he, hb⟩ => ⟨he, h0.below hb⟩
theorem ti_next (h : TI wL G g a vh l1 vz l2 row l3 w) :
    Calls Try.prog 16 #[vh] w fun e w' => e = .returned (.tuple #[.int .i64 (nextW l1), .bool (!l1.isEmpty)]) ∧ TI wL G g a vh l1 vz l2 row l3 w' := by
  have h0 := h
  obtain ⟨⟨F1, F2, h1, _⟩, _⟩ := h
  exact (wnext_any F1 vh l1 w h1).mono fun e w' ⟨he, hb⟩ => ⟨he, h0.below hb⟩
theorem ti_find (n : Int) (hl : l3.length ≤ 100000) (h : TI wL G g a vh l1 vz l2 row l3 w) :
    Calls Try.prog 7 #[row, .int .i64 n] w fun e w' => e = .returned (.int .i64 (findZ l3 n)) ∧ w = w' := by
  obtain ⟨K, hr⟩ := h.row_
  exact tfind_any row l3 n K w hl hr
theorem ti_tset (n m : Int) (hl : l3.length ≤ 100000) (h : TI wL G g a vh l1 vz l2 row l3 w) :
    Calls Try.prog 9 #[row, .agg #[.int .i64 n, .int .i64 m]] w fun e w' => ∃ v, e = .returned v ∧ TI wL G g a vh l1 vz l2 v (setW l3 ⟨n, m⟩) w' := by
  have h0 := h
  obtain ⟨⟨F1, F2, h1, h2, h3, h4, h5, h6, h7, h8⟩, hga⟩ := h
  exact (tset_any row l3 ⟨n, m⟩ _ w hl h6).mono fun e w' ⟨v, he, hr, hb⟩ => ⟨v, he, TI.turn ⟨two_row h1 h2 h3 h4 h5 h7 h8 hr hb, h0.1.stay hb⟩ hga⟩
theorem ti_tdrop (n : Int) (hl : l3.length ≤ 100000) (h : TI wL G g a vh l1 vz l2 row l3 w) :
    Calls Try.prog 11 #[row, .int .i64 n] w fun e w' => ∃ v, e = .returned v ∧ TI wL G g a vh l1 vz l2 v (dropW l3 n) w' := by
  have h0 := h
  obtain ⟨⟨F1, F2, h1, h2, h3, h4, h5, h6, h7, h8⟩, hga⟩ := h
  exact (tdrop_any row l3 n _ w hl h6).mono fun e w' ⟨v, he, hr, hb⟩ => ⟨v, he, TI.turn ⟨two_row h1 h2 h3 h4 h5 h7 h8 (RdK.imp hr fun b hb _ => .inr hb) hb, h0.1.stay hb⟩ hga⟩
theorem ti_tdue (m : Int) (hl : l3.length ≤ 100000) (h : TI wL G g a vh l1 vz l2 row l3 w) :
    Calls Try.prog 12 #[row, .int .i64 m] w fun e w' => ∃ u r, e = .returned (.tuple #[u, r]) ∧ ∃ G', TD wL G' g a vh l1 vz l2 r (leftW l3 m) u (dueW l3 m) w' := by
  have h0 := h
  obtain ⟨⟨F1, F2, h1, h2, h3, h4, h5, h6, h7, h8⟩, hg, ha⟩ := h
  exact (tdue_any row l3 m (fun b => (¬ F1 b ∧ ¬ F2 b ∧ ¬ G b) ∧ b < w.heap.size) w hl (RdK.imp h6 fun b hb hl => ⟨hb, hl⟩)).mono fun e w' ⟨u, r, he, hu, hr, hb⟩ => by
    refine ⟨u, r, he, fun k => G k ∨ (w.heap.size ≤ k ∧ k < w'.heap.size), ⟨⟨F1, F2, Own.below h1 hb, Own.below h2 hb, h3, h4, h5, RdK.imp hr fun b hb _ => ⟨hb.1.1, hb.1.2.1, fun e => ?_⟩, h7.trans (hb.mono h7.size), fun k hk => ?_⟩, .inl hg, (h0.1.stay hb g hg).trans ha⟩, RdI.imp hu fun b hb hl => .inr ⟨hb, hl⟩⟩
    · rcases e with e | e
      · exact hb.1.2.2 e
      · omega
    · have hs := hb.size
      have h7s := h7.size
      rcases hk with hk | hk
      · exact ⟨(h8 k hk).1, (h8 k hk).2.1, Nat.lt_of_lt_of_le (h8 k hk).2.2.1 hs, (h8 k hk).2.2.2⟩
      · exact ⟨fun e => by have := whlO.lt h1 k e; omega, fun e => by have := whlO.lt h2 k e; omega, hk.2, by omega⟩
theorem td_same {K : Nat → Prop} {u' : Value} (hl : ds.length ≤ 1000000) (hr : RdI w K u' ds) (h : TD wL G g a vh l1 vz l2 row l3 u ds w) :
    Calls Try.prog 13 #[u', u] w fun e w' => e = .returned (.bool true) ∧ TD wL G g a vh l1 vz l2 row l3 u ds w' :=
  (wsame_any u' u ds K G w hl hr h.2).mono fun e w' ⟨he, hb⟩ => ⟨he, h.below hb⟩
end
theorem find_tick (l : List Tm) (n : Int) : (findZ l n = -1 ∧ tickW l n = none) ∨ ∃ k : Nat, ∃ h : k < l.length, findZ l n = (k : Int) ∧ tickW l n = some l[k].tick := by
  unfold findZ
  rcases findW_tick l n with ⟨h1, h2⟩ | ⟨k, h, h1, _, h2⟩
  · exact .inl ⟨by rw [h1], h2⟩
  · exact .inr ⟨k, h, by rw [h1], h2⟩
theorem find_has (l : List Tm) (n : Int) : decide (0 ≤ findZ l n) = (tickW l n).isSome := by
  rcases find_tick l n with ⟨h1, h2⟩ | ⟨k, h, h1, h2⟩
  · rw [h1, h2]; rfl
  · rw [h1, h2]; exact decide_eq_true (by omega)
theorem next_at (l : List Tm) (h : 0 < l.length) : nextW l = l[0].tick := by
  cases l with
  | nil => cases h
  | cons x r => rfl
end Go.Proofs.Ytpdlpnfaclpgbaa
