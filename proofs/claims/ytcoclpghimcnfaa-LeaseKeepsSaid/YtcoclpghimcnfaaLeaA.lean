/- A store of a lease in memory: its two blocks; read, held, leads, valid, New, Get, Holds; of a store that nobody made. Conditions: none. -/
import Derived.Test.YtcoclpghimcnfaaLeaRel
import Derived.Test.YtcoclpghimcnfaaTwo
import Derived.Test.YtcoclpghimcnfaaPtr
import Derived.Laws.StructEq
import Derived.Test.YtcoclpghimcnfaaSame
namespace Go.Proofs.Ytcoclpghimcnfaa
open Go.ChangeShapes Go.WideShapes Go.ChangeAt Go.RowKit
set_option linter.unusedVariables false
set_option maxRecDepth 100000
set_option linter.unusedSimpArgs false
set_option maxHeartbeats 2000000

/-- A store: its span, its lease. -/
structure Sv where
  s : Int
  l : Ls
def lsX (l : Ls) : Obj := .cells (ls3 l.h l.e l.u) 29 (0, 0)
def stoX (s : Int) (c : Nat) : Obj := .cells #[.int .i64 s, .pointer (some ⟨c, 0, none⟩)] 55 (0, 0)
/-- The store is block b, its lease block c. -/
structure LB (b c : Nat) (x : Sv) (w : World) : Prop where
  hb : w.heap[b]? = some (stoX x.s c)
  hc : w.heap[c]? = some (lsX x.l)
theorem LB.ne {b c : Nat} {x : Sv} {w : World} (h : LB b c x w) : c ≠ b := fun e => by
  have h1 := h.hb
  rw [← e, h.hc] at h1
  have h2 := congrArg Array.size (Obj.cells.inj (Option.some.inj h1)).1
  simp [ls3] at h2
theorem LB.below {b c : Nat} {x : Sv} {w w' : World} (h : LB b c x w) (k : Below w.heap.size w w') : LB b c x w' := ⟨blk_below k h.hb (lt_of_block h.hb), blk_below k h.hc (lt_of_block h.hc)⟩
theorem LB.lsat {b c : Nat} {x : Sv} {w : World} (h : LB b c x w) : LsAt w c := ⟨_, _, h.hc, rfl⟩
theorem ls_load {w : World} {c : Nat} {l : Ls} (h : w.heap[c]? = some (lsX l)) : (loadVar 29 ⟨c, 0, none⟩).run Try.prog w = .ok (.agg (ls3 l.h l.e l.u)) w :=
  run_loadVar_row (P := Try.prog) w c _ 29 _ (0, 0) (.struct (Try.prog.fieldsOf 29)) h (by kernel_rfl) rfl (by kernel_rfl)
def LP (F : Nat → Prop) (v : Value) (x : Sv) (w : World) : Prop :=
  ∃ b c, v = .pointer (some ⟨b, 0, none⟩) ∧ LB b c x w ∧ (∀ k, F k ↔ k = b ∨ k = c) ∧ 1 ≤ x.s ∧ x.s ≤ 64 ∧ 0 ≤ x.l.e ∧ x.l.e ≤ 4294967295 ∧ -1 ≤ x.l.h
theorem lp_keep {F : Nat → Prop} {v : Value} {x : Sv} {w w' : World} (h : LP F v x w) (hk : ∀ k, F k → w'.heap[k]? = w.heap[k]?) : LP F v x w' := by
  obtain ⟨b, c, h1, h2, h3, h4⟩ := h
  exact ⟨b, c, h1, ⟨(hk b ((h3 b).2 (.inl rfl))).trans h2.hb, (hk c ((h3 c).2 (.inr rfl))).trans h2.hc⟩, h3, h4⟩
theorem lp_lt {F : Nat → Prop} {v : Value} {x : Sv} {w : World} (h : LP F v x w) : ∀ k, F k → k < w.heap.size := by
  obtain ⟨b, c, h1, h2, h3, h4⟩ := h
  intro k hk
  rcases (h3 k).1 hk with rfl | rfl
  · exact lt_of_block h2.hb
  · exact lt_of_block h2.hc
def leaO : Own Sv := ⟨LP, fun h hk _ => lp_keep h hk, fun h => lp_lt h⟩
theorem lea_ok {F : Nat → Prop} {v : Value} {x : Sv} {w : World} (h : leaO.P F v x w) : 1 ≤ x.s ∧ x.s ≤ 64 ∧ 0 ≤ x.l.e ∧ x.l.e ≤ 4294967295 := by
  obtain ⟨b, c, h1, h2, h3, h4, h5, h6, h7, h8⟩ := h
  exact ⟨h4, h5, h6, h7⟩
/-- Are two leases the same? -/
def eqL (a b : Ls) : Bool := a.h == b.h && (a.e == b.e && a.u == b.u)
theorem eqL_same (a : Ls) : eqL a a = true := by simp [eqL]
theorem eqL_iff {a b : Ls} : eqL a b = true ↔ a = b := by
  cases a; cases b; simp [eqL]
theorem eqL_run (w : World) (a b : Ls) :
    (Op.equalIn 10000 29 (.agg #[.int .i64 a.h, .int .i64 a.e, .int .i64 a.u]) (.agg #[.int .i64 b.h, .int .i64 b.e, .int .i64 b.u])).run Try.prog w = .ok (eqL a b) w := by
  have hu : Try.prog.underlying 3 = some (.int .i64) := Try.underlying3
  have hf : Try.prog.underlying 29 = some (.struct (Try.prog.fieldsOf 29)) := by kernel_rfl
  obtain ⟨i, hi, hz0, hz1, hz2⟩ := info_parts infoI64
  rw [run_equalIn_agg w 9999 29 _ _ hf (by kernel_rfl)]
  unfold eqL
  cases h1 : a.h == b.h <;> cases h2 : a.e == b.e <;> cases h3 : a.u == b.u <;>
  simp [Op.eqFields, Program.fieldsOf, Try.underlying29, part, go_sem, hi, hz1, hu, h1, h2, h3]
/-! ### What is asked of a lease -/
theorem vld_any (now who : Int) (w : World) :
    Calls Try.prog 33 #[.int .i64 now, .int .i64 who] w fun e w' => e = .returned (.bool (rightL now who)) ∧ w = w' := by
  have R1 := Lib.hid (right_any now 0 1099511627776 w)
  have R2 := Lib.hid (right_any who 0 4 w)
  have hr : rightL now who = (rightN now 0 1099511627776 && rightN who 0 4) := by unfold rightL rightN; simp [Bool.and_assoc, Bool.decide_and]
  rw [hr]
  generalize rightN now 0 1099511627776 = x at *
  generalize rightN who 0 4 = y at *
  clear hr
  cases x
  all_goals
    go_enter Try.func33, Try.ntmps33
    go_wp2_with fail
    refine R1.out.mono ?_; rintro e w1 ⟨rfl, rfl⟩
    go_wp2_with fail
    try (refine R2.out.mono ?_; rintro e w1 ⟨rfl, rfl⟩)
    try go_wp2_with fail
    go_ret
    exact ⟨rfl, rfl⟩
theorem held_any (l : Ls) (now : Int) (w : World) (hl : -1 ≤ l.h) :
    Calls Try.prog 23 #[l.val, .int .i64 now] w fun e w' => e = .returned (.bool (heldL l now)) ∧ Below w.heap.size w w' := by
  have hb : ∀ (X : Obj) (a : World), Below a.heap.size a (a.alloc X) := fun X a => (Below.refl _ _).alloc (Nat.le_refl _) _
  have g1 : (l.h != -1) = decide (0 ≤ l.h) := by
    by_cases h : l.h = -1
    · rw [h]; rfl
    · have : 0 ≤ l.h := by omega
      simp [h, this]
  unfold heldL Ls.val
  generalize decide (0 ≤ l.h) = x at *
  cases h2 : decide (now < l.u)
  all_goals cases x
  all_goals
    go_enter Try.func23, Try.ntmps23
    go_wp2_with fail
    go_ret
    exact ⟨rfl, hb _ _⟩
theorem leads_any (l : Ls) (now who ep : Int) (w : World) (hl : -1 ≤ l.h) :
    Calls Try.prog 31 #[l.val, .int .i64 now, .int .i64 who, .int .i64 ep] w fun e w' => e = .returned (.bool (leadsL l now who ep)) ∧ Below w.heap.size w w' := by
  have H := Lib.hid fun w => held_any l now w hl
  have hq : leadsL l now who ep = (heldL l now && (l.h == who) && (l.e == ep)) := by
    unfold leadsL heldL
    cases decide (0 ≤ l.h) <;> cases (l.h == who) <;> cases (l.e == ep) <;> cases decide (now < l.u) <;> rfl
  rw [hq]
  clear hq hl
  generalize heldL l now = x at *
  have hv : l.val = .agg #[.int .i64 l.h, .int .i64 l.e, .int .i64 l.u] := rfl
  rw [hv] at H ⊢
  clear hv
  cases h3 : (l.h == who)
  all_goals cases h4 : (l.e == ep)
  all_goals cases x
  all_goals
    go_enter Try.func31, Try.ntmps31
    have hb : Below w.heap.size w (w.alloc (.cells (ls3 l.h l.e l.u) 29)) := (Below.refl _ _).alloc (Nat.le_refl _) _
    have hn := blk_new w (.cells (ls3 l.h l.e l.u) 29)
    have H1 := Lib.hid (show Calls _ _ _ (w.alloc (.cells (ls3 l.h l.e l.u) 29)) _ from H.out _)
    simp only [ls3] at hb hn H1
    go_wp2_with fail
    have HB := Lib.hid hb
    generalize (w.alloc (.cells #[.int .i64 l.h, .int .i64 l.e, .int .i64 l.u] 29)) = w1 at *
    refine H1.out.mono ?_; rintro e w2 ⟨rfl, b2⟩
    have HB2 := Lib.hid (HB.out.trans (b2.mono HB.out.size))
    have hn2 := blk_below b2 hn (lt_of_block hn)
    have c0 : w2.cell? ⟨w.heap.size, 0, none⟩ = some (.int .i64 l.h) := by rw [blk_cell hn2]; rfl
    have c1 : w2.cell? ⟨w.heap.size, 1, none⟩ = some (.int .i64 l.e) := by rw [blk_cell hn2]; rfl
    clear hb hn b2 hn2 H H1 HB
    go_wp2_with fail
    go_ret
    exact ⟨rfl, HB2.out⟩
end Go.Proofs.Ytcoclpghimcnfaa
