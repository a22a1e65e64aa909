/- Leases, plain; what the document's own New, Holds, Acquire, Renew, Release come to. Conditions: a span from 0 on; epochs from 0 on. -/
import Derived.Test.YtcoclpghimcnfaaKit
import Derived.Test.YtcoclpghimcnfaaNumB
import Derived.Test.YtcoclpghimcnfaaProg
import Derived.Laws.Rows
import Derived.StillTailTactics
namespace Go.Proofs.Ytcoclpghimcnfaa
open Go.ChangeShapes Go.WideShapes Go.ChangeAt Go.RowKit
set_option linter.unusedVariables false
set_option maxRecDepth 100000
set_option linter.unusedSimpArgs false
set_option maxHeartbeats 2000000

/-- A lease: who, the epoch, until when. -/
structure Ls where
  h : Int
  e : Int
  u : Int
def Ls.val (l : Ls) : Value := .agg #[.int .i64 l.h, .int .i64 l.e, .int .i64 l.u]
/-- The document's store: the span, the lease. -/
def stoV (s : Int) (l : Ls) : Value := .agg #[.int .i64 s, .int .i64 l.h, .int .i64 l.e, .int .i64 l.u]
def rightL (now who : Int) : Bool := decide (0 ≤ now) && decide (now ≤ 1099511627776) && decide (0 ≤ who) && decide (who ≤ 4)
def leadsL (l : Ls) (now who ep : Int) : Bool := decide (0 ≤ l.h) && (l.h == who) && (l.e == ep) && decide (now < l.u)
def holdsL (s : Int) (l : Ls) (now who ep : Int) : Bool := decide (0 < s) && leadsL l now who ep
def heldL (l : Ls) (now : Int) : Bool := decide (0 ≤ l.h) && decide (now < l.u)
def acqL (s : Int) (l : Ls) (now who : Int) : Ls × Int × Int :=
  if s = 0 then (l, 0, 7) else if rightL now who = false then (l, 0, 1) else if heldL l now = true then (if l.h = who then (l, 0, 8) else (l, 0, 12)) else if 4294967295 ≤ l.e then (l, 0, 6)
  else (⟨who, l.e + 1, laterV now s⟩, l.e + 1, 0)
def renL (s : Int) (l : Ls) (now who ep : Int) : Ls × Int :=
  if s = 0 then (l, 7) else if rightL now who = false then (l, 1) else if holdsL s l now who ep = false then (l, 11) else (⟨l.h, l.e, max l.u (laterV now s)⟩, 0)
def relL (s : Int) (l : Ls) (now who ep : Int) : Ls × Int := if (renL s l now who ep).2 = 0 then (⟨-1, l.e, 0⟩, 0) else (l, (renL s l now who ep).2)
def newL (span : Int) : Int × Ls × Int := if span < 1 ∨ 64 < span then (0, ⟨0, 0, 0⟩, 1) else (span, ⟨-1, 0, 0⟩, 0)
theorem rlright_any (now who : Int) (w : World) :
    Calls Try.prog 25 #[.int .i64 now, .int .i64 who] w fun e w' => e = .returned (.bool (rightL now who)) ∧ w = w' := by
  unfold rightL
  have g1 : decide (now ≥ 0) = decide (0 ≤ now) := rfl
  have g2 : decide (who ≥ 0) = decide (0 ≤ who) := rfl
  cases h1 : decide (0 ≤ now)
  all_goals cases h2 : decide (now ≤ 1099511627776)
  all_goals cases h3 : decide (0 ≤ who)
  all_goals cases h4 : decide (who ≤ 4)
  all_goals
    rw [h1] at g1
    rw [h3] at g2
    go_enter Try.func25, Try.ntmps25
    go_wp2_with fail
    go_ret
    exact ⟨rfl, rfl⟩
theorem rlholds_any (s : Int) (l : Ls) (now who ep : Int) (w : World) :
    Calls Try.prog 18 #[stoV s l, .int .i64 now, .int .i64 who, .int .i64 ep] w fun e w' => e = .returned (.bool (holdsL s l now who ep)) ∧ Below w.heap.size w w' := by
  have hb : ∀ (X Y : Obj) (a : World), Below a.heap.size a ((a.alloc X).alloc Y) := fun X Y a => ((Below.refl _ _).alloc (Nat.le_refl _) _).alloc (Nat.le_of_lt (by simp)) _
  obtain ⟨lh, le, lu⟩ := l
  unfold holdsL leadsL stoV
  have g1 : decide (s > 0) = decide (0 < s) := rfl
  have g2 : decide (lh ≥ 0) = decide (0 ≤ lh) := rfl
  cases h1 : decide (0 < s)
  all_goals cases h2 : decide (0 ≤ lh)
  all_goals cases h3 : (lh == who)
  all_goals cases h4 : (le == ep)
  all_goals cases h5 : decide (now < lu)
  all_goals
    rw [h1] at g1
    rw [h2] at g2
    go_enter Try.func18, Try.ntmps18
    go_wp2_with fail
    go_ret
    exact ⟨rfl, hb _ _ _⟩
theorem results_ct {P : Program} {fn : Func} {p u : Tmp} {ty : TypeId} (h : fn.results = #[.cell p ty, .tmp u]) {tmps : Array Value} {w : World} {g : Nat} {t : TypeId} {cs : Array Value} {d : TypeDesc} {x : Value}
    (hp : tmps.getD p undef = .pointer (some ⟨g, 0, none⟩)) (hx : tmps.getD u undef = x) (hg : w.heap[g]? = some (.cells cs t (0, 0)))
    (hu : P.underlying ty = some d) (hd : (match d with | .struct _ | .array _ _ => true | _ => false) = true) (hi : (P.info? ty).map (·.size) = some cs.size) : (results fn tmps).run P w = .ok (.tuple #[.agg cs, x]) w := by
  have hp' : tmps[p]?.getD undef = .pointer (some ⟨g, 0, none⟩) := by simpa using hp
  have hx' : tmps[u]?.getD undef = x := by simpa using hx
  simp [results, h, hp', hx', asAddr, run_loadVar_row w g t ty cs (0, 0) d hg hu hd hi]
theorem results_ctt {P : Program} {fn : Func} {p u v : Tmp} {ty : TypeId} (h : fn.results = #[.cell p ty, .tmp u, .tmp v]) {tmps : Array Value} {w : World} {g : Nat} {t : TypeId} {cs : Array Value} {d : TypeDesc} {x y : Value}
    (hp : tmps.getD p undef = .pointer (some ⟨g, 0, none⟩)) (hx : tmps.getD u undef = x) (hy : tmps.getD v undef = y) (hg : w.heap[g]? = some (.cells cs t (0, 0)))
    (hu : P.underlying ty = some d) (hd : (match d with | .struct _ | .array _ _ => true | _ => false) = true) (hi : (P.info? ty).map (·.size) = some cs.size) : (results fn tmps).run P w = .ok (.tuple #[.agg cs, x, y]) w := by
  have hp' : tmps[p]?.getD undef = .pointer (some ⟨g, 0, none⟩) := by simpa using hp
  have hx' : tmps[u]?.getD undef = x := by simpa using hx
  have hy' : tmps[v]?.getD undef = y := by simpa using hy
  simp [results, h, hp', hx', hy', asAddr, run_loadVar_row w g t ty cs (0, 0) d hg hu hd hi]
theorem rlnew_any (span : Int) (w : World) :
    Calls Try.prog 9 #[.int .i64 span] w fun e w' => e = .returned (.tuple #[stoV (newL span).1 (newL span).2.1, .int .i64 (newL span).2.2]) ∧ Below w.heap.size w w' := by
  have hb : ∀ (X : Obj) (a : World), Below a.heap.size a (a.alloc X) := fun X a => (Below.refl _ _).alloc (Nat.le_refl _) _
  unfold newL stoV
  by_cases h : span < 1 ∨ 64 < span
  · rw [if_pos h]
    cases h1 : decide (span < 1)
    · have h2 : decide (64 < span) = true := by simp at h1; exact decide_eq_true (by omega)
      have h3 : decide (span > 64) = true := h2
      clear h
      go_enter Try.func9, Try.ntmps9
      go_wp2_with fail
      exact bodyPost_ret (results_ct rfl rfl rfl (blk_new w _) Try.underlying31 rfl (by kernel_rfl)) rfl ⟨rfl, hb _ _⟩
    · clear h
      go_enter Try.func9, Try.ntmps9
      go_wp2_with fail
      exact bodyPost_ret (results_ct rfl rfl rfl (blk_new w _) Try.underlying31 rfl (by kernel_rfl)) rfl ⟨rfl, hb _ _⟩
  · rw [if_neg h]
    have h1 : decide (span < 1) = false := decide_eq_false (by omega)
    have h2 : decide (64 < span) = false := decide_eq_false (by omega)
    have h3 : decide (span > 64) = false := h2
    clear h
    go_enter Try.func9, Try.ntmps9
    go_wp2_with fail
    exact bodyPost_ret (results_ct rfl rfl rfl (blk_new w _) Try.underlying31 rfl (by kernel_rfl)) rfl ⟨rfl, hb _ _⟩
end Go.Proofs.Ytcoclpghimcnfaa
