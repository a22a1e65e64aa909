/- A table of beats in memory: a wheel of the nodes' ticks, behind it the incarnations and the span; New, Get. Conditions: as stated. -/
import Derived.Test.YtdlkpkigpnlanaaBeaT
import Derived.Test.YtdlkpkigpnlanaaBduE
import Derived.Test.YtdlkpkigpnlanaaTwo
import Derived.Test.YtdlkpkigpnlanaaBeaPlain
import Derived.Test.YtdlkpkigpnlanaaWhlA
import Derived.Test.YtdlkpkigpnlanaaWhlE
namespace Go.Proofs.Ytdlkpkigpnlanaa
open Go.ChangeShapes Go.WideShapes Go.ChangeAt Go.RowKit
set_option linter.unusedVariables false
set_option maxRecDepth 100000
set_option linter.unusedSimpArgs false
set_option maxHeartbeats 2000000

/-- A table: its span (0: nobody made it), its beats. -/
structure Tv where
  s : Int
  l : List Bt
def sortedB (l : List Bt) : Prop := l.Pairwise (fun a b => a.n < b.n)
def okB (x : Bt) : Prop := 0 ≤ x.n ∧ x.n ≤ 15 ∧ 1 ≤ x.i ∧ x.i ≤ 2147483647 ∧ 0 ≤ x.u ∧ x.u ≤ 1099511627776
def bt3 (x : Bt) : Value := .agg #[.int .i64 x.n, .int .i64 x.i, .int .i64 x.u]
def btD (o : Option Bt) : Bt := o.getD ⟨0, 0, 0⟩
def newT (n : Int) : Int × Int := if n < 1 ∨ 64 < n then (0, 1) else (n, 0)
/-- What stands behind the wheel: the incarnations by the nodes, the span. -/
def beaX (is : List Int) (s : Int) : WhX := ⟨is.map (Value.int .i64) ++ [.int .i64 s], 37⟩
def incF (is : List Int) (n : Int) : Int := is.getD n.toNat 0
def OkT (x : Tv) : Prop := 0 ≤ x.s ∧ x.s ≤ 64 ∧ (x.s = 0 → x.l = []) ∧ sortedB x.l ∧ ∀ b ∈ x.l, okB b
/-- A table in memory. -/
def BP (F : Nat → Prop) (v : Value) (x : Tv) (w : World) : Prop := ∃ is tl, is.length = 16 ∧ WP (beaX is x.s) F v tl w ∧ RelT tl x.l (incF is)
def beaO : Own Tv := ⟨fun F v x w => OkT x ∧ ((v = .pointer none ∧ x.s = 0 ∧ ∀ k, ¬ F k) ∨ BP F v x w),
  fun {F v l w w'} h hk hs => ⟨h.1, h.2.imp id fun ⟨is, tl, h1, h2, h3⟩ => ⟨is, tl, h1, wp_keep h2 hk, h3⟩⟩,
  fun {F v l w} h k hk => by
    rcases h.2 with ⟨_, _, h⟩ | ⟨is, tl, h1, h2, h3⟩
    · exact absurd hk (h k)
    · exact wp_lt h2 k hk⟩
theorem bea_ok {F : Nat → Prop} {v : Value} {x : Tv} {w : World} (h : beaO.P F v x w) : 0 ≤ x.s ∧ x.s ≤ 64 ∧ (x.s = 0 → x.l = []) ∧ sortedB x.l ∧ ∀ b ∈ x.l, okB b := h.1
theorem okT_nil (s : Int) (h0 : 0 ≤ s) (h1 : s ≤ 64) : OkT ⟨s, []⟩ := ⟨h0, h1, fun _ => rfl, List.Pairwise.nil, fun b hb => by cases hb⟩
theorem bea_nil (w : World) : beaO.P (fun _ => False) (.pointer none) ⟨0, []⟩ w := ⟨okT_nil 0 (by omega) (by omega), .inl ⟨rfl, rfl, fun _ h => h⟩⟩
def is0 : List Int := [0, 0, 0, 0, 0, 0, 0, 0, 0, 0, 0, 0, 0, 0, 0, 0]
theorem bp_zero {w : World} {b : Nat} {s : Int} (h : w.heap[b]? = some (wX (beaX is0 s) ms0)) : BP (fun k => k = b) (.pointer (some ⟨b, 0, none⟩)) ⟨s, []⟩ w :=
  ⟨is0, [], rfl, wp_zero h, RelT.nil _⟩
def zbtC : Array Value := #[.map none, .map none, .map none, .map none, .map none, .map none, .map none, .map none, .map none, .map none, .map none, .map none, .map none, .map none, .map none, .map none, .int .i64 0,
  .int .i64 0, .int .i64 0, .int .i64 0, .int .i64 0, .int .i64 0, .int .i64 0, .int .i64 0, .int .i64 0, .int .i64 0, .int .i64 0, .int .i64 0, .int .i64 0, .int .i64 0, .int .i64 0, .int .i64 0, .int .i64 0]
theorem bea_zero (w : World) : beaO.P (fun k => k = w.heap.size) (.pointer (some ⟨w.heap.size, 0, none⟩)) ⟨0, []⟩ (w.alloc (.cells zbtC 37)) :=
  ⟨okT_nil 0 (by omega) (by omega), .inr (bp_zero (blk_new w _))⟩
theorem ta_new (n : Int) (w : World) : Calls Try.prog 7 #[.int .i64 n] w fun e w' =>
  ∃ p F, e = .returned (.tuple #[.pointer p, .int .i64 (newT n).2]) ∧ beaO.P F (.pointer p) ⟨(newT n).1, []⟩ w' ∧ (p = none ↔ (newT n).2 = 1) ∧ (∀ a, p = some a → ∃ b, a = ⟨b, 0, none⟩) ∧ (∀ k, F k → w.heap.size ≤ k) ∧ Below w.heap.size w w' := by
  have C := Lib.hid (right_any n 1 64 w)
  unfold newT
  by_cases h : n < 1 ∨ 64 < n
  · rw [if_pos h]
    have hr : rightN n 1 64 = false := by unfold rightN; exact decide_eq_false (by omega)
    rw [hr] at C
    clear h
    go_enter Try.func7, Try.ntmps7
    go_wp2_with (go_at_call 19; refine C.out.mono ?_; rintro e w1 ⟨rfl, rfl⟩)
    go_ret2
    exact ⟨none, fun _ => False, rfl, bea_nil w, by simp, (fun a h => by cases h), (fun k h => h.elim), Below.refl _ _⟩
  · rw [if_neg h]
    have hr : rightN n 1 64 = true := by unfold rightN; exact decide_eq_true (by omega)
    rw [hr] at C
    have hok := okT_nil n (by omega) (by omega)
    have HZ := Lib.hid (show beaO.P (fun k => k = w.heap.size) (.pointer (some ⟨w.heap.size, 0, none⟩)) ⟨n, []⟩ (w.alloc (wX (beaX is0 n) ms0)) from ⟨hok, .inr (bp_zero (blk_new w _))⟩)
    clear h hok
    go_enter Try.func7, Try.ntmps7
    go_wp2_with (go_at_call 19; refine C.out.mono ?_; rintro e w1 ⟨rfl, rfl⟩)
    go_ret2
    exact ⟨some ⟨w.heap.size, 0, none⟩, fun k => k = w.heap.size, rfl, HZ.out, by simp, (fun a h => by cases h; exact ⟨_, rfl⟩), (fun k h => by omega), (Below.refl _ _).alloc (Nat.le_refl _) _⟩
/-! ### Get -/
def isN (n : Int) : Bool := rightN n 0 15
theorem knode_any (n : Int) (w : World) : Calls Try.prog 28 #[.int .i64 n] w fun e w' => e = .returned (.bool (isN n)) ∧ w = w' := by
  have C := Lib.hid (right_any n 0 15 w)
  go_enter Try.func28, Try.ntmps28
  go_wp2_with (go_at_call 19; refine C.out.mono ?_; rintro e w1 ⟨rfl, rfl⟩)
  go_ret
  exact ⟨rfl, rfl⟩
theorem incs_at {is : List Int} {s : Int} {w : World} {b : Nat} {ms : Array Value} (h : w.heap[b]? = some (wX (beaX is s) ms)) (hs : ms.size = 16) (hi : is.length = 16) (k : Nat) (hk : k < 16) : w.cell? ⟨b, 16 + k, none⟩ = some (.int .i64 (incF is k)) := by
  have := wx_rest h k
  rw [hs] at this
  rw [this]
  show (is.map (Value.int .i64) ++ [.int .i64 s])[k]? = _
  rw [List.getElem?_append_left (by simp; omega), List.getElem?_map, List.getElem?_eq_getElem (by omega)]
  unfold incF
  rw [Int.toNat_natCast, List.getD_eq_getElem?_getD, List.getElem?_eq_getElem (by omega)]
  rfl
theorem span_at {is : List Int} {s : Int} {w : World} {b : Nat} {ms : Array Value} (h : w.heap[b]? = some (wX (beaX is s) ms)) (hs : ms.size = 16) (hi : is.length = 16) : w.cell? ⟨b, 32, none⟩ = some (.int .i64 s) := by
  have := wx_rest h 16
  rw [hs] at this
  rw [this]
  show (is.map (Value.int .i64) ++ [.int .i64 s])[16]? = _
  rw [List.getElem?_append_right (by simp; omega), List.length_map, hi]
  rfl
theorem results_cu {P : Program} {fn : Func} {p u : Tmp} {ty : TypeId} (h : fn.results = #[.cell p ty, .tmp u]) {tmps : Array Value} {w : World} {g : Nat} {t : TypeId} {cs : Array Value} {d : TypeDesc} {x : Value}
    (hp : tmps.getD p undef = .pointer (some ⟨g, 0, none⟩)) (hx : tmps.getD u undef = x) (hg : w.heap[g]? = some (.cells cs t (0, 0)))
    (hu : P.underlying ty = some d) (hd : (match d with | .struct _ | .array _ _ => true | _ => false) = true) (hi : (P.info? ty).map (·.size) = some cs.size) : (results fn tmps).run P w = .ok (.tuple #[.agg cs, x]) w := by
  have hp' : tmps[p]?.getD undef = .pointer (some ⟨g, 0, none⟩) := by simpa using hp
  have hx' : tmps[u]?.getD undef = x := by simpa using hx
  simp [results, h, hp', hx', asAddr, run_loadVar_row w g t ty cs (0, 0) d hg hu hd hi]
theorem nbget_any (n : Int) (w : World) : Calls Try.prog 15 #[.pointer none, .int .i64 n] w fun e w' => e = .returned (.tuple #[bt3 ⟨0, 0, 0⟩, .bool false]) ∧ Below w.heap.size w w' := by
  have hb : ∀ (X : Obj) (a : World), Below a.heap.size a (a.alloc X) := fun X a => (Below.refl _ _).alloc (Nat.le_refl _) _
  go_enter Try.func15, Try.ntmps15
  go_wp2_with fail
  exact bodyPost_ret (results_cu rfl rfl rfl (blk_new w _) Try.underlying51 rfl (by kernel_rfl)) rfl ⟨rfl, hb _ _⟩
def gotB (n i : Int) : Option Int → Bt
  | some u => ⟨n, i, u⟩
  | none => ⟨0, 0, 0⟩
/-- Get of a table that there is: what its parts say. -/
theorem sbget_any (b : Nat) (n : Int) (w : World) (o : Option Int) (i : Int)
    (C2 : isN n = true → ∀ w', Below w.heap.size w w' → Calls Try.prog 29 #[.pointer (some ⟨b, 0, none⟩), .int .i64 n] w' fun e w2 => e = .returned (.tuple #[.int .i64 (o.getD 0), .bool o.isSome]) ∧ Below w'.heap.size w' w2)
    (ci : isN n = true → w.cell? ⟨b, 16 + n.toNat, none⟩ = some (.int .i64 i)) (hb : b < w.heap.size) :
    Calls Try.prog 15 #[.pointer (some ⟨b, 0, none⟩), .int .i64 n] w fun e w' => e = .returned (.tuple #[bt3 (if isN n = true then gotB n i o else ⟨0, 0, 0⟩), .bool (isN n && o.isSome)]) ∧ Below w.heap.size w w' := by
  have hb : ∀ (X : Obj) (a : World), Below a.heap.size a (a.alloc X) := fun X a => (Below.refl _ _).alloc (Nat.le_refl _) _
  have C := Lib.hid (fun w' => knode_any n w')
  have HB := Lib.hid (hb (.cells #[.int .i64 0, .int .i64 0, .int .i64 0] 51) w)
  cases hn : isN n with
  | false =>
    rw [hn] at C
    go_enter Try.func15, Try.ntmps15
    go_wp2_with fail
    refine (C.out _).mono ?_; rintro e w1 ⟨rfl, rfl⟩
    go_wp2_with fail
    exact bodyPost_ret (results_cu rfl rfl rfl (blk_new w _) Try.underlying51 rfl (by kernel_rfl)) rfl ⟨rfl, hb _ _⟩
  | true =>
    rw [hn] at C
    obtain ⟨k, rfl, hk⟩ : ∃ k : Nat, n = (k : Int) ∧ k < 16 := by
      unfold isN rightN at hn
      have := of_decide_eq_true hn
      exact ⟨n.toNat, by omega, by omega⟩
    have hk0 : (0 : Int) ≤ (k : Int) ∧ (k : Int) < 16 := by omega
    have hc := ci hn
    rw [Int.toNat_natCast] at hc
    have HA := Lib.hid (C2 hn _ HB.out)
    clear C2 ci hn
    have HC := Lib.hid (fun w2 (h : Below (w.heap.size + 1) (w.alloc (.cells #[.int .i64 0, .int .i64 0, .int .i64 0] 51)) w2) => (show w2.cell? ⟨b, 16 + k, none⟩ = some (.int .i64 i) from by
      rw [h.cell (p := ⟨b, 16 + k, none⟩) (by simp only; omega), HB.out.cell (p := ⟨b, 16 + k, none⟩) (by simp only; omega)]; exact hc))
    clear hc
    go_enter Try.func15, Try.ntmps15
    go_wp2_with fail
    refine (C.out _).mono ?_; rintro e w1 ⟨rfl, rfl⟩
    go_wp2_with fail
    refine HA.out.mono ?_; rintro e w1 ⟨rfl, hb1⟩
    rw [World.size_alloc] at hb1
    have hc := HC.out _ hb1
    have bl : w1.heap[w.heap.size]? = some (.cells #[.int .i64 0, .int .i64 0, .int .i64 0] 51 (0, 0)) := blk_below hb1 (blk_new w _) (by omega)
    have c0 : w1.cell? ⟨w.heap.size, 0, none⟩ = some (.int .i64 0) := blk_cell bl 0
    have c1 : w1.cell? ⟨w.heap.size, 1, none⟩ = some (.int .i64 0) := blk_cell bl 1
    have c2 : w1.cell? ⟨w.heap.size, 2, none⟩ = some (.int .i64 0) := blk_cell bl 2
    have f0 := blk_free bl 0
    have f1 := blk_free bl 1
    have f2 := blk_free bl 2
    have hB1 := Lib.hid (show Below w.heap.size w w1 from HB.out.trans (hb1.mono (by omega)))
    clear hb1
    cases o with
    | none =>
      simp only [Option.getD_none, Option.isSome_none]
      go_wp2_with fail
      exact bodyPost_ret (results_cu rfl rfl rfl (blk_set (blk_set (blk_set bl 0 _) 1 _) 2 _) Try.underlying51 rfl (by kernel_rfl)) rfl ⟨rfl, ((hB1.out.setCell (p := ⟨w.heap.size, 0, none⟩) (Nat.le_refl _) _).setCell (p := ⟨w.heap.size, 1, none⟩) (Nat.le_refl _) _).setCell (p := ⟨w.heap.size, 2, none⟩) (Nat.le_refl _) _⟩
    | some u =>
      simp only [Option.getD_some, Option.isSome_some]
      go_wp2_with fail
      exact bodyPost_ret (results_cu rfl rfl rfl (blk_set (blk_set (blk_set bl 0 _) 1 _) 2 _) Try.underlying51 rfl (by kernel_rfl)) rfl ⟨rfl, ((hB1.out.setCell (p := ⟨w.heap.size, 0, none⟩) (Nat.le_refl _) _).setCell (p := ⟨w.heap.size, 1, none⟩) (Nat.le_refl _) _).setCell (p := ⟨w.heap.size, 2, none⟩) (Nat.le_refl _) _⟩
theorem isN_of {n : Int} (h : isN n = true) : 0 ≤ n ∧ n ≤ 15 := by unfold isN rightN at h; exact of_decide_eq_true h
theorem isN_no {n : Int} (h : isN n = false) : ¬ (0 ≤ n ∧ n ≤ 15) := by unfold isN rightN at h; exact of_decide_eq_false h
theorem isN_ok {n : Int} (h0 : 0 ≤ n) (h1 : n ≤ 15) : isN n = true := by unfold isN rightN; exact decide_eq_true ⟨h0, h1⟩
/-- Get tells the beat. -/
theorem got_beat {x : Tv} {tl : List Tm} {inc : Int → Int} (hok : OkT x) (hr : RelT tl x.l inc) (hs : SortedW tl) (n : Int) :
    (if isN n = true then gotB n (inc n) (tickW tl n) else ⟨0, 0, 0⟩) = btD (beatB x.l n) ∧ (isN n && (tickW tl n).isSome) = (beatB x.l n).isSome := by
  cases hn : isN n with
  | false =>
    have : beatB x.l n = none := by
      cases hb : beatB x.l n with
      | none => rfl
      | some b =>
        obtain ⟨b1, b2⟩ := beat_some hb
        have := hok.2.2.2.2 b b1
        unfold okB at this
        exact absurd ⟨by omega, by omega⟩ (isN_no hn)
    rw [this]
    exact ⟨by simp [btD], rfl⟩
  | true =>
    rw [if_pos rfl]
    rcases hr.beat hs hok.2.2.2.1 n with ⟨h1, h2⟩ | ⟨b, h1, h2, h3, h4, h5⟩
    · rw [h1, h2]; exact ⟨rfl, rfl⟩
    · rw [h1, h2, ← h4, ← h3]; exact ⟨rfl, rfl⟩
theorem ta_get (F : Nat → Prop) (v : Value) (x : Tv) (w : World) (n : Int) (hn : inI n) : beaO.P F v x w → Calls Try.prog 15 #[v, .int .i64 n] w fun e w' => e = .returned (.tuple #[bt3 (btD (beatB x.l n)), .bool (beatB x.l n).isSome]) ∧ Below w.heap.size w w' := by
  rintro ⟨hok, ⟨rfl, h2, _⟩ | ⟨is, tl, hi, hW, hr⟩⟩
  · have h3 : x.l = [] := hok.2.2.1 h2
    rw [h3]
    exact nbget_any n w
  · have hs := wp_sorted hW
    obtain ⟨g1, g2⟩ := got_beat hok hr hs n
    have hW0 := hW
    obtain ⟨b, ms, rfl, H, _, hF⟩ := hW
    rw [← g1, ← g2]
    refine sbget_any b n w (tickW tl n) (incF is n) (fun _ w' hb => wat_any F _ tl n w' (wp_below hW0 hb) hn) (fun h => ?_) (lt_of_block H.blk)
    obtain ⟨h0, h1⟩ := isN_of h
    have := incs_at H.blk H.size hi n.toNat (by omega)
    rw [this, Int.toNat_of_nonneg h0]
end Go.Proofs.Ytdlkpkigpnlanaa
/- A table of beats in memory: Drop, Seen. Conditions: as stated. -/
namespace Go.Proofs.Ytdlkpkigpnlanaa
open Go.ChangeShapes Go.WideShapes Go.ChangeAt Go.RowKit
set_option linter.unusedVariables false
set_option maxRecDepth 100000
set_option linter.unusedSimpArgs false
set_option maxHeartbeats 2000000

theorem bea_turn {is : List Int} {s : Int} {F : Nat → Prop} {v : Value} {tl : List Tm} {l : List Bt} {w w1 w2 : World} (hi : is.length = 16) (hok : OkT ⟨s, l⟩) (hr : RelT tl l (incF is)) (hT : Turned F w w1) (h : OPost (whlOX (beaX is s)) F v tl w1 w2) : OPost beaO F v ⟨s, l⟩ w w2 := by
  obtain ⟨F', h1, h2, h3⟩ := h
  refine ⟨F', ⟨hok, .inr ⟨is, tl, hi, h1, hr⟩⟩, hT.trans h2 (fun b hb => .inl hb), fun k hk => ?_⟩
  rcases h3 k hk with q | q
  · exact .inl q
  · exact .inr (Nat.le_trans hT.size q)
theorem okT_wob {x : Tv} (h : OkT x) (n : Int) : OkT ⟨x.s, wobB x.l n⟩ :=
  ⟨h.1, h.2.1, fun q => by show wobB x.l n = []; rw [h.2.2.1 q]; rfl, SrtB.wob h.2.2.2.1 n, fun b hb => h.2.2.2.2 b (wob_mem.1 hb).1⟩
theorem okT_put {x : Tv} (h : OkT x) (hs : x.s ≠ 0) {y : Bt} (hy : okB y) : OkT ⟨x.s, putB x.l y⟩ :=
  ⟨h.1, h.2.1, fun q => absurd q hs, put_srt h.2.2.2.1 y, fun b hb => by
    rcases put_mem.1 hb with rfl | ⟨q, _⟩
    · exact hy
    · exact h.2.2.2.2 b q⟩
theorem ta_drop (F : Nat → Prop) (v : Value) (x : Tv) (w : World) (n i : Int) (hn : inI n) : beaO.P F v x w → Calls Try.prog 11 #[v, .int .i64 n, .int .i64 i] w fun e w' => e = .returned (.bool (dropB x.l n i).2) ∧ OPost beaO F v ⟨x.s, (dropB x.l n i).1⟩ w w' := by
  intro h
  have h0 := h
  have G := Lib.hid (ta_get F v x w n hn h)
  have hsame : ∀ w1, Below w.heap.size w w1 → OPost beaO F v x w w1 := fun w1 hb => opost_same h0 hb
  have hal : ∀ (X : Obj) (a : World), Below a.heap.size a (a.alloc X) := fun X a => (Below.refl _ _).alloc (Nat.le_refl _) _
  cases hb : beatB x.l n with
  | none =>
    have HE := Lib.hid (show dropB x.l n i = (x.l, false) by unfold dropB; rw [hb])
    rw [hb] at G
    simp only [Option.isSome_none] at G
    rw [HE.out]
    have HS := Lib.hid hsame
    clear h h0 hb hsame
    go_enter Try.func11, Try.ntmps11
    go_wp2_with fail
    refine G.out.mono ?_; rintro e w1 ⟨rfl, hB⟩
    simp only [btD, bt3, Option.getD_none]
    go_wp2_with fail
    go_ret
    exact ⟨rfl, HS.out _ (hB.trans ((hal _ _).mono hB.size))⟩
  | some y =>
    rcases h with ⟨hok, ⟨_, h2, _⟩ | ⟨is, tl, hi, hW, hr⟩⟩
    · rw [hok.2.2.1 h2] at hb; cases hb
    · have hs := wp_sorted hW
      have ht : (tickW tl n).isSome = true := by rw [hr.tick hs hok.2.2.2.1, hb]; rfl
      have hv : ∃ b, v = .pointer (some ⟨b, 0, none⟩) := by obtain ⟨b, ms, q, _⟩ := hW; exact ⟨b, q⟩
      obtain ⟨b, rfl⟩ := hv
      have HD := Lib.hid (show ∀ w1, Below w.heap.size w w1 → Calls Try.prog 25 #[.pointer (some ⟨b, 0, none⟩), .int .i64 n] w1 fun e w' => e = .returned (.bool true) ∧ OPost beaO F (.pointer (some ⟨b, 0, none⟩)) ⟨x.s, wobB x.l n⟩ w w' from fun w1 hB => by
        refine (wdrop_any F _ tl n w1 (wp_below hW hB) hn).mono fun e w' ⟨he, hp⟩ => ⟨by rw [he, ht], bea_turn hi (okT_wob hok n) (hr.drop n) (Turned.of hB) hp⟩)
      rw [hb] at G
      simp only [Option.isSome_some] at G
      have HS := Lib.hid hsame
      by_cases he : y.i = i
      · have HE := Lib.hid (show dropB x.l n i = (wobB x.l n, true) by unfold dropB; rw [hb]; simp only [he, if_true])
        rw [HE.out]
        have d1 : (y.i == i) = true := by simp [he]
        clear h0 hb hsame hok hW hr hs ht he
        go_enter Try.func11, Try.ntmps11
        go_wp2_with fail
        refine G.out.mono ?_; rintro e w1 ⟨rfl, hB⟩
        simp only [btD, bt3, Option.getD_some]
        generalize y.n = yn at *
        generalize y.i = yi at *
        generalize y.u = yu at *
        have HB := Lib.hid (fun X => hB.trans ((hal X w1).mono hB.size))
        clear hB
        go_wp2_with fail
        refine (HD.out _ (HB.out _)).mono ?_; rintro e w2 ⟨rfl, hp⟩
        go_wp2_with fail
        go_ret
        exact ⟨rfl, hp⟩
      · have HE := Lib.hid (show dropB x.l n i = (x.l, false) by unfold dropB; rw [hb]; simp only [he, if_false])
        rw [HE.out]
        have d1 : (y.i == i) = false := by simp [he]
        clear h0 hb hsame hok hW hr hs ht he
        go_enter Try.func11, Try.ntmps11
        go_wp2_with fail
        refine G.out.mono ?_; rintro e w1 ⟨rfl, hB⟩
        simp only [btD, bt3, Option.getD_some]
        generalize y.n = yn at *
        generalize y.i = yi at *
        generalize y.u = yu at *
        have HB := Lib.hid (fun X => hB.trans ((hal X w1).mono hB.size))
        clear hB
        go_wp2_with fail
        go_ret
        exact ⟨rfl, HS.out _ (HB.out _)⟩
/-! ### Seen -/
theorem kvalid_any (n i now : Int) (w : World) : Calls Try.prog 22 #[.int .i64 n, .int .i64 i, .int .i64 now] w fun e w' => e = .returned (.bool (mayB n i now)) ∧ w = w' := by
  have C1 := Lib.hid (knode_any n w)
  have C2 := Lib.hid (right_any i 1 2147483647 w)
  have C3 := Lib.hid (right_any now 0 1099511627776 w)
  have HE := Lib.hid (show mayB n i now = (isN n && rightN i 1 2147483647 && rightN now 0 1099511627776) by
    unfold mayB isN rightN
    rw [Bool.decide_and, Bool.decide_and, Bool.decide_and]
    simp only [Bool.and_assoc])
  rw [HE.out]
  generalize isN n = a at *
  generalize rightN i 1 2147483647 = b at *
  generalize rightN now 0 1099511627776 = c at *
  cases a with
  | false =>
    go_enter Try.func22, Try.ntmps22
    go_wp2_with fail
    refine C1.out.mono ?_; rintro e w1 ⟨rfl, rfl⟩
    go_wp2_with fail
    go_ret
    exact ⟨rfl, rfl⟩
  | true => cases b with
    | false =>
      go_enter Try.func22, Try.ntmps22
      go_wp2_with fail
      refine C1.out.mono ?_; rintro e w1 ⟨rfl, rfl⟩
      go_wp2_with fail
      refine C2.out.mono ?_; rintro e w1 ⟨rfl, rfl⟩
      go_wp2_with fail
      go_ret
      exact ⟨rfl, rfl⟩
    | true =>
      go_enter Try.func22, Try.ntmps22
      go_wp2_with fail
      refine C1.out.mono ?_; rintro e w1 ⟨rfl, rfl⟩
      go_wp2_with fail
      refine C2.out.mono ?_; rintro e w1 ⟨rfl, rfl⟩
      go_wp2_with fail
      refine C3.out.mono ?_; rintro e w1 ⟨rfl, rfl⟩
      cases c
      all_goals
        go_wp2_with fail
        go_ret
        exact ⟨rfl, rfl⟩
theorem incs_set {is : List Int} {s : Int} {w : World} {b k : Nat} {ms : Array Value} {l : List Tm} (h : Whl (beaX is s) b ms l w) (hk : k < 16) (hi : is.length = 16) (i : Int) : Whl (beaX (is.set k i) s) b ms l (w.setCell ⟨b, 16 + k, none⟩ (.int .i64 i)) := by
  refine ⟨?_, h.size, fun j hj => (h.slot j hj).keep fun g hg => ?_, h.apart, h.own⟩
  · have := wx_setr h.blk k (.int .i64 i)
    rw [h.size] at this
    rw [this]
    have e : ((is.map (Value.int .i64) ++ [Value.int .i64 s]).set k (Value.int .i64 i)) = ((is.set k i).map (Value.int .i64) ++ [Value.int .i64 s]) := by
      rw [List.set_append_left _ _ (by simp; omega), List.map_set]
    show some (wX ⟨(is.map (Value.int .i64) ++ [Value.int .i64 s]).set k (Value.int .i64 i), 37⟩ ms) = _
    rw [e]
    rfl
  · refine Below.heap_setCell _ _ _ _ ?_
    intro e
    exact h.own j hj (by rw [hg]; exact congrArg _ (congrArg _ e))
theorem incF_set {is : List Int} (hi : is.length = 16) {k : Nat} (hk : k < 16) (i : Int) {n : Int} (h0 : 0 ≤ n) : incF (is.set k i) n = setZ (incF is) k i n := by
  show (is.set k i).getD n.toNat 0 = if n = (k : Int) then i else is.getD n.toNat 0
  rw [List.getD_eq_getElem?_getD, List.getD_eq_getElem?_getD, List.getElem?_set]
  by_cases h : n = (k : Int)
  · subst h
    rw [if_pos rfl, Int.toNat_natCast, if_pos rfl, if_pos (by omega)]
    rfl
  · rw [if_neg h, if_neg (by omega)]
/-- The end of Seen: the incarnation is written, the wheel is set. -/
theorem seen_set {is : List Int} {x : Tv} {F : Nat → Prop} {b k : Nat} {tl : List Tm} {w : World} (hok : OkT x) (hs0 : x.s ≠ 0) (hi : is.length = 16) (hW : WP (beaX is x.s) F (.pointer (some ⟨b, 0, none⟩)) tl w) (hr : RelT tl x.l (incF is)) (hk : k < 16) (i u : Int) (hy : okB ⟨k, i, u⟩) (w1 : World) (hB : Below w.heap.size w w1) :
    Calls Try.prog 24 #[.pointer (some ⟨b, 0, none⟩), .int .i64 k, .int .i64 u] (w1.setCell ⟨b, 16 + k, none⟩ (.int .i64 i)) fun e w' => e = .returned (.bool true) ∧ OPost beaO F (.pointer (some ⟨b, 0, none⟩)) ⟨x.s, putB x.l ⟨k, i, u⟩⟩ w w' := by
  have hs := wp_sorted hW
  obtain ⟨b', ms, hb', H, _, hF⟩ := wp_below hW hB
  cases hb'
  have H2 := incs_set H hk hi i
  have hW2 : WP (beaX (is.set k i) x.s) F (.pointer (some ⟨b, 0, none⟩)) tl (w1.setCell ⟨b, 16 + k, none⟩ (.int .i64 i)) := ⟨b, ms, rfl, H2, hs, hF⟩
  have hy0 := hy
  unfold okB at hy
  simp only at hy
  have hm : mayW u = true := by unfold mayW; simp; omega
  have hlen : tl.length ≤ 16 := by
    have h16 := srt_16 hok.2.2.2.1 (fun b hb => by have := hok.2.2.2.2 b hb; unfold okB at this; omega)
    have hd : (tl.map Tm.id).Nodup := List.pairwise_map.2 hs.ids
    have := (List.Nodup.length_le_of_subset (l₂ := x.l.map Bt.n) hd (fun n hn => by
      obtain ⟨t, t1, rfl⟩ := List.mem_map.1 hn
      obtain ⟨b, b1, rfl⟩ := (hr.mem t).1 t1
      exact List.mem_map.2 ⟨b, b1, rfl⟩))
    rw [List.length_map, List.length_map] at this
    omega
  refine (wset_any F _ tl k u _ hW2 (by unfold inI; omega) (by unfold inI; omega) (by omega)).mono fun e w' ⟨he, hp⟩ => ⟨by rw [he, hm], ?_⟩
  have hT : Turned F w (w1.setCell ⟨b, 16 + k, none⟩ (.int .i64 i)) := (Turned.of hB).trans (G := F) ⟨rfl, rfl, rfl, by simp, fun j hj hn => Below.heap_setCell _ _ _ _ fun e => hn (by rw [e]; exact (hF b).2 (.inl rfl))⟩ fun _ h => .inl h
  refine bea_turn (by simpa using hi) (okT_put hok hs0 (y := ⟨k, i, u⟩) hy0) ?_ hT hp
  have hr2 := hr.set ⟨k, i, u⟩ hm
  exact ⟨hr2.mem, fun b hb => by
    rw [incF_set hi hk i (by
      rcases put_mem.1 hb with rfl | ⟨q, _⟩
      · show (0 : Int) ≤ (k : Int); omega
      · exact (hok.2.2.2.2 b q).1)]
    exact hr2.inc b hb⟩
end Go.Proofs.Ytdlkpkigpnlanaa
/- A table of beats in memory: Seen. Conditions: as stated. -/
namespace Go.Proofs.Ytdlkpkigpnlanaa
open Go.ChangeShapes Go.WideShapes Go.ChangeAt Go.RowKit
set_option linter.unusedVariables false
set_option maxRecDepth 100000
set_option linter.unusedSimpArgs false
set_option maxHeartbeats 2000000

theorem seen_nobody (F : Nat → Prop) (v : Value) (x : Tv) (w : World) (n i now : Int) (h : beaO.P F v x w) (hs : x.s = 0) : Calls Try.prog 9 #[v, .int .i64 n, .int .i64 i, .int .i64 now] w fun e w' => e = .returned (.int .i64 7) ∧ OPost beaO F v x w w' := by
  have HS := Lib.hid (opost_same h (Below.refl w.heap.size w))
  have hun : undef = Value.tuple #[] := rfl
  rcases h with ⟨hok, ⟨rfl, h2, _⟩ | ⟨is, tl, hi, ⟨b, ms, rfl, H, _, hF⟩, hr⟩⟩
  · clear hok h2 hs
    go_enter Try.func9, Try.ntmps9
    go_wp2_with fail
    go_ret
    exact ⟨rfl, HS.out⟩
  · have hc := span_at H.blk H.size hi
    rw [hs] at hc
    clear hok hs H hr hF
    go_enter Try.func9, Try.ntmps9
    go_wp2_with fail
    go_ret
    exact ⟨rfl, HS.out⟩
theorem ta_seen (F : Nat → Prop) (v : Value) (x : Tv) (w : World) (n i now : Int) (hn : inI n) : beaO.P F v x w → Calls Try.prog 9 #[v, .int .i64 n, .int .i64 i, .int .i64 now] w fun e w' => e = .returned (.int .i64 (seenB x.s x.l n i now).2) ∧ OPost beaO F v ⟨x.s, (seenB x.s x.l n i now).1⟩ w w' := by
  intro h
  unfold seenB
  by_cases hs : x.s = 0
  · rw [if_pos hs]
    exact seen_nobody F v x w n i now h hs
  rw [if_neg hs]
  have G := Lib.hid (ta_get F v x w n hn h)
  have h0 := h
  rcases h with ⟨hok, ⟨_, h2, _⟩ | ⟨is, tl, hi, hW, hr⟩⟩
  · exact absurd h2 hs
  obtain ⟨b, ms, hv, H, hsw, hF⟩ := id hW
  subst hv
  have hc := span_at H.blk H.size hi
  have ds : (x.s == 0) = false := by simpa using hs
  have hbw : b < w.heap.size := lt_of_block H.blk
  have CV := Lib.hid (fun w' => kvalid_any n i now w')
  have HS := Lib.hid (show ∀ w1, Below w.heap.size w w1 → OPost beaO F (.pointer (some ⟨b, 0, none⟩)) x w w1 from fun w1 hb => opost_same h0 hb)
  cases hm : mayB n i now with
  | false =>
    rw [hm] at CV
    simp only [if_true]
    clear hok hs hW H hr hF h0 hm
    go_enter Try.func9, Try.ntmps9
    go_wp2_with fail
    refine (CV.out _).mono ?_; rintro e w1 ⟨rfl, rfl⟩
    go_wp2_with fail
    go_ret
    exact ⟨rfl, HS.out _ (Below.refl _ _)⟩
  | true =>
    rw [hm] at CV
    rw [if_neg (by simp)]
    have hmm : 0 ≤ n ∧ n ≤ 15 ∧ 1 ≤ i ∧ i ≤ 2147483647 ∧ 0 ≤ now ∧ now ≤ 1099511627776 := by
      unfold mayB at hm
      simp only [Bool.and_eq_true, decide_eq_true_eq] at hm
      omega
    obtain ⟨k, rfl, hk⟩ : ∃ k : Nat, n = (k : Int) ∧ k < 16 := ⟨n.toNat, by omega, by omega⟩
    have CL := Lib.hid (fun w' => later_any now x.s w')
    have hlt := spanV_in (spanV now 0 1099511627776 + spanV x.s 0 1099511627776) 0 1099511627776 (by omega)
    have hfin : ∀ u, 0 ≤ u → u ≤ 1099511627776 → ∀ w1, Below w.heap.size w w1 → Calls Try.prog 24 #[.pointer (some ⟨b, 0, none⟩), .int .i64 k, .int .i64 u] (w1.setCell ⟨b, 16 + k, none⟩ (.int .i64 i)) fun e w' => e = .returned (.bool true) ∧ OPost beaO F (.pointer (some ⟨b, 0, none⟩)) ⟨x.s, putB x.l ⟨k, i, u⟩⟩ w w' :=
      fun u h0 h1 w1 hB => seen_set hok hs hi hW hr hk i u ⟨by show (0 : Int) ≤ (k : Int); omega, by show (k : Int) ≤ 15; omega, hmm.2.2.1, hmm.2.2.2.1, h0, h1⟩ w1 hB
    have HFIN := Lib.hid hfin
    have hci : w.cell? ⟨b, 16 + k, none⟩ = some (.int .i64 (incF is k)) := incs_at H.blk H.size hi k hk
    have HCI := Lib.hid (show ∀ w1, Below w.heap.size w w1 → w1.cell? ⟨b, 16 + k, none⟩ = some (.int .i64 (incF is k)) ∧ w1.frozen? ⟨b, 16 + k, none⟩ = false from fun w1 hB =>
      ⟨(hB.cell (p := ⟨b, 16 + k, none⟩) hbw).trans hci, blk_free ((hB.block b hbw).trans H.blk) (16 + k)⟩)
    have hk0 : (0 : Int) ≤ (k : Int) ∧ (k : Int) < 16 := by omega
    have hi1 : 1 ≤ i := hmm.2.2.1
    have hal : ∀ (X : Obj) (a : World), Below w.heap.size w a → Below w.heap.size w (a.alloc X) := fun X a ha => ha.trans (((Below.refl _ _).alloc (Nat.le_refl _) _).mono ha.size)
    have hlt2 : 0 ≤ laterV now x.s ∧ laterV now x.s ≤ 1099511627776 := hlt
    have hyu : ∀ y, beatB x.l k = some y → 0 ≤ y.u ∧ y.u ≤ 1099511627776 := fun y hy => by have := hok.2.2.2.2 y (beat_some hy).1; unfold okB at this; omega
    clear hlt hfin hW hr hF H hsw hm hmm hci h0 hok
    generalize hL : laterV now x.s = L at *
    clear hL
    cases hb : beatB x.l k with
    | none =>
      rw [hb] at G
      simp only [btD, bt3, Option.getD_none, Option.isSome_none] at G ⊢
      have d1 : decide (i < 0) = false := decide_eq_false (by omega)
      have d2 : ((0 : Int) == i) = false := by simpa using (show ¬ (0 : Int) = i by omega)
      have HW := Lib.hid (HFIN.out L hlt2.1 hlt2.2)
      clear hb hyu hlt2
      go_enter Try.func9, Try.ntmps9
      go_wp2_with fail
      refine (CV.out _).mono ?_; rintro e w1 ⟨rfl, rfl⟩
      go_wp2_with fail
      refine (CL.out _).mono ?_; rintro e w1 ⟨rfl, rfl⟩
      go_wp2_with fail
      refine G.out.mono ?_; rintro e w1 ⟨rfl, hB⟩
      obtain ⟨hc2, hf2⟩ := HCI.out _ (hal (.cells #[.int .i64 0, .int .i64 0, .int .i64 0] 51) w1 hB)
      have HB := Lib.hid (hal (.cells #[.int .i64 0, .int .i64 0, .int .i64 0] 51) w1 hB)
      clear hB
      go_wp2_with fail
      refine (HW.out _ HB.out).mono ?_; rintro e w2 ⟨rfl, hp⟩
      go_wp2_with fail
      go_ret
      exact ⟨rfl, hp⟩
    | some y =>
      rw [hb] at G
      obtain ⟨hu0, hu1⟩ := hyu y hb
      simp only [btD, bt3, Option.getD_some, Option.isSome_some] at G ⊢
      clear hb hyu
      generalize y.n = yn at *
      generalize y.i = yi at *
      generalize y.u = yu at *
      by_cases hf : i < yi
      · rw [if_pos hf]
        have d1 : decide (i < yi) = true := decide_eq_true hf
        clear hf
        go_enter Try.func9, Try.ntmps9
        go_wp2_with fail
        refine (CV.out _).mono ?_; rintro e w1 ⟨rfl, rfl⟩
        go_wp2_with fail
        refine (CL.out _).mono ?_; rintro e w1 ⟨rfl, rfl⟩
        go_wp2_with fail
        refine G.out.mono ?_; rintro e w1 ⟨rfl, hB⟩
        obtain ⟨hc2, hf2⟩ := HCI.out _ (hal (.cells #[.int .i64 yn, .int .i64 yi, .int .i64 yu] 51) w1 hB)
        have HB := Lib.hid (hal (.cells #[.int .i64 yn, .int .i64 yi, .int .i64 yu] 51) w1 hB)
        clear hB
        go_wp2_with fail
        go_ret
        exact ⟨rfl, HS.out _ HB.out⟩
      rw [if_neg hf]
      have d1 : decide (i < yi) = false := decide_eq_false hf
      by_cases he : yi = i
      · have d2 : (yi == i) = true := by simpa using he
        rw [if_pos he]
        have HW := Lib.hid (HFIN.out (max L yu) (by omega) (by omega))
        clear he hf hlt2 hu0 hu1
        go_enter Try.func9, Try.ntmps9
        go_wp2_with fail
        refine (CV.out _).mono ?_; rintro e w1 ⟨rfl, rfl⟩
        go_wp2_with fail
        refine (CL.out _).mono ?_; rintro e w1 ⟨rfl, rfl⟩
        go_wp2_with fail
        refine G.out.mono ?_; rintro e w1 ⟨rfl, hB⟩
        obtain ⟨hc2, hf2⟩ := HCI.out _ (hal (.cells #[.int .i64 yn, .int .i64 yi, .int .i64 yu] 51) w1 hB)
        have HB := Lib.hid (hal (.cells #[.int .i64 yn, .int .i64 yi, .int .i64 yu] 51) w1 hB)
        clear hB
        go_wp2_with fail
        refine (HW.out _ HB.out).mono ?_; rintro e w2 ⟨rfl, hp⟩
        go_wp2_with fail
        go_ret
        exact ⟨rfl, hp⟩
      · have d2 : (yi == i) = false := by simpa using he
        rw [if_neg he]
        have HW := Lib.hid (HFIN.out L hlt2.1 hlt2.2)
        clear he hf hlt2 hu0 hu1
        go_enter Try.func9, Try.ntmps9
        go_wp2_with fail
        refine (CV.out _).mono ?_; rintro e w1 ⟨rfl, rfl⟩
        go_wp2_with fail
        refine (CL.out _).mono ?_; rintro e w1 ⟨rfl, rfl⟩
        go_wp2_with fail
        refine G.out.mono ?_; rintro e w1 ⟨rfl, hB⟩
        obtain ⟨hc2, hf2⟩ := HCI.out _ (hal (.cells #[.int .i64 yn, .int .i64 yi, .int .i64 yu] 51) w1 hB)
        have HB := Lib.hid (hal (.cells #[.int .i64 yn, .int .i64 yi, .int .i64 yu] 51) w1 hB)
        clear hB
        go_wp2_with fail
        refine (HW.out _ HB.out).mono ?_; rintro e w2 ⟨rfl, hp⟩
        go_wp2_with fail
        go_ret
        exact ⟨rfl, hp⟩
end Go.Proofs.Ytdlkpkigpnlanaa
/- A table of beats in memory: All. Conditions: as stated. -/
namespace Go.Proofs.Ytdlkpkigpnlanaa
open Go.ChangeShapes Go.WideShapes Go.ChangeAt Go.RowKit
set_option linter.unusedVariables false
set_option maxRecDepth 100000
set_option linter.unusedSimpArgs false
set_option maxHeartbeats 2000000

def uptoB (l : List Bt) (k : Int) : List Bt := l.filter fun b => decide (b.n < k)
theorem uptoB_len (l : List Bt) (k : Int) : (uptoB l k).length ≤ l.length := List.length_filter_le _ _
theorem uptoB_zero {l : List Bt} (h : ∀ b ∈ l, okB b) : uptoB l 0 = [] := List.filter_eq_nil_iff.2 fun b hb => by have := h b hb; unfold okB at this; simp; omega
theorem uptoB_all {l : List Bt} (h : ∀ b ∈ l, okB b) : uptoB l 16 = l := List.filter_eq_self.2 fun b hb => by have := h b hb; unfold okB at this; exact decide_eq_true (by omega)
theorem ta_all (F : Nat → Prop) (v : Value) (x : Tv) (w : World) : beaO.P F v x w → Calls Try.prog 17 #[v] w fun e w' => ∃ u, e = .returned u ∧ RdB w' (fun k => w.heap.size ≤ k) u x.l ∧ Below w.heap.size w w' := by
  intro h
  have hok : OkT x := h.1
  have h16 := srt_16 hok.2.2.2.1 (fun b hb => by have := hok.2.2.2.2 b hb; unfold okB at this; omega)
  have G := Lib.hid (show ∀ w1, Below w.heap.size w w1 → ∀ k : Nat, k < 16 → Calls Try.prog 15 #[v, .int .i64 k] w1 fun e w' => e = .returned (.tuple #[bt3 (btD (beatB x.l k)), .bool (beatB x.l k).isSome]) ∧ Below w1.heap.size w1 w' from fun w1 hb k hk => ta_get F v x w1 k (by unfold inI; omega) (Own.below h hb))
  have HU := Lib.hid (fun k => upto_step hok.2.2.2.1 k)
  have H0 := Lib.hid (uptoB_zero hok.2.2.2.2)
  have HA := Lib.hid (uptoB_all hok.2.2.2.2)
  clear h hok
  generalize x.l = l at *
  go_enter Try.func17, Try.ntmps17
  go_wp2_with fail
  go_loopw [3, 7] (fun r i wr => ∃ k : Nat, k ≤ 16 ∧ i = .int .i64 k ∧ wr.ownsRow w.heap.size 51 3 r (uptoB l k).length (rowsB (uptoB l k)).flatten ∧ Below w.heap.size w wr) (fun _ i _ => 16 - (intOf i).toNat)
  case atStart => exact ⟨0, by omega, rfl, by rw [show ((0 : Nat) : Int) = 0 from rfl, H0.out]; exact World.ownsRow_nil _ _ _ _, Below.refl _ _⟩
  case round =>
    obtain ⟨k, hk, rfl, hown, hb⟩ := hrel
    have HO := Lib.hid hown
    have HB := Lib.hid hb
    have hws : w.heap.size ≤ wr.heap.size := hb.size
    have hdl := uptoB_len l k
    clear hown hb
    by_cases hlt : k < 16
    · have dk : decide ((k : Int) < 16) = true := decide_eq_true (by omega)
      have GK := Lib.hid (G.out _ HB.out k hlt)
      obtain ⟨u1, u2⟩ := HU.out k
      cases hbk : beatB l k with
      | none =>
        rw [hbk] at GK
        have HT := Lib.hid (show uptoB l ((k + 1 : Nat) : Int) = uptoB l k by unfold uptoB; rw [show ((k + 1 : Nat) : Int) = (k : Int) + 1 by omega]; exact u1 hbk)
        simp only [btD, bt3, Option.getD_none, Option.isSome_none] at GK
        clear u1 u2 hbk
        go_wp2_with fail
        refine GK.out.mono ?_; rintro e w1 ⟨rfl, hB⟩
        have hs1 : wr.heap.size ≤ w1.heap.size := hB.size
        have HB1 := Lib.hid ((HB.out.trans (hB.mono hws)).alloc (by omega) (.cells #[.int .i64 0, .int .i64 0, .int .i64 0] 51))
        have HO1 := Lib.hid ((owns_below HO.out hB).alloc (.cells #[.int .i64 0, .int .i64 0, .int .i64 0] 51))
        clear hB
        go_wp2_with fail
        go_roundw
        case rel => exact ⟨k + 1, by omega, by go_num, by rw [HT.out]; exact HO1.out, HB1.out⟩
        case measure => simp [intOf]; omega
      | some y =>
        rw [hbk] at GK
        have HT := Lib.hid (show uptoB l ((k + 1 : Nat) : Int) = uptoB l k ++ [y] by unfold uptoB; rw [show ((k + 1 : Nat) : Int) = (k : Int) + 1 by omega]; exact u2 y hbk)
        simp only [btD, bt3, Option.getD_some, Option.isSome_some] at GK
        clear u1 u2 hbk
        go_wp2_with fail
        refine GK.out.mono ?_; rintro e w1 ⟨rfl, hB⟩
        have hs1 : wr.heap.size ≤ w1.heap.size := hB.size
        have HB1 := Lib.hid ((HB.out.trans (hB.mono hws)).alloc (by omega) (.cells #[.int .i64 y.n, .int .i64 y.i, .int .i64 y.u] 51))
        have HO1 := Lib.hid ((owns_below HO.out hB).alloc (.cells #[.int .i64 y.n, .int .i64 y.i, .int .i64 y.u] 51))
        have HR := Lib.hid (show RdK 3 ((w1.alloc (.cells #[.int .i64 y.n, .int .i64 y.i, .int .i64 y.u] 51)).alloc (.cells #[.int .i64 y.n, .int .i64 y.i, .int .i64 y.u] 51)) (fun _ => True) (.slice (some ⟨w1.heap.size + 1, 0, none⟩) 1 1) [y.row] from by
          have := rdK_lit1 (w1.alloc (.cells #[.int .i64 y.n, .int .i64 y.i, .int .i64 y.u] 51)) y.row #[.int .i64 y.n, .int .i64 y.i, .int .i64 y.u] 51 rfl
          rw [World.size_alloc] at this
          exact this.imp fun _ _ _ => trivial)
        clear hB
        go_wp2_with (at_builtin; refine wpList_append_rdK rfl _ _ 28 rfl w.heap.size 51 (.agg #[.int .i64 0, .int .i64 0, .int .i64 0]) 3 24 infoBt rfl (by decide) (by decide) Try.underlying28 _ _ _ rfl (HO1.out.alloc _) (fun _ => True) _ (rowsB [y]) rfl ?c2 (rowsB_three _) (rowsB_one _) ?c3 ?c4 ?_)
        case c2 => exact HR.out
        case c3 => rw [rowsB_len]; simp; omega
        case c4 => simp; omega
        intro v' w4 hown4 hgrow
        have HB4 := Lib.hid (grown_below (HB1.out.alloc (by simp; omega) _) hgrow (fun g hg => owns_row HO.out hg) (by simp; omega))
        have hown4' : w4.ownsRow w.heap.size 51 3 v' (uptoB l ((k + 1 : Nat) : Int)).length (rowsB (uptoB l ((k + 1 : Nat) : Int))).flatten := by
          rw [HT.out, List.length_append, rowsB_append]
          exact hown4
        have HO4 := Lib.hid hown4'
        clear hown4 hown4' hgrow
        go_wp2_with fail
        go_roundw
        case rel => exact ⟨k + 1, by omega, by go_num, HO4.out, HB4.out⟩
        case measure => simp [intOf]; omega
    · obtain rfl : k = 16 := by omega
      have HF := Lib.hid (show RdB wr (fun k => w.heap.size ≤ k) u3 l from by
        have := rdB_own (l := uptoB l ((16 : Nat) : Int)) HO.out rfl
        rwa [show ((16 : Nat) : Int) = 16 from rfl, HA.out] at this)
      clear HO
      go_wp2_with fail
      go_ret
      exact ⟨_, rfl, HF.out, HB.out⟩
end Go.Proofs.Ytdlkpkigpnlanaa
/- A table of beats in memory: Due. Conditions: as stated. -/
namespace Go.Proofs.Ytdlkpkigpnlanaa
open Go.ChangeShapes Go.WideShapes Go.ChangeAt Go.RowKit
set_option linter.unusedVariables false
set_option maxRecDepth 100000
set_option linter.unusedSimpArgs false
set_option maxHeartbeats 2000000

/-- How far Due has come: the row v of its own reads as d, the beats l are left. -/
structure DuS (is : List Int) (x : Tv) (F : Nat → Prop) (b : Nat) (w0 : World) (now : Int) (v : Value) (tl : List Tm) (l d : List Bt) (w : World) : Prop where
  W : WP (beaX is x.s) F (.pointer (some ⟨b, 0, none⟩)) tl w
  own : w.ownsRow w0.heap.size 51 3 v d.length (rowsB d).flatten
  T : Turned F w0 w
  rel : RelT tl l (incF is)
  srt : SrtB l
  one : (dueB 16 x.l now).1 = d ++ (dueB 16 l now).1
  two : (dueB 16 x.l now).2 = (dueB 16 l now).2
  sub : ∀ y ∈ l, y ∈ x.l
  len : d.length + l.length ≤ 16
theorem filter_both {α : Type} (l : List α) (p : α → Bool) : (l.filter (fun b => !p b)).length + (l.filter p).length = l.length := by
  induction l with
  | nil => rfl
  | cons a r ih =>
    rw [List.filter_cons, List.filter_cons]
    cases p a <;> simp <;> omega
theorem relT_len {tl : List Tm} {l : List Bt} {inc : Int → Int} (h : RelT tl l inc) (hs : SortedW tl) : tl.length ≤ l.length := by
  have hd : (tl.map Tm.id).Nodup := List.pairwise_map.2 hs.ids
  have := List.Nodup.length_le_of_subset (l₂ := l.map Bt.n) hd (fun n hn => by
    obtain ⟨t, t1, rfl⟩ := List.mem_map.1 hn
    obtain ⟨b, b1, rfl⟩ := (h.mem t).1 t1
    exact List.mem_map.2 ⟨b, b1, rfl⟩)
  rwa [List.length_map, List.length_map] at this
def lenV : Value → Nat
  | .slice _ n _ => n
  | _ => 0
/-- Within a round: k of the beats ds are told. -/
structure DuK (is : List Int) (F : Nat → Prop) (w0 w1 w2 : World) (u v : Value) (ns : List Int) (d : List Bt) (w : World) : Prop where
  own : w.ownsRow w0.heap.size 51 3 v d.length (rowsB d).flatten
  row : RdI w (fun g => w1.heap.size ≤ g ∧ g < w2.heap.size) u ns
  off : ∀ g, v.ownBlock = some g → g < w1.heap.size ∨ w2.heap.size ≤ g
  bel : Below w0.heap.size w2 w
  siz : w2.heap.size ≤ w.heap.size
section
variable {is : List Int} {x : Tv} {F : Nat → Prop} {b : Nat} {w0 w1 w2 w w' : World} {now : Int} {u v v' : Value} {tl : List Tm} {l d : List Bt} {ns : List Int}
theorem DuK.step {y : Bt} {cs : Array Value} {t : TypeId} (h : DuK is F w0 w1 w2 u v ns d w) (h0 : w0.heap.size ≤ w1.heap.size) (ho : w'.ownsRow w0.heap.size 51 3 v' (d.length + 1) ((rowsB d).flatten ++ [.int .i64 y.n, .int .i64 y.i, .int .i64 y.u]))
    (hg : (w.alloc (.cells cs t)).grownBy w' v.ownBlock) (hl : v'.ownBlock = v.ownBlock ∨ v'.ownBlock = some (w.heap.size + 1)) (h2 : w0.heap.size ≤ w2.heap.size) : DuK is F w0 w1 w2 u v' ns (d ++ [y]) w' := by
  have hsz : (w.alloc (.cells cs t)).heap.size = w.heap.size + 1 := by simp
  have hsw := hg.size
  have hs := h.siz
  refine ⟨?_, h.row.keep (fun g hk hlt => ?_) (by omega), fun g hg2 => ?_, ?_, by omega⟩
  · have e : (rowsB (d ++ [y])).flatten = (rowsB d).flatten ++ [.int .i64 y.n, .int .i64 y.i, .int .i64 y.u] := by rw [rowsB_append]; rfl
    rw [e, List.length_append]
    exact ho
  · refine (hg.block g (by omega) (fun e => ?_)).trans (((Below.refl w.heap.size w).alloc (Nat.le_refl _) _).block g hlt)
    rcases h.off g e.symm with q | q
    · have := hk.1; omega
    · have := hk.2; omega
  · rcases hl with q | q
    · exact h.off g (q ▸ hg2)
    · rw [q] at hg2
      have := Option.some.inj hg2
      right; omega
  · exact grown_below (h.bel.alloc (by omega) _) hg (fun g hg' => owns_row h.own hg') (by omega)
/-- A round of Due is done. -/
theorem DuS.next {ds : List Bt} (h : DuS is x F b w0 now v tl l d w1) (hd : DueR tl l (incF is) now) (hds : (dueB 16 l (nextW tl)).1 = ds) (hW : WP (beaX is x.s) F (.pointer (some ⟨b, 0, none⟩)) (leftW tl (nextW tl)) w2) (hT : Turned F w1 w2) (hF : ∀ k, F k → k < w0.heap.size) (hK : DuK is F w0 w1 w2 u v' ns (d ++ ds) w) (hb : Below w.heap.size w w') (h0 : w0.heap.size ≤ w1.heap.size) :
    DuS is x F b w0 now v' (leftW tl (nextW tl)) (dueB 16 l (nextW tl)).2 (d ++ ds) w' := by
  have hT2 := hT.size
  have hB : Below w0.heap.size w2 w' := hK.bel.trans (hb.mono (by have := hK.siz; omega))
  refine ⟨wp_keep hW fun k hk => hB.block k (hF k hk), owns_below hK.own hb, (h.T.trans hT fun k hk => .inl hk).trans (G := fun k => w0.heap.size ≤ k) ⟨hB.os, hB.tape, hB.output, hB.size, fun k hk hn => hB.block k (by omega)⟩ (fun k hk => .inr hk), hd.rel, hd.srt, ?_, ?_, fun y hy => h.sub y (hd.sub y hy), ?_⟩
  · rw [h.one, hd.one, hds, List.append_assoc]
  · rw [h.two, hd.two]
  · have h16 := h.len
    obtain ⟨f1, f2, f3, f4⟩ := due_facts (nextW tl) 16 l h.srt.uniq (by omega)
    have e : ds.length + (dueB 16 l (nextW tl)).2.length ≤ l.length := by
      rw [← hds, f1]
      have p : (l.filter (fun b => !decide (nextW tl < b.u))).length + (l.filter (fun b => decide (nextW tl < b.u))).length = l.length := filter_both l _
      have q : (dueB 16 l (nextW tl)).1.length ≤ (l.filter (fun b => !decide (nextW tl < b.u))).length := by
        refine List.Nodup.length_le_of_subset (f4.imp fun hab e => hab (by rw [e])) fun b hb => ?_
        obtain ⟨b1, b2⟩ := f2 b hb
        exact List.mem_filter.2 ⟨b1, by simp; omega⟩
      omega
    rw [List.length_append]
    omega
end
theorem nbdue_any (now : Int) (w : World) : Calls Try.prog 14 #[.pointer none, .int .i64 now] w fun e w' => e = .returned (.slice none 0 0) ∧ w = w' := by
  go_enter Try.func14, Try.ntmps14
  go_wp2_with fail
  go_ret
  exact ⟨rfl, rfl⟩
theorem sbdue_any (is : List Int) (x : Tv) (F : Nat → Prop) (b : Nat) (tl : List Tm) (w : World) (now : Int) (hi : is.length = 16) (hok : OkT x) (hW : WP (beaX is x.s) F (.pointer (some ⟨b, 0, none⟩)) tl w) (hr : RelT tl x.l (incF is)) :
    Calls Try.prog 14 #[.pointer (some ⟨b, 0, none⟩), .int .i64 now] w fun e w' => ∃ u, e = .returned u ∧ beaO.P F (.pointer (some ⟨b, 0, none⟩)) ⟨x.s, (dueB 16 x.l now).2⟩ w' ∧ Turned F w w' ∧ RdB w' (fun k => w.heap.size ≤ k) u (dueB 16 x.l now).1 := by
  have hl16 := srt_16 hok.2.2.2.1 (fun b hb => by have := hok.2.2.2.2 b hb; unfold okB at this; omega)
  have h0 : DuS is x F b w now (.slice none 0 0) tl x.l [] w := ⟨hW, World.ownsRow_nil _ _ _ _, Turned.refl _ _, hr, hok.2.2.2.1, rfl, rfl, fun _ h => h, by simpa using hl16⟩
  have hFl := wp_lt hW
  have HN := Lib.hid (show ∀ v tl l d w1, DuS is x F b w now v tl l d w1 → Calls Try.prog 26 #[.pointer (some ⟨b, 0, none⟩)] w1 fun e w' => e = .returned (.tuple #[.int .i64 (nextW tl), .bool (!tl.isEmpty)]) ∧ Below w1.heap.size w1 w' from fun v tl l d w1 h => wnext_any F _ tl w1 h.W)
  have HB := Lib.hid (show ∀ v tl l d w1 w2, DuS is x F b w now v tl l d w1 → Below w1.heap.size w1 w2 → DuS is x F b w now v tl l d w2 from fun v tl l d w1 w2 h hb => ⟨wp_below h.W hb, owns_below h.own hb, h.T.trans (G := fun _ => False) (Turned.of hb) (fun _ f => f.elim), h.rel, h.srt, h.one, h.two, h.sub, h.len⟩)
  have H0 := Lib.hid h0
  have HOK := Lib.hid hok
  have HF := Lib.hid hFl
  clear hW hr h0 hok hl16 hFl
  obtain ⟨it, hit, hz0, hz1, hz2⟩ := info_parts infoBt
  go_enter Try.func14, Try.ntmps14
  go_wp2_with fail
  refine (HN.out _ _ _ _ _ H0.out).mono ?_; rintro e w1 ⟨rfl, hB⟩
  have H1 := Lib.hid (HB.out _ _ _ _ _ _ H0.out hB)
  clear hB
  go_wp2_with fail
  go_loopw [5, 6, 7] (fun v t ok wr => ∃ tl l d, t = .int .i64 (nextW tl) ∧ ok = .bool (!tl.isEmpty) ∧ DuS is x F b w now v tl l d wr) (fun v _ _ _ => 16 - lenV v)
  case atStart => exact ⟨tl, x.l, [], rfl, rfl, H1.out⟩
  case round =>
    obtain ⟨tl', l', d, rfl, rfl, hS⟩ := hrel
    have HS := Lib.hid hS
    by_cases hgo : tl' ≠ [] ∧ nextW tl' ≤ now
    · have hemp : tl'.isEmpty = false := by cases tl' with | nil => exact absurd rfl hgo.1 | cons _ _ => rfl
      have dle : decide (nextW tl' ≤ now) = true := decide_eq_true hgo.2
      have hsw := wp_sorted hS.W
      have hl16 : l'.length ≤ 16 := by have := hS.len; omega
      have hlen := relT_len hS.rel hsw
      have hR := due_round hS.rel hsw hS.srt hl16 hgo.1 hgo.2
      have CD := Lib.hid (wdue_any F _ tl' (nextW tl') wr hS.W (by omega))
      have hwr : w.heap.size ≤ wr.heap.size := hS.T.size
      obtain ⟨ds, hds⟩ : ∃ ds, (dueB 16 l' (nextW tl')).1 = ds := ⟨_, rfl⟩
      have hids := hR.ids
      have hall := hR.all
      rw [hds] at hids hall
      rw [hids] at CD
      have hdl : ds.length + d.length ≤ 16 := by
        have h1 := hS.len
        have h2 := congrArg List.length hS.one
        have h3 := congrArg List.length hR.one
        have h4 := (dueB_len 16 x.l now).1
        rw [List.length_append] at h2 h3
        rw [hds] at h3
        omega
      have HAT := Lib.hid (show ∀ k (h : k < ds.length), ∃ m : Nat, m < 16 ∧ ds[k] = ⟨m, incF is m, nextW tl'⟩ from fun k h => by
        obtain ⟨a1, a2, a3⟩ := hall ds[k] (List.getElem_mem h)
        have a4 := HOK.out.2.2.2.2 _ (hS.sub _ a3)
        unfold okB at a4
        refine ⟨ds[k].n.toNat, by omega, ?_⟩
        rw [Int.toNat_of_nonneg a4.1, ← a2, ← a1])
      have HR := Lib.hid hR
      have HDS := Lib.hid hds
      have HOWN := Lib.hid (fun w2 (hT : Turned F wr w2) => (show w2.ownsRow w.heap.size 51 3 u5 d.length (rowsB d).flatten from owns_keep hS.own fun g hg hl => hT.block g hl fun hf => by have := HF.out g hf; omega))
      have HLT := Lib.hid (fun g hg => (hS.own.lt g hg).2)
      clear hids hall hR hds hsw hS hl16 hlen hgo
      have HNX := Lib.hid (show ∀ w2 u v wi w5, WP (beaX is x.s) F (.pointer (some ⟨b, 0, none⟩)) (leftW tl' (nextW tl')) w2 → Turned F wr w2 → DuK is F w wr w2 u v (ds.map Bt.n) (d ++ ds) wi → Below wi.heap.size wi w5 → DuS is x F b w now v (leftW tl' (nextW tl')) (dueB 16 l' (nextW tl')).2 (d ++ ds) w5 from fun w2 u v wi w5 h1 h2 h3 h4 => HS.out.next HR.out HDS.out h1 h2 HF.out h3 h4 hwr)
      have HNN := Lib.hid (show ∀ w2 u v wi, WP (beaX is x.s) F (.pointer (some ⟨b, 0, none⟩)) (leftW tl' (nextW tl')) w2 → Turned F wr w2 → DuK is F w wr w2 u v (ds.map Bt.n) (d ++ ds) wi → Calls Try.prog 26 #[.pointer (some ⟨b, 0, none⟩)] wi fun e w' => e = .returned (.tuple #[.int .i64 (nextW (leftW tl' (nextW tl'))), .bool (!(leftW tl' (nextW tl')).isEmpty)]) ∧ Below wi.heap.size wi w' from fun w2 u v wi h1 h2 h3 => HN.out _ _ _ _ _ (HNX.out w2 u v wi wi h1 h2 h3 (Below.refl _ _)))
      have hpos : 0 < ds.length := by have := HR.out.pos; rwa [HDS.out] at this
      generalize ha : nextW tl' = a at *
      clear ha
      rw [hemp]
      simp only [Bool.not_false]
      go_wp2_with fail
      refine CD.out.mono ?_; rintro e w2 ⟨u, rfl, hr2, hW2, hT2⟩
      have hs2 := hT2.size
      obtain ⟨A2, c2, rfl, _, _⟩ := hr2.form
      rw [List.length_map]
      have hK0 : DuK is F w wr w2 (.slice A2 ds.length c2) u5 (ds.map Bt.n) (d ++ ds.take 0) w2 := by
        rw [List.take_zero, List.append_nil]
        refine ⟨HOWN.out _ hT2, ?_, fun g hg => .inl (HLT.out g hg), Below.refl _ _, Nat.le_refl _⟩
        have := hr2.keep (fun _ _ _ => rfl) (Nat.le_refl _)
        rw [List.length_map] at this
        exact this.imp fun g h1 h2 => ⟨h1, h2⟩
      have HK0 := Lib.hid hK0
      have HINC := Lib.hid (show ∀ wi, Below w.heap.size w2 wi → ∀ m : Nat, m < 16 → wi.cell? ⟨b, 16 + m, none⟩ = some (.int .i64 (incF is m)) from fun wi hb m hm => by
        obtain ⟨b', ms, hb', H, _, hF⟩ := hW2
        cases hb'
        have hbw : b < w.heap.size := HF.out b ((hF b).2 (.inl rfl))
        rw [hb.cell (p := ⟨b, 16 + m, none⟩) hbw]
        exact incs_at H.blk H.size hi m hm)
      clear hr2 hK0
      go_wp2_with fail
      go_loopw [5, 38] (fun v i wi => ∃ k : Nat, k ≤ ds.length ∧ i = .int .i64 k ∧ DuK is F w wr w2 (.slice A2 ds.length c2) v (ds.map Bt.n) (d ++ ds.take k) wi) (fun _ i _ => ds.length - (intOf i).toNat)
      case atStart => exact ⟨0, by omega, rfl, HK0.out⟩
      case round =>
        obtain ⟨k, hk, rfl, hK⟩ := hrel
        have HKK := Lib.hid hK
        have hsi := hK.siz
        by_cases hlt : k < ds.length
        · obtain ⟨m, hm, hy⟩ := HAT.out k hlt
          have hsrc := hK.row
          obtain ⟨g, o, rfl, hg1, hg2, hg3⟩ := hsrc.at_ (k := k) (by rw [List.length_map]; exact hlt)
          have cy := hg3 k (by rw [List.length_map]; exact hlt)
          rw [List.getElem_map, hy] at cy
          simp only at cy
          have ci := HINC.out _ hK.bel m hm
          have CI := Lib.hid (show ∀ w', Calls Try.prog 28 #[.int .i64 m] w' fun e w'' => e = .returned (.bool true) ∧ w' = w'' from fun w' => by have := knode_any m w'; rwa [isN_ok (by omega) (by omega)] at this)
          have HT := Lib.hid (show d ++ ds.take (k + 1) = (d ++ ds.take k) ++ [⟨m, incF is m, a⟩] by rw [List.take_succ_eq_append_getElem hlt, hy, List.append_assoc])
          have HDK := Lib.hid (show (d ++ ds.take k).length = d.length + k by rw [List.length_append, List.length_take]; omega)
          have dk : decide ((k : Int) < (ds.length : Int)) = true := decide_eq_true (by omega)
          have hm0 : (0 : Int) ≤ (m : Int) ∧ (m : Int) < 16 := by omega
          generalize incF is m = j at *
          clear hK hsrc hg3 hy
          go_wp2_with fail
          refine (CI.out _).mono ?_; rintro e w3 ⟨rfl, rfl⟩
          go_wp2_with (at_builtin; refine wpList_append_own_at _ rfl _ _ 28 rfl w.heap.size 51 it (.agg #[.int .i64 0, .int .i64 0, .int .i64 0]) 3 24 Try.underlying28 hit hz0 hz1 hz2 rfl (by decide) _ _ _ rfl (HKK.out.own.alloc _) ⟨wr.heap.size, 0, none⟩ 1 1 [.int .i64 m, .int .i64 j, .int .i64 a] rfl rfl (cells_new _ _ _) ?c2 ?c3 ?c4 ?c5 ?_)
          case c2 => intro q hq; simp only [List.mem_cons, List.not_mem_nil, or_false] at hq; rcases hq with rfl | rfl | rfl <;> rfl
          case c3 => rw [HDK.out]; unfold maxLen; omega
          case c4 => rw [HDK.out]; omega
          case c5 => simp; omega
          intro v' w4 hown4 hgrow _ hloc
          have HK4 := Lib.hid (HKK.out.step (y := ⟨m, j, a⟩) (by omega) (by rw [HDK.out]; exact hown4) hgrow hloc (by omega))
          clear hown4 hgrow hloc
          go_wp2_with fail
          go_roundw
          case rel => exact ⟨k + 1, by omega, by go_num, by rw [HT.out]; exact HK4.out⟩
          case measure => simp [intOf]; omega
        · obtain rfl : k = ds.length := by omega
          rw [List.take_length] at hK HKK
          have dk : decide ((ds.length : Int) < (ds.length : Int)) = false := decide_eq_false (by omega)
          have NX := Lib.hid (HNN.out _ _ _ _ hW2 hT2 hK)
          have NS := Lib.hid (fun w5 hb => HNX.out _ _ _ _ w5 hW2 hT2 hK hb)
          have HV5 := Lib.hid (owns_form hK.own)
          have HV0 := Lib.hid (owns_form (HOWN.out _ hT2))
          clear hK HKK
          go_wp2_with fail
          refine NX.out.mono ?_; rintro e w5 ⟨rfl, hB5⟩
          have HS5 := Lib.hid (NS.out _ hB5)
          go_wp2_with fail
          go_roundw
          case rel => exact ⟨_, _, _, rfl, rfl, HS5.out⟩
          case measure =>
            obtain ⟨A5, c5, e5⟩ := HV5.out
            obtain ⟨A0, c0, e0⟩ := HV0.out
            rw [e5, e0]
            simp only [lenV, List.length_append]
            omega
    · have hstop : tl' = [] ∨ now < nextW tl' := by
        by_cases q : tl' = []
        · exact .inl q
        · rcases Int.lt_or_le now (nextW tl') with q2 | q2
          · exact .inr q2
          · exact absurd ⟨q, q2⟩ hgo
      have hsw := wp_sorted hS.W
      have hl16 : l'.length ≤ 16 := by have := hS.len; omega
      obtain ⟨p1, p2⟩ := due_stop hS.rel hsw hS.srt hl16 hstop
      have o1 := hS.one
      have o2 := hS.two
      rw [p1, List.append_nil] at o1
      rw [p2] at o2
      have HE := Lib.hid (show beaO.P F (.pointer (some ⟨b, 0, none⟩)) ⟨x.s, (dueB 16 x.l now).2⟩ wr ∧ Turned F w wr ∧ RdB wr (fun k => w.heap.size ≤ k) u5 (dueB 16 x.l now).1 from by
        rw [o1, o2]
        exact ⟨⟨⟨HOK.out.1, HOK.out.2.1, (fun q => List.eq_nil_iff_forall_not_mem.2 fun y hy => by have := hS.sub y hy; rw [HOK.out.2.2.1 q] at this; cases this), hS.srt, fun y hy => HOK.out.2.2.2.2 y (hS.sub y hy)⟩, .inr ⟨is, tl', hi, hS.W, hS.rel⟩⟩, hS.T, rdB_own hS.own rfl⟩)
      clear HS
      rcases hstop with rfl | hlt
      · clear hS hsw p1 p2 o1 o2 hgo
        simp only [List.isEmpty_nil, Bool.not_true]
        go_wp2_with fail
        go_ret
        exact ⟨_, rfl, HE.out⟩
      · have dle : decide (nextW tl' ≤ now) = false := decide_eq_false (by omega)
        clear hS hsw p1 p2 o1 o2 hgo
        generalize nextW tl' = a at *
        cases tl'.isEmpty
        all_goals
          go_wp2_with fail
          go_ret
          exact ⟨_, rfl, HE.out⟩
end Go.Proofs.Ytdlkpkigpnlanaa
/- A table of beats in memory: what its calls come to; one that nobody made (none, a zero one) is one of span 0. Conditions: as stated. -/
namespace Go.Proofs.Ytdlkpkigpnlanaa
open Go.ChangeShapes Go.WideShapes Go.ChangeAt Go.RowKit
set_option linter.unusedVariables false
set_option maxRecDepth 100000

theorem ta_due (F : Nat → Prop) (v : Value) (x : Tv) (w : World) (now : Int) : beaO.P F v x w → Calls Try.prog 14 #[v, .int .i64 now] w fun e w' => ∃ u F', e = .returned u ∧ beaO.P F' v ⟨x.s, (dueB 16 x.l now).2⟩ w' ∧ Turned F w w' ∧ (∀ k, F' k → F k ∨ w.heap.size ≤ k) ∧ RdB w' (fun k => w.heap.size ≤ k ∧ ¬ F' k) u (dueB 16 x.l now).1 := by
  intro h
  have hlt := beaO.lt h
  have h0 := h
  rcases h with ⟨hok, ⟨rfl, h2, h3⟩ | ⟨is, tl, hi, hW, hr⟩⟩
  · have hl : x.l = [] := hok.2.2.1 h2
    refine (nbdue_any now w).mono fun e w' ⟨he, hw⟩ => ?_
    subst hw
    have e1 : dueB 16 x.l now = ([], []) := by rw [hl]; rfl
    have hn : RdK 3 w (fun k => w.heap.size ≤ k ∧ ¬ F k) (.slice none 0 0) (rowsB []) := rdB_own (base := w.heap.size) (World.ownsRow_nil w w.heap.size 51 3) rfl |>.imp fun b hb hl => by omega
    exact ⟨_, F, he, by rw [e1]; exact ⟨⟨hok.1, hok.2.1, fun _ => rfl, List.Pairwise.nil, fun b hb => by cases hb⟩, .inl ⟨rfl, h2, h3⟩⟩, Turned.refl _ _, fun k hk => .inl hk, by rw [e1]; exact hn⟩
  · obtain ⟨b, ms, rfl, _⟩ := id hW
    refine (sbdue_any is x F b tl w now hi hok hW hr).mono fun e w' ⟨u, he, hp, hT, hr⟩ => ?_
    exact ⟨u, F, he, hp, hT, fun k hk => .inl hk, hr.imp fun k hk _ => ⟨hk, fun hf => by have := hlt k hf; omega⟩⟩
end Go.Proofs.Ytdlkpkigpnlanaa
