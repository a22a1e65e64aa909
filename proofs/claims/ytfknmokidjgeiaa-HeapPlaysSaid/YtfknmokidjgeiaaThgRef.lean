/- What the document's own answers for things with keys come to: Less, ahead, Find. Conditions: numbers that an int holds. -/
import Derived.Test.YtfknmokidjgeiaaThgPlain
import Derived.Test.YtfknmokidjgeiaaRdm
import Derived.Test.YtfknmokidjgeiaaSame
import Derived.Test.YtfknmokidjgeiaaHold
import Derived.ChangeKeysEq
import Derived.Laws.StructEq
namespace Go.Proofs.Ytfknmokidjgeiaa
open Go.ChangeShapes Go.WideShapes Go.ChangeAt Go.RowKit
set_option linter.unusedVariables false
set_option maxRecDepth 100000
set_option linter.unusedSimpArgs false

/-- Two keys that were boxed, one behind the other. -/
def twoK (w : World) (v u : V3) : World := (w.alloc (.cells v.cells 24)).alloc (.cells u.cells 24)
theorem key_cells (w : World) (v u : V3) :
    (twoK w v u).cell? ⟨w.heap.size, 0, none⟩ = some (.int .i64 v.a) ∧ (twoK w v u).cell? ⟨w.heap.size, 1, none⟩ = some (.int .i64 v.b) ∧ (twoK w v u).cell? ⟨w.heap.size, 2, none⟩ = some (.int .i64 v.c) ∧
    (twoK w v u).cell? ⟨w.heap.size + 1, 0, none⟩ = some (.int .i64 u.a) ∧ (twoK w v u).cell? ⟨w.heap.size + 1, 1, none⟩ = some (.int .i64 u.b) ∧ (twoK w v u).cell? ⟨w.heap.size + 1, 2, none⟩ = some (.int .i64 u.c) := by
  have h1 := blk_old (.cells u.cells 24) (blk_new w (.cells v.cells 24))
  have h2 := blk_new (w.alloc (.cells v.cells 24)) (.cells u.cells 24)
  have e : (w.alloc (.cells v.cells 24)).heap.size = w.heap.size + 1 := by simp
  rw [e] at h2
  exact ⟨blk_cell h1 0, blk_cell h1 1, blk_cell h1 2, blk_cell h2 0, blk_cell h2 1, blk_cell h2 2⟩
theorem twoK_below (w : World) (v u : V3) : Below w.heap.size w (twoK w v u) := ((Below.refl w.heap.size w).alloc (Nat.le_refl _) _).alloc (by simp) _
theorem below_drewK {B : Nat} {a w : World} (h : Below B a w) (n : Nat) : Below B a (w.drewN n) := ⟨h.os, h.tape, h.output, h.size, h.block⟩
set_option maxHeartbeats 1000000 in
theorem k9less_any (v u : V3) (w : World) :
    Calls Try.prog 7 #[v.val, u.val] w fun e w' => e = .returned (.bool (lessB v u)) ∧ Below w.heap.size w w' := by
  obtain ⟨g0, g1, g2, g3, g4, g5⟩ := key_cells w v u
  have HB := Lib.hid (twoK_below w v u)
  unfold V3.val
  unfold twoK V3.cells at g0 g1 g2 g3 g4 g5 HB
  go_enter Try.func7, Try.ntmps7
  go_wp2_with fail
  generalize (w.alloc (.cells #[.int .i64 v.a, .int .i64 v.b, .int .i64 v.c] 24)).alloc (.cells #[.int .i64 u.a, .int .i64 u.b, .int .i64 u.c] 24) = w1 at *
  go_loopw [5] (fun i wr => ∃ k n : Nat, k ≤ 3 ∧ i = .int .i64 k ∧ wr = w1.drewN n ∧ (0 < k → v.a = u.a) ∧ (1 < k → v.b = u.b) ∧ (2 < k → v.c = u.c)) (fun i _ => 3 - (intOf i).toNat)
  case atStart => exact ⟨0, 0, by omega, rfl, rfl, fun h => absurd h (by omega), fun h => absurd h (by omega), fun h => absurd h (by omega)⟩
  case round =>
    obtain ⟨k, n, hk, rfl, rfl, hI⟩ := hrel
    have HI := Lib.hid hI
    clear hI
    have hk4 : k = 0 ∨ k = 1 ∨ k = 2 ∨ k = 3 := by omega
    rcases hk4 with rfl | rfl | rfl | rfl
    · by_cases hne : v.a = u.a
      · have d1 : (v.a == u.a) = true := by rw [hne]; simp
        have d2 : (v.a != u.a) = false := by rw [hne]; simp
        have HQ := Lib.hid hne
        clear hne
        go_wp2_with fail
        go_quiet (fail)
        go_wp2_with fail
        go_roundw
        case rel => exact ⟨1, _, by omega, rfl, rfl, fun h => HQ.out, fun h => absurd h (by omega), fun h => absurd h (by omega)⟩
        case measure => simp [intOf]
      · have d1 : (v.a == u.a) = false := beq_false_of_ne hne
        have d2 : (v.a != u.a) = true := by simpa using hne
        have hne : v.a ≠ u.a := hne
        have HX := Lib.hid (show lessB v u = decide (v.a < u.a) from by unfold lessB; rw [if_pos hne])
        clear hne
        go_wp2_with fail
        go_quiet (fail)
        go_wp2_with fail
        go_quiet (fail)
        go_wp2_with fail
        go_ret
        exact ⟨by rw [HX.out]; rfl, below_drewK (below_drewK (below_drewK HB.out _) _) _⟩
    · by_cases hne : v.b = u.b
      · have d1 : (v.b == u.b) = true := by rw [hne]; simp
        have d2 : (v.b != u.b) = false := by rw [hne]; simp
        have HQ := Lib.hid hne
        clear hne
        go_wp2_with fail
        go_quiet (fail)
        go_wp2_with fail
        go_roundw
        case rel => exact ⟨2, _, by omega, rfl, rfl, fun h => HI.out.1 (by omega), fun h => HQ.out, fun h => absurd h (by omega)⟩
        case measure => simp [intOf]
      · have d1 : (v.b == u.b) = false := beq_false_of_ne hne
        have d2 : (v.b != u.b) = true := by simpa using hne
        have hne : v.b ≠ u.b := hne
        have HX := Lib.hid (show lessB v u = decide (v.b < u.b) from by unfold lessB; rw [if_neg (fun h => h (HI.out.1 (by omega))), if_pos hne])
        clear hne
        go_wp2_with fail
        go_quiet (fail)
        go_wp2_with fail
        go_quiet (fail)
        go_wp2_with fail
        go_ret
        exact ⟨by rw [HX.out]; rfl, below_drewK (below_drewK (below_drewK HB.out _) _) _⟩
    · by_cases hne : v.c = u.c
      · have d1 : (v.c == u.c) = true := by rw [hne]; simp
        have d2 : (v.c != u.c) = false := by rw [hne]; simp
        have HQ := Lib.hid hne
        clear hne
        go_wp2_with fail
        go_quiet (fail)
        go_wp2_with fail
        go_roundw
        case rel => exact ⟨3, _, by omega, rfl, rfl, fun h => HI.out.1 (by omega), fun h => HI.out.2.1 (by omega), fun h => HQ.out⟩
        case measure => simp [intOf]
      · have d1 : (v.c == u.c) = false := beq_false_of_ne hne
        have d2 : (v.c != u.c) = true := by simpa using hne
        have hne : v.c ≠ u.c := hne
        have HX := Lib.hid (show lessB v u = decide (v.c < u.c) from by unfold lessB; rw [if_neg (fun h => h (HI.out.1 (by omega))), if_neg (fun h => h (HI.out.2.1 (by omega)))])
        clear hne
        go_wp2_with fail
        go_quiet (fail)
        go_wp2_with fail
        go_quiet (fail)
        go_wp2_with fail
        go_ret
        exact ⟨by rw [HX.out]; rfl, below_drewK (below_drewK (below_drewK HB.out _) _) _⟩
    · have HX := Lib.hid (show lessB v u = false by unfold lessB; rw [if_neg (fun h => h (HI.out.1 (by omega))), if_neg (fun h => h (HI.out.2.1 (by omega))), HI.out.2.2 (by omega)]; simp)
      go_wp2_with fail
      go_ret
      exact ⟨by rw [HX.out]; rfl, below_drewK HB.out _⟩
theorem eqK_run (w : World) (v u : V3) :
    (Op.equalIn 10000 24 (.agg #[.int .i64 v.a, .int .i64 v.b, .int .i64 v.c]) (.agg #[.int .i64 u.a, .int .i64 u.b, .int .i64 u.c])).run Try.prog w = .ok (eq3 v u) w := by
  obtain ⟨i, hi, hz0, hz1, hz2⟩ := info_parts infoI64
  have h := run_equalIn_array (P := Try.prog) (w := w) 9999 (t := 24) (e := 3) (n := 3) #[.int .i64 v.a, .int .i64 v.b, .int .i64 v.c] #[.int .i64 u.a, .int .i64 u.b, .int .i64 u.c] (by kernel_rfl) hi
  rw [show Try.prog.cellsOf 3 = 1 by kernel_rfl, show List.range 3 = [0, 1, 2] from rfl] at h
  refine Eq.trans h ?_
  have hu : Try.prog.underlying 3 = some (.int .i64) := Try.underlying3
  unfold eq3
  cases h1 : v.a == u.a <;> cases h2 : v.b == u.b <;> cases h3 : v.c == u.c <;>
  simp [Op.eqItems, part, go_sem, hi, hz1, hu, h1, h2, h3]
theorem thg_cells (w : World) (x y : Thg) (b : Nat) (hx : w.heap[b]? = some (.cells #[.int .i64 x.id, .int .i64 x.key.a, .int .i64 x.key.b, .int .i64 x.key.c] 41 (0, 0))) :
    w.cell? ⟨b, 0, none⟩ = some (.int .i64 x.id) ∧ w.cell? ⟨b, 1, none⟩ = some (.int .i64 x.key.a) ∧ w.cell? ⟨b, 2, none⟩ = some (.int .i64 x.key.b) ∧ w.cell? ⟨b, 3, none⟩ = some (.int .i64 x.key.c) :=
  ⟨blk_cell hx 0, blk_cell hx 1, blk_cell hx 2, blk_cell hx 3⟩
theorem blk_two (w : World) (o1 o2 : Obj) : ((w.alloc o1).alloc o2).heap[w.heap.size]? = some o1 ∧ ((w.alloc o1).alloc o2).heap[w.heap.size + 1]? = some o2 :=
  ⟨blk_old _ (blk_new w _), by have := blk_new (w.alloc o1) o2; simpa using this⟩
set_option maxHeartbeats 1000000 in
theorem k9ahead_any (x y : Thg) (w : World) :
    Calls Try.prog 26 #[x.val, y.val] w fun e w' => e = .returned (.bool (aheadT x y)) ∧ Below w.heap.size w w' := by
  obtain ⟨hx, hy⟩ := blk_two w (.cells #[.int .i64 x.id, .int .i64 x.key.a, .int .i64 x.key.b, .int .i64 x.key.c] 41) (.cells #[.int .i64 y.id, .int .i64 y.key.a, .int .i64 y.key.b, .int .i64 y.key.c] 41)
  obtain ⟨x0, x1, x2, x3⟩ := thg_cells _ x x _ hx
  obtain ⟨y0, y1, y2, y3⟩ := thg_cells _ y y _ hy
  have HB := Lib.hid (((Below.refl w.heap.size w).alloc (Nat.le_refl _) (.cells #[.int .i64 x.id, .int .i64 x.key.a, .int .i64 x.key.b, .int .i64 x.key.c] 41)).alloc (by simp) (.cells #[.int .i64 y.id, .int .i64 y.key.a, .int .i64 y.key.b, .int .i64 y.key.c] 41))
  have L1 := fun w => k9less_any x.key y.key w
  have HX := Lib.hid (show aheadT x y = (lessB x.key y.key || (eq3 x.key y.key && decide (x.id < y.id))) from rfl)
  have EK := fun w => eqK_run w x.key y.key
  unfold V3.val at L1
  unfold Thg.val
  have L1 := Lib.hid L1
  clear hx hy
  go_enter Try.func26, Try.ntmps26
  go_wp2_with fail
  generalize (w.alloc (.cells #[.int .i64 x.id, .int .i64 x.key.a, .int .i64 x.key.b, .int .i64 x.key.c] 41)).alloc (.cells #[.int .i64 y.id, .int .i64 y.key.a, .int .i64 y.key.b, .int .i64 y.key.c] 41) = w1 at *
  refine (L1.out _).mono ?_; rintro e w2 ⟨rfl, b1⟩
  have lt1 := World.block_lt_of_cell? w1 _ x0
  have lt2 := World.block_lt_of_cell? w1 _ y0
  obtain ⟨hc, _⟩ := bcell b1
  have HB2 := Lib.hid (HB.out.trans (b1.mono HB.out.size))
  rw [← hc _ _ lt1] at x0 x1 x2 x3
  rw [← hc _ _ lt2] at y0 y1 y2 y3
  clear hc b1 HB
  generalize lessB x.key y.key = l at *
  generalize eq3 x.key y.key = q at *
  cases l with
  | true =>
    have HX := Lib.hid (show Ending.returned (.bool (aheadT x y)) = .returned (.bool true) by rw [HX.out]; rfl)
    go_wp2_with fail
    go_ret
    exact ⟨HX.out.symm, HB2.out⟩
  | false =>
    cases q with
    | false =>
      have HX := Lib.hid (show Ending.returned (.bool (aheadT x y)) = .returned (.bool false) by rw [HX.out]; rfl)
      go_wp2_with fail
      go_ret
      exact ⟨HX.out.symm, HB2.out⟩
    | true =>
      have HX := Lib.hid (show Ending.returned (.bool (aheadT x y)) = .returned (.bool (decide (x.id < y.id))) by rw [HX.out]; rfl)
      go_wp2_with fail
      go_ret
      exact ⟨HX.out.symm, HB2.out⟩
set_option maxHeartbeats 1000000 in
theorem k9find_any (v : Value) (l : List Thg) (id : Int) (K : Nat → Prop) (w : World) (hn : l.length ≤ 100000) (h : RdK 4 w K v (rowsT l)) :
    Calls Try.prog 10 #[v, .int .i64 id] w fun e w' => e = .returned (.int .i64 (idxI (findT l id))) ∧ w = w' := by
  obtain ⟨A, c, rfl, hc, _⟩ := h.form
  have H := Lib.hid fun k (hk : k < l.length) => h.at_ (k := k) (by rw [rowsT_len]; exact hk)
  rw [rowsT_len]
  clear h hc
  go_enter Try.func10, Try.ntmps10
  go_wp2_with fail
  go_loop [5] (fun i => ∃ k : Nat, k ≤ l.length ∧ i = .int .i64 k ∧ findA id (l.map (·.id)) = (findA id ((l.map (·.id)).drop k)).map (· + k)) (fun i => l.length - (intOf i).toNat)
  case atStart => exact ⟨0, by omega, rfl, findA_zero _ _⟩
  case round =>
    obtain ⟨k, hk, rfl, hI⟩ := hrel
    by_cases hlt : k < l.length
    · obtain ⟨b, o, rfl, hb, _, hx⟩ := H.out k hlt
      have g : w.cell? ⟨b, o + k * 4, none⟩ = some (.int .i64 l[k].id) := hx k _ (rowsT_get l k hlt) 0 _ rfl
      have dk : decide (k < l.length) = true := decide_eq_true hlt
      have hmk : k < (l.map (·.id)).length := by simpa using hlt
      by_cases he : l[k].id = id
      · have hf := findA_at _ (l.map (·.id)) k hmk hI (by simpa using he)
        have HX := Lib.hid (show Ending.returned (.int .i64 (idxI (findT l id))) = Ending.returned (.int .i64 (k : Int)) by unfold findT; rw [hf]; rfl)
        have de : (l[k].id == id) = true := by simpa using he
        clear hI hf he hx hmk
        generalize l[k].id = T at *
        go_wp2_with fail
        go_ret
        exact ⟨HX.out.symm, rfl⟩
      · have hN := findA_next _ (l.map (·.id)) k hmk hI (by simpa using he)
        have de : (l[k].id == id) = false := by simpa using he
        have HN := Lib.hid hN
        clear hI hN he hx hmk
        generalize l[k].id = T at *
        go_wp2_with fail
        go_round
        case rel => exact ⟨k + 1, by omega, by go_num, HN.out⟩
        case measure => simp [intOf]; omega
    · have hf := findA_end _ (l.map (·.id)) k (by simp; omega) hI
      have HX := Lib.hid (show Ending.returned (.int .i64 (idxI (findT l id))) = Ending.returned (.int .i64 (-1)) by unfold findT; rw [hf]; rfl)
      obtain rfl : k = l.length := by omega
      have dk : decide (l.length < l.length) = false := decide_eq_false hlt
      clear hI hf
      go_wp2_with fail
      go_ret
      exact ⟨HX.out.symm, rfl⟩
theorem infoT : (Try.prog.info? 41).map (fun i => (i.zero, i.size, i.bytes)) = some (some (.agg #[.int .i64 0, .int .i64 0, .int .i64 0, .int .i64 0]), 4, 32) := by kernel_rfl
theorem row_four (x : Thg) : ∀ u ∈ x.row, u.oneCell' = true := by
  intro u hu
  simp [Thg.row] at hu
  rcases hu with rfl | rfl | rfl | rfl <;> rfl
/-- A result that is a slice of things. -/
def ThgsR (l : List Thg) (w : World) (e : Ending) (w' : World) : Prop :=
  ∃ v, e = .returned v ∧ RdK 4 w' (fun b => w.heap.size ≤ b) v (rowsT l) ∧ Below w.heap.size w w' ∧ (v = .slice none 0 0 ∨ ∃ b o n c, v = .slice (some ⟨b, o, none⟩) n c)
theorem own_form {w : World} {base m n : Nat} {e : TypeId} {v : Value} {xs : List Value} (h : w.ownsRow base e m v n xs) : v = .slice none 0 0 ∨ ∃ b o n c, v = .slice (some ⟨b, o, none⟩) n c := by
  rcases h.2 with ⟨h, _⟩ | ⟨g, cap, cur, h, _⟩
  · exact Or.inl h
  · exact Or.inr ⟨g, 0, n, cap, h⟩
set_option maxHeartbeats 2000000 in
theorem k9drop_any (v : Value) (l : List Thg) (id : Int) (K : Nat → Prop) (w : World) (hn : l.length ≤ 100000) (h : RdK 4 w K v (rowsT l)) :
    Calls Try.prog 14 #[v, .int .i64 id] w (ThgsR (dropT l id) w) := by
  obtain ⟨i0, hi, hz0, hz1, hz2⟩ := info_parts infoT
  obtain ⟨A, c, rfl, hc, _⟩ := h.form
  have H := Lib.hid fun k (hk : k < l.length) => h.at_ (k := k) (by rw [rowsT_len]; exact hk)
  rw [rowsT_len]
  clear h hc
  go_enter Try.func14, Try.ntmps14
  go_wp2_with fail
  go_loopw [5, 6] (fun v i wr => ∃ k : Nat, k ≤ l.length ∧ i = .int .i64 k ∧ wr.ownsRow w.heap.size 41 4 v (dropT (l.take k) id).length (rowsT (dropT (l.take k) id)).flatten ∧ Below w.heap.size w wr) (fun _ i _ => l.length - (intOf i).toNat)
  case atStart => exact ⟨0, by omega, rfl, World.ownsRow_nil _ _ _ _, Below.refl _ _⟩
  case round =>
    obtain ⟨k, hk, rfl, hown, hb⟩ := hrel
    have HO := Lib.hid hown
    have HB := Lib.hid hb
    have hw3 : w.heap.size ≤ wr.heap.size := hb.size
    have hdl := dropT_len (l.take k) id
    rw [List.length_take] at hdl
    clear hown hb
    by_cases hlt : k < l.length
    · obtain ⟨b, o, rfl, hbl, _, hx⟩ := H.out k hlt
      have g0 : wr.cell? ⟨b, o + k * 4, none⟩ = some (.int .i64 l[k].id) := (HB.out.cell (p := ⟨b, o + k * 4, none⟩) hbl).trans (hx k _ (rowsT_get l k hlt) 0 _ rfl)
      have g1 : wr.cell? ⟨b, o + k * 4 + 1, none⟩ = some (.int .i64 l[k].key.a) := (HB.out.cell (p := ⟨b, o + k * 4 + 1, none⟩) hbl).trans (hx k _ (rowsT_get l k hlt) 1 _ rfl)
      have g2 : wr.cell? ⟨b, o + k * 4 + 2, none⟩ = some (.int .i64 l[k].key.b) := (HB.out.cell (p := ⟨b, o + k * 4 + 2, none⟩) hbl).trans (hx k _ (rowsT_get l k hlt) 2 _ rfl)
      have g3 : wr.cell? ⟨b, o + k * 4 + 3, none⟩ = some (.int .i64 l[k].key.c) := (HB.out.cell (p := ⟨b, o + k * 4 + 3, none⟩) hbl).trans (hx k _ (rowsT_get l k hlt) 3 _ rfl)
      have dk : decide (k < l.length) = true := decide_eq_true hlt
      have ht := dropT_take l id k hlt
      have hr4 := row_four l[k]
      by_cases he : l[k].id = id
      · have de : (l[k].id != id) = false := by simp [he]
        rw [if_pos he, List.append_nil] at ht
        have HT := Lib.hid ht
        clear ht he hx hr4
        generalize l[k].id = T at *
        clear g1 g2 g3
        go_wp2_with fail
        go_roundw
        case rel => exact ⟨k + 1, by omega, by go_num, by rw [HT.out]; exact HO.out, HB.out⟩
        case measure => simp [intOf]; omega
      · have de : (l[k].id != id) = true := by simpa using he
        rw [if_neg he] at ht
        have HT := Lib.hid ht
        have HR := Lib.hid hr4
        unfold Thg.row at HR
        have HRow := Lib.hid (show l[k].row = [.int .i64 l[k].id, .int .i64 l[k].key.a, .int .i64 l[k].key.b, .int .i64 l[k].key.c] from rfl)
        clear ht he hx hr4
        generalize hE : l[k] = E at *
        clear hE
        go_wp2_with (at_builtin; refine wpList_append_own _ rfl _ _ 34 rfl w.heap.size 41 i0 (.agg #[.int .i64 0, .int .i64 0, .int .i64 0, .int .i64 0]) 4 32 Try.underlying34 hi hz0 hz1 hz2 rfl (by decide) _ _ _ rfl (HO.out.alloc _) ⟨wr.heap.size, 0, none⟩ 1 1 [.int .i64 E.id, .int .i64 E.key.a, .int .i64 E.key.b, .int .i64 E.key.c] rfl rfl (cells_new _ _ _) ?c2 ?c3 ?c4 ?c5 ?_)
        case c2 => exact HR.out
        case c3 => unfold maxLen; omega
        case c4 => omega
        case c5 => simp; omega
        intro v' w4 hown4 hgrow _
        have HB4 := Lib.hid (grown_below (HB.out.alloc (HB.out.size) _) hgrow (fun g hg => owns_row HO.out hg) (by simp; omega))
        have hown4' : w4.ownsRow w.heap.size 41 4 v' (dropT (l.take (k + 1)) id).length (rowsT (dropT (l.take (k + 1)) id)).flatten := by
          rw [HT.out, List.length_append, rowsT_append, List.flatten_append]
          simpa [rowsT, HRow.out] using hown4
        have HO4 := Lib.hid hown4'
        clear hown4 hown4' hgrow
        go_wp2_with fail
        go_roundw
        case rel => exact ⟨k + 1, by omega, by go_num, HO4.out, HB4.out⟩
        case measure => simp [intOf]; omega
    · obtain rfl : k = l.length := by omega
      have dk : decide (l.length < l.length) = false := decide_eq_false hlt
      rw [List.take_length] at HO
      have HR := Lib.hid (RdK.own HO.out (rowsT_len _) (rowsT_four _))
      have HF := Lib.hid (own_form HO.out)
      obtain ⟨A2, c2, rfl, _, _⟩ := HR.out.form
      go_wp2_with fail
      go_ret
      exact ⟨_, rfl, HR.out, HB.out, HF.out⟩
end Go.Proofs.Ytfknmokidjgeiaa
