/- What the changes of a lease are made of: the functions that Acquire, Renew and Release hand over. Conditions: the boxes hold what they should. -/
import Derived.Test.YtcoclpghimcnfaaLeaB
namespace Go.Proofs.Ytcoclpghimcnfaa
open Go.ChangeShapes Go.WideShapes Go.ChangeAt Go.RowKit
set_option linter.unusedVariables false
set_option maxRecDepth 100000
set_option linter.unusedSimpArgs false
set_option maxHeartbeats 2000000

/-- A function's own blocks: the lease that it was given, what it tells. -/
structure CL (wL : World) (l : Ls) (r : Array Value) (w : World) : Prop where
  box : w.heap[wL.heap.size]? = some (lsX l)
  res : w.heap[wL.heap.size + 1]? = some (.cells r 29 (0, 0))
  bel : Below wL.heap.size wL w
theorem cl_start (wL : World) (l : Ls) (r : Array Value) : CL wL l r ((wL.alloc (.cells #[.int .i64 l.h, .int .i64 l.e, .int .i64 l.u] 29)).alloc (.cells r 29)) := by
  have e1 : (wL.alloc (.cells #[.int .i64 l.h, .int .i64 l.e, .int .i64 l.u] 29)).heap.size = wL.heap.size + 1 := by simp
  refine ⟨blk_old _ (blk_new _ _), ?_, ((Below.refl _ wL).alloc (Nat.le_refl _) _).alloc (by simp) _⟩
  have := blk_new (wL.alloc (.cells #[.int .i64 l.h, .int .i64 l.e, .int .i64 l.u] 29)) (.cells r 29)
  rwa [e1] at this
theorem CL.below {wL w w' : World} {l : Ls} {r : Array Value} (h : CL wL l r w) (hb : Below w.heap.size w w') : CL wL l r w' :=
  ⟨blk_below hb h.box (lt_of_block h.box), blk_below hb h.res (lt_of_block h.res), h.bel.trans (hb.mono h.bel.size)⟩
theorem CL.drew {wL w : World} {l : Ls} {r : Array Value} (h : CL wL l r w) : CL wL l r w.drew := h.below below_drew
theorem CL.cells {wL w : World} {l : Ls} {a b c : Int} (h : CL wL l (ls3 a b c) w) : (w.cell? ⟨wL.heap.size, 0, none⟩ = some (.int .i64 l.h) ∧ w.cell? ⟨wL.heap.size, 1, none⟩ = some (.int .i64 l.e) ∧ w.cell? ⟨wL.heap.size, 2, none⟩ = some (.int .i64 l.u)) ∧
    w.cell? ⟨wL.heap.size + 1, 0, none⟩ = some (.int .i64 a) ∧ w.cell? ⟨wL.heap.size + 1, 1, none⟩ = some (.int .i64 b) ∧ w.cell? ⟨wL.heap.size + 1, 2, none⟩ = some (.int .i64 c) ∧
    w.frozen? ⟨wL.heap.size + 1, 0, none⟩ = false ∧ w.frozen? ⟨wL.heap.size + 1, 1, none⟩ = false ∧ w.frozen? ⟨wL.heap.size + 1, 2, none⟩ = false :=
  ⟨lsb_cells h.box, by rw [blk_cell h.res]; rfl, by rw [blk_cell h.res]; rfl, by rw [blk_cell h.res]; rfl, blk_free h.res 0, blk_free h.res 1, blk_free h.res 2⟩
theorem CL.tell {wL w : World} {l : Ls} {p q r : Int} (a b c : Int) (h : CL wL l (ls3 p q r) w) :
    (((w.setCell ⟨wL.heap.size + 1, 0, none⟩ (.int .i64 a)).setCell ⟨wL.heap.size + 1, 1, none⟩ (.int .i64 b)).setCell ⟨wL.heap.size + 1, 2, none⟩ (.int .i64 c)).heap[wL.heap.size + 1]? = some (.cells #[.int .i64 a, .int .i64 b, .int .i64 c] 29 (0, 0)) ∧
    Below wL.heap.size wL (((w.setCell ⟨wL.heap.size + 1, 0, none⟩ (.int .i64 a)).setCell ⟨wL.heap.size + 1, 1, none⟩ (.int .i64 b)).setCell ⟨wL.heap.size + 1, 2, none⟩ (.int .i64 c)) :=
  ⟨blk_set (blk_set (blk_set h.res 0 _) 1 _) 2 _, h.bel.trans (((((Only.refl (wL.heap.size + 1) w).setCell 0 _).setCell 1 _).setCell 2 _).below (Nat.le_succ _) h.bel.size)⟩
/-- What Acquire's function tells. -/
def acq1 (s : Int) (l : Ls) (now who : Int) : Ls × Int :=
  if (heldL l now && (l.h == who)) = true then (l, 8) else if heldL l now = true then (l, 12) else if l.e = 4294967295 then (l, 6) else (⟨who, l.e + 1, laterV now s⟩, 0)
/-- The boxes of Acquire's function, and of Renew's. -/
structure BXA (now who s : Int) (bn bw bs b : Nat) (w : World) : Prop where
  n : w.heap[bn]? = some (.cells #[.int .i64 now] 3 (0, 0))
  o : w.heap[bw]? = some (.cells #[.int .i64 who] 3 (0, 0))
  p : w.heap[bs]? = some (.cells #[.pointer (some ⟨b, 0, none⟩)] 24 (0, 0))
  s : ∃ c, w.heap[b]? = some (stoX s c)
theorem BXA.below {now who s : Int} {bn bw bs b : Nat} {w w' : World} (h : BXA now who s bn bw bs b w) (k : Below w.heap.size w w') : BXA now who s bn bw bs b w' := by
  obtain ⟨c, hc⟩ := h.s
  exact ⟨blk_below k h.n (lt_of_block h.n), blk_below k h.o (lt_of_block h.o), blk_below k h.p (lt_of_block h.p), c, blk_below k hc (lt_of_block hc)⟩
theorem BXA.cells {now who s : Int} {bn bw bs b : Nat} {w : World} (h : BXA now who s bn bw bs b w) : w.cell? ⟨bn, 0, none⟩ = some (.int .i64 now) ∧ w.cell? ⟨bw, 0, none⟩ = some (.int .i64 who) ∧ w.cell? ⟨bs, 0, none⟩ = some (.pointer (some ⟨b, 0, none⟩)) ∧ w.cell? ⟨b, 0, none⟩ = some (.int .i64 s) := by
  obtain ⟨c, hc⟩ := h.s
  exact ⟨by rw [blk_cell h.n]; rfl, by rw [blk_cell h.o]; rfl, by rw [blk_cell h.p]; rfl, by rw [blk_cell hc]; rfl⟩
theorem acq1_any (s : Int) (l : Ls) (now who : Int) (bn bw bs b : Nat) (w : World) (hl : -1 ≤ l.h) (he : 0 ≤ l.e ∧ l.e ≤ 4294967295) (h : BXA now who s bn bw bs b w) :
    Calls Try.prog 22 #[l.val, .pointer (some ⟨bn, 0, none⟩), .pointer (some ⟨bw, 0, none⟩), .pointer (some ⟨bs, 0, none⟩)] w fun e w' => e = .returned (.tuple #[(acq1 s l now who).1.val, .int .i64 (acq1 s l now who).2]) ∧ Below w.heap.size w w' := by
  have C0 := cl_start w l (ls3 0 0 0)
  have X0 := h.below (((Below.refl _ w).alloc (Nat.le_refl _) (.cells #[.int .i64 l.h, .int .i64 l.e, .int .i64 l.u] 29)).alloc (by simp) (.cells (ls3 0 0 0) 29))
  have H := Lib.hid fun w => held_any l now w hl
  have LT := Lib.hid fun w => later_any now s w
  have AQ := Lib.hid (show acq1 s l now who = _ from rfl)
  have hv : l.val = .agg #[.int .i64 l.h, .int .i64 l.e, .int .i64 l.u] := rfl
  have H2 := Lib.hid (show wrap64 (l.e + 1) = l.e + 1 by unfold wrap64; omega)
  generalize hq : acq1 s l now who = q at AQ ⊢
  unfold acq1 at hq
  rw [hv] at H ⊢
  generalize heldL l now = x at *
  generalize laterV now s = la at *
  clear h AQ hv
  have R1 := Lib.hid X0
  have R2 := Lib.hid C0
  obtain ⟨c1, c2, c3, c4⟩ := X0.cells
  obtain ⟨⟨d0, d1, d2⟩, z0, z1, z2, f0, f1, f2⟩ := C0.cells
  simp only [ls3] at c1 c2 c3 c4 d0 d1 d2 z0 z1 z2 f0 f1 f2 R1 R2
  clear X0 C0
  go_enter Try.func22, Try.ntmps22
  go_wp2_with fail
  generalize ((w.alloc (.cells #[.int .i64 l.h, .int .i64 l.e, .int .i64 l.u] 29)).alloc (.cells #[.int .i64 0, .int .i64 0, .int .i64 0] 29)) = w1 at *
  refine (H.out _).mono ?_; rintro e w2 ⟨rfl, b2⟩
  replace R1 := Lib.hid (R1.out.below b2)
  replace R2 := Lib.hid (R2.out.below b2)
  clear c1 c2 c3 c4 d0 d1 d2 z0 z1 z2 f0 f1 f2 b2
  have R3 := R1.out; have R4 := R2.out
  obtain ⟨c1, c2, c3, c4⟩ := R3.cells
  obtain ⟨⟨d0, d1, d2⟩, z0, z1, z2, f0, f1, f2⟩ := CL.cells (a := 0) (b := 0) (c := 0) R4
  clear R3 R4
  cases x with
  | true =>
    cases hw : (l.h == who) with
    | true =>
      rw [hw, if_pos rfl] at hq
      subst hq
      have T := Lib.hid (CL.tell (p := 0) (q := 0) (r := 0) l.h l.e l.u R2.out)
      go_wp2_with fail
      exact bodyPost_ret (results_ct rfl rfl rfl T.out.1 Try.underlying29 rfl (by kernel_rfl)) rfl ⟨rfl, T.out.2⟩
    | false =>
      rw [hw, if_neg (by simp), if_pos rfl] at hq
      subst hq
      go_wp2_with fail
      refine (H.out _).mono ?_; rintro e w3 ⟨rfl, b2⟩
      replace R2 := Lib.hid (R2.out.below b2)
      clear c1 c2 c3 c4 d0 d1 d2 z0 z1 z2 f0 f1 f2 b2
      have R4 := R2.out
      obtain ⟨⟨d0, d1, d2⟩, z0, z1, z2, f0, f1, f2⟩ := CL.cells (a := 0) (b := 0) (c := 0) R4
      clear R4
      have T := Lib.hid (CL.tell (p := 0) (q := 0) (r := 0) l.h l.e l.u R2.out)
      go_wp2_with fail
      exact bodyPost_ret (results_ct rfl rfl rfl T.out.1 Try.underlying29 rfl (by kernel_rfl)) rfl ⟨rfl, T.out.2⟩
  | false =>
    rw [if_neg (by simp), if_neg (by simp)] at hq
    go_wp2_with fail
    refine (H.out _).mono ?_; rintro e w3 ⟨rfl, b2⟩
    replace R1 := Lib.hid (R1.out.below b2)
    replace R2 := Lib.hid (R2.out.below b2)
    clear c1 c2 c3 c4 d0 d1 d2 z0 z1 z2 f0 f1 f2 b2
    have R3 := R1.out; have R4 := R2.out
    obtain ⟨c1, c2, c3, c4⟩ := R3.cells
    obtain ⟨⟨d0, d1, d2⟩, z0, z1, z2, f0, f1, f2⟩ := CL.cells (a := 0) (b := 0) (c := 0) R4
    clear R3 R4
    by_cases hE : l.e = 4294967295
    · rw [if_pos hE] at hq
      subst hq
      have hd : (l.e == 4294967295) = true := by simpa using hE
      have T := Lib.hid (CL.tell (p := 0) (q := 0) (r := 0) l.h l.e l.u R2.out)
      clear hE
      go_wp2_with fail
      exact bodyPost_ret (results_ct rfl rfl rfl T.out.1 Try.underlying29 rfl (by kernel_rfl)) rfl ⟨rfl, T.out.2⟩
    · rw [if_neg hE] at hq
      subst hq
      have hd : (l.e == 4294967295) = false := by simpa using hE
      clear hE
      go_wp2_with fail
      go_still_tail 11, (by kernel_rfl)
      still_call ((LT.out _).mono fun _ _ h => ⟨h.1, h.2.symm⟩)
      repeat still_step
      refine wpStill_nil ?_
      change wpList _ _ _ _ _ w3.drew
      have R4 := R2.out.drew
      clear c1 c2 c3 c4 d0 d1 d2 z0 z1 z2 f0 f1 f2 R1 R2
      generalize w3.drew = w4 at *
      obtain ⟨⟨d0, d1, d2⟩, z0, z1, z2, f0, f1, f2⟩ := CL.cells (a := 0) (b := 0) (c := 0) R4
      have T := Lib.hid (CL.tell (p := 0) (q := 0) (r := 0) who (l.e + 1) la R4)
      clear R4
      have H3 := H2.out
      go_wp2_with fail
      exact bodyPost_ret (results_ct rfl rfl rfl T.out.1 Try.underlying29 rfl (by kernel_rfl)) rfl ⟨rfl, T.out.2⟩
/-! ### lead's function, and what it is given -/
/-- What is handed to 'lead': a function of one lease. -/
structure LeadF (n : FuncId) (cap : Array Value) (l : Ls) (r : Ls) (W : World) : Prop where
  en : ∀ w, (callFunc n (#[Value.agg #[.int .i64 l.h, .int .i64 l.e, .int .i64 l.u]] ++ cap)).run Try.prog w = .ok (.enter n (#[Value.agg #[.int .i64 l.h, .int .i64 l.e, .int .i64 l.u]] ++ cap)) w
  out : ∀ w, Below W.heap.size W w → Calls Try.prog n (#[Value.agg #[.int .i64 l.h, .int .i64 l.e, .int .i64 l.u]] ++ cap) w fun e w' => e = .returned (.agg #[.int .i64 r.h, .int .i64 r.e, .int .i64 r.u]) ∧ Below w.heap.size w w'
/-- The boxes of lead's function. -/
structure BXL (now who ep : Int) (n : FuncId) (cap : Array Value) (bn bw be bf : Nat) (w : World) : Prop where
  q : w.heap[bn]? = some (.cells #[.int .i64 now] 3 (0, 0))
  o : w.heap[bw]? = some (.cells #[.int .i64 who] 3 (0, 0))
  p : w.heap[be]? = some (.cells #[.int .i64 ep] 3 (0, 0))
  f : w.heap[bf]? = some (.cells #[.func (.func n) #[] cap] 65 (0, 0))
theorem BXL.below {now who ep : Int} {n : FuncId} {cap : Array Value} {bn bw be bf : Nat} {w w' : World} (h : BXL now who ep n cap bn bw be bf w) (k : Below w.heap.size w w') : BXL now who ep n cap bn bw be bf w' :=
  ⟨blk_below k h.q (lt_of_block h.q), blk_below k h.o (lt_of_block h.o), blk_below k h.p (lt_of_block h.p), blk_below k h.f (lt_of_block h.f)⟩
theorem BXL.cells {now who ep : Int} {n : FuncId} {cap : Array Value} {bn bw be bf : Nat} {w : World} (h : BXL now who ep n cap bn bw be bf w) : w.cell? ⟨bn, 0, none⟩ = some (.int .i64 now) ∧ w.cell? ⟨bw, 0, none⟩ = some (.int .i64 who) ∧ w.cell? ⟨be, 0, none⟩ = some (.int .i64 ep) ∧ w.cell? ⟨bf, 0, none⟩ = some (.func (.func n) #[] cap) :=
  ⟨by rw [blk_cell h.q]; rfl, by rw [blk_cell h.o]; rfl, by rw [blk_cell h.p]; rfl, by rw [blk_cell h.f]; rfl⟩
theorem lead1_any (l r : Ls) (now who ep : Int) (n : FuncId) (cap : Array Value) (bn bw be bf : Nat) (w : World) (hl : -1 ≤ l.h) (h : BXL now who ep n cap bn bw be bf w) (hf : leadsL l now who ep = true → LeadF n cap l r w) :
    Calls Try.prog 37 #[l.val, .pointer (some ⟨bn, 0, none⟩), .pointer (some ⟨bw, 0, none⟩), .pointer (some ⟨be, 0, none⟩), .pointer (some ⟨bf, 0, none⟩)] w fun e w' => e = .returned (.tuple #[(if leadsL l now who ep = true then r else l).val, .int .i64 (if leadsL l now who ep = true then 0 else 11)]) ∧ Below w.heap.size w w' := by
  have C0 := cl_start w l (ls3 0 0 0)
  have X0 := h.below (((Below.refl _ w).alloc (Nat.le_refl _) (.cells #[.int .i64 l.h, .int .i64 l.e, .int .i64 l.u] 29)).alloc (by simp) (.cells (ls3 0 0 0) 29))
  have H := Lib.hid fun w => leads_any l now who ep w hl
  have hv : l.val = .agg #[.int .i64 l.h, .int .i64 l.e, .int .i64 l.u] := rfl
  rw [hv] at H ⊢
  generalize leadsL l now who ep = x at *
  clear h hv
  have R1 := Lib.hid X0
  have R2 := Lib.hid C0
  obtain ⟨c1, c2, c3, c4⟩ := X0.cells
  obtain ⟨⟨d0, d1, d2⟩, z0, z1, z2, f0, f1, f2⟩ := C0.cells
  simp only [ls3] at c1 c2 c3 c4 d0 d1 d2 z0 z1 z2 f0 f1 f2 R1 R2
  clear X0 C0
  go_enter Try.func37, Try.ntmps37
  go_wp2_with fail
  generalize ((w.alloc (.cells #[.int .i64 l.h, .int .i64 l.e, .int .i64 l.u] 29)).alloc (.cells #[.int .i64 0, .int .i64 0, .int .i64 0] 29)) = w1 at *
  refine (H.out _).mono ?_; rintro e w2 ⟨rfl, b2⟩
  replace R1 := Lib.hid (R1.out.below b2)
  replace R2 := Lib.hid (R2.out.below b2)
  clear c1 c2 c3 c4 d0 d1 d2 z0 z1 z2 f0 f1 f2 b2
  have R3 := R1.out; have R4 := R2.out
  obtain ⟨c1, c2, c3, c4⟩ := R3.cells
  obtain ⟨⟨d0, d1, d2⟩, z0, z1, z2, f0, f1, f2⟩ := CL.cells (a := 0) (b := 0) (c := 0) R4
  clear R3 R4
  cases x with
  | false =>
    have T := Lib.hid (CL.tell (p := 0) (q := 0) (r := 0) l.h l.e l.u R2.out)
    go_wp2_with fail
    exact bodyPost_ret (results_ct rfl rfl rfl T.out.1 Try.underlying29 rfl (by kernel_rfl)) rfl ⟨rfl, T.out.2⟩
  | true =>
    have N1 := (hf rfl).en
    have N2 := Lib.hid ((hf rfl).out w2 R2.out.bel)
    clear hf
    go_wp2_with fail
    refine N2.out.mono ?_; rintro e w3 ⟨rfl, b2⟩
    replace R2 := Lib.hid (R2.out.below b2)
    clear c1 c2 c3 c4 d0 d1 d2 z0 z1 z2 f0 f1 f2 b2
    have R4 := R2.out
    obtain ⟨⟨d0, d1, d2⟩, z0, z1, z2, f0, f1, f2⟩ := CL.cells (a := 0) (b := 0) (c := 0) R4
    clear R4
    have T := Lib.hid (CL.tell (p := 0) (q := 0) (r := 0) r.h r.e r.u R2.out)
    go_wp2_with fail
    exact bodyPost_ret (results_ct rfl rfl rfl T.out.1 Try.underlying29 rfl (by kernel_rfl)) rfl ⟨rfl, T.out.2⟩
/-- Release's function. -/
theorem rel1_any (l : Ls) (w : World) :
    Calls Try.prog 29 #[l.val] w fun e w' => e = .returned (.agg #[.int .i64 (-1), .int .i64 l.e, .int .i64 0]) ∧ Below w.heap.size w w' := by
  have hb : ∀ (X Y : Obj) (a : World), Below a.heap.size a ((a.alloc X).alloc Y) := fun X Y a => ((Below.refl _ _).alloc (Nat.le_refl _) _).alloc (Nat.le_of_lt (by simp)) _
  have hv : l.val = .agg #[.int .i64 l.h, .int .i64 l.e, .int .i64 l.u] := rfl
  have hn : ∀ (X Y : Obj), ((w.alloc X).alloc Y).heap[w.heap.size + 1]? = some Y := fun X Y => by
    have := blk_new (w.alloc X) Y
    rwa [show (w.alloc X).heap.size = w.heap.size + 1 by simp] at this
  rw [hv]
  clear hv
  go_enter Try.func29, Try.ntmps29
  go_wp2_with fail
  exact bodyPost_ret (results_c1 rfl rfl (hn _ _) Try.underlying29 rfl (by kernel_rfl)) rfl ⟨rfl, hb _ _ _⟩
end Go.Proofs.Ytcoclpghimcnfaa
