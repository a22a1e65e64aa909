/- 'change' of a store of a lease, whatever the function that it is given tells; Renew's function. Conditions: as stated. -/
import Derived.Test.YtcoclpghimcnfaaLeaC
namespace Go.Proofs.Ytcoclpghimcnfaa
open Go.ChangeShapes Go.WideShapes Go.ChangeAt Go.RowKit
set_option linter.unusedVariables false
set_option maxRecDepth 100000
set_option linter.unusedSimpArgs false
set_option maxHeartbeats 2000000

/-- What is handed to 'change': a function of one lease. -/
structure NextF (n : FuncId) (cap : Array Value) (l r : Ls) (er : Int) (W : World) : Prop where
  en : ∀ w, (callFunc n (#[Value.agg #[.int .i64 l.h, .int .i64 l.e, .int .i64 l.u]] ++ cap)).run Try.prog w = .ok (.enter n (#[Value.agg #[.int .i64 l.h, .int .i64 l.e, .int .i64 l.u]] ++ cap)) w
  out : ∀ w, Below W.heap.size W w → Calls Try.prog n (#[Value.agg #[.int .i64 l.h, .int .i64 l.e, .int .i64 l.u]] ++ cap) w fun e w' => e = .returned (.tuple #[.agg #[.int .i64 r.h, .int .i64 r.e, .int .i64 r.u], .int .i64 er]) ∧ Below w.heap.size w w'
/-- The store, and what 'change' tells. -/
structure CG (wL : World) (b c : Nat) (x : Sv) (r0 : Array Value) (w : World) : Prop where
  lb : LB b c x w
  res : w.heap[wL.heap.size]? = some (.cells r0 29 (0, 0))
  bel : Below wL.heap.size wL w
  lt : b < wL.heap.size ∧ c < wL.heap.size
theorem CG.below {wL w w' : World} {b c : Nat} {x : Sv} {r0 : Array Value} (h : CG wL b c x r0 w) (k : Below w.heap.size w w') : CG wL b c x r0 w' :=
  ⟨h.lb.below k, blk_below k h.res (lt_of_block h.res), h.bel.trans (k.mono h.bel.size), h.lt⟩
theorem CG.cells {wL w : World} {b c : Nat} {x : Sv} {p q r : Int} (h : CG wL b c x (ls3 p q r) w) : (w.cell? ⟨c, 0, none⟩ = some (.int .i64 x.l.h) ∧ w.cell? ⟨c, 1, none⟩ = some (.int .i64 x.l.e) ∧ w.cell? ⟨c, 2, none⟩ = some (.int .i64 x.l.u)) ∧
    w.cell? ⟨wL.heap.size, 0, none⟩ = some (.int .i64 p) ∧ w.cell? ⟨wL.heap.size, 1, none⟩ = some (.int .i64 q) ∧ w.cell? ⟨wL.heap.size, 2, none⟩ = some (.int .i64 r) ∧
    w.frozen? ⟨wL.heap.size, 0, none⟩ = false ∧ w.frozen? ⟨wL.heap.size, 1, none⟩ = false ∧ w.frozen? ⟨wL.heap.size, 2, none⟩ = false :=
  ⟨lsb_cells h.lb.hc, by rw [blk_cell h.res]; rfl, by rw [blk_cell h.res]; rfl, by rw [blk_cell h.res]; rfl, blk_free h.res 0, blk_free h.res 1, blk_free h.res 2⟩
theorem CG.tell {wL w : World} {b c : Nat} {x : Sv} {p q r : Int} (i j k : Int) (h : CG wL b c x (ls3 p q r) w) :
    CG wL b c x (ls3 i j k) (((w.setCell ⟨wL.heap.size, 0, none⟩ (.int .i64 i)).setCell ⟨wL.heap.size, 1, none⟩ (.int .i64 j)).setCell ⟨wL.heap.size, 2, none⟩ (.int .i64 k)) := by
  have f : ∀ {m : Nat} {o : Obj}, w.heap[m]? = some o → m ≠ wL.heap.size → (((w.setCell ⟨wL.heap.size, 0, none⟩ (.int .i64 i)).setCell ⟨wL.heap.size, 1, none⟩ (.int .i64 j)).setCell ⟨wL.heap.size, 2, none⟩ (.int .i64 k)).heap[m]? = some o := fun hk hn =>
    blk_far (p := ⟨wL.heap.size, 2, none⟩) _ (blk_far (p := ⟨wL.heap.size, 1, none⟩) _ (blk_far (p := ⟨wL.heap.size, 0, none⟩) _ hk hn) hn) hn
  have := h.lt
  exact ⟨⟨f h.lb.hb (by omega), f h.lb.hc (by omega)⟩, blk_set (blk_set (blk_set h.res 0 _) 1 _) 2 _, h.bel.trans (((((Only.refl wL.heap.size w).setCell 0 _).setCell 1 _).setCell 2 _).below (Nat.le_refl _) h.bel.size), h.lt⟩
/-- The same, where the lease is a new one: all that is not the store's block is as it was. -/
structure CN (wL : World) (b c : Nat) (x : Sv) (r0 : Array Value) (w : World) : Prop where
  lb : LB b c x w
  res : w.heap[wL.heap.size]? = some (.cells r0 29 (0, 0))
  trn : Only b wL w ∨ Only b wL w
  lt : b < wL.heap.size ∧ wL.heap.size < c
theorem CG.swap {wL w : World} {b c m : Nat} {x : Sv} {r : Ls} {r0 : Array Value} (h : CG wL b c x r0 w) (hm : w.heap[m]? = some (lsX r)) (hN : wL.heap.size < m) : CN wL b m ⟨x.s, r⟩ r0 (w.setCell ⟨b, 1, none⟩ (.pointer (some ⟨m, 0, none⟩))) := by
  have := h.lt
  refine ⟨⟨blk_set h.lb.hb 1 _, blk_far (p := ⟨b, 1, none⟩) _ hm (by simp; omega)⟩, blk_far (p := ⟨b, 1, none⟩) _ h.res (by simp; omega), .inl ?_, h.lt.1, hN⟩
  have o := (Only.refl b w).setCell 1 (.pointer (some ⟨m, 0, none⟩))
  exact ⟨o.os.trans h.bel.os, o.tape.trans h.bel.tape, o.output.trans h.bel.output, Nat.le_trans h.bel.size o.size, fun k hk hkb => (o.block k (Nat.lt_of_lt_of_le hk h.bel.size) hkb).trans (h.bel.block k hk)⟩
theorem CN.cells {wL w : World} {b c : Nat} {x : Sv} {p q r : Int} (h : CN wL b c x (ls3 p q r) w) : (w.cell? ⟨c, 0, none⟩ = some (.int .i64 x.l.h) ∧ w.cell? ⟨c, 1, none⟩ = some (.int .i64 x.l.e) ∧ w.cell? ⟨c, 2, none⟩ = some (.int .i64 x.l.u)) ∧
    w.cell? ⟨wL.heap.size, 0, none⟩ = some (.int .i64 p) ∧ w.cell? ⟨wL.heap.size, 1, none⟩ = some (.int .i64 q) ∧ w.cell? ⟨wL.heap.size, 2, none⟩ = some (.int .i64 r) ∧
    w.frozen? ⟨wL.heap.size, 0, none⟩ = false ∧ w.frozen? ⟨wL.heap.size, 1, none⟩ = false ∧ w.frozen? ⟨wL.heap.size, 2, none⟩ = false :=
  ⟨lsb_cells h.lb.hc, by rw [blk_cell h.res]; rfl, by rw [blk_cell h.res]; rfl, by rw [blk_cell h.res]; rfl, blk_free h.res 0, blk_free h.res 1, blk_free h.res 2⟩
theorem CN.tell {wL w : World} {b c : Nat} {x : Sv} {p q r : Int} (i j k : Int) (h : CN wL b c x (ls3 p q r) w) :
    CN wL b c x (ls3 i j k) (((w.setCell ⟨wL.heap.size, 0, none⟩ (.int .i64 i)).setCell ⟨wL.heap.size, 1, none⟩ (.int .i64 j)).setCell ⟨wL.heap.size, 2, none⟩ (.int .i64 k)) := by
  have f : ∀ {m : Nat} {o : Obj}, w.heap[m]? = some o → m ≠ wL.heap.size → (((w.setCell ⟨wL.heap.size, 0, none⟩ (.int .i64 i)).setCell ⟨wL.heap.size, 1, none⟩ (.int .i64 j)).setCell ⟨wL.heap.size, 2, none⟩ (.int .i64 k)).heap[m]? = some o := fun hk hn =>
    blk_far (p := ⟨wL.heap.size, 2, none⟩) _ (blk_far (p := ⟨wL.heap.size, 1, none⟩) _ (blk_far (p := ⟨wL.heap.size, 0, none⟩) _ hk hn) hn) hn
  have := h.lt
  have t := h.trn.elim id id
  have o := (((Only.refl wL.heap.size w).setCell 0 (.int .i64 i)).setCell 1 (.int .i64 j)).setCell 2 (.int .i64 k)
  exact ⟨⟨f h.lb.hb (by omega), f h.lb.hc (by omega)⟩, blk_set (blk_set (blk_set h.res 0 _) 1 _) 2 _, .inl ⟨o.os.trans t.os, o.tape.trans t.tape, o.output.trans t.output, Nat.le_trans t.size o.size, fun m hm hb => (o.block m (Nat.lt_of_lt_of_le hm t.size) (by omega)).trans (t.block m hm hb)⟩, h.lt⟩
theorem CN.post {F : Nat → Prop} {wL w : World} {b c c0 : Nat} {x : Sv} {r0 : Array Value} (h : CN wL b c x r0 w) (hF : ∀ k, F k ↔ k = b ∨ k = c0) (hx : 1 ≤ x.s ∧ x.s ≤ 64 ∧ 0 ≤ x.l.e ∧ x.l.e ≤ 4294967295 ∧ -1 ≤ x.l.h) : OPost leaO F (.pointer (some ⟨b, 0, none⟩)) x wL w := by
  have t := h.trn.elim id id
  have := h.lt
  refine ⟨fun k => k = b ∨ k = c, ⟨b, c, rfl, h.lb, fun k => Iff.rfl, hx⟩, ⟨t.os, t.tape, t.output, t.size, fun k hk hf => t.block k hk (fun e => hf ((hF k).2 (.inl e)))⟩, fun k hk => ?_⟩
  rcases hk with rfl | rfl
  · exact .inl ((hF _).2 (.inl rfl))
  · exact .inr (by omega)
/-- What 'change' comes to. -/
def ChgPost (F : Nat → Prop) (v : Value) (s : Int) (r : Ls) (er : Int) (w : World) (e : Ending) (w' : World) : Prop :=
  (er ≠ 0 → e = .returned (.tuple #[.agg #[.int .i64 0, .int .i64 0, .int .i64 0], .int .i64 er]) ∧ Below w.heap.size w w') ∧
  (er = 0 → e = .returned (.tuple #[.agg #[.int .i64 r.h, .int .i64 r.e, .int .i64 r.u], .int .i64 0]) ∧ OPost leaO F v ⟨s, r⟩ w w')
theorem chg_any (F : Nat → Prop) (v : Value) (x : Sv) (now who : Int) (n : FuncId) (cap : Array Value) (r : Ls) (er : Int) (w : World) (h : leaO.P F v x w) (hr : rightL now who = true) (hn : NextF n cap x.l r er w) (hx : er = 0 → 0 ≤ r.e ∧ r.e ≤ 4294967295 ∧ -1 ≤ r.h) :
    Calls Try.prog 21 #[v, .int .i64 now, .int .i64 who, .func (.func n) #[] cap] w (ChgPost F v x.s r er w) := by
  have h0 := h
  obtain ⟨b, c, rfl, h2, h3, s1, s2, e1, e2, hh⟩ := h
  have hb1 : Below w.heap.size w (w.alloc (.cells (ls3 0 0 0) 29)) := (Below.refl _ w).alloc (Nat.le_refl _) _
  have C0 : CG w b c x (ls3 0 0 0) (w.alloc (.cells (ls3 0 0 0) 29)) := ⟨h2.below hb1, blk_new _ _, hb1, lt_of_block h2.hb, lt_of_block h2.hc⟩
  have RD := Lib.hid (lrd_any b c x _ C0.lb)
  have VL := Lib.hid (vld_any now who (w.alloc (.cells (ls3 0 0 0) 29)))
  rw [hr] at VL
  have EN := hn.en
  have OUT := Lib.hid (hn.out _ hb1)
  have HC := Lib.hid C0
  have PB := Lib.hid (show ∀ w' r0 r, CG w b c x r0 w' → x.l = r → OPost leaO F (.pointer (some ⟨b, 0, none⟩)) ⟨x.s, r⟩ w w' from fun w' r0 r hg hlr => hlr ▸ opost_same (O := leaO) h0 hg.bel)
  have PN := Lib.hid (show ∀ w' r0 m, er = 0 → CN w b m ⟨x.s, r⟩ r0 w' → OPost leaO F (.pointer (some ⟨b, 0, none⟩)) ⟨x.s, r⟩ w w' from fun w' r0 m he hg => hg.post h3 ⟨s1, s2, hx he⟩)
  obtain ⟨⟨c0, c1, c2⟩, z0, z1, z2, f0, f1, f2⟩ := C0.cells
  simp only [ls3] at RD VL OUT HC c0 c1 c2 z0 z1 z2 f0 f1 f2
  clear h0 h2 h3 s1 s2 e1 e2 hh hb1 C0 hr hn hx
  go_enter Try.func21, Try.ntmps21
  go_wp2_with fail
  generalize hw0 : w.alloc (.cells #[.int .i64 0, .int .i64 0, .int .i64 0] 29) = w0 at *
  go_loopw [] (fun wr => wr = w0) (fun _ => 0)
  case atStart => rfl
  case round =>
    obtain rfl := hrel
    clear hw0
    go_wp2_with fail
    refine RD.out.mono ?_; rintro e w1 ⟨rfl, rfl⟩
    go_wp2_with fail
    refine VL.out.mono ?_; rintro e w1 ⟨rfl, rfl⟩
    go_wp2_with fail
    refine OUT.out.mono ?_; rintro e w2 ⟨rfl, b2⟩
    have HC2 := Lib.hid (HC.out.below b2)
    have HN := Lib.hid (Nat.lt_of_lt_of_le (lt_of_block HC.out.res) b2.size)
    clear c0 c1 c2 z0 z1 z2 f0 f1 f2 b2 HC OUT RD VL
    have ha : Below w2.heap.size w2 (w2.alloc (.cells #[.int .i64 r.h, .int .i64 r.e, .int .i64 r.u] 29)) := (Below.refl _ _).alloc (Nat.le_refl _) _
    have HC3 := Lib.hid (HC2.out.below ha)
    have HM := Lib.hid (show (w2.alloc (.cells #[.int .i64 r.h, .int .i64 r.e, .int .i64 r.u] 29)).heap[w2.heap.size]? = some (lsX r) from blk_new _ _)
    clear HC2 ha
    have q3 := HC3.out
    obtain ⟨⟨c0, c1, c2⟩, z0, z1, z2, f0, f1, f2⟩ := CG.cells (p := 0) (q := 0) (r := 0) q3
    obtain ⟨m0, m1, m2⟩ := lsb_cells HM.out
    clear q3
    by_cases her : er = 0
    · have hg : (er != 0) = false := by simp [her]
      go_wp2_with fail
      generalize (w2.alloc (.cells #[.int .i64 r.h, .int .i64 r.e, .int .i64 r.u] 29)) = w3 at *
      generalize w2.heap.size = m at *
      have EQ : ∀ w : World, (Op.equalIn 10000 29 (.agg #[.int .i64 r.h, .int .i64 r.e, .int .i64 r.u]) (.agg #[.int .i64 x.l.h, .int .i64 x.l.e, .int .i64 x.l.u])).run Try.prog w = .ok (eqL r x.l) w := fun w => eqL_run w r x.l
      cases hq : eqL r x.l with
      | true =>
        rw [hq] at EQ
        have hlr := (eqL_iff.1 hq).symm
        go_still_tail 10, (by kernel_rfl)
        change wpList _ _ _ _ _ w3.drew
        have HC4 := Lib.hid (HC3.out.below below_drew)
        have HM4 := Lib.hid (show w3.drew.heap[m]? = some (lsX r) from HM.out)
        clear c0 c1 c2 z0 z1 z2 f0 f1 f2 m0 m1 m2 HC3 HM
        generalize w3.drew = w4 at *
        have q3 := HC4.out
        obtain ⟨⟨c0, c1, c2⟩, z0, z1, z2, f0, f1, f2⟩ := CG.cells (p := 0) (q := 0) (r := 0) q3
        obtain ⟨m0, m1, m2⟩ := lsb_cells HM4.out
        clear q3
        have T := Lib.hid (CG.tell (p := 0) (q := 0) (r := 0) r.h r.e r.u HC4.out)
        go_wp2_with fail
        exact bodyPost_ret (results_ct rfl rfl rfl T.out.res Try.underlying29 rfl (by kernel_rfl)) rfl ⟨fun hz => absurd her hz, fun _ => ⟨rfl, PB.out _ _ r T.out hlr⟩⟩
      | false =>
        rw [hq] at EQ
        clear hq
        go_still_tail 10, (by kernel_rfl)
        change wpList _ _ _ _ _ w3.drew
        have HC4 := Lib.hid (HC3.out.below below_drew)
        have HM4 := Lib.hid (show w3.drew.heap[m]? = some (lsX r) from HM.out)
        clear c0 c1 c2 z0 z1 z2 f0 f1 f2 m0 m1 m2 HC3 HM
        generalize w3.drew = w4 at *
        have PC := Lib.hid (pcas_hit ⟨b, 1, none⟩ c m w4 (by rw [blk_cell HC4.out.lb.hb]; rfl) (blk_free HC4.out.lb.hb 1) HC4.out.lb.lsat ⟨_, _, HM4.out, rfl⟩)
        have SW := Lib.hid (CG.swap HC4.out HM4.out HN.out)
        go_wp2_with fail
        refine PC.out.mono ?_; rintro e w5 ⟨rfl, h5⟩
        have SW5 := Lib.hid (h5 ▸ SW.out)
        clear h5 SW PC HC4 HM4
        have q3 := SW5.out
        obtain ⟨⟨m0, m1, m2⟩, z0, z1, z2, f0, f1, f2⟩ := CN.cells (p := 0) (q := 0) (r := 0) q3
        clear q3
        have T := Lib.hid (CN.tell (p := 0) (q := 0) (r := 0) r.h r.e r.u SW5.out)
        go_wp2_with fail
        exact bodyPost_ret (results_ct rfl rfl rfl T.out.res Try.underlying29 rfl (by kernel_rfl)) rfl ⟨fun hz => absurd her hz, fun _ => ⟨rfl, PN.out _ _ m her T.out⟩⟩
    · have hg : (er != 0) = true := by simpa using her
      have T := Lib.hid (CG.tell (p := 0) (q := 0) (r := 0) 0 0 0 HC3.out)
      go_wp2_with fail
      exact bodyPost_ret (results_ct rfl rfl rfl T.out.res Try.underlying29 rfl (by kernel_rfl)) rfl ⟨fun _ => ⟨rfl, T.out.bel⟩, fun hz => absurd hz her⟩
/-- 'change' of a store that nobody made; at what may not be asked. -/
theorem nchg_any (v : Value) (now who : Int) (g : Value) (w : World) (h : Nob v w) :
    Calls Try.prog 21 #[v, .int .i64 now, .int .i64 who, g] w fun e w' => e = .returned (.tuple #[.agg #[.int .i64 0, .int .i64 0, .int .i64 0], .int .i64 7]) ∧ Below w.heap.size w w' := by
  have hb1 : ∀ X, Below w.heap.size w (w.alloc X) := fun X => (Below.refl _ w).alloc (Nat.le_refl _) _
  have RD := Lib.hid (nlrd_any v _ (h.keep (hb1 (.cells (ls3 0 0 0) 29))))
  simp only [ls3] at RD
  clear h
  go_enter Try.func21, Try.ntmps21
  go_wp2_with fail
  go_loopw [] (fun wr => wr = w.alloc (.cells #[.int .i64 0, .int .i64 0, .int .i64 0] 29)) (fun _ => 0)
  case atStart => rfl
  case round =>
    obtain rfl := hrel
    go_wp2_with fail
    refine RD.out.mono ?_; rintro e w1 ⟨rfl, rfl⟩
    go_wp2_with fail
    exact bodyPost_ret (results_ct rfl rfl rfl (blk_new w _) Try.underlying29 rfl (by kernel_rfl)) rfl ⟨rfl, hb1 _⟩
theorem chg_arg (F : Nat → Prop) (v : Value) (x : Sv) (now who : Int) (g : Value) (w : World) (h : leaO.P F v x w) (hr : rightL now who = false) :
    Calls Try.prog 21 #[v, .int .i64 now, .int .i64 who, g] w fun e w' => e = .returned (.tuple #[.agg #[.int .i64 0, .int .i64 0, .int .i64 0], .int .i64 1]) ∧ Below w.heap.size w w' := by
  obtain ⟨b, c, rfl, h2, h3⟩ := h
  have hb1 : ∀ X, Below w.heap.size w (w.alloc X) := fun X => (Below.refl _ w).alloc (Nat.le_refl _) _
  have RD := Lib.hid (lrd_any b c x _ (h2.below (hb1 (.cells (ls3 0 0 0) 29))))
  have VL := Lib.hid fun w => vld_any now who w
  rw [hr] at VL
  simp only [ls3] at RD
  clear h2 h3 hr
  go_enter Try.func21, Try.ntmps21
  go_wp2_with fail
  go_loopw [] (fun wr => wr = w.alloc (.cells #[.int .i64 0, .int .i64 0, .int .i64 0] 29)) (fun _ => 0)
  case atStart => rfl
  case round =>
    obtain rfl := hrel
    go_wp2_with fail
    refine RD.out.mono ?_; rintro e w1 ⟨rfl, rfl⟩
    go_wp2_with fail
    refine (VL.out _).mono ?_; rintro e w1 ⟨rfl, rfl⟩
    go_wp2_with fail
    exact bodyPost_ret (results_ct rfl rfl rfl (blk_new w _) Try.underlying29 rfl (by kernel_rfl)) rfl ⟨rfl, hb1 _⟩
theorem CL.until {wL w : World} {l : Ls} {r : Array Value} (y : Int) (h : CL wL l r w) : CL wL ⟨l.h, l.e, y⟩ r (w.setCell ⟨wL.heap.size, 2, none⟩ (.int .i64 y)) :=
  ⟨blk_set h.box 2 _, blk_far (p := ⟨wL.heap.size, 2, none⟩) _ h.res (by simp), h.bel.trans (((Only.refl wL.heap.size w).setCell 2 (.int .i64 y)).below (Nat.le_refl _) h.bel.size)⟩
theorem sz_ne (n : Nat) : n + 1 ≠ n := by omega
/-- Renew's function. -/
structure BXR (now s : Int) (bn bs b : Nat) (w : World) : Prop where
  q : w.heap[bn]? = some (.cells #[.int .i64 now] 3 (0, 0))
  p : w.heap[bs]? = some (.cells #[.pointer (some ⟨b, 0, none⟩)] 24 (0, 0))
  s : ∃ c, w.heap[b]? = some (stoX s c)
theorem BXR.below {now s : Int} {bn bs b : Nat} {w w' : World} (h : BXR now s bn bs b w) (k : Below w.heap.size w w') : BXR now s bn bs b w' := by
  obtain ⟨c, hc⟩ := h.s
  exact ⟨blk_below k h.q (lt_of_block h.q), blk_below k h.p (lt_of_block h.p), c, blk_below k hc (lt_of_block hc)⟩
theorem BXR.cells {now s : Int} {bn bs b : Nat} {w : World} (h : BXR now s bn bs b w) : w.cell? ⟨bn, 0, none⟩ = some (.int .i64 now) ∧ w.cell? ⟨bs, 0, none⟩ = some (.pointer (some ⟨b, 0, none⟩)) ∧ w.cell? ⟨b, 0, none⟩ = some (.int .i64 s) := by
  obtain ⟨c, hc⟩ := h.s
  exact ⟨by rw [blk_cell h.q]; rfl, by rw [blk_cell h.p]; rfl, by rw [blk_cell hc]; rfl⟩
theorem ren1_any (s : Int) (l : Ls) (now : Int) (bn bs b : Nat) (w : World) (h : BXR now s bn bs b w) :
    Calls Try.prog 28 #[l.val, .pointer (some ⟨bn, 0, none⟩), .pointer (some ⟨bs, 0, none⟩)] w fun e w' => e = .returned (.agg #[.int .i64 l.h, .int .i64 l.e, .int .i64 (max l.u (laterV now s))]) ∧ Below w.heap.size w w' := by
  have C0 := cl_start w l (ls3 0 0 0)
  have X0 := h.below (((Below.refl _ w).alloc (Nat.le_refl _) (.cells #[.int .i64 l.h, .int .i64 l.e, .int .i64 l.u] 29)).alloc (by simp) (.cells (ls3 0 0 0) 29))
  have LT := Lib.hid fun w => later_any now s w
  have hv : l.val = .agg #[.int .i64 l.h, .int .i64 l.e, .int .i64 l.u] := rfl
  rw [hv]
  generalize laterV now s = la at *
  rw [show max l.u la = (if l.u < la then la else l.u) by split <;> omega]
  generalize hmx : (if l.u < la then la else l.u) = mx
  have HMX := Lib.hid hmx
  clear h hv hmx
  have R2 := Lib.hid C0
  obtain ⟨c1, c2, c3⟩ := X0.cells
  obtain ⟨⟨d0, d1, d2⟩, z0, z1, z2, f0, f1, f2⟩ := C0.cells
  simp only [ls3] at c1 c2 c3 d0 d1 d2 z0 z1 z2 f0 f1 f2 R2
  clear X0 C0
  go_enter Try.func28, Try.ntmps28
  go_wp2_with fail
  generalize ((w.alloc (.cells #[.int .i64 l.h, .int .i64 l.e, .int .i64 l.u] 29)).alloc (.cells #[.int .i64 0, .int .i64 0, .int .i64 0] 29)) = w1 at *
  go_still_tail 10, (by kernel_rfl)
  still_call ((LT.out _).mono fun _ _ h => ⟨h.1, h.2.symm⟩)
  repeat still_step
  refine wpStill_nil ?_
  change wpList _ _ _ _ _ w1.drew
  have R4 := R2.out.drew
  clear c1 c2 c3 d0 d1 d2 z0 z1 z2 f0 f1 f2 R2
  generalize w1.drew = w4 at *
  rw [HMX.out]
  clear HMX
  have R5 := Lib.hid (CL.until mx R4)
  obtain ⟨⟨d0, d1, d2⟩, z0, z1, z2, f0, f1, f2⟩ := CL.cells (a := 0) (b := 0) (c := 0) R4
  have g2 := blk_free R4.box 2
  clear R4
  have T := Lib.hid (CL.tell (p := 0) (q := 0) (r := 0) l.h l.e mx R5.out)
  have e0 := sz_ne w.heap.size
  go_wp2_with fail
  exact bodyPost_ret (results_c1 rfl rfl T.out.1 Try.underlying29 rfl (by kernel_rfl)) rfl ⟨rfl, T.out.2⟩
end Go.Proofs.Ytcoclpghimcnfaa
