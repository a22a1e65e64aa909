/- A fence in memory (its block, and the state's block once there is one): what its calls come to; of none. Conditions: as stated (counts up to a million). -/
import Derived.Test.YtjpcghnhekafiaaFenRef
import Derived.Test.YtjpcghnhekafiaaTwo
import Derived.Test.YtjpcghnhekafiaaMapF
import Derived.Test.YtjpcghnhekafiaaPtrF
namespace Go.Proofs.Ytjpcghnhekafiaa
open Go.ChangeShapes Go.WideShapes Go.ChangeAt Go.RowKit
set_option linter.unusedVariables false
set_option maxRecDepth 100000
set_option linter.unusedSimpArgs false
set_option maxHeartbeats 2000000

/-- The fence is block b, its state block o, or none. -/
structure FB (b : Nat) (o : Option Nat) (x : Fe) (w : World) : Prop where
  hb : w.heap[b]? = some (.cells #[fpO o] 34 (0, 0))
  hc : ∀ c, o = some c → w.heap[c]? = some (.cells (fe3 x) 45 (0, 0))
  hz : o = none → x = fen0
theorem FB.ne {b c : Nat} {x : Fe} {w : World} (h : FB b (some c) x w) : c ≠ b := fun e => by
  have h1 := h.hb
  rw [← e, h.hc c rfl] at h1
  have h2 := congrArg Array.size (Obj.cells.inj (Option.some.inj h1)).1
  simp [fe3] at h2
theorem FB.below {b : Nat} {o : Option Nat} {x : Fe} {w w' : World} (h : FB b o x w) (k : Below w.heap.size w w') : FB b o x w' :=
  ⟨blk_below k h.hb (lt_of_block h.hb), fun c hc => blk_below k (h.hc c hc) (lt_of_block (h.hc c hc)), h.hz⟩
theorem FB.on {b : Nat} {o : Option Nat} {x : Fe} {w : World} (h : FB b o x w) : FpOn w o := fun c hc => ⟨_, _, h.hc c hc, rfl⟩
theorem fe_load {w : World} {c : Nat} {x : Fe} (h : w.heap[c]? = some (.cells (fe3 x) 45 (0, 0))) : (loadVar 45 ⟨c, 0, none⟩).run Try.prog w = .ok (.agg (fe3 x)) w :=
  run_loadVar_row (P := Try.prog) w c _ 45 _ (0, 0) (.struct (Try.prog.fieldsOf 45)) h (by kernel_rfl) rfl (by kernel_rfl)
def FP (F : Nat → Prop) (v : Value) (x : Fe) (w : World) : Prop :=
  ∃ b o, v = .pointer (some ⟨b, 0, none⟩) ∧ FB b o x w ∧ (∀ k, F k ↔ k = b ∨ o = some k) ∧ okF x
theorem fp_keep {F : Nat → Prop} {v : Value} {x : Fe} {w w' : World} (h : FP F v x w) (hk : ∀ k, F k → w'.heap[k]? = w.heap[k]?) : FP F v x w' := by
  obtain ⟨b, o, h1, h2, h3, h4⟩ := h
  exact ⟨b, o, h1, ⟨(hk b ((h3 b).2 (.inl rfl))).trans h2.hb, fun c hc => (hk c ((h3 c).2 (.inr hc))).trans (h2.hc c hc), h2.hz⟩, h3, h4⟩
theorem fp_lt {F : Nat → Prop} {v : Value} {x : Fe} {w : World} (h : FP F v x w) : ∀ k, F k → k < w.heap.size := by
  obtain ⟨b, o, h1, h2, h3, h4⟩ := h
  intro k hk
  rcases (h3 k).1 hk with rfl | hc
  · exact lt_of_block h2.hb
  · exact lt_of_block (h2.hc k hc)
def fenO : Own Fe := ⟨FP, fun h hk _ => fp_keep h hk, fun h => fp_lt h⟩
theorem fen_ok {F : Nat → Prop} {v : Value} {x : Fe} {w : World} (h : fenO.P F v x w) : okF x := by
  obtain ⟨b, o, h1, h2, h3, h4⟩ := h
  exact h4
def zfnC : Array Value := #[.pointer none]
theorem fen0_ok : okF fen0 := ⟨Int.le_refl _, by decide, Int.le_refl _, Int.le_refl _⟩
theorem fen_zero (w : World) : fenO.P (fun k => k = w.heap.size) (.pointer (some ⟨w.heap.size, 0, none⟩)) fen0 (w.alloc (.cells zfnC 34)) :=
  ⟨w.heap.size, none, rfl, ⟨blk_new _ _, fun c hc => by simp at hc, fun _ => rfl⟩, fun k => by simp, fen0_ok⟩
theorem fnew_any (w : World) : Calls Try.prog 6 #[] w fun e w' =>
    ∃ b F, e = .returned (.pointer (some ⟨b, 0, none⟩)) ∧ fenO.P F (.pointer (some ⟨b, 0, none⟩)) fen0 w' ∧ (∀ k, F k → w.heap.size ≤ k) ∧ Below w.heap.size w w' := by
  have Z := Lib.hid (fen_zero w)
  have hb := Lib.hid ((Below.refl w.heap.size w).alloc (Nat.le_refl _) (.cells zfnC 34))
  simp only [zfnC] at Z hb
  go_enter Try.func6, Try.ntmps6
  go_wp2_with fail
  go_ret
  exact ⟨w.heap.size, _, rfl, Z.out, fun k hk => by omega, hb.out⟩
/-! ### read -/
theorem results_fc {P : Program} {fn : Func} {p u : Tmp} {ty : TypeId} (h : fn.results = #[.tmp u, .cell p ty]) {tmps : Array Value} {w : World} {g : Nat} {t : TypeId} {cs : Array Value} {d : TypeDesc} {x : Value}
    (hx : tmps.getD u undef = x) (hp : tmps.getD p undef = .pointer (some ⟨g, 0, none⟩)) (hg : w.heap[g]? = some (.cells cs t (0, 0)))
    (hu : P.underlying ty = some d) (hd : (match d with | .struct _ | .array _ _ => true | _ => false) = true) (hi : (P.info? ty).map (·.size) = some cs.size) : (results fn tmps).run P w = .ok (.tuple #[x, .agg cs]) w := by
  have hp' : tmps[p]?.getD undef = .pointer (some ⟨g, 0, none⟩) := by simpa using hp
  have hx' : tmps[u]?.getD undef = x := by simpa using hx
  simp [results, h, hp', hx', asAddr, run_loadVar_row w g t ty cs (0, 0) d hg hu hd hi]
abbrev stO (x : Fe) : Obj := .cells (fe3 x) 45 (0, 0)
theorem fread_any (b : Nat) (o : Option Nat) (x : Fe) (w : World) (h : FB b o x w) :
    Calls Try.prog 11 #[.pointer (some ⟨b, 0, none⟩)] w fun e w' => e = .returned (.tuple #[fpO o, .agg #[.int .i64 x.e, .int .i64 x.y, .int .i64 x.n]]) ∧ Below w.heap.size w w' := by
  have hb : Below w.heap.size w (w.alloc (stO fen0)) := (Below.refl _ _).alloc (Nat.le_refl _) _
  have hn := blk_new w (stO fen0)
  have C := Lib.hid (fpload_any ⟨b, 0, none⟩ o _ (by rw [blk_cell (h.below hb).hb]; rfl) (h.below hb).on)
  have h2 := h.below hb
  have hun : undef = Value.tuple #[] := rfl
  have HB := Lib.hid hb
  cases o with
  | none =>
    obtain rfl := h2.hz rfl
    simp only [stO, fe3, fen0, fpO, Option.map_none] at C hn HB ⊢
    clear h h2 hb
    go_enter Try.func11, Try.ntmps11
    go_wp2_with fail
    refine C.out.mono ?_; rintro e w1 ⟨rfl, rfl⟩
    go_wp2_with fail
    exact bodyPost_ret (results_fc rfl rfl rfl hn Try.underlying45 rfl (by kernel_rfl)) rfl ⟨rfl, HB.out⟩
  | some c =>
    have hc := h2.hc c rfl
    have L := fe_load hc
    have z := blk_free hn
    simp only [stO, fe3, fen0, fpO, Option.map_some] at C hn HB hc L ⊢
    clear h h2 hb
    go_enter Try.func11, Try.ntmps11
    go_wp2_with fail
    refine C.out.mono ?_; rintro e w1 ⟨rfl, rfl⟩
    go_wp2_with fail
    generalize hw1 : w.alloc (.cells #[.int .i64 0, .int .i64 0, .int .i64 0] 45) = w1 at *
    clear C
    have c0 : w1.cell? ⟨c, 0, none⟩ = some (.int .i64 x.e) := by rw [blk_cell hc]; rfl
    have c1 : w1.cell? ⟨c, 1, none⟩ = some (.int .i64 x.y) := by rw [blk_cell hc]; rfl
    have c2 : w1.cell? ⟨c, 2, none⟩ = some (.int .i64 x.n) := by rw [blk_cell hc]; rfl
    clear L
    go_still_tail 5, (by kernel_rfl)
    change wpList _ _ _ _ _ w1.drew
    have HB2 := Lib.hid (show Below w.heap.size w w1.drew from HB.out.trans (below_drew.mono HB.out.size))
    have hn2 : w1.drew.heap[w.heap.size]? = _ := hn
    clear hn z c0 c1 c2 hw1 HB hc
    generalize w1.drew = w2 at *
    have m0 : w2.cell? ⟨w.heap.size, 0, none⟩ = some (.int .i64 0) := by rw [blk_cell hn2]; rfl
    have m1 : w2.cell? ⟨w.heap.size, 1, none⟩ = some (.int .i64 0) := by rw [blk_cell hn2]; rfl
    have m2 : w2.cell? ⟨w.heap.size, 2, none⟩ = some (.int .i64 0) := by rw [blk_cell hn2]; rfl
    have f0 := blk_free hn2 0
    have f1 := blk_free hn2 1
    have f2 := blk_free hn2 2
    have T := Lib.hid (blk_set (blk_set (blk_set hn2 0 (.int .i64 x.e)) 1 (.int .i64 x.y)) 2 (.int .i64 x.n))
    have O := Lib.hid (((((Only.refl w.heap.size w2).setCell 0 (.int .i64 x.e)).setCell 1 (.int .i64 x.y)).setCell 2 (.int .i64 x.n)).below (Nat.le_refl _) HB2.out.size)
    clear hn2
    go_wp2_with fail
    exact bodyPost_ret (results_fc rfl rfl rfl T.out Try.underlying45 rfl (by kernel_rfl)) rfl ⟨rfl, HB2.out.trans O.out⟩
theorem nfread_any (w : World) :
    Calls Try.prog 11 #[.pointer none] w fun e w' => e = .returned (.tuple #[.pointer none, .agg #[.int .i64 0, .int .i64 0, .int .i64 0]]) ∧ Below w.heap.size w w' := by
  have hb : Below w.heap.size w (w.alloc (stO fen0)) := (Below.refl _ _).alloc (Nat.le_refl _) _
  have hn := blk_new w (stO fen0)
  have HB := Lib.hid hb
  simp only [stO, fe3, fen0] at hn HB ⊢
  clear hb
  go_enter Try.func11, Try.ntmps11
  go_wp2_with fail
  exact bodyPost_ret (results_fc rfl rfl rfl hn Try.underlying45 rfl (by kernel_rfl)) rfl ⟨rfl, HB.out⟩
/-! ### next -/
theorem fnext_any (x : Fe) (k : Int) (w : World) (h : okF x) (hy : x.y ≤ 1000000) (hn : x.n ≤ 1000000) :
    Calls Try.prog 12 #[.agg #[.int .i64 x.e, .int .i64 x.y, .int .i64 x.n], .int .i64 k] w fun e w' => e = .returned (.tuple #[.agg #[.int .i64 (passF x k).e, .int .i64 (passF x k).y, .int .i64 (passF x k).n], .bool (mayF x k)]) ∧ Below w.heap.size w w' := by
  have hb : ∀ (X Y : Obj) (a : World), Below a.heap.size a ((a.alloc X).alloc Y) := fun X Y a => ((Below.refl _ _).alloc (Nat.le_refl _) _).alloc (Nat.le_of_lt (by simp)) _
  have hn2 : ∀ (X Y : Obj), ((w.alloc X).alloc Y).heap[w.heap.size + 1]? = some Y := fun X Y => by
    have := blk_new (w.alloc X) Y
    rwa [show (w.alloc X).heap.size = w.heap.size + 1 by simp] at this
  have h0 := h
  obtain ⟨h1, h2, h3, h4⟩ := h
  have q1 : IntKind.i64.wrap (x.n + 1) = x.n + 1 := IntWalk.i64_in _ (by omega)
  have q2 : IntKind.i64.wrap (x.y + 1) = x.y + 1 := IntWalk.i64_in _ (by omega)
  have hun : undef = Value.tuple #[] := rfl
  have R : mayF x k = rightN k (max x.e 1) 4294967295 := by
    unfold mayF rightN
    by_cases a1 : 1 ≤ k <;> by_cases a2 : k ≤ 4294967295 <;> by_cases a3 : x.e ≤ k <;> simp [a1, a2, a3] <;> omega
  have RC := Lib.hid (fun w => right_any k (max x.e 1) 4294967295 w)
  unfold passF
  rw [R]
  clear h0 h1 h2 h3 h4 R hy hn
  cases hr : rightN k (max x.e 1) 4294967295
  all_goals
    rw [hr] at RC
    go_enter Try.func12, Try.ntmps12
    go_wp2_with fail
    refine (RC.out _).mono ?_; rintro e w1 ⟨rfl, rfl⟩
    go_wp2_with fail
    exact bodyPost_ret (results_cf rfl rfl rfl (hn2 _ _) Try.underlying45 rfl (by kernel_rfl)) rfl ⟨rfl, hb _ _ _⟩
theorem nfpass_any (k : Int) (w : World) : Calls Try.prog 8 #[.pointer none, .int .i64 k] w fun e w' => e = .returned (.bool false) ∧ Below w.heap.size w w' := by
  go_enter Try.func8, Try.ntmps8
  go_wp2_with fail
  go_ret
  exact ⟨rfl, Below.refl _ _⟩
theorem fst_set (w : World) (X : Obj) : Below w.heap.size w (w.alloc X) := (Below.refl _ _).alloc (Nat.le_refl _) _
theorem fst_setN (w : World) (X : Obj) (n : Nat) : Below w.heap.size w ((w.alloc X).drewN n) := have h := fst_set w X; ⟨h.os, h.tape, h.output, h.size, h.block⟩
theorem fepoch_any (F : Nat → Prop) (v : Value) (x : Fe) (w : World) (h : fenO.P F v x w) :
    Calls Try.prog 10 #[v] w fun e w' => e = .returned (.int .i64 x.e) ∧ Below w.heap.size w w' := by
  obtain ⟨b, o, rfl, h2, h3, h4⟩ := h
  have C := Lib.hid (fread_any b o x w h2)
  clear h2 h3 h4
  go_enter Try.func10, Try.ntmps10
  go_wp2_with fail
  refine C.out.mono ?_; rintro e w1 ⟨rfl, b1⟩
  go_wp2_with fail
  go_ret
  exact ⟨rfl, b1.trans ((fst_set w1 _).mono b1.size)⟩
theorem fpassed_any (F : Nat → Prop) (v : Value) (x : Fe) (w : World) (h : fenO.P F v x w) :
    Calls Try.prog 9 #[v] w fun e w' => e = .returned (.tuple #[.int .i64 x.y, .int .i64 x.n]) ∧ Below w.heap.size w w' := by
  obtain ⟨b, o, rfl, h2, h3, h4⟩ := h
  have C := Lib.hid (fread_any b o x w h2)
  clear h2 h3 h4
  go_enter Try.func9, Try.ntmps9
  go_wp2_with fail
  refine C.out.mono ?_; rintro e w1 ⟨rfl, b1⟩
  go_wp2_with fail
  go_quiet (fail)
  go_wp2_with fail
  go_ret2
  exact ⟨rfl, b1.trans ((fst_setN w1 _ _).mono b1.size)⟩
theorem nfepoch_any (w : World) : Calls Try.prog 10 #[.pointer none] w fun e w' => e = .returned (.int .i64 0) ∧ Below w.heap.size w w' := by
  have C := Lib.hid (nfread_any w)
  go_enter Try.func10, Try.ntmps10
  go_wp2_with fail
  refine C.out.mono ?_; rintro e w1 ⟨rfl, b1⟩
  go_wp2_with fail
  go_ret
  exact ⟨rfl, b1.trans ((fst_set w1 _).mono b1.size)⟩
theorem nfpassed_any (w : World) : Calls Try.prog 9 #[.pointer none] w fun e w' => e = .returned (.tuple #[.int .i64 0, .int .i64 0]) ∧ Below w.heap.size w w' := by
  have C := Lib.hid (nfread_any w)
  go_enter Try.func9, Try.ntmps9
  go_wp2_with fail
  refine C.out.mono ?_; rintro e w1 ⟨rfl, b1⟩
  go_wp2_with fail
  go_quiet (fail)
  go_wp2_with fail
  go_ret2
  exact ⟨rfl, b1.trans ((fst_setN w1 _ _).mono b1.size)⟩
/-! ### Pass -/
theorem FB.swap {b c : Nat} {o : Option Nat} {x y : Fe} {w : World} (h : FB b o x w) (hc : w.heap[c]? = some (stO y)) (hn : c ≠ b) : FB b (some c) y (w.setCell ⟨b, 0, none⟩ (fpO (some c))) :=
  ⟨blk_set h.hb 0 _, fun d hd => by obtain rfl := Option.some.inj hd; exact blk_far (p := ⟨b, 0, none⟩) _ hc hn, fun e => by simp at e⟩
theorem fpass_any (F : Nat → Prop) (v : Value) (x : Fe) (k : Int) (w : World) (h : fenO.P F v x w) (hk : inI k) (hy : x.y ≤ 1000000) (hn : x.n ≤ 1000000) :
    Calls Try.prog 8 #[v, .int .i64 k] w fun e w' => e = .returned (.bool (mayF x k)) ∧ OPost fenO F v (passF x k) w w' := by
  obtain ⟨b, o, rfl, h2, h3, h4⟩ := h
  have RD := Lib.hid (fread_any b o x w h2)
  have NX := Lib.hid (fun w => fnext_any x k w h4 hy hn)
  have hlt := lt_of_block h2.hb
  have PN := Lib.hid (show ∀ c w', FB b (some c) (passF x k) w' → w.heap.size ≤ c → Only b w w' → OPost fenO F (.pointer (some ⟨b, 0, none⟩)) (passF x k) w w' from fun c w' hg hc t => by
    refine ⟨fun k => k = b ∨ some c = some k, ⟨b, some c, rfl, hg, fun k => Iff.rfl, passF_ok k h4⟩, ⟨t.os, t.tape, t.output, t.size, fun m hm hf => t.block m hm (fun e => hf ((h3 m).2 (.inl e)))⟩, fun m hm => ?_⟩
    rcases hm with rfl | e
    · exact .inl ((h3 _).2 (.inl rfl))
    · exact .inr (by rw [← Option.some.inj e]; exact hc))
  have H2 := Lib.hid h2
  generalize passF x k = y at *
  generalize mayF x k = m at *
  clear h2 h3 h4 hk hy hn
  go_enter Try.func8, Try.ntmps8
  go_wp2_with fail
  go_loopw [] (fun wr => wr = w) (fun _ => 0)
  case atStart => rfl
  case round =>
    obtain rfl := hrel
    go_wp2_with fail
    refine RD.out.mono ?_; rintro e w1 ⟨rfl, b1⟩
    go_wp2_with fail
    have hb2 : Below w1.heap.size w1 (w1.alloc (.cells #[.int .i64 x.e, .int .i64 x.y, .int .i64 x.n] 45)) := fst_set w1 _
    have B2 := Lib.hid (b1.trans (hb2.mono b1.size))
    clear hb2 b1
    generalize (w1.alloc (.cells #[.int .i64 x.e, .int .i64 x.y, .int .i64 x.n] 45)) = w2 at *
    refine (NX.out _).mono ?_; rintro e w3 ⟨rfl, b3⟩
    go_wp2_with fail
    have hb4 : Below w3.heap.size w3 (w3.alloc (.cells #[.int .i64 y.e, .int .i64 y.y, .int .i64 y.n] 45)) := fst_set w3 _
    have B3 := B2.out.trans (b3.mono B2.out.size)
    have B4 := Lib.hid (B3.trans (hb4.mono B3.size))
    have hc : (w3.alloc (.cells #[.int .i64 y.e, .int .i64 y.y, .int .i64 y.n] 45)).heap[w3.heap.size]? = some (stO y) := blk_new _ _
    have hz := B3.size
    clear hb4 B3 b3 B2 RD NX
    generalize (w3.alloc (.cells #[.int .i64 y.e, .int .i64 y.y, .int .i64 y.n] 45)) = w4 at *
    generalize w3.heap.size = c at *
    have f4 := H2.out.below B4.out
    refine (fpcas_hit ⟨b, 0, none⟩ o (some c) w4 (by rw [blk_cell f4.hb]; rfl) (blk_free f4.hb 0) f4.on (fun d hd => by obtain rfl := Option.some.inj hd; exact ⟨_, _, hc, rfl⟩)).mono ?_
    rintro e w5 ⟨rfl, rfl⟩
    have hne : c ≠ b := by omega
    have t5 := (Only.refl b w4).setCell 0 (fpO (some c))
    have fin := Lib.hid (PN.out c _ (f4.swap hc hne) hz ⟨t5.os.trans B4.out.os, t5.tape.trans B4.out.tape, t5.output.trans B4.out.output, Nat.le_trans B4.out.size t5.size, fun q hq hqb => (t5.block q (Nat.lt_of_lt_of_le hq B4.out.size) hqb).trans (B4.out.block q hq)⟩)
    clear PN H2 B4 hc f4 t5 hz hlt hne
    go_wp2_with fail
    go_ret
    exact ⟨rfl, fin.out⟩
end Go.Proofs.Ytjpcghnhekafiaa
