/- A store of a lease in memory: read, New, Get, Holds; a store that nobody made. Conditions: none. -/
import Derived.Test.YtcoclpghimcnfaaLeaA
namespace Go.Proofs.Ytcoclpghimcnfaa
open Go.ChangeShapes Go.WideShapes Go.ChangeAt Go.RowKit
set_option linter.unusedVariables false
set_option maxRecDepth 100000
set_option linter.unusedSimpArgs false
set_option maxHeartbeats 2000000

theorem ls_from_nil (w : World) : (convert 51 47 (.pointer none)).run Try.prog w = .ok (.pointer none) w := by
  simp [convert, run_underlying Try.underlying51, run_underlying Try.underlying47, Conv.unsafePointer]
theorem pload_nil (a : Addr) (w : World) (h : w.cell? a = some (.pointer none)) :
    Calls Try.prog 38 #[.pointer (some a)] w fun e w' => e = .returned (.pointer none) ∧ w = w' := by
  have hl := run_call_loadP (P := Try.prog) Try.func40 (by kernel_rfl) (by kernel_rfl) (by kernel_rfl) (by kernel_rfl) h
  have hc := ls_from_nil w
  clear h
  go_enter Try.func38, Try.ntmps38
  go_wp2
  go_ret
  exact ⟨rfl, rfl⟩
/-- A store that nobody made: none, or a zero one. -/
def zstC : Array Value := #[.int .i64 0, .pointer none]
def Nob (v : Value) (w : World) : Prop := v = .pointer none ∨ ∃ b, v = .pointer (some ⟨b, 0, none⟩) ∧ w.heap[b]? = some (.cells zstC 55 (0, 0))
theorem Nob.keep {v : Value} {w w' : World} (h : Nob v w) (hb : Below w.heap.size w w') : Nob v w' := by
  rcases h with h | ⟨b, h1, h2⟩
  · exact .inl h
  · exact .inr ⟨b, h1, blk_below hb h2 (lt_of_block h2)⟩
theorem lrd_any (b c : Nat) (x : Sv) (w : World) (h : LB b c x w) :
    Calls Try.prog 30 #[.pointer (some ⟨b, 0, none⟩)] w fun e w' => e = .returned (.pointer (some ⟨c, 0, none⟩)) ∧ w = w' := by
  have C := Lib.hid (pload_any ⟨b, 1, none⟩ c w (by rw [blk_cell h.hb]; rfl) h.lsat)
  clear h
  go_enter Try.func30, Try.ntmps30
  go_wp2_with fail
  refine C.out.mono ?_; rintro e w1 ⟨rfl, rfl⟩
  go_wp2_with fail
  go_ret
  exact ⟨rfl, rfl⟩
theorem nlrd_any (v : Value) (w : World) (h : Nob v w) :
    Calls Try.prog 30 #[v] w fun e w' => e = .returned (.pointer none) ∧ w = w' := by
  rcases h with rfl | ⟨b, rfl, h2⟩
  · go_enter Try.func30, Try.ntmps30
    go_wp2_with fail
    go_ret
    exact ⟨rfl, rfl⟩
  · have C := Lib.hid (pload_nil ⟨b, 1, none⟩ w (by rw [blk_cell h2]; rfl))
    clear h2
    go_enter Try.func30, Try.ntmps30
    go_wp2_with fail
    refine C.out.mono ?_; rintro e w1 ⟨rfl, rfl⟩
    go_wp2_with fail
    go_ret
    exact ⟨rfl, rfl⟩
theorem results_c1 {P : Program} {fn : Func} {p : Tmp} {ty : TypeId} (h : fn.results = #[.cell p ty]) {tmps : Array Value} {w : World} {g : Nat} {t : TypeId} {cs : Array Value} {d : TypeDesc}
    (hp : tmps.getD p undef = .pointer (some ⟨g, 0, none⟩)) (hg : w.heap[g]? = some (.cells cs t (0, 0)))
    (hu : P.underlying ty = some d) (hd : (match d with | .struct _ | .array _ _ => true | _ => false) = true) (hi : (P.info? ty).map (·.size) = some cs.size) : (results fn tmps).run P w = .ok (.agg cs) w := by
  have hp' : tmps[p]?.getD undef = .pointer (some ⟨g, 0, none⟩) := by simpa using hp
  simp [results, h, hp', asAddr, run_loadVar_row w g t ty cs (0, 0) d hg hu hd hi]
theorem lsb_cells {w : World} {c : Nat} {l : Ls} (h : w.heap[c]? = some (lsX l)) : w.cell? ⟨c, 0, none⟩ = some (.int .i64 l.h) ∧ w.cell? ⟨c, 1, none⟩ = some (.int .i64 l.e) ∧ w.cell? ⟨c, 2, none⟩ = some (.int .i64 l.u) :=
  ⟨by rw [blk_cell h]; rfl, by rw [blk_cell h]; rfl, by rw [blk_cell h]; rfl⟩
theorem lget_any (F : Nat → Prop) (v : Value) (x : Sv) (w : World) (h : leaO.P F v x w) :
    Calls Try.prog 16 #[v] w fun e w' => e = .returned x.l.val ∧ Below w.heap.size w w' := by
  obtain ⟨b, c, rfl, h2, h3⟩ := h
  have hw : ∀ X, Below w.heap.size w (w.alloc X) := fun X => (Below.refl _ _).alloc (Nat.le_refl _) _
  have C := Lib.hid (lrd_any b c x _ (h2.below (hw (.cells (ls3 0 0 0) 29))))
  obtain ⟨c0, c1, c2⟩ := lsb_cells (h2.below (hw (.cells (ls3 0 0 0) 29))).hc
  simp only [ls3] at C c0 c1 c2
  clear h2 h3
  go_enter Try.func16, Try.ntmps16
  go_wp2_with fail
  refine C.out.mono ?_; rintro e w1 ⟨rfl, rfl⟩
  go_wp2_with fail
  exact bodyPost_ret (results_c1 rfl rfl (blk_new w _) Try.underlying29 rfl (by kernel_rfl)) rfl ⟨rfl, hw _⟩
theorem nlget_any (v : Value) (w : World) (h : Nob v w) : Calls Try.prog 16 #[v] w fun e w' => e = .returned (.agg #[.int .i64 0, .int .i64 0, .int .i64 0]) ∧ Below w.heap.size w w' := by
  have hw : ∀ X, Below w.heap.size w (w.alloc X) := fun X => (Below.refl _ _).alloc (Nat.le_refl _) _
  have C := Lib.hid (nlrd_any v _ (h.keep (hw (.cells (ls3 0 0 0) 29))))
  simp only [ls3] at C
  clear h
  go_enter Try.func16, Try.ntmps16
  go_wp2_with fail
  refine C.out.mono ?_; rintro e w1 ⟨rfl, rfl⟩
  go_wp2_with fail
  exact bodyPost_ret (results_c1 rfl rfl (blk_new w _) Try.underlying29 rfl (by kernel_rfl)) rfl ⟨rfl, hw _⟩
theorem lholds_any (F : Nat → Prop) (v : Value) (x : Sv) (now who ep : Int) (w : World) (h : leaO.P F v x w) :
    Calls Try.prog 17 #[v, .int .i64 now, .int .i64 who, .int .i64 ep] w fun e w' => e = .returned (.bool (leadsL x.l now who ep)) ∧ Below w.heap.size w w' := by
  obtain ⟨b, c, rfl, h2, h3, _, _, _, _, hh⟩ := h
  have C := Lib.hid (lrd_any b c x w h2)
  obtain ⟨c0, c1, c2⟩ := lsb_cells h2.hc
  have L := Lib.hid (show Calls Try.prog 31 #[.agg (ls3 x.l.h x.l.e x.l.u), .int .i64 now, .int .i64 who, .int .i64 ep] w _ from leads_any x.l now who ep w hh)
  generalize leadsL x.l now who ep = r at *
  simp only [ls3] at L
  clear h2 h3 hh
  go_enter Try.func17, Try.ntmps17
  go_wp2_with fail
  refine C.out.mono ?_; rintro e w1 ⟨rfl, rfl⟩
  go_wp2_with fail
  refine L.out.mono ?_; rintro e w2 ⟨rfl, b2⟩
  have B2 := Lib.hid b2
  clear b2 c0 c1 c2
  go_wp2_with fail
  go_ret
  exact ⟨rfl, B2.out⟩
theorem nlholds_any (v : Value) (now who ep : Int) (w : World) (h : Nob v w) : Calls Try.prog 17 #[v, .int .i64 now, .int .i64 who, .int .i64 ep] w fun e w' => e = .returned (.bool false) ∧ Below w.heap.size w w' := by
  have C := Lib.hid (nlrd_any v w h)
  clear h
  go_enter Try.func17, Try.ntmps17
  go_wp2_with fail
  refine C.out.mono ?_; rintro e w1 ⟨rfl, rfl⟩
  go_wp2_with fail
  go_ret
  exact ⟨rfl, Below.refl _ _⟩
theorem lnew_bad (n : Int) (hn : n < 1 ∨ 64 < n) (w : World) : Calls Try.prog 8 #[.int .i64 n] w fun e w' => e = .returned (.tuple #[.pointer none, .int .i64 1]) ∧ Below w.heap.size w w' := by
  have R := Lib.hid (right_any n 1 64 w)
  have hr : rightN n 1 64 = false := by unfold rightN; simp; omega
  rw [hr] at R
  clear hr hn
  go_enter Try.func8, Try.ntmps8
  go_wp2_with fail
  refine R.out.mono ?_; rintro e w1 ⟨rfl, rfl⟩
  go_wp2_with fail
  go_ret2
  exact ⟨rfl, Below.refl _ _⟩
theorem lnew_any (n : Int) (h1 : 1 ≤ n) (h2 : n ≤ 64) (w : World) : Calls Try.prog 8 #[.int .i64 n] w fun e w' =>
  ∃ b F, e = .returned (.tuple #[.pointer (some ⟨b, 0, none⟩), .int .i64 0]) ∧ leaO.P F (.pointer (some ⟨b, 0, none⟩)) ⟨n, ⟨-1, 0, 0⟩⟩ w' ∧ (∀ k, F k → w.heap.size ≤ k) ∧ Below w.heap.size w w' := by
  have R := Lib.hid (right_any n 1 64 w)
  have hr : rightN n 1 64 = true := by unfold rightN; simp; omega
  rw [hr] at R
  clear hr
  let w1 := w.alloc (.cells #[.int .i64 n, .pointer none] 55)
  let w2 := w1.alloc (.cells (ls3 (-1) 0 0) 29)
  have hs1 : w1.heap.size = w.heap.size + 1 := by simp [w1]
  have k1 : w2.heap[w.heap.size]? = some (.cells #[.int .i64 n, .pointer none] 55 (0, 0)) := blk_old _ (blk_new w _)
  have k2 : w2.heap[w.heap.size + 1]? = some (.cells (ls3 (-1) 0 0) 29 (0, 0)) := hs1 ▸ blk_new w1 _
  have C := Lib.hid (pstore_any ⟨w.heap.size, 1, none⟩ (w.heap.size + 1) (.pointer none) w2 (by rw [blk_cell k1]; rfl) (blk_free k1 1) ⟨_, _, k2, rfl⟩)
  have HP := Lib.hid (show leaO.P (fun k => k = w.heap.size ∨ k = w.heap.size + 1) (.pointer (some ⟨w.heap.size, 0, none⟩)) ⟨n, ⟨-1, 0, 0⟩⟩ ((w.alloc (.cells #[.int .i64 n, .pointer (some ⟨w.heap.size + 1, 0, none⟩)] 55)).alloc (.cells (ls3 (-1) 0 0) 29)) ∧ Below w.heap.size w ((w.alloc (.cells #[.int .i64 n, .pointer (some ⟨w.heap.size + 1, 0, none⟩)] 55)).alloc (.cells (ls3 (-1) 0 0) 29)) from
    ⟨⟨_, _, rfl, ⟨blk_old _ (blk_new w _), by
      have := blk_new (w.alloc (.cells #[.int .i64 n, .pointer (some ⟨w.heap.size + 1, 0, none⟩)] 55)) (.cells (ls3 (-1) 0 0) 29)
      rwa [show (w.alloc (.cells #[.int .i64 n, .pointer (some ⟨w.heap.size + 1, 0, none⟩)] 55)).heap.size = w.heap.size + 1 by simp] at this⟩, fun k => Iff.rfl, h1, h2, by simp, by simp, by simp⟩, ((Below.refl _ w).alloc (Nat.le_refl _) _).alloc (by simp) _⟩)
  simp only [w1, w2, ls3] at C HP
  clear k1 k2 hs1 h1 h2
  clear w2
  clear w1
  go_enter Try.func8, Try.ntmps8
  go_wp2_with fail
  refine R.out.mono ?_; rintro e w1 ⟨rfl, rfl⟩
  go_wp2_with fail
  refine C.out.mono ?_; rintro e w1 ⟨rfl, rfl⟩
  go_wp2_with fail
  go_ret2
  exact ⟨_, _, rfl, HP.out.1, fun k hk => by rcases hk with rfl | rfl <;> omega, HP.out.2⟩
end Go.Proofs.Ytcoclpghimcnfaa
