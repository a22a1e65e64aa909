/- What package record's firstError, within and numbers come to, and Check. Conditions: as stated. -/
import Derived.Test.YtgooepfhapaenaaGreatRecO
import Derived.Test.YtgooepfhapaenaaGreatEvt
import Derived.Test.YtgooepfhapaenaaGreatHoldV
import Derived.Test.YtgooepfhapaenaaGreatFrmD
namespace Go.Proofs.YtgooepfhapaenaaGreat
open Go.ChangeShapes Go.WideShapes Go.ChangeAt Go.RowKit
set_option linter.unusedVariables false
set_option maxRecDepth 100000
set_option linter.unusedSimpArgs false
set_option maxHeartbeats 4000000

/-! ### firstError: whatever it is handed -/
def fnV (f : FuncId × Array Value) : Value := .func (.func f.1) #[] f.2
def firstE : List Int → Int
  | [] => 0
  | c :: l => if c ≠ 0 then c else firstE l
theorem firstE_at : ∀ (es : List Int) (k : Nat) (c : Int), es[k]? = some c → (∀ j, j < k → es[j]? = some 0) → c ≠ 0 → firstE es = c
  | [], k, c, h, _, _ => by simp at h
  | e :: l, 0, c, h, _, hc => by
    have : e = c := by simpa using h
    subst this
    unfold firstE
    rw [if_pos hc]
  | e :: l, k + 1, c, h, hz, hc => by
    have : e = 0 := by simpa using hz 0 (by omega)
    subst this
    unfold firstE
    rw [if_neg (by simp)]
    exact firstE_at l k c (by simpa using h) (fun j hj => by simpa using hz (j + 1) (by omega)) hc
theorem firstE_zero : ∀ (es : List Int), (∀ j, j < es.length → es[j]? = some 0) → firstE es = 0
  | [], _ => rfl
  | e :: l, hz => by
    have : e = 0 := by simpa using hz 0 (by simp)
    subst this
    unfold firstE
    rw [if_neg (by simp)]
    exact firstE_zero l fun j hj => by simpa using hz (j + 1) (by simp; omega)
theorem ferr_any (a cap : Nat) (fs : List (FuncId × Array Value)) (es : List Int) (I : Nat → World → Prop) (B : World → Prop) (w : World) (hl : fs.length ≤ 100) (he : es.length = fs.length) (h0 : I 0 w)
    (hr : ∀ k w, I k w → ∀ j f, fs[j]? = some f → w.cell? ⟨a, j, none⟩ = some (fnV f))
    (hen : ∀ (k : Nat) (f : FuncId × Array Value), fs[k]? = some f → ∀ w, (callFunc f.1 f.2).run Tryz.prog w = .ok (.enter f.1 f.2) w)
    (hst : ∀ k f c, fs[k]? = some f → es[k]? = some c → (∀ j, j < k → es[j]? = some 0) → ∀ w, I k w → Calls Tryz.prog f.1 f.2 w fun e w' => e = .returned (.int .i64 c) ∧ (c = 0 → I (k + 1) w') ∧ (c ≠ 0 → B w')) :
    Calls Tryz.prog 11 #[.slice (some ⟨a, 0, none⟩) fs.length cap] w fun e w' => e = .returned (.int .i64 (firstE es)) ∧ (firstE es = 0 → I fs.length w') ∧ (firstE es ≠ 0 → B w') := by
  have HR := Lib.hid hr
  have HEN := Lib.hid hen
  have HST := Lib.hid hst
  have HE := Lib.hid he
  have H0 := Lib.hid h0
  clear hr hen hst he h0
  go_enter Tryz.func11, Tryz.ntmps11
  go_wp2_with fail
  go_loopw [8] (fun i wr => ∃ m : Nat, m ≤ fs.length ∧ i = .int .i64 m ∧ (∀ j, j < m → es[j]? = some 0) ∧ I m wr) (fun i _ => fs.length - (intOf i).toNat)
  case atStart => exact ⟨0, by omega, rfl, (fun j hj => by omega), H0.out⟩
  case round =>
    clear H0
    obtain ⟨m, hm, rfl, hz, hi⟩ := hrel
    have HZ := Lib.hid hz
    have HI := Lib.hid hi
    clear hz hi
    by_cases hlt : m < fs.length
    · have dk3 : decide ((m : Int) < fs.length) = true := decide_eq_true (by omega)
      have dk4 : (0 : Int) ≤ (m : Int) := by omega
      have dk5 : (m : Int) < (fs.length : Int) := by omega
      have q3 : IntKind.i64.wrap ((m : Int) + 1) = ((m + 1 : Nat) : Int) := by rw [IntWalk.i64_in _ (by omega)]; omega
      obtain ⟨f, hf⟩ : ∃ f, fs[m]? = some f := ⟨_, List.getElem?_eq_getElem hlt⟩
      obtain ⟨c, hc⟩ : ∃ c, es[m]? = some c := ⟨_, List.getElem?_eq_getElem (by rw [HE.out]; exact hlt)⟩
      have hcell := HR.out m wr HI.out m f hf
      have hen := HEN.out m f hf
      have HS := Lib.hid (HST.out m f c hf hc HZ.out wr HI.out)
      have HC := Lib.hid hc
      obtain ⟨n, cs⟩ := f
      unfold fnV at hcell
      dsimp only at hcell hen HS
      clear hc hf HI
      go_wp2_with fail
      refine HS.out.mono ?_
      rintro e w1 ⟨rfl, h1, h2⟩
      by_cases hc0 : c = 0
      · subst hc0
        have HI := Lib.hid (h1 rfl)
        clear h1 h2 HS hcell
        go_wp2_with fail
        go_roundw
        case rel => exact ⟨m + 1, by omega, rfl, (fun j hj => by
          by_cases e : j = m
          · rw [e]; exact HC.out
          · exact HZ.out j (by omega)), HI.out⟩
        case measure => simp [intOf]; omega
      · have k1 : (c == 0) = false := beq_eq_false_iff_ne.2 hc0
        have k2 : decide (c = 0) = false := decide_eq_false hc0
        have k3 : (c != 0) = true := by simpa using hc0
        have HF := Lib.hid (firstE_at es m c HC.out HZ.out hc0)
        have HB := Lib.hid (h2 hc0)
        clear h1 h2 HS hcell
        go_wp2_with fail
        go_ret
        exact ⟨by rw [HF.out]; rfl, (fun e => absurd (HF.out ▸ e) hc0), fun _ => HB.out⟩
    · obtain rfl : m = fs.length := by omega
      have dk3 : decide ((fs.length : Int) < fs.length) = false := decide_eq_false (by omega)
      have HF := Lib.hid (firstE_zero es (by rw [HE.out]; exact HZ.out))
      go_wp2_with fail
      go_ret
      exact ⟨by rw [HF.out]; rfl, (fun _ => HI.out), fun e => absurd HF.out e⟩
/-! ### within, numbers -/
def inE (n m : Int) : Int := if rightN n 1 m = true then 0 else 1
theorem recwithin_any (n m : Int) (w : World) : Calls Tryz.prog 35 #[.int .i64 n, .int .i64 m] w fun e w' => e = .returned (.int .i64 (inE n m)) ∧ w = w' := by
  have HR := Lib.hid fun w => right_any n 1 m w
  unfold inE
  generalize rightN n 1 m = q at *
  cases q
  · rw [if_neg (by simp)]
    go_enter Tryz.func35, Tryz.ntmps35
    go_wp2_with fail
    refine (HR.out _).mono ?_
    rintro e w1 ⟨rfl, rfl⟩
    go_wp2_with fail
    go_ret
    exact ⟨rfl, rfl⟩
  · rw [if_pos rfl]
    go_enter Tryz.func35, Tryz.ntmps35
    go_wp2_with fail
    refine (HR.out _).mono ?_
    rintro e w1 ⟨rfl, rfl⟩
    go_wp2_with fail
    go_ret
    exact ⟨rfl, rfl⟩
theorem recnum_any (x y : Int) (a cap : Nat) (w : World) (hx0 : 0 ≤ x) (hx : x ≤ 9223372036854775807) (hy0 : 0 ≤ y) (hy : y ≤ 9223372036854775807) (c0 : w.cell? ⟨a, 0, none⟩ = some (.int .i64 x)) (c1 : w.cell? ⟨a, 1, none⟩ = some (.int .i64 y)) :
    Calls Tryz.prog 17 #[.slice (some ⟨a, 0, none⟩) 2 cap] w fun e w' => e = .returned (.string (varS x ++ varS y)) ∧ Below w.heap.size w w' := by
  have hsz : ∀ n : Int, 0 ≤ n → n ≤ 9223372036854775807 → (varS n).size ≤ 10 := fun n h0 h1 => by
    obtain ⟨k, rfl⟩ : ∃ k : Nat, n = k := ⟨n.toNat, by omega⟩
    rw [varS_nat, bs_size]
    exact varL_len k 10 (by omega) (by omega)
  have HX := Lib.hid fun W => var_any x W hx
  have HY := Lib.hid fun W => var_any y W hy
  have sx := hsz x hx0 hx
  have sy := hsz y hy0 hy
  have e0 : (⟨#[]⟩ : ByteArray) ++ varS x = varS x := ByteArray.empty_append
  clear hsz
  have hlt1 : a < w.heap.size := World.block_lt_of_cell? w _ c0
  have HC0 := Lib.hid fun (W : World) (h : Below w.heap.size w W) => (h.cell (p := ⟨a, 0, none⟩) hlt1).trans c0
  have HC1 := Lib.hid fun (W : World) (h : Below w.heap.size w W) => (h.cell (p := ⟨a, 1, none⟩) hlt1).trans c1
  clear c0 c1
  go_enter Tryz.func17, Tryz.ntmps17
  go_wp2_with fail
  go_loopw [3, 8] (fun s i wr => (s = .string ⟨#[]⟩ ∧ i = .int .i64 0 ∨ s = .string (varS x) ∧ i = .int .i64 1 ∨ s = .string (varS x ++ varS y) ∧ i = .int .i64 2) ∧ Below w.heap.size w wr) (fun _ i _ => 2 - (intOf i).toNat)
  case atStart => exact ⟨.inl ⟨rfl, rfl⟩, Below.refl _ _⟩
  case round =>
    obtain ⟨h, hb⟩ := hrel
    have g0 := HC0.out wr hb
    have g1 := HC1.out wr hb
    have HB := Lib.hid hb
    clear hb
    rcases h with ⟨rfl, rfl⟩ | ⟨rfl, rfl⟩ | ⟨rfl, rfl⟩
    · go_wp2_with fail
      refine (HX.out _).mono ?_
      rintro e w1 ⟨rfl, hb1⟩
      have HB1 := Lib.hid (HB.out.trans (hb1.mono HB.out.size))
      clear hb1 HB
      go_wp2_with fail
      go_roundw
      case rel => exact ⟨.inr (.inl ⟨(by first | rfl | rw [e0]), rfl⟩), HB1.out⟩
      case measure => simp [intOf]
    · go_wp2_with fail
      refine (HY.out _).mono ?_
      rintro e w1 ⟨rfl, hb1⟩
      have HB1 := Lib.hid (HB.out.trans (hb1.mono HB.out.size))
      clear hb1 HB
      go_wp2_with fail
      go_roundw
      case rel => exact ⟨.inr (.inr ⟨rfl, rfl⟩), HB1.out⟩
      case measure => simp [intOf]
    · go_wp2_with fail
      go_ret
      exact ⟨rfl, HB.out⟩
/-! ### Check -/
/-- A record in a box. -/
abbrev recO (r : Rec) : Obj := .cells r.cells 27 (0, 0)
theorem en_chk1 (b : Nat) (w : World) : (callFunc 34 #[pt b 0]).run Tryz.prog w = .ok (.enter 34 #[pt b 0]) w := by kernel_rfl
theorem chk1_any (b : Nat) (r : Rec) (w : World) (h : w.heap[b]? = some (recO r)) : Calls Tryz.prog 34 #[pt b 0] w fun e w' => e = .returned (.int .i64 (inE r.s 2147483647)) ∧ w = w' := by
  have HW := Lib.hid fun w => recwithin_any r.s 2147483647 w
  obtain ⟨x0, x1, x2, x3, x4, x5, x6, x7, x8, x9⟩ := rec_cells h
  clear h
  unfold pt
  go_enter Tryz.func34, Tryz.ntmps34
  go_wp2_with fail
  refine (HW.out _).mono ?_
  rintro e w1 ⟨rfl, rfl⟩
  go_wp2_with fail
  go_ret
  exact ⟨rfl, rfl⟩
theorem en_chk2 (b : Nat) (w : World) : (callFunc 36 #[pt b 0]).run Tryz.prog w = .ok (.enter 36 #[pt b 0]) w := by kernel_rfl
theorem chk2_any (b : Nat) (r : Rec) (w : World) (h : w.heap[b]? = some (recO r)) : Calls Tryz.prog 36 #[pt b 0] w fun e w' => e = .returned (.int .i64 (inE r.e 4294967295)) ∧ w = w' := by
  have HW := Lib.hid fun w => recwithin_any r.e 4294967295 w
  obtain ⟨x0, x1, x2, x3, x4, x5, x6, x7, x8, x9⟩ := rec_cells h
  clear h
  unfold pt
  go_enter Tryz.func36, Tryz.ntmps36
  go_wp2_with fail
  refine (HW.out _).mono ?_
  rintro e w1 ⟨rfl, rfl⟩
  go_wp2_with fail
  go_ret
  exact ⟨rfl, rfl⟩
theorem en_chk3 (b : Nat) (w : World) : (callFunc 37 #[pt b 0]).run Tryz.prog w = .ok (.enter 37 #[pt b 0]) w := by kernel_rfl
theorem chk3_any (b : Nat) (r : Rec) (w : World) (hok : r.ok) (h : w.heap[b]? = some (recO r)) : Calls Tryz.prog 37 #[pt b 0] w fun e w' => e = .returned (.int .i64 (checkE r.v)) ∧ Below w.heap.size w w' := by
  have HW := Lib.hid fun w => evcheck_any r.v w hok.2.2
  obtain ⟨x0, x1, x2, x3, x4, x5, x6, x7, x8, x9⟩ := rec_cells h
  unfold Evt.val at HW
  clear h
  unfold pt
  go_enter Tryz.func37, Tryz.ntmps37
  go_wp2_with fail
  refine (HW.out _).mono ?_
  rintro e w1 ⟨rfl, hb⟩
  have HB := Lib.hid hb
  clear hb
  go_wp2_with fail
  go_ret
  exact ⟨rfl, HB.out⟩
theorem check_first (r : Rec) : firstE [inE r.s 2147483647, inE r.e 4294967295, checkE r.v] = checkR r := by
  unfold checkR numRc inE rightN
  simp only [firstE]
  by_cases h1 : 1 ≤ r.s <;> by_cases h2 : r.s ≤ 2147483647 <;> by_cases h3 : 1 ≤ r.e <;> by_cases h4 : r.e ≤ 4294967295 <;> simp [h1, h2, h3, h4] <;> omega
/-- The functions handed to firstError, in a row. -/
def fnR (fs : List (FuncId × Array Value)) : Array Value := (fs.map fnV).toArray
theorem fnR_cell {w : World} {a : Nat} {fs : List (FuncId × Array Value)} {t : TypeId} (h : w.heap[a]? = some (.cells (fnR fs) t (0, 0))) (j : Nat) (f : FuncId × Array Value) (hf : fs[j]? = some f) : w.cell? ⟨a, j, none⟩ = some (fnV f) := by
  rw [blk_cell h j]
  unfold fnR
  simp [hf]
theorem recheck_any (r : Rec) (w : World) (hok : r.ok) : Calls Tryz.prog 9 #[r.val] w fun e w' => e = .returned (.int .i64 (checkR r)) ∧ Below w.heap.size w w' := by
  obtain ⟨fs, hfs⟩ : ∃ fs : List (FuncId × Array Value), fs = [(34, #[pt w.heap.size 0]), (36, #[pt w.heap.size 0]), (37, #[pt w.heap.size 0])] := ⟨_, rfl⟩
  have hb1 : Below w.heap.size w (w.alloc (.cells r.cells 27)) := (Below.refl _ _).alloc (Nat.le_refl _) _
  have hz1 : (w.alloc (.cells r.cells 27)).heap.size = w.heap.size + 1 := by simp
  have hx1 : (w.alloc (.cells r.cells 27)).heap[w.heap.size]? = some (recO r) := blk_new w _
  have hx2 := blk_old (.cells (fnR fs) 37) hx1
  have hr2 := blk_new (w.alloc (.cells r.cells 27)) (.cells (fnR fs) 37)
  rw [hz1] at hr2
  have hb2 := hb1.alloc (by omega) (.cells (fnR fs) 37)
  have HC := Lib.hid (ferr_any (w.heap.size + 1) 3 fs [inE r.s 2147483647, inE r.e 4294967295, checkE r.v]
    (fun _ W => W.heap[w.heap.size]? = some (recO r) ∧ W.heap[w.heap.size + 1]? = some (.cells (fnR fs) 37 (0, 0)) ∧ Below w.heap.size w W)
    (fun W => Below w.heap.size w W) _ (by rw [hfs]; simp) (by rw [hfs]; rfl) ⟨hx2, hr2, hb2⟩
    (fun k W h j f hf => fnR_cell h.2.1 j f hf)
    (fun k f hf W => by
      rw [hfs] at hf
      match k, hf with
      | 0, hf => injection hf with hf; subst hf; exact en_chk1 _ _
      | 1, hf => injection hf with hf; subst hf; exact en_chk2 _ _
      | 2, hf => injection hf with hf; subst hf; exact en_chk3 _ _)
    (fun k f c hf hc hz W h => by
      rw [hfs] at hf
      match k, hf, hc with
      | 0, hf, hc =>
        injection hf with hf; injection hc with hc; subst hf hc
        refine (chk1_any _ r W h.1).mono ?_
        rintro e W' ⟨rfl, rfl⟩
        exact ⟨rfl, fun _ => h, fun _ => h.2.2⟩
      | 1, hf, hc =>
        injection hf with hf; injection hc with hc; subst hf hc
        refine (chk2_any _ r W h.1).mono ?_
        rintro e W' ⟨rfl, rfl⟩
        exact ⟨rfl, fun _ => h, fun _ => h.2.2⟩
      | 2, hf, hc =>
        injection hf with hf; injection hc with hc; subst hf hc
        refine (chk3_any _ r W hok h.1).mono ?_
        rintro e W' ⟨rfl, hb⟩
        exact ⟨rfl, fun _ => ⟨blk_below hb h.1 (lt_of_block h.1), blk_below hb h.2.1 (lt_of_block h.2.1), h.2.2.trans (hb.mono h.2.2.size)⟩, fun _ => h.2.2.trans (hb.mono h.2.2.size)⟩))
  rw [check_first, hfs] at HC
  have hmf : ∀ (fn : Fn) (first cap : Array Value) (w : World), (Instr.makeFunc fn first cap).run Tryz.prog w = .ok (.func fn first cap) w := fun _ _ _ _ => rfl
  clear hx1 hx2 hr2 hb1 hb2 hz1 hfs
  unfold Rec.cells fnR fnV pt at HC
  simp only [List.map_cons, List.map_nil] at HC
  unfold Rec.val
  go_enter Tryz.func9, Tryz.ntmps9
  go_wp2_with fail
  refine HC.out.mono ?_
  rintro e w1 ⟨rfl, h1, h2⟩
  have HB := Lib.hid (show Below w.heap.size w w1 from by
    by_cases hc : checkR r = 0
    · exact (h1 hc).2.2
    · exact h2 hc)
  clear h1 h2 HC
  go_wp2_with fail
  go_ret
  exact ⟨rfl, HB.out⟩
end Go.Proofs.YtgooepfhapaenaaGreat
/- What Seal, of package record, comes to. Conditions: the record's numbers fit. -/
namespace Go.Proofs.YtgooepfhapaenaaGreat
open Go.ChangeShapes Go.WideShapes Go.ChangeAt Go.RowKit
set_option linter.unusedVariables false
set_option maxRecDepth 100000
set_option linter.unusedSimpArgs false
set_option maxHeartbeats 4000000

theorem str_free {w : World} {b : Nat} {cs : Array Value} {t : TypeId} (h : w.heap[b]? = some (.cells cs t (0, 0))) : w.frozen? ⟨b, 0, none⟩ = false := blk_free h 0
theorem en_sl1 (b : Nat) (w : World) : (callFunc 12 #[pt b 0]).run Tryz.prog w = .ok (.enter 12 #[pt b 0]) w := by kernel_rfl
theorem en_sl2 (b c : Nat) (w : World) : (callFunc 13 #[pt b 0, pt c 0]).run Tryz.prog w = .ok (.enter 13 #[pt b 0, pt c 0]) w := by kernel_rfl
theorem en_sl3 (b c d : Nat) (w : World) : (callFunc 15 #[pt b 0, pt c 0, pt d 0]).run Tryz.prog w = .ok (.enter 15 #[pt b 0, pt c 0, pt d 0]) w := by kernel_rfl
theorem sl1_any (b : Nat) (r : Rec) (w : World) (hok : r.ok) (h : w.heap[b]? = some (recO r)) : Calls Tryz.prog 12 #[pt b 0] w fun e w' => e = .returned (.int .i64 (checkR r)) ∧ Below w.heap.size w w' := by
  have HW := Lib.hid fun w => recheck_any r w hok
  obtain ⟨x0, x1, x2, x3, x4, x5, x6, x7, x8, x9⟩ := rec_cells h
  unfold Rec.val at HW
  clear h
  unfold pt
  go_enter Tryz.func12, Tryz.ntmps12
  go_wp2_with fail
  refine (HW.out _).mono ?_
  rintro e w1 ⟨rfl, hb⟩
  have HB := Lib.hid hb
  clear hb
  go_wp2_with fail
  go_ret
  exact ⟨rfl, HB.out⟩
theorem sl2_any (b c : Nat) (r : Rec) (u : ByteArray) (w : World) (hok : r.ok) (h : w.heap[b]? = some (recO r)) (hc : w.heap[c]? = some (.cells #[.string u] 9 (0, 0))) :
    Calls Tryz.prog 13 #[pt b 0, pt c 0] w fun e w' => e = .returned (.int .i64 (putE r.v).2) ∧ ∃ w1, Below w.heap.size w w1 ∧ w' = w1.setCell ⟨c, 0, none⟩ (.string (bs (putE r.v).1)) := by
  have HW := Lib.hid fun w => evput_any r.v w hok.2.2
  obtain ⟨x0, x1, x2, x3, x4, x5, x6, x7, x8, x9⟩ := rec_cells h
  unfold Evt.val at HW
  have HC := Lib.hid hc
  clear h hc
  unfold pt
  go_enter Tryz.func13, Tryz.ntmps13
  go_wp2_with fail
  refine (HW.out _).mono ?_
  rintro e w1 ⟨rfl, hb⟩
  have hc1 := blk_below hb HC.out (lt_of_block HC.out)
  have y0 := blk_cell hc1 0
  have f0 := blk_free hc1 0
  simp only [List.getElem?_toArray, List.getElem?_cons_zero] at y0
  have HB := Lib.hid hb
  clear hb hc1 HW x0 x1 x2 x3 x4 x5 x6 x7 x8 x9
  go_wp2_with fail
  go_ret
  exact ⟨rfl, w1, HB.out, rfl⟩
/-- Where the last of Seal's steps stands: how much has been done. -/
structure SlC (L : World) (b c d : Nat) (r : Rec) (u x y : ByteArray) (p : Nat) (w : World) : Prop where
  rc : w.heap[b]? = some (recO r)
  tl : w.heap[c]? = some (.cells #[.string u] 9 (0, 0))
  out : w.heap[d]? = some (.cells #[.string (if p ≤ 3 then x else y)] 9 (0, 0))
  sz : p = 0 → w.heap.size = L.heap.size
  row : 1 ≤ p → w.heap[L.heap.size]? = some (.cells #[.int .i64 r.s, .int .i64 r.e] 3 (0, 0))
  bel : p ≤ 3 → Below L.heap.size L w
  end' : p = 4 → ∃ w1, Below L.heap.size L w1 ∧ w = w1.setCell ⟨d, 0, none⟩ (.string y)
theorem SlC.below {L : World} {b c d p q : Nat} {r : Rec} {u x y : ByteArray} {w w' : World} (h : SlC L b c d r u x y p w) (hp : 1 ≤ p) (hq : q ≤ 3) (hpq : p ≤ q) (k : Below w.heap.size w w') : SlC L b c d r u x y q w' :=
  ⟨blk_below k h.rc (lt_of_block h.rc), blk_below k h.tl (lt_of_block h.tl), by
    have := blk_below k h.out (lt_of_block h.out)
    rw [if_pos (by omega)] at this ⊢
    exact this, fun e => by omega, fun _ => blk_below k (h.row hp) (lt_of_block (h.row hp)), fun _ => (h.bel (by omega)).trans (k.mono (h.bel (by omega)).size), fun e => by omega⟩
theorem sl3_any (b c d : Nat) (r : Rec) (u x : ByteArray) (w : World) (hk : checkR r = 0) (hu : u = bs (bytesE r.v)) (hcd : c ≠ d) (hbd : b ≠ d) (h : w.heap[b]? = some (recO r)) (hc : w.heap[c]? = some (.cells #[.string u] 9 (0, 0))) (hd : w.heap[d]? = some (.cells #[.string x] 9 (0, 0))) :
    Calls Tryz.prog 15 #[pt b 0, pt c 0, pt d 0] w fun e w' => e = .returned (.int .i64 0) ∧ ∃ w1, Below w.heap.size w w1 ∧ w' = w1.setCell ⟨d, 0, none⟩ (.string (bs (sealR r).1)) := by
  obtain ⟨h1, h2, h3, h4, h5⟩ := checkR_ok hk
  have hl := bodyR_len hk
  have es : varS r.s = bs (varL r.s.toNat) := by unfold varS; rw [if_neg (by omega)]
  have ee : varS r.e = bs (varL r.e.toNat) := by unfold varS; rw [if_neg (by omega)]
  have hT : (varS r.s ++ varS r.e) ++ u = bs (bodyR r) := by
    rw [hu, es, ee]; unfold bodyR; rw [bs_append, bs_append, List.append_assoc]
  obtain ⟨T, hTT⟩ : ∃ T, varS r.s ++ varS r.e = T := ⟨_, rfl⟩
  rw [hTT] at hT
  have hTs : T.size + u.size ≤ 1000 := by
    rw [← ByteArray.size_append, hT, bs_size]; omega
  have hN := fun a W (c0 : W.cell? ⟨a, 0, none⟩ = some (.int .i64 r.s)) c1 => recnum_any r.s r.e a 2 W (by omega) (by omega) (by omega) (by omega) c0 c1
  have hF := fun W => fseal_any (bs (bodyR r)) W (by rw [bs_size]; omega)
  have e1 : sealT (bs (bodyR r)) = bs (sealR r).1 := by
    unfold sealT; rw [if_neg (by rw [bs_size]; omega), sealR_ok hk]; simp [bs]
  have e2 : ((sealE (bs (bodyR r)) : Nat) : Int) = 0 := by unfold sealE; rw [if_neg (by rw [bs_size]; omega)]; rfl
  rw [e1, e2] at hF
  rw [hTT] at hN
  generalize bs (sealR r).1 = Y at *
  generalize bs (bodyR r) = BD at *
  clear e1 e2 hTT es ee hu
  have hTn : ¬ 9223372036854775807 < T.size + u.size := by omega
  have hS0 : SlC w b c d r u x Y 0 w.drew := ⟨h, hc, hd, fun _ => rfl, fun e => by omega, fun _ => (Below.refl _ _).drew, fun e => by omega⟩
  have HS := Lib.hid fun (p : Nat) (w' : World) (h : SlC w b c d r u x Y p w') => (show w'.cell? ⟨b, 0, none⟩ = some (.int .i64 r.s) ∧ w'.cell? ⟨b, 1, none⟩ = some (.int .i64 r.e) ∧ w'.cell? ⟨c, 0, none⟩ = some (.string u) ∧ w'.frozen? ⟨d, 0, none⟩ = false ∧ ∃ z, w'.cell? ⟨d, 0, none⟩ = some (.string z) from
    ⟨(rec_cells h.rc).1, (rec_cells h.rc).2.1, blk_cell h.tl 0, blk_free h.out 0, _, blk_cell h.out 0⟩)
  have HN := Lib.hid (show ∀ w', SlC w b c d r u x Y 1 w' → Calls Tryz.prog 17 #[.slice (some ⟨w.heap.size, 0, none⟩) 2 2] w' fun e w2 => e = .returned (.string T) ∧ SlC w b c d r u x Y 2 w2 from fun w' hC => by
    refine (hN _ w' (blk_cell (hC.row (by omega)) 0) (blk_cell (hC.row (by omega)) 1)).mono ?_
    rintro e w2 ⟨rfl, hb⟩
    exact ⟨rfl, hC.below (by omega) (by omega) (by omega) hb⟩)
  have HF := Lib.hid (show ∀ w', SlC w b c d r u x Y 2 w' → Calls Tryz.prog 16 #[.string (T ++ u)] w' fun e w2 => e = .returned (.tuple #[.string Y, .int .i64 0]) ∧ SlC w b c d r u x Y 3 w2 from fun w' hC => by
    rw [hT]
    refine (hF w').mono ?_
    rintro e w2 ⟨rfl, hb⟩
    exact ⟨rfl, hC.below (by omega) (by omega) (by omega) hb⟩)
  have HM := Lib.hid (show ∀ w', SlC w b c d r u x Y 0 w' → SlC w b c d r u x Y 1 (w'.alloc (.cells #[.int .i64 r.s, .int .i64 r.e] 3)) from fun w' hC => by
    have k : Below w'.heap.size w' (w'.alloc (.cells #[.int .i64 r.s, .int .i64 r.e] 3)) := (Below.refl _ _).alloc (Nat.le_refl _) _
    have hr := blk_new w' (.cells #[.int .i64 r.s, .int .i64 r.e] 3)
    rw [hC.sz rfl] at hr
    exact ⟨blk_below k hC.rc (lt_of_block hC.rc), blk_below k hC.tl (lt_of_block hC.tl), blk_below k hC.out (lt_of_block hC.out), fun e => by omega, fun _ => hr, fun _ => (hC.bel (by omega)).trans (k.mono (hC.bel (by omega)).size), fun e => by omega⟩)
  have HST := Lib.hid (show ∀ w', SlC w b c d r u x Y 3 w' → SlC w b c d r u x Y 4 (w'.setCell ⟨d, 0, none⟩ (.string Y)) from fun w' hC => by
    refine ⟨blk_far _ hC.rc hbd, blk_far _ hC.tl hcd, ?_, fun e => by omega, fun _ => blk_far _ (hC.row (by omega)) (by have := lt_of_block hd; simp; omega), fun e => by omega, fun _ => ⟨w', hC.bel (by omega), rfl⟩⟩
    have := blk_set hC.out 0 (.string Y)
    rw [if_pos (by omega)] at this
    rw [if_neg (by omega)]; exact this)
  have HSZ := Lib.hid fun (w' : World) (h : SlC w b c d r u x Y 0 w') => h.sz rfl
  clear h hc hd hN hF hl h1 h2 h3 h4 h5 hk hT
  unfold pt
  go_enter Tryz.func15, Tryz.ntmps15
  go_wp2_with fail
  refine wp_region_holdP [4, 5, 8, 12] (SlC w b c d r u x Y) (by kernel_rfl) (by kernel_rfl) hS0 ?_
  clear hS0
  repeat
    first
    | (refine holdP_val (v := ?_) (by rfl) (by rfl) ?_ ?_
       rotate_left
       · (intro p w' hC
          obtain ⟨k1, k2, k3, k4, z, k5⟩ := HS.out p w' hC
          go_simp
          try with_reducible rfl)
       simp only [Act.put, List.setIfInBounds_toArray, List.set_cons_zero, List.set_cons_succ])
    | (refine holdP_turn (v := .slice (some ⟨w.heap.size, 0, none⟩) 2 2) 0 rfl (by rfl) (fun w' hC => ⟨_, ?_, HM.out w' hC⟩) ?_
       · (have hz := HSZ.out w' hC
          rw [← hz]
          go_simp; done)
       simp only [Act.put, List.setIfInBounds_toArray, List.set_cons_zero, List.set_cons_succ])
    | (refine holdP_call 1 rfl (by rfl) ?_ (fun w' hC => HN.out w' hC) ?_
       · (intro w' hC; go_simp; done)
       simp only [Act.put, List.setIfInBounds_toArray, List.set_cons_zero, List.set_cons_succ])
    | (refine holdP_call 2 rfl (by rfl) ?_ (fun w' hC => HF.out w' hC) ?_
       · (intro w' hC; go_simp; done)
       simp only [Act.put, List.setIfInBounds_toArray, List.set_cons_zero, List.set_cons_succ])
    | (refine holdP_store 3 rfl (by rfl) (fun w' hC => ⟨_, ?_, HST.out w' hC⟩) ?_
       · (obtain ⟨k1, k2, k3, k4, z, k5⟩ := HS.out 3 w' hC
          go_simp; done)
       simp only [Act.put, List.setIfInBounds_toArray, List.set_cons_zero, List.set_cons_succ])
  refine holdP_nil (fun w6 hC => ?_)
  have HE := Lib.hid (hC.end' rfl)
  clear hC HS HN HF HM HST HSZ
  go_wp2_with fail
  go_ret
  exact ⟨rfl, HE.out⟩
abbrev strO (s : ByteArray) : Obj := .cells #[.string s] 9 (0, 0)
/-- Where Seal stands, behind so many steps. -/
structure SeI (L : World) (r : Rec) (fs : List (FuncId × Array Value)) (k : Nat) (w : World) : Prop where
  rc : w.heap[L.heap.size]? = some (recO r)
  tl : w.heap[L.heap.size + 1]? = some (strO (if k ≤ 1 then ⟨#[]⟩ else bs (putE r.v).1))
  out : w.heap[L.heap.size + 2]? = some (strO (if k ≤ 2 then ⟨#[]⟩ else bs (sealR r).1))
  row : w.heap[L.heap.size + 3]? = some (.cells (fnR fs) 37 (0, 0))
  bel : Below L.heap.size L w
theorem SeI.below {L w w' : World} {r : Rec} {fs : List (FuncId × Array Value)} {k : Nat} (h : SeI L r fs k w) (b : Below w.heap.size w w') : SeI L r fs k w' :=
  ⟨blk_below b h.rc (lt_of_block h.rc), blk_below b h.tl (lt_of_block h.tl), blk_below b h.out (lt_of_block h.out), blk_below b h.row (lt_of_block h.row), h.bel.trans (b.mono h.bel.size)⟩
theorem blk_two (w : World) (X Y : Obj) : ((w.alloc X).alloc Y).heap[w.heap.size + 1]? = some Y := by
  have := blk_new (w.alloc X) Y
  rwa [show (w.alloc X).heap.size = w.heap.size + 1 by simp] at this
theorem blk_three (w : World) (X Y Z : Obj) : (((w.alloc X).alloc Y).alloc Z).heap[w.heap.size + 2]? = some Z := by
  have := blk_two (w.alloc X) Y Z
  rwa [show (w.alloc X).heap.size = w.heap.size + 1 by simp] at this
theorem blk_four (w : World) (X Y Z U : Obj) : ((((w.alloc X).alloc Y).alloc Z).alloc U).heap[w.heap.size + 3]? = some U := by
  have := blk_three (w.alloc X) Y Z U
  rwa [show (w.alloc X).heap.size = w.heap.size + 1 by simp] at this
theorem bel_one (w : World) (X : Obj) : Below w.heap.size w (w.alloc X) := (Below.refl _ w).alloc (Nat.le_refl _) _
theorem bel_more {w w' : World} (h : Below w.heap.size w w') (X : Obj) : Below w.heap.size w (w'.alloc X) := h.alloc h.size _
theorem seI_start (w : World) (r : Rec) (fs : List (FuncId × Array Value)) :
    SeI w r fs 0 ((((w.alloc (.cells r.cells 27)).alloc (.cells #[.string ⟨#[]⟩] 9)).alloc (.cells #[.string ⟨#[]⟩] 9)).alloc (.cells (fnR fs) 37)) :=
  ⟨blk_old _ (blk_old _ (blk_old _ (blk_new w _))), blk_old _ (blk_old _ (blk_two w _ _)), blk_old _ (blk_three w _ _ _), blk_four w _ _ _ _, bel_more (bel_more (bel_more (bel_one w _) _) _) _⟩
theorem seal_first (r : Rec) : firstE [checkR r, (putE r.v).2, 0] = (sealR r).2 := by
  by_cases h : checkR r = 0
  · have : (putE r.v).2 = 0 := by unfold putE; rw [if_pos (checkR_ok h).2.2.2.2]
    rw [sealR_ok h, h, this]
    rfl
  · rw [sealR_no h]
    unfold firstE
    rw [if_pos h]
theorem reseal_any (r : Rec) (w : World) (hok : r.ok) : Calls Tryz.prog 5 #[r.val] w fun e w' => e = .returned (.tuple #[.string (bs (sealR r).1), .int .i64 (sealR r).2]) ∧ Below w.heap.size w w' := by
  obtain ⟨fs, hfs⟩ : ∃ fs : List (FuncId × Array Value), fs = [(12, #[pt w.heap.size 0]), (13, #[pt w.heap.size 0, pt (w.heap.size + 1) 0]), (15, #[pt w.heap.size 0, pt (w.heap.size + 1) 0, pt (w.heap.size + 2) 0])] := ⟨_, rfl⟩
  have HC := Lib.hid (ferr_any (w.heap.size + 3) 3 fs [checkR r, (putE r.v).2, 0] (SeI w r fs) (fun W => Below w.heap.size w W) _ (by rw [hfs]; simp) (by rw [hfs]; rfl) (seI_start w r fs)
    (fun k W h j f hf => fnR_cell h.row j f hf)
    (fun k f hf W => by
      rw [hfs] at hf
      match k, hf with
      | 0, hf => injection hf with hf; subst hf; exact en_sl1 _ _
      | 1, hf => injection hf with hf; subst hf; exact en_sl2 _ _ _
      | 2, hf => injection hf with hf; subst hf; exact en_sl3 _ _ _ _)
    (fun k f c hf hc hz W h => by
      have hf' := hf
      rw [hfs] at hf
      match k, hf, hc, hz, h with
      | 0, hf, hc, hz, h =>
        injection hf with hf; injection hc with hc; subst hf hc
        refine (sl1_any _ r W hok h.rc).mono ?_
        rintro e W' ⟨rfl, hb⟩
        have h' := h.below hb
        exact ⟨rfl, fun _ => ⟨h'.rc, h'.tl, h'.out, h'.row, h'.bel⟩, fun _ => h'.bel⟩
      | 1, hf, hc, hz, h =>
        injection hf with hf; injection hc with hc; subst hf hc
        refine (sl2_any _ _ r _ W hok h.rc h.tl).mono ?_
        rintro e W' ⟨rfl, w1, hb, rfl⟩
        have h' := h.below hb
        have hO : Only (w.heap.size + 1) w1 (w1.setCell ⟨w.heap.size + 1, 0, none⟩ (.string (bs (putE r.v).1))) := (Only.refl _ w1).setCell 0 _
        have hB := h'.bel.trans (hO.below (by omega) h'.bel.size)
        exact ⟨rfl, fun _ => ⟨hO.old h'.rc (by omega), blk_set h'.tl 0 _, hO.old h'.out (by omega), hO.old h'.row (by omega), hB⟩, fun _ => hB⟩
      | 2, hf, hc, hz, h =>
        injection hf with hf; injection hc with hc; subst hf hc
        have hk : checkR r = 0 := by simpa using hz 0 (by omega)
        have ht : bs (putE r.v).1 = bs (bytesE r.v) := by unfold putE; rw [if_pos (checkR_ok hk).2.2.2.2]
        refine (sl3_any _ _ _ r _ _ W hk ht (by omega) (by omega) h.rc h.tl h.out).mono ?_
        rintro e W' ⟨rfl, w1, hb, rfl⟩
        have h' := h.below hb
        have hO : Only (w.heap.size + 2) w1 (w1.setCell ⟨w.heap.size + 2, 0, none⟩ (.string (bs (sealR r).1))) := (Only.refl _ w1).setCell 0 _
        have hB := h'.bel.trans (hO.below (by omega) h'.bel.size)
        exact ⟨rfl, fun _ => ⟨hO.old h'.rc (by omega), hO.old h'.tl (by omega), blk_set h'.out 0 _, hO.old h'.row (by omega), hB⟩, fun _ => hB⟩))
  rw [seal_first] at HC
  have hmf : ∀ (fn : Fn) (first cap : Array Value) (w : World), (Instr.makeFunc fn first cap).run Tryz.prog w = .ok (.func fn first cap) w := fun _ _ _ _ => rfl
  have hlen : fs.length = 3 := by rw [hfs]; rfl
  have HSE := Lib.hid fun (W : World) (h : SeI w r fs 3 W) => (show W.cell? ⟨w.heap.size + 2, 0, none⟩ = some (.string (bs (sealR r).1)) ∧ Below w.heap.size w W from ⟨blk_cell h.out 0, h.bel⟩)
  rw [hlen] at HC
  have HS0 := Lib.hid (show (sealR r).2 ≠ 0 → (sealR r).1 = [] from fun e => by
    by_cases h : checkR r = 0
    · rw [sealR_ok h] at e; exact absurd rfl e
    · rw [sealR_no h])
  generalize hI : SeI w r fs 3 = I3 at *
  clear hI hlen
  unfold Rec.cells fnR at HC
  rw [hfs] at HC
  unfold fnV pt at HC
  simp only [List.map_cons, List.map_nil] at HC
  unfold Rec.val
  clear hfs
  generalize (sealR r).2 = c at *
  generalize (sealR r).1 = T at *
  go_enter Tryz.func5, Tryz.ntmps5
  go_wp2_with fail
  refine HC.out.mono ?_
  rintro e w1 ⟨rfl, h1, h2⟩
  by_cases hc : c = 0
  · subst hc
    obtain ⟨hcell, hb⟩ := HSE.out w1 (h1 rfl)
    have HB := Lib.hid hb
    clear h1 h2 HC HS0 hb
    go_wp2_with fail
    go_ret2
    exact ⟨rfl, HB.out⟩
  · have k1 : (c == 0) = false := beq_eq_false_iff_ne.2 hc
    have k2 : decide (c = 0) = false := decide_eq_false hc
    have k3 : (c != 0) = true := by simpa using hc
    have HB := Lib.hid (h2 hc)
    have HE := Lib.hid (HS0.out hc)
    clear h1 h2 HC HS0
    go_wp2_with fail
    go_ret2
    exact ⟨by rw [HE.out]; rfl, HB.out⟩
end Go.Proofs.YtgooepfhapaenaaGreat
/- What Open, of package record, comes to (Check: RecF, Seal: RecS). No axioms any more. Conditions: texts of up to 100,000 bytes. -/
namespace Go.Proofs.YtgooepfhapaenaaGreat
open Go.ChangeShapes Go.WideShapes Go.ChangeAt Go.RowKit
set_option linter.unusedVariables false
set_option maxRecDepth 100000
set_option linter.unusedSimpArgs false
set_option maxHeartbeats 4000000

theorem en_op1 (b c d : Nat) (w : World) : (callFunc 21 #[pt b 0, pt c 0, pt d 0]).run Tryz.prog w = .ok (.enter 21 #[pt b 0, pt c 0, pt d 0]) w := by kernel_rfl
theorem en_op2 (b c d : Nat) (w : World) : (callFunc 23 #[pt b 0, pt c 0, pt d 0]).run Tryz.prog w = .ok (.enter 23 #[pt b 0, pt c 0, pt d 0]) w := by kernel_rfl
theorem en_op3 (b c : Nat) (w : World) : (callFunc 26 #[pt b 0, pt c 0]).run Tryz.prog w = .ok (.enter 26 #[pt b 0, pt c 0]) w := by kernel_rfl
theorem en_op4 (b c d : Nat) (w : World) : (callFunc 27 #[pt b 0, pt c 0, pt d 0]).run Tryz.prog w = .ok (.enter 27 #[pt b 0, pt c 0, pt d 0]) w := by kernel_rfl
theorem en_op5 (b : Nat) (w : World) : (callFunc 30 #[pt b 0]).run Tryz.prog w = .ok (.enter 30 #[pt b 0]) w := by kernel_rfl
abbrev numO (n : Int) : Obj := .cells #[.int .i64 n] 3 (0, 0)
abbrev curO (p : Value) : Obj := .cells #[p] 42 (0, 0)
/-- All blocks but these are as they were. -/
def AsWas (F : Nat → Prop) (w w' : World) : Prop := ∀ k o, ¬ F k → w.heap[k]? = some o → w'.heap[k]? = some o
theorem op1_any (b c d B : Nat) (s u : ByteArray) (x : Int) (w : World) (hs : s.size ≤ 100000) (h : w.heap[b]? = some (strO s)) (hc : w.heap[c]? = some (strO u)) (hd : w.heap[d]? = some (numO x)) (hcd : c ≠ d) (h1 : B ≤ c) (h2 : B ≤ d) :
    Calls Tryz.prog 21 #[pt b 0, pt c 0, pt d 0] w fun e w' => e = .returned (.int .i64 (openE s.data.toList)) ∧ w'.heap[c]? = some (strO (bs (openB s.data.toList))) ∧ w'.heap[d]? = some (numO (openN s.data.toList)) ∧ AsWas (fun k => k = c ∨ k = d) w w' ∧ Below B w w' := by
  have HW := Lib.hid fun w => fopen_any s w (by omega)
  have x0 := blk_cell h 0
  simp only [List.getElem?_toArray, List.getElem?_cons_zero] at x0
  have HC := Lib.hid hc
  have HD := Lib.hid hd
  clear h hc hd
  generalize bs (openB s.data.toList) = T at *
  generalize ((openN s.data.toList : Nat) : Int) = n at *
  unfold pt
  go_enter Tryz.func21, Tryz.ntmps21
  go_wp2_with fail
  refine (HW.out _).mono ?_
  rintro e w1 ⟨rfl, hb⟩
  have hc1 := blk_below hb HC.out (lt_of_block HC.out)
  have hd1 := blk_below hb HD.out (lt_of_block HD.out)
  have hlc := lt_of_block HC.out
  have hld := lt_of_block HD.out
  have y0 := blk_cell hc1 0
  have f0 := blk_free hc1 0
  have y1 := blk_cell hd1 0
  have f1 := blk_free hd1 0
  simp only [List.getElem?_toArray, List.getElem?_cons_zero] at y0 y1
  have HC1 := Lib.hid (show ((w1.setCell ⟨c, 0, none⟩ (.string T)).setCell ⟨d, 0, none⟩ (.int .i64 n)).heap[c]? = some (strO T) from blk_far _ (blk_set hc1 0 (.string T)) hcd)
  have HD1 := Lib.hid (show ((w1.setCell ⟨c, 0, none⟩ (.string T)).setCell ⟨d, 0, none⟩ (.int .i64 n)).heap[d]? = some (numO n) from blk_set (blk_far _ hd1 (Ne.symm hcd)) 0 (.int .i64 n))
  have HK := Lib.hid (show AsWas (fun k => k = c ∨ k = d) w ((w1.setCell ⟨c, 0, none⟩ (.string T)).setCell ⟨d, 0, none⟩ (.int .i64 n)) from fun k o hF hk => blk_far _ (blk_far _ (blk_below hb hk (lt_of_block hk)) (fun e => hF (.inl e))) (fun e => hF (.inr e)))
  have HB := Lib.hid ((hb.mono (show B ≤ w.heap.size by omega)).setCell (p := ⟨c, 0, none⟩) h1 (.string T) |>.setCell (p := ⟨d, 0, none⟩) h2 (.int .i64 n))
  clear hb hc1 hd1 HW HC HD
  go_wp2_with fail
  go_ret
  exact ⟨rfl, HC1.out, HD1.out, HK.out, HB.out⟩
theorem rec_seq (r : Rec) (n : Int) : r.cells.setIfInBounds 0 (.int .i64 n) = Rec.cells { r with s := n } := rfl
theorem rec_epo (r : Rec) (n : Int) : r.cells.setIfInBounds 1 (.int .i64 n) = Rec.cells { r with e := n } := rfl
theorem op2_any (b c d B : Nat) (T : ByteArray) (p : Option Addr) (r : Rec) (w : World) (hs : T.size ≤ 100000) (h : w.heap[b]? = some (strO T)) (hc : w.heap[c]? = some (curO (.pointer p))) (hd : w.heap[d]? = some (recO r)) (hcd : c ≠ d) (h1 : B ≤ c) (h2 : B ≤ d) :
    Calls Tryz.prog 23 #[pt b 0, pt c 0, pt d 0] w fun e w' => e = .returned (.int .i64 (tvE T.data.toList)) ∧ w'.heap[c]? = some (curO (pt w.heap.size 0)) ∧ w'.heap[d]? = some (recO { r with s := tvV T.data.toList }) ∧ Cur w' w.heap.size T (tvM T.data.toList) ∧ AsWas (fun k => k = c ∨ k = d) w w' ∧ Below B w w' := by
  have hrest : rest T 0 = T.data.toList := by unfold rest; rw [List.drop_zero]
  have HV := Lib.hid fun cb w h => var_only cb T 0 w (by omega) h
  rw [hrest] at HV
  simp only [Nat.zero_add] at HV
  have x0 := blk_cell h 0
  simp only [List.getElem?_toArray, List.getElem?_cons_zero] at x0
  have HC := Lib.hid hc
  have HD := Lib.hid hd
  clear h hc hd
  generalize ((tvV T.data.toList : Nat) : Int) = n at *
  generalize ((tvE T.data.toList : Nat) : Int) = te at *
  generalize tvM T.data.toList = m at *
  unfold pt
  go_enter Tryz.func23, Tryz.ntmps23
  go_wp2_with fail
  refine (curnew_any T _).mono ?_
  rintro e w1 ⟨rfl, hcu, hb⟩
  have hlc := lt_of_block HC.out
  have hld := lt_of_block HD.out
  have hc1 := blk_below hb HC.out hlc
  have hd1 := blk_below hb HD.out hld
  have y0 := blk_cell hc1 0
  have f0 := blk_free hc1 0
  simp only [List.getElem?_toArray, List.getElem?_cons_zero] at y0
  have HC1 := Lib.hid (blk_set hc1 0 (pt w.heap.size 0))
  have HD1 := Lib.hid (blk_far (p := ⟨c, 0, none⟩) (pt w.heap.size 0) hd1 (Ne.symm hcd))
  have HU1 := Lib.hid (show Cur (w1.setCell ⟨c, 0, none⟩ (pt w.heap.size 0)) w.heap.size T 0 from ⟨blk_far _ hcu.1 (by simp; omega), hcu.2⟩)
  have HK1 := Lib.hid (show AsWas (fun k => k = c ∨ k = d) w (w1.setCell ⟨c, 0, none⟩ (pt w.heap.size 0)) from fun k o hF hk => blk_far _ (blk_below hb hk (lt_of_block hk)) (fun e => hF (.inl e)))
  have HB1 := Lib.hid ((hb.mono (show B ≤ w.heap.size by omega)).setCell (p := ⟨c, 0, none⟩) h1 (pt w.heap.size 0))
  unfold pt at HC1 HD1 HU1 HK1 HB1
  clear hb hcu hc1 hd1 HC HD
  obtain ⟨w2, hW⟩ : ∃ w2, w1.setCell ⟨c, 0, none⟩ (.pointer (some ⟨w.heap.size, 0, none⟩)) = w2 := ⟨_, rfl⟩
  rw [hW] at HC1 HD1 HU1 HK1 HB1
  have z0 := blk_cell HC1.out 0
  simp only [List.setIfInBounds_toArray, List.set_cons_zero, List.getElem?_toArray, List.getElem?_cons_zero] at z0
  go_wp2_with fail
  refine (HV.out _ _ HU1.out).mono ?_
  rintro e w3 ⟨rfl, hcu, ho⟩
  have hc3 := ho.old HC1.out (by omega)
  have hd3 := ho.old HD1.out (by omega)
  have y1 := (rec_cells hd3).1
  have f1 := blk_free hd3 0
  have HC3 := Lib.hid (blk_far (p := ⟨d, 0, none⟩) (.int .i64 n) hc3 hcd)
  have HD3 := Lib.hid (blk_set hd3 0 (.int .i64 n))
  have HU3 := Lib.hid (show Cur (w3.setCell ⟨d, 0, none⟩ (.int .i64 n)) w.heap.size T m from ⟨blk_far _ hcu.1 (by simp; omega), hcu.2⟩)
  have HK3 := Lib.hid (show AsWas (fun k => k = c ∨ k = d) w (w3.setCell ⟨d, 0, none⟩ (.int .i64 n)) from fun k o hF hk => blk_far _ (ho.old (HK1.out k o hF hk) (by have := lt_of_block hk; omega)) (fun e => hF (.inr e)))
  have HB3 := Lib.hid ((HB1.out.trans (ho.below (show B ≤ w.heap.size by omega) (by have := HB1.out.size; omega))).setCell (p := ⟨d, 0, none⟩) h2 (.int .i64 n))
  clear hcu ho hc3 hd3 z0 hW HC1 HD1 HU1 HK1 HB1
  go_wp2_with fail
  go_ret
  exact ⟨rfl, HC3.out, HD3.out, HU3.out, HK3.out, HB3.out⟩
theorem op3_any (c d cb B k : Nat) (T : ByteArray) (r : Rec) (w : World) (hs : T.size ≤ 100000) (hc : w.heap[c]? = some (curO (pt cb 0))) (hd : w.heap[d]? = some (recO r)) (hu : Cur w cb T k) (hcd : cb ≠ d) (hcc : c ≠ cb) (h1 : B ≤ cb) (h2 : B ≤ d) :
    Calls Tryz.prog 26 #[pt c 0, pt d 0] w fun e w' => e = .returned (.int .i64 (tvE (rest T k))) ∧ w'.heap[d]? = some (recO { r with e := tvV (rest T k) }) ∧ Cur w' cb T (k + tvM (rest T k)) ∧ AsWas (fun k => k = cb ∨ k = d) w w' ∧ Below B w w' := by
  have HV := Lib.hid (var_only cb T k w (by omega) hu)
  have x0 := blk_cell hc 0
  simp only [List.getElem?_toArray, List.getElem?_cons_zero] at x0
  have HD := Lib.hid hd
  have hlb := lt_of_block hu.1
  clear hc hd hu
  generalize ((tvV (rest T k) : Nat) : Int) = n at *
  generalize ((tvE (rest T k) : Nat) : Int) = te at *
  generalize tvM (rest T k) = m at *
  unfold pt at *
  go_enter Tryz.func26, Tryz.ntmps26
  go_wp2_with fail
  refine HV.out.mono ?_
  rintro e w3 ⟨rfl, hcu, ho⟩
  have hd3 := ho.old HD.out (Ne.symm hcd)
  have y1 := (rec_cells hd3).2.1
  have f1 := blk_free hd3 1
  have HD3 := Lib.hid (blk_set hd3 1 (.int .i64 n))
  have HU3 := Lib.hid (show Cur (w3.setCell ⟨d, 1, none⟩ (.int .i64 n)) cb T (k + m) from ⟨blk_far _ hcu.1 hcd, hcu.2⟩)
  have HK3 := Lib.hid (show AsWas (fun k => k = cb ∨ k = d) w (w3.setCell ⟨d, 1, none⟩ (.int .i64 n)) from fun k o hF hk => blk_far _ (ho.old hk (fun e => hF (.inl e))) (fun e => hF (.inr e)))
  have HB3 := Lib.hid ((ho.below h1 (by omega)).setCell (p := ⟨d, 1, none⟩) h2 (.int .i64 n))
  clear hcu ho hd3 x0 HV HD
  go_wp2_with fail
  go_ret
  exact ⟨rfl, HD3.out, HU3.out, HK3.out, HB3.out⟩
/-- Where the step that reads the event stands. -/
structure OpD (L : World) (b c d cb B k : Nat) (T : ByteArray) (r : Rec) (v : Evt) (p : Nat) (w : World) : Prop where
  bd : w.heap[b]? = some (strO T)
  cu : w.heap[c]? = some (curO (pt cb 0))
  at' : Cur w cb T k
  rc : w.heap[d]? = some (recO (if p ≤ 2 then r else { r with v := v }))
  kept : AsWas (fun k => k = d) L w
  bel : Below B L w
theorem OpD.below {L w w' : World} {b c d cb B k p q : Nat} {T : ByteArray} {r : Rec} {v : Evt} (h : OpD L b c d cb B k T r v p w) (hB : B ≤ L.heap.size) (hL : L.heap.size ≤ w.heap.size) (hq : q ≤ 2) (hp : p ≤ 2) (hb : Below w.heap.size w w') : OpD L b c d cb B k T r v q w' := by
  have h4 := h.rc
  rw [if_pos hp] at h4
  exact ⟨blk_below hb h.bd (lt_of_block h.bd), blk_below hb h.cu (lt_of_block h.cu), cur_below h.at' hb (lt_of_block h.at'.1), by rw [if_pos hq]; exact blk_below hb h4 (lt_of_block h4), fun k o hF hk => blk_below hb (h.kept k o hF hk) (lt_of_block (h.kept k o hF hk)), h.bel.trans (hb.mono (by omega))⟩
theorem op4_any (b c d cb B k : Nat) (T : ByteArray) (r : Rec) (w : World) (hs : T.size ≤ 100000) (h : w.heap[b]? = some (strO T)) (hc : w.heap[c]? = some (curO (pt cb 0))) (hd : w.heap[d]? = some (recO r)) (hu : Cur w cb T k) (hbd : b ≠ d) (hcd : c ≠ d) (hud : cb ≠ d) (h2 : B ≤ d) :
    Calls Tryz.prog 27 #[pt b 0, pt c 0, pt d 0] w fun e w' => e = .returned (.int .i64 (getE (rest T k)).2) ∧ w'.heap[d]? = some (recO { r with v := (getE (rest T k)).1 }) ∧ AsWas (fun k => k = d) w w' ∧ Below B w w' := by
  have hk := hu.2
  have hld := lt_of_block hd
  have hlb := lt_of_block h
  have hX : (T.extract k T.size).data.toList = rest T k := by rw [extract_list]; unfold rest; rw [← data_len, List.take_of_length_le (Nat.le_refl _)]
  have hG := fun W => evget_any (T.extract k T.size) W (by rw [ByteArray.size_extract]; omega)
  rw [hX] at hG
  generalize (getE (rest T k)).1 = v at *
  generalize (getE (rest T k)).2 = e0 at *
  have hL := fun W hu => left_cur cb T k W.heap.size W (by omega) hu
  have q : IntKind.i64.wrap ((T.size : Int) - ((T.size - k : Nat) : Int)) = (k : Int) := by rw [IntWalk.i64_in _ (by omega)]; omega
  have k0 : (0 : Int) ≤ (k : Int) := by omega
  have k1 : (k : Int) ≤ (T.size : Int) := by omega
  have k2 : ((k : Int)).toNat = k := by omega
  have hS0 : OpD w b c d cb B k T r v 0 w.drew := ⟨h, hc, ⟨hu.1, hu.2⟩, by rw [if_pos (by omega)]; exact hd, fun k o _ hk => hk, (Below.refl _ _).drew⟩
  have HS := Lib.hid fun (p : Nat) (w' : World) (h : OpD w b c d cb B k T r v p w') => (show w'.cell? ⟨b, 0, none⟩ = some (.string T) ∧ w'.cell? ⟨c, 0, none⟩ = some (.pointer (some ⟨cb, 0, none⟩)) from ⟨blk_cell h.bd 0, blk_cell h.cu 0⟩)
  have HL := Lib.hid (show ∀ w', OpD w b c d cb B k T r v 0 w' → Calls Tryz.prog 29 #[.pointer (some ⟨cb, 0, none⟩)] w' fun e w2 => e = .returned (.int .i64 ((T.size - k : Nat) : Int)) ∧ OpD w b c d cb B k T r v 1 w2 from fun w' hC => by
    refine (hL w' hC.at').mono ?_
    rintro e w2 ⟨rfl, _, hb⟩
    exact ⟨rfl, hC.below (by omega) (by have := hC.bel.size; omega) (by omega) (by omega) hb⟩)
  have HG := Lib.hid (show ∀ w', OpD w b c d cb B k T r v 1 w' → Calls Tryz.prog 28 #[.string (T.extract k T.size)] w' fun e w2 => e = .returned (.tuple #[v.val, .int .i64 e0]) ∧ OpD w b c d cb B k T r v 2 w2 from fun w' hC => by
    refine (hG w').mono ?_
    rintro e w2 ⟨rfl, hb⟩
    exact ⟨rfl, hC.below (by omega) (by have := hC.bel.size; omega) (by omega) (by omega) hb⟩)
  have HST := Lib.hid (show ∀ w', OpD w b c d cb B k T r v 2 w' → w'.there d 2 8 ∧ OpD w b c d cb B k T r v 3 (w'.setCells d 2 [.int .i64 v.k, .int .i64 v.n, .int .i64 v.j, .int .i64 v.i, .int .i64 v.p, .int .i64 v.r.a, .int .i64 v.r.b, .int .i64 v.r.c]) from fun w' hC => by
    have h4 := hC.rc
    rw [if_pos (by omega)] at h4
    have hO : Only d w' (w'.setCells d 2 [.int .i64 v.k, .int .i64 v.n, .int .i64 v.j, .int .i64 v.i, .int .i64 v.p, .int .i64 v.r.a, .int .i64 v.r.b, .int .i64 v.r.c]) := setRow_only d [.int .i64 v.k, .int .i64 v.n, .int .i64 v.j, .int .i64 v.i, .int .i64 v.p, .int .i64 v.r.a, .int .i64 v.r.b, .int .i64 v.r.c] 2 w'
    have hB := setRow_blk [.int .i64 v.k, .int .i64 v.n, .int .i64 v.j, .int .i64 v.i, .int .i64 v.p, .int .i64 v.r.a, .int .i64 v.r.b, .int .i64 v.r.c] [.int .i64 r.v.k, .int .i64 r.v.n, .int .i64 r.v.j, .int .i64 r.v.i, .int .i64 r.v.p, .int .i64 r.v.r.a, .int .i64 r.v.r.b, .int .i64 r.v.r.c] [.int .i64 r.s, .int .i64 r.e] w' rfl h4
    refine ⟨fun j hj => ?_, hO.old hC.bd hbd, hO.old hC.cu hcd, ⟨hO.old hC.at'.1 hud, hC.at'.2⟩, by rw [if_neg (by omega)]; exact hB, fun k o hF hk => hO.old (hC.kept k o hF hk) hF, hC.bel.trans (hO.below h2 (by have := hC.bel.size; omega))⟩
    refine ⟨?_, blk_free h4 _⟩
    rw [blk_cell h4]
    match j, hj with
    | 0, _ => rfl
    | 1, _ => rfl
    | 2, _ => rfl
    | 3, _ => rfl
    | 4, _ => rfl
    | 5, _ => rfl
    | 6, _ => rfl
    | 7, _ => rfl)
  unfold Evt.val at HG
  clear h hc hd hu hG hL hX hk
  unfold pt
  go_enter Tryz.func27, Tryz.ntmps27
  go_wp2_with fail
  refine wp_region_holdP [4, 7, 12] (OpD w b c d cb B k T r v) (by kernel_rfl) (by kernel_rfl) hS0 ?_
  clear hS0
  repeat
    first
    | (refine holdP_val (v := ?_) (by rfl) (by rfl) ?_ ?_
       rotate_left
       · (intro p w' hC
          obtain ⟨k1, k2⟩ := HS.out p w' hC
          go_simp
          try with_reducible rfl)
       simp only [Act.put, List.setIfInBounds_toArray, List.set_cons_zero, List.set_cons_succ])
    | (refine holdP_call 0 rfl (by rfl) ?_ (fun w' hC => HL.out w' hC) ?_
       · (intro w' hC; go_simp; done)
       simp only [Act.put, List.setIfInBounds_toArray, List.set_cons_zero, List.set_cons_succ])
    | (refine holdP_call 1 rfl (by rfl) ?_ (fun w' hC => HG.out w' hC) ?_
       · (intro w' hC; go_simp; done)
       simp only [Act.put, List.setIfInBounds_toArray, List.set_cons_zero, List.set_cons_succ])
    | (refine holdP_storeMid 2 25 _ _ rfl rfl (by rfl) d 2 #[.int .i64 v.k, .int .i64 v.n, .int .i64 v.j, .int .i64 v.i, .int .i64 v.p, .int .i64 v.r.a, .int .i64 v.r.b, .int .i64 v.r.c] ?_ ?_ (by kernel_rfl) (by simp [Value.oneCell']) (fun w' hC => HST.out w' hC) ?_
       · (go_simp; done)
       · (go_simp; done)
       simp only [Act.put, List.setIfInBounds_toArray, List.set_cons_zero, List.set_cons_succ])
  refine holdP_nil (fun w6 hC => ?_)
  have HE1 := Lib.hid (show w6.heap[d]? = some (recO { r with v := v }) from hC.rc)
  have HE2 := Lib.hid hC.kept
  have HE3 := Lib.hid hC.bel
  clear hC HS HL HG HST
  go_wp2_with fail
  go_ret
  exact ⟨rfl, HE1.out, HE2.out, HE3.out⟩
theorem op5_any (b : Nat) (r : Rec) (w : World) (hok : r.ok) (h : w.heap[b]? = some (recO r)) : Calls Tryz.prog 30 #[pt b 0] w fun e w' => e = .returned (.int .i64 (checkR r)) ∧ Below w.heap.size w w' := by
  have HW := Lib.hid fun w => recheck_any r w hok
  obtain ⟨x0, x1, x2, x3, x4, x5, x6, x7, x8, x9⟩ := rec_cells h
  unfold Rec.val at HW
  clear h
  unfold pt
  go_enter Tryz.func30, Tryz.ntmps30
  go_wp2_with fail
  refine (HW.out _).mono ?_
  rintro e w1 ⟨rfl, hb⟩
  have HB := Lib.hid hb
  clear hb
  go_wp2_with fail
  go_ret
  exact ⟨rfl, HB.out⟩
/-- Where Open stands. -/
structure OpI (L : World) (s : ByteArray) (fs : List (FuncId × Array Value)) (r : Rec) (T : ByteArray) (n : Int) (p : Option Addr) (w : World) : Prop where
  sx : w.heap[L.heap.size]? = some (strO s)
  rs : w.heap[L.heap.size + 1]? = some (recO zeroR)
  rc : w.heap[L.heap.size + 2]? = some (recO r)
  bd : w.heap[L.heap.size + 3]? = some (strO T)
  sz : w.heap[L.heap.size + 4]? = some (numO n)
  cu : w.heap[L.heap.size + 5]? = some (curO (.pointer p))
  row : w.heap[L.heap.size + 6]? = some (.cells (fnR fs) 37 (0, 0))
  bel : Below L.heap.size L w
theorem OpI.below {L w w' : World} {s T : ByteArray} {fs : List (FuncId × Array Value)} {r : Rec} {n : Int} {p : Option Addr} (h : OpI L s fs r T n p w) (b : Below w.heap.size w w') : OpI L s fs r T n p w' :=
  ⟨blk_below b h.sx (lt_of_block h.sx), blk_below b h.rs (lt_of_block h.rs), blk_below b h.rc (lt_of_block h.rc), blk_below b h.bd (lt_of_block h.bd), blk_below b h.sz (lt_of_block h.sz), blk_below b h.cu (lt_of_block h.cu), blk_below b h.row (lt_of_block h.row), h.bel.trans (b.mono h.bel.size)⟩
/-- Behind so many steps. -/
def OpS (L : World) (s : ByteArray) (fs : List (FuncId × Array Value)) (b : List UInt8) (n : Int) : Nat → World → Prop
  | 0, w => OpI L s fs zeroR ⟨#[]⟩ 0 none w
  | 1, w => OpI L s fs zeroR (bs b) n none w
  | 2, w => ∃ cb, L.heap.size + 6 < cb ∧ OpI L s fs ⟨(tvV b : Nat), 0, zeroE⟩ (bs b) n (some ⟨cb, 0, none⟩) w ∧ Cur w cb (bs b) (tvM b)
  | 3, w => ∃ cb, L.heap.size + 6 < cb ∧ OpI L s fs ⟨(tvV b : Nat), (tvV (restR b) : Nat), zeroE⟩ (bs b) n (some ⟨cb, 0, none⟩) w ∧ Cur w cb (bs b) (tvM b + tvM (restR b))
  | _, w => ∃ p, OpI L s fs (madeR b) (bs b) n p w
theorem opI_start (w : World) (s : ByteArray) (fs : List (FuncId × Array Value)) :
    OpI w s fs zeroR ⟨#[]⟩ 0 none (((((((w.alloc (.cells #[.string s] 9)).alloc (.cells zeroR.cells 27)).alloc (.cells zeroR.cells 27)).alloc (.cells #[.string ⟨#[]⟩] 9)).alloc (.cells #[.int .i64 0] 3)).alloc (.cells #[.pointer none] 42)).alloc (.cells (fnR fs) 37)) := by
  have h1 : ∀ (w : World) (X : Obj), (w.alloc X).heap.size = w.heap.size + 1 := fun w X => by simp
  have h5 : ∀ (w : World) (X Y Z U V : Obj), (((((w.alloc X).alloc Y).alloc Z).alloc U).alloc V).heap[w.heap.size + 4]? = some V := fun w X Y Z U V => by
    have := blk_four (w.alloc X) Y Z U V; rwa [h1] at this
  have h6 : ∀ (w : World) (X Y Z U V A : Obj), ((((((w.alloc X).alloc Y).alloc Z).alloc U).alloc V).alloc A).heap[w.heap.size + 5]? = some A := fun w X Y Z U V A => by
    have := h5 (w.alloc X) Y Z U V A; rwa [h1] at this
  have h7 : ∀ (w : World) (X Y Z U V A B : Obj), (((((((w.alloc X).alloc Y).alloc Z).alloc U).alloc V).alloc A).alloc B).heap[w.heap.size + 6]? = some B := fun w X Y Z U V A B => by
    have := h6 (w.alloc X) Y Z U V A B; rwa [h1] at this
  exact ⟨blk_old _ (blk_old _ (blk_old _ (blk_old _ (blk_old _ (blk_old _ (blk_new w _)))))), blk_old _ (blk_old _ (blk_old _ (blk_old _ (blk_old _ (blk_two w _ _))))), blk_old _ (blk_old _ (blk_old _ (blk_old _ (blk_three w _ _ _)))), blk_old _ (blk_old _ (blk_old _ (blk_four w _ _ _ _))),
    blk_old _ (blk_old _ (h5 w _ _ _ _ _)), blk_old _ (h6 w _ _ _ _ _ _), h7 w _ _ _ _ _ _ _, bel_more (bel_more (bel_more (bel_more (bel_more (bel_more (bel_one w _) _) _) _) _) _) _⟩
theorem check_last {b : List UInt8} (h : (getE (restR (restR b))).2 = 0) : checkR (madeR b) = 0 ∨ checkR (madeR b) = 1 := by
  unfold checkR
  split
  · exact .inr rfl
  · exact .inl (put_get h).1
theorem open_first (S : List UInt8) : firstE [(openE S : Nat), (tvE (openB S) : Nat), (tvE (restR (openB S)) : Nat), (getE (restR (restR (openB S)))).2, checkR (madeR (openB S))] = (openR S).2.2 := by
  unfold openR errR
  simp only [firstE]
  generalize openB S = b
  by_cases h0 : openE S = 0
  · simp only [h0]
    by_cases h1 : tvE b = 0
    · by_cases h2 : tvE (restR b) = 0
      · by_cases h3 : (getE (restR (restR b))).2 = 0
        · rcases check_last h3 with h4 | h4 <;> simp [h1, h2, h3, h4]
        · simp [h1, h2, h3]
      · simp [h1, h2]
    · simp [h1]
  · simp [h0]
theorem madeR_ok {b : List UInt8} (h : (getE (restR (restR b))).2 = 0) : (madeR b).ok := by
  have h1 := tvV_lt b
  have h2 := tvV_lt (restR b)
  exact ⟨by unfold madeR inI; dsimp only; omega, by unfold madeR inI; dsimp only; omega, (get_put_ok h).2.2⟩
theorem rest_one (b : List UInt8) : rest (bs b) (tvM b) = restR b := by unfold rest restR; rw [bs_list]
theorem rest_two (b : List UInt8) : rest (bs b) (tvM b + tvM (restR b)) = restR (restR b) := by
  rw [← rest_one b]
  unfold rest restR
  rw [bs_list, List.drop_drop]
theorem open_steps (w : World) (s : ByteArray) (hs : s.size ≤ 100000) (fs : List (FuncId × Array Value)) (es : List Int) (S b : List UInt8) (n : Int) (hS : s.data.toList = S) (hb : openB S = b) (hn : ((openN S : Nat) : Int) = n)
    (hfs : fs = [(21, #[pt w.heap.size 0, pt (w.heap.size + 3) 0, pt (w.heap.size + 4) 0]), (23, #[pt (w.heap.size + 3) 0, pt (w.heap.size + 5) 0, pt (w.heap.size + 2) 0]), (26, #[pt (w.heap.size + 5) 0, pt (w.heap.size + 2) 0]),
      (27, #[pt (w.heap.size + 3) 0, pt (w.heap.size + 5) 0, pt (w.heap.size + 2) 0]), (30, #[pt (w.heap.size + 2) 0])])
    (hes : es = [((openE S : Nat) : Int), ((tvE b : Nat) : Int), ((tvE (restR b) : Nat) : Int), (getE (restR (restR b))).2, checkR (madeR b)]) :
    ∀ k f c, fs[k]? = some f → es[k]? = some c → (∀ j, j < k → es[j]? = some 0) → ∀ W, OpS w s fs b n k W → Calls Tryz.prog f.1 f.2 W fun e W' => e = .returned (.int .i64 c) ∧ (c = 0 → OpS w s fs b n (k + 1) W') ∧ (c ≠ 0 → W'.heap[w.heap.size + 1]? = some (recO zeroR) ∧ Below w.heap.size w W') := by
  have hbl : (bs b).size ≤ 100000 := by rw [bs_size, ← hb]; have := openB_len S; omega
  intro k f c hf hc hz W h
  rw [hfs] at hf
  rw [hes] at hc hz
  match k, hf, hc, hz, h with
  | 0, hf, hc, hz, h =>
    injection hf with hf; injection hc with hc; subst hf hc
    have h : OpI w s fs zeroR ⟨#[]⟩ 0 none W := h
    refine (op1_any w.heap.size (w.heap.size + 3) (w.heap.size + 4) w.heap.size s _ _ W hs h.sx h.bd h.sz (by omega) (by omega) (by omega)).mono ?_
    rintro e W' ⟨rfl, g1, g2, gk, gb⟩
    rw [hS, hb] at g1
    rw [hS, hn] at g2
    rw [hS]
    refine ⟨rfl, fun _ => ⟨gk _ _ (by omega) h.sx, gk _ _ (by omega) h.rs, gk _ _ (by omega) h.rc, g1, g2, gk _ _ (by omega) h.cu, gk _ _ (by omega) h.row, h.bel.trans gb⟩, fun _ => ⟨gk _ _ (by omega) h.rs, h.bel.trans gb⟩⟩
  | 1, hf, hc, hz, h =>
    injection hf with hf; injection hc with hc; subst hf hc
    have h : OpI w s fs zeroR (bs b) n none W := h
    refine (op2_any (w.heap.size + 3) (w.heap.size + 5) (w.heap.size + 2) w.heap.size (bs b) _ _ W hbl h.bd h.cu h.rc (by omega) (by omega) (by omega)).mono ?_
    rintro e W' ⟨rfl, g1, g2, gu, gk, gb⟩
    rw [bs_list] at g2 gu ⊢
    have hlt := lt_of_block h.row
    refine ⟨rfl, fun _ => ⟨W.heap.size, hlt, ⟨gk _ _ (by omega) h.sx, gk _ _ (by omega) h.rs, g2, gk _ _ (by omega) h.bd, gk _ _ (by omega) h.sz, g1, gk _ _ (by omega) h.row, h.bel.trans gb⟩, gu⟩, fun _ => ⟨gk _ _ (by omega) h.rs, h.bel.trans gb⟩⟩
  | 2, hf, hc, hz, h =>
    injection hf with hf; injection hc with hc; subst hf hc
    obtain ⟨cb, hcb, h, hu⟩ : ∃ cb, w.heap.size + 6 < cb ∧ OpI w s fs ⟨(tvV b : Nat), 0, zeroE⟩ (bs b) n (some ⟨cb, 0, none⟩) W ∧ Cur W cb (bs b) (tvM b) := h
    refine (op3_any (w.heap.size + 5) (w.heap.size + 2) cb w.heap.size (tvM b) (bs b) _ W hbl h.cu h.rc hu (by omega) (by omega) (by omega) (by omega)).mono ?_
    rw [rest_one]
    rintro e W' ⟨rfl, g2, gu, gk, gb⟩
    refine ⟨rfl, fun _ => ⟨cb, hcb, ⟨gk _ _ (by omega) h.sx, gk _ _ (by omega) h.rs, g2, gk _ _ (by omega) h.bd, gk _ _ (by omega) h.sz, gk _ _ (by omega) h.cu, gk _ _ (by omega) h.row, h.bel.trans gb⟩, gu⟩, fun _ => ⟨gk _ _ (by omega) h.rs, h.bel.trans gb⟩⟩
  | 3, hf, hc, hz, h =>
    injection hf with hf; injection hc with hc; subst hf hc
    obtain ⟨cb, hcb, h, hu⟩ : ∃ cb, w.heap.size + 6 < cb ∧ OpI w s fs ⟨(tvV b : Nat), (tvV (restR b) : Nat), zeroE⟩ (bs b) n (some ⟨cb, 0, none⟩) W ∧ Cur W cb (bs b) (tvM b + tvM (restR b)) := h
    refine (op4_any (w.heap.size + 3) (w.heap.size + 5) (w.heap.size + 2) cb w.heap.size _ (bs b) _ W hbl h.bd h.cu h.rc hu (by omega) (by omega) (by omega) (by omega)).mono ?_
    rw [rest_two]
    rintro e W' ⟨rfl, g2, gk, gb⟩
    refine ⟨rfl, fun _ => ⟨_, gk _ _ (by omega) h.sx, gk _ _ (by omega) h.rs, g2, gk _ _ (by omega) h.bd, gk _ _ (by omega) h.sz, gk _ _ (by omega) h.cu, gk _ _ (by omega) h.row, h.bel.trans gb⟩, fun _ => ⟨gk _ _ (by omega) h.rs, h.bel.trans gb⟩⟩
  | 4, hf, hc, hz, h =>
    injection hf with hf; injection hc with hc; subst hf hc
    obtain ⟨p, h⟩ : ∃ p, OpI w s fs (madeR b) (bs b) n p W := h
    have hg : (getE (restR (restR b))).2 = 0 := by simpa using hz 3 (by omega)
    refine (op5_any (w.heap.size + 2) _ W (madeR_ok hg) h.rc).mono ?_
    rintro e W' ⟨rfl, gb⟩
    have h' := h.below gb
    exact ⟨rfl, fun _ => ⟨p, h'⟩, fun _ => ⟨h'.rs, h'.bel⟩⟩
/-- The end: the record is laid where the result lies. -/
structure OpF (L : World) (r : Rec) (n : Int) (p : Nat) (w : World) : Prop where
  rs : w.heap[L.heap.size + 1]? = some (recO (if p = 0 then zeroR else r))
  rc : w.heap[L.heap.size + 2]? = some (recO r)
  sz : w.heap[L.heap.size + 4]? = some (numO n)
  bel : Below L.heap.size L w
theorem reopen_any (s : ByteArray) (w : World) (hs : s.size ≤ 100000) : Calls Tryz.prog 7 #[.string s] w fun e w' => e = .returned (.tuple #[(openR s.data.toList).1.val, .int .i64 (openR s.data.toList).2.1, .int .i64 (openR s.data.toList).2.2]) ∧ Below w.heap.size w w' := by
  obtain ⟨S, hS⟩ : ∃ S, s.data.toList = S := ⟨_, rfl⟩
  obtain ⟨b, hb⟩ : ∃ b, openB S = b := ⟨_, rfl⟩
  obtain ⟨n, hn⟩ : ∃ n, ((openN S : Nat) : Int) = n := ⟨_, rfl⟩
  obtain ⟨fs, hfs⟩ : ∃ fs : List (FuncId × Array Value), fs = [(21, #[pt w.heap.size 0, pt (w.heap.size + 3) 0, pt (w.heap.size + 4) 0]), (23, #[pt (w.heap.size + 3) 0, pt (w.heap.size + 5) 0, pt (w.heap.size + 2) 0]), (26, #[pt (w.heap.size + 5) 0, pt (w.heap.size + 2) 0]),
      (27, #[pt (w.heap.size + 3) 0, pt (w.heap.size + 5) 0, pt (w.heap.size + 2) 0]), (30, #[pt (w.heap.size + 2) 0])] := ⟨_, rfl⟩
  obtain ⟨es, hes⟩ : ∃ es : List Int, es = [((openE S : Nat) : Int), ((tvE b : Nat) : Int), ((tvE (restR b) : Nat) : Int), (getE (restR (restR b))).2, checkR (madeR b)] := ⟨_, rfl⟩
  have hfe : firstE es = (openR S).2.2 := by rw [hes, ← hb]; exact open_first S
  have HC := Lib.hid (ferr_any (w.heap.size + 6) 5 fs es (OpS w s fs b n) (fun W => W.heap[w.heap.size + 1]? = some (recO zeroR) ∧ Below w.heap.size w W) _ (by rw [hfs]; simp) (by rw [hfs, hes]; rfl) (opI_start w s fs)
    (fun k W h j f hf => by
      have hr : W.heap[w.heap.size + 6]? = some (.cells (fnR fs) 37 (0, 0)) := by
        match k, h with
        | 0, h => exact OpI.row (r := zeroR) (n := 0) (p := none) (T := ⟨#[]⟩) h
        | 1, h => exact OpI.row (r := zeroR) (n := n) (p := none) (T := bs b) h
        | 2, h => exact h.choose_spec.2.1.row
        | 3, h => exact h.choose_spec.2.1.row
        | k + 4, h => exact h.choose_spec.row
      exact fnR_cell hr j f hf)
    (fun k f hf W => by
      rw [hfs] at hf
      match k, hf with
      | 0, hf => injection hf with hf; subst hf; exact en_op1 _ _ _ _
      | 1, hf => injection hf with hf; subst hf; exact en_op2 _ _ _ _
      | 2, hf => injection hf with hf; subst hf; exact en_op3 _ _ _
      | 3, hf => injection hf with hf; subst hf; exact en_op4 _ _ _ _
      | 4, hf => injection hf with hf; subst hf; exact en_op5 _ _)
    (open_steps w s hs fs es S b n hS hb hn hfs hes))
  have hlen : fs.length = 5 := by rw [hfs]; rfl
  rw [hfe, hlen] at HC
  rw [hS]
  have h3 : (openR S).2.2 ≠ 0 ∧ (openR S).1 = zeroR ∧ (openR S).2.1 = 0 ∨ (openR S).2.2 = 0 ∧ (openR S).1 = madeR b ∧ (((openR S).2.1 : Nat) : Int) = n := by
    by_cases h0 : openE S = 0
    · by_cases h1 : errR (openB S) = 0
      · have e : openR S = (madeR (openB S), openN S, 0) := by unfold openR; rw [if_neg (by simp [h0]), if_neg (by simp [h1])]
        rw [e, hb]
        exact .inr ⟨rfl, rfl, hn⟩
      · have e : openR S = (zeroR, 0, errR (openB S)) := by unfold openR; rw [if_neg (by simp [h0]), if_pos h1]
        rw [e]
        exact .inl ⟨h1, rfl, rfl⟩
    · rw [open_bad h0]
      exact .inl ⟨by dsimp only; omega, rfl, rfl⟩
  have HO := Lib.hid (show (openR S).2.2 ≠ 0 → (openR S).1 = zeroR ∧ (openR S).2.1 = 0 from fun e => h3.elim (fun h => h.2) fun h => absurd h.1 e)
  have HP := Lib.hid (show (openR S).2.2 = 0 → (openR S).1 = madeR b ∧ (((openR S).2.1 : Nat) : Int) = n from fun e => h3.elim (fun h => absurd e h.1) fun h => h.2)
  clear h3
  have HSE := Lib.hid fun (W : World) (h : OpS w s fs b n 5 W) => (show OpF w (madeR b) n 0 W from ⟨h.choose_spec.rs, h.choose_spec.rc, h.choose_spec.sz, h.choose_spec.bel⟩)
  generalize hI : OpS w s fs b n 5 = I5 at *
  have hmf : ∀ (fn : Fn) (first cap : Array Value) (w : World), (Instr.makeFunc fn first cap).run Tryz.prog w = .ok (.func fn first cap) w := fun _ _ _ _ => rfl
  clear hI hlen hfe hes
  unfold fnR at HC
  rw [hfs] at HC
  unfold fnV pt zeroR Rec.cells zeroE zero3 at HC
  simp only [List.map_cons, List.map_nil] at HC
  clear hfs
  generalize (openR S).2.2 = c at *
  generalize (openR S).2.1 = m at *
  generalize (openR S).1 = R at *
  unfold Rec.val
  clear hb hn hS
  go_enter Tryz.func7, Tryz.ntmps7
  go_wp2_with fail
  refine HC.out.mono ?_
  rintro e w1 ⟨rfl, h1, h2⟩
  by_cases hc : c = 0
  · subst hc
    obtain ⟨rfl, rfl⟩ := HP.out rfl
    have hI := HSE.out w1 (h1 rfl)
    have hI0 : OpF w (madeR b) m 0 w1.drew := ⟨hI.rs, hI.rc, hI.sz, hI.bel.drew⟩
    clear h1 h2 HC HO HP HSE hI
    have HS := Lib.hid fun (p : Nat) (w' : World) (h : OpF w (madeR b) m p w') => rec_cells h.rc
    have HZ := Lib.hid fun (p : Nat) (w' : World) (h : OpF w (madeR b) m p w') => (show w'.cell? ⟨w.heap.size + 4, 0, none⟩ = some (.int .i64 m) from blk_cell h.sz 0)
    have HST := Lib.hid (show ∀ w', OpF w (madeR b) m 0 w' → w'.heap[w.heap.size + 1]? = some (recO zeroR) ∧ OpF w (madeR b) m 1 (w'.setRow (w.heap.size + 1) (madeR b).cells) from fun w' h => by
      have h4 := h.rs
      rw [if_pos rfl] at h4
      have hO : Only (w.heap.size + 1) w' (w'.setRow (w.heap.size + 1) (madeR b).cells) := ⟨rfl, rfl, rfl, by simp [World.setRow], fun k _ hk => rowSet_far _ _ _ _ hk⟩
      exact ⟨h4, by rw [if_neg (by omega)]; exact rowSet_heap w' _ _ _ _ h4, hO.old h.rc (by omega), hO.old h.sz (by omega), h.bel.trans (hO.below (by omega) h.bel.size)⟩)
    go_wp2_with fail
    refine wp_region_holdP [2] (OpF w (madeR b) m) (by kernel_rfl) (by kernel_rfl) hI0 ?_
    clear hI0
    repeat
      first
      | (refine holdP_val (v := ?_) (by rfl) (by rfl) ?_ ?_
         rotate_left
         · (intro p w' hC
            obtain ⟨x0, x1, x2, x3, x4, x5, x6, x7, x8, x9⟩ := HS.out p w' hC
            have z0 := HZ.out p w' hC
            go_simp
            try with_reducible rfl)
         simp only [Act.put, List.setIfInBounds_toArray, List.set_cons_zero, List.set_cons_succ])
      | (refine holdP_storeRow 0 27 _ _ rfl rfl (by rfl) (w.heap.size + 1) (madeR b).cells ?_ ?_ (by kernel_rfl) (by simp [Rec.cells, Value.oneCell']) (fun w' hC => ⟨_, _, (HST.out w' hC).1, rfl, (HST.out w' hC).2⟩) ?_
         · (go_simp; done)
         · (unfold Rec.cells; go_simp; done)
         simp only [Act.put, List.setIfInBounds_toArray, List.set_cons_zero, List.set_cons_succ])
    refine holdP_nil (fun w6 hC => ?_)
    have HE1 := Lib.hid (show w6.heap[w.heap.size + 1]? = some (recO (madeR b)) from hC.rs)
    have HE2 := Lib.hid hC.bel
    clear hC HS HZ HST
    go_wp2_with fail
    exact bodyPost_ret (results_c3 rfl rfl rfl rfl HE1.out Tryz.underlying27 rfl (by kernel_rfl)) rfl ⟨rfl, HE2.out⟩
  · have k1 : (c == 0) = false := beq_eq_false_iff_ne.2 hc
    have k2 : decide (c = 0) = false := decide_eq_false hc
    have k3 : (c != 0) = true := by simpa using hc
    obtain ⟨rfl, rfl⟩ := HO.out hc
    have h2 := h2 hc
    have HF := Lib.hid (show (recW w1 (w.heap.size + 1) zeroR).heap[w.heap.size + 1]? = some (recO zeroR) ∧ Below w.heap.size w (recW w1 (w.heap.size + 1) zeroR) from
      ⟨rec_set h2.1, h2.2.trans ((rec_only w1 _ zeroR).below (by omega) h2.2.size)⟩)
    obtain ⟨y0, y1, y2, y3, y4, y5, y6, y7, y8, y9⟩ := rec_cells h2.1
    obtain ⟨f0, f1, f2, f3, f4, f5, f6, f7, f8, f9⟩ := rec_free h2.1
    clear h1 h2 HC HO HP HSE
    dsimp only at y0 y1 y2 y3 y4 y5 y6 y7 y8 y9
    go_wp2_with fail
    exact bodyPost_ret (results_c3 rfl rfl rfl rfl HF.out.1 Tryz.underlying27 rfl (by kernel_rfl)) rfl ⟨rfl, HF.out.2⟩
end Go.Proofs.YtgooepfhapaenaaGreat
