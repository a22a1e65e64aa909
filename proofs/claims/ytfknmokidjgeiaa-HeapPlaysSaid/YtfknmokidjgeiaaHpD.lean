/- Pieces of the walk of HeapPlays: the plain regions of a round, a lemma a region, the frame a variable. Conditions: as stated. -/
import Derived.Test.YtfknmokidjgeiaaHpA
namespace Go.Proofs.Ytfknmokidjgeiaa
open Go.ChangeShapes Go.WideShapes Go.ChangeAt Go.RowKit
set_option linter.unusedVariables false
set_option maxRecDepth 100000
set_option linter.unusedSimpArgs false
set_option maxHeartbeats 4000000

theorem t9 (A : Act) (w : World) (Q : Exit → Act → World → Prop) (wx : World) (k n cap ba oa bh bz b7 : Nat) (id : Int) (row : Value) (l : List Thg) (act : ActH) (hlt : k < n) (hn : n ≤ 120) (HC : ActAt wx ba oa k act)
    (L : LF A (.slice (some ⟨ba, oa, none⟩) n cap) id b7 bh bz)
    (f11 : sl A.tmps 11 = row) (f12 : sl A.tmps 12 = .int .i64 k) (hl : l.length ≤ 1000)
    (HI : Inv3 wx (fun _ => False) (.pointer (some ⟨bh, 0, none⟩)) l (.pointer (some ⟨bz, 0, none⟩)) l row l w)
    (hQ : ∀ A', Near 13 A A' → sl A'.tmps 13 = .int .i64 (idxI (findT l act.t.id)) → Q .normal A' w) :
    Code.wp Try.prog (hpR 9) Q A w := by
  have FD := Lib.hid (ifind act.t.id (by omega) HI)
  obtain ⟨p0, p1, p2, p3, p4⟩ := HC w HI.bel
  have HL0 := Lib.hid L
  obtain ⟨bs, bd, l0, l1, l7, l9, l10⟩ := L
  have f0 := sl_get l0
  have f1 := sl_get l1
  have f9 := sl_get l9
  have f10 := sl_get l10
  replace f11 := sl_get f11
  replace f12 := sl_get f12
  have HQ := Lib.hid hQ
  clear hQ l0 l1 l7 l9 l10
  clear HI HC
  conv => arg 2; whnf
  go_wp2_with fail
  refine FD.out.mono ?_; rintro e w2 ⟨rfl, rfl⟩
  go_wp2_with fail
  refine HQ.out _ ⟨?_, ?_, fun i hi => ?_⟩ ?_
  · try simp only [put_tmps]
    simp only [Array.size_setIfInBounds, bs]
  · first | (simp only [put_defers, bd]; done) | exact bd | rfl
  · try simp only [put_tmps]
    repeat rw [sl_ne _ (by omega)]
  · try simp only [put_tmps]
    repeat first | rw [sl_ne _ (by decide)] | rw [sl_eq _ (by simp only [Array.size_setIfInBounds, bs]; decide)]
theorem t10 (A : Act) (w : World) (Q : Exit → Act → World → Prop) (wx : World) (k n cap ba oa bh bz b7 : Nat) (id : Int) (act : ActH) (hlt : k < n) (hn : n ≤ 120) (HC : ActAt wx ba oa k act)
    (L : LF A (.slice (some ⟨ba, oa, none⟩) n cap) id b7 bh bz)
    (f12 : sl A.tmps 12 = .int .i64 k)
    (hb : Below wx.heap.size wx w)
    (hQ : ∀ A', Near 65 A A' → sl A'.tmps 69 = .int .i64 act.kind → Q .normal A' w) :
    Code.wp Try.prog (hpR 10) Q A w := by
  obtain ⟨p0, p1, p2, p3, p4⟩ := HC w hb
  have HL0 := Lib.hid L
  obtain ⟨bs, bd, l0, l1, l7, l9, l10⟩ := L
  have f0 := sl_get l0
  have f1 := sl_get l1
  have f9 := sl_get l9
  have f10 := sl_get l10
  replace f12 := sl_get f12
  have HQ := Lib.hid hQ
  clear hQ l0 l1 l7 l9 l10
  clear HC
  conv => arg 2; whnf
  go_wp2_with fail
  refine HQ.out _ ⟨?_, ?_, fun i hi => ?_⟩ ?_
  · try simp only [put_tmps]
    simp only [Array.size_setIfInBounds, bs]
  · first | (simp only [put_defers, bd]; done) | exact bd | rfl
  · try simp only [put_tmps]
    repeat rw [sl_ne _ (by omega)]
  · try simp only [put_tmps]
    repeat first | rw [sl_ne _ (by decide)] | rw [sl_eq _ (by simp only [Array.size_setIfInBounds, bs]; decide)]
theorem t19 (A : Act) (w : World) (Q : Exit → Act → World → Prop) (kind : Int) (b : Bool) (hb : (kind == 1) = b)
    (bs : A.tmps.size = 317) (bd : A.defers = []) (f69 : sl A.tmps 69 = .int .i64 kind)
    (hQ : ∀ A', Near 138 A A' → sl A'.tmps 138 = .bool b → Q .normal A' w) :
    Code.wp Try.prog (hpR 19) Q A w := by
  replace f69 := sl_get f69
  have HQ := Lib.hid hQ
  clear hQ
  conv => arg 2; whnf
  go_wp2_with fail
  refine HQ.out _ ⟨?_, ?_, fun i hi => ?_⟩ ?_
  · try simp only [put_tmps]
    simp only [Array.size_setIfInBounds, bs]
  · first | (simp only [put_defers, bd]; done) | exact bd | rfl
  · try simp only [put_tmps]
    repeat rw [sl_ne _ (by omega)]
  · try simp only [put_tmps]
    repeat first | rw [sl_ne _ (by decide)] | rw [sl_eq _ (by simp only [Array.size_setIfInBounds, bs]; decide)]
theorem t23 (A : Act) (w : World) (Q : Exit → Act → World → Prop) (kind : Int) (b : Bool) (hb : (kind == 2) = b)
    (bs : A.tmps.size = 317) (bd : A.defers = []) (f69 : sl A.tmps 69 = .int .i64 kind)
    (hQ : ∀ A', Near 185 A A' → sl A'.tmps 185 = .bool b → Q .normal A' w) :
    Code.wp Try.prog (hpR 23) Q A w := by
  replace f69 := sl_get f69
  have HQ := Lib.hid hQ
  clear hQ
  conv => arg 2; whnf
  go_wp2_with fail
  refine HQ.out _ ⟨?_, ?_, fun i hi => ?_⟩ ?_
  · try simp only [put_tmps]
    simp only [Array.size_setIfInBounds, bs]
  · first | (simp only [put_defers, bd]; done) | exact bd | rfl
  · try simp only [put_tmps]
    repeat rw [sl_ne _ (by omega)]
  · try simp only [put_tmps]
    repeat first | rw [sl_ne _ (by decide)] | rw [sl_eq _ (by simp only [Array.size_setIfInBounds, bs]; decide)]
theorem t22 (A : Act) (w : World) (Q : Exit → Act → World → Prop) (wx : World) (k n cap ba oa bh bz b7 : Nat) (id : Int) (row : Value) (l l1 : List Thg) (act : ActH) (hlt : k < n) (hn : n ≤ 120) (HC : ActAt wx ba oa k act)
    (L : LF A (.slice (some ⟨ba, oa, none⟩) n cap) id b7 bh bz)
    (f11 : sl A.tmps 11 = row) (f12 : sl A.tmps 12 = .int .i64 k) (hl : l.length ≤ 1000)
    (HI : Inv3 wx (fun _ => False) (.pointer (some ⟨bh, 0, none⟩)) l1 (.pointer (some ⟨bz, 0, none⟩)) l1 row l w)
    (hQ : ∀ A' w' row', Near 11 A A' → sl A'.tmps 12 = .int .i64 k → sl A'.tmps 11 = row' → Inv3 wx (fun _ => False) (.pointer (some ⟨bh, 0, none⟩)) l1 (.pointer (some ⟨bz, 0, none⟩)) l1 row' (putT l act.t) w' → Q .normal A' w') :
    Code.wp Try.prog (hpR 22) Q A w := by
  have RP := fun w' (h : Below w.heap.size w w') => brput act.t (by omega) (HI.below h)
  unfold Thg.val at RP
  replace RP := Lib.hid RP
  have hwx := HI.bel
  have HCX := Lib.hid (show ∀ w' : World, Below w.heap.size w w' → (w'.cell? ⟨ba, oa + k * 5, none⟩ = some (.int .i64 act.kind) ∧ w'.cell? ⟨ba, oa + k * 5 + 1, none⟩ = some (.int .i64 act.t.id) ∧ w'.cell? ⟨ba, oa + k * 5 + 2, none⟩ = some (.int .i64 act.t.key.a) ∧ w'.cell? ⟨ba, oa + k * 5 + 2 + 1, none⟩ = some (.int .i64 act.t.key.b) ∧ w'.cell? ⟨ba, oa + k * 5 + 2 + 2, none⟩ = some (.int .i64 act.t.key.c)) from fun w' h => HC w' (hwx.trans (h.mono hwx.size)))
  have HL0 := Lib.hid L
  obtain ⟨bs, bd, l0, l1, l7, l9, l10⟩ := L
  have f0 := sl_get l0
  have f1 := sl_get l1
  have f9 := sl_get l9
  have f10 := sl_get l10
  have k12 := f12
  replace f11 := sl_get f11
  replace f12 := sl_get f12
  have HQ := Lib.hid hQ
  clear hQ l0 l1 l7 l9 l10
  have HK := Lib.hid k12
  clear HI HC hwx k12
  conv => arg 2; whnf
  refine wp_region_holdY (fun w' => Below w.heap.size w w') (by kernel_rfl) (by kernel_rfl) (kept_below w) ⟨rfl, rfl, rfl, Nat.le_refl _, fun _ _ => rfl⟩ (fun hK => ?_)
  repeat
    first
    | (refine holdY_val (v := ?_) hK (by rfl) ?_ ?_ ?_
       rotate_left
       · first
         | (simp [Region.wanted]; done)
         | (simp [Region.wanted, yielded, Act.put, bs]; done)
       · (intro w' hS
          obtain ⟨_, _, _, _, _⟩ := HCX.out w' hS
          go_simp
          try with_reducible rfl))
    | (refine holdY_some (fun v w => Inv3 wx (fun _ => False) (.pointer (some ⟨bh, 0, none⟩)) l1 (.pointer (some ⟨bz, 0, none⟩)) l1 v (putT l act.t) w) (fun v => kept_inv) (by rfl) hK (by rfl) ?_ ?_ (fun w' hS => RP.out w' hS) ?_
       · first
         | (simp [Region.wanted]; done)
         | (simp [Region.wanted, yielded, Act.put, bs]; done)
       · (intro w' hS; go_simp; done)
       clear hK
       intro v1 hK)
  refine holdY_nil ?_
  intro w6 hS hx
  have hx : Inv3 wx (fun _ => False) (.pointer (some ⟨bh, 0, none⟩)) l1 (.pointer (some ⟨bz, 0, none⟩)) l1 v1 (putT l act.t) w6 := hx _ (List.mem_cons_self ..) (show (12 : Nat) < 14 by decide)
  refine HQ.out _ _ v1 ⟨?_, ?_, fun i hi => ?_⟩ ?_ ?_ hx
  · try simp only [put_tmps]
    simp only [Array.size_setIfInBounds, bs]
  · first | (simp only [put_defers, bd]; done) | exact bd | rfl
  · try simp only [put_tmps]
    repeat rw [sl_ne _ (by omega)]
  · try simp only [put_tmps]
    repeat rw [sl_ne _ (by decide)]
    exact HK.out
  · try simp only [put_tmps]
    repeat first | rw [sl_ne _ (by decide)] | rw [sl_eq _ (by simp only [Array.size_setIfInBounds, bs]; decide)]
theorem t20 (A : Act) (w : World) (Q : Exit → Act → World → Prop) (wx : World) (k n cap ba oa bh bz b7 : Nat) (id : Int) (row : Value) (l : List Thg) (fi : Int) (isn : Bool) (act : ActH) (hlt : k < n) (hn : n ≤ 120) (HC : ActAt wx ba oa k act)
    (L : LF A (.slice (some ⟨ba, oa, none⟩) n cap) id b7 bh bz)
    (f12 : sl A.tmps 12 = .int .i64 k) (f13 : sl A.tmps 13 = .int .i64 fi) (dj : decide (fi < 0) = isn) (hok : act.t.ok) (hl : l.length ≤ 1000) (hi : (findT l act.t.id).isNone = isn)
    (HI : Inv3 wx (fun _ => False) (.pointer (some ⟨bh, 0, none⟩)) l (.pointer (some ⟨bz, 0, none⟩)) l row l w)
    (hQ : ∀ A' w', Near 140 A A' → sl A'.tmps 171 = .bool false → Inv3 wx (fun _ => False) (.pointer (some ⟨bh, 0, none⟩)) (putT l act.t) (.pointer (some ⟨bz, 0, none⟩)) (putT l act.t) row l w' → Q .normal A' w') :
    Code.wp Try.prog (hpR 20) Q A w := by
  have PH := fun m w' hm hC => c2_put_h (wL := wx) (vh := .pointer (some ⟨bh, 0, none⟩)) (vz := .pointer (some ⟨bz, 0, none⟩)) (row := row) (l := l) (w := w') (m := m) act.t hok (by omega) hm hC
  have PZ := fun m w' hm hC => c2_put_z (wL := wx) (vh := .pointer (some ⟨bh, 0, none⟩)) (vz := .pointer (some ⟨bz, 0, none⟩)) (row := row) (l := l) (w := w') (m := m) act.t hok (by omega) hm hC
  rw [hi] at PH PZ
  unfold V3.val at PH PZ
  replace PH := Lib.hid PH
  replace PZ := Lib.hid PZ
  have HI := Lib.hid HI
  have HCY := Lib.hid HC
  have HL0 := Lib.hid L
  obtain ⟨bs, bd, l0, l1, l7, l9, l10⟩ := L
  have f0 := sl_get l0
  have f1 := sl_get l1
  have f9 := sl_get l9
  have f10 := sl_get l10
  replace f12 := sl_get f12
  replace f13 := sl_get f13
  have HQ := Lib.hid hQ
  clear hQ l0 l1 l7 l9 l10
  
  clear HC hi hl hok
  conv => arg 2; whnf
  cases isn
  all_goals
    refine wp_region_holdC [11, 27] (fun m w' => C2 wx (.pointer (some ⟨bh, 0, none⟩)) (.pointer (some ⟨bz, 0, none⟩)) row l (putT l act.t) m w') (by kernel_rfl) (by kernel_rfl) rfl (HI.out.drew 1) ?_
    repeat
      first
      | (refine holdC_val (v := ?_) (by rfl) ?_ ?_ ?_
         rotate_left
         · first
           | (simp [Region.wanted]; done)
           | (simp [Region.wanted, yielded, Act.put, bs]; done)
         · (intro m w' hC
            obtain ⟨_, _, _, _, _⟩ := HCY.out w' (c2_bel hC)
            go_simp
            try with_reducible rfl))
      | (refine holdC_skip (by rfl) ?_ ?_
         · (simp [Region.wanted, yielded, Act.put, bs]; done))
      | (refine holdC_write 0 [] rfl rfl (by decide) ?_ rfl ?_ (fun m w' hm _ hC => PH.out m w' hm hC) ?_
         · first
           | (simp [Region.wanted]; done)
           | (simp [Region.wanted, yielded, Act.put, bs]; done)
         · (intro m w' hC; go_simp; done))
      | (refine holdC_write 1 [] rfl rfl (by decide) ?_ rfl ?_ (fun m w' hm _ hC => PZ.out m w' hm hC) ?_
         · first
           | (simp [Region.wanted]; done)
           | (simp [Region.wanted, yielded, Act.put, bs]; done)
         · (intro m w' hC; go_simp; done))
    refine holdC_nil (fun w3 hC => ?_)
    refine HQ.out _ _ ⟨?_, ?_, fun i hi => ?_⟩ ?_ (c2_end hC)
    · try simp only [put_tmps]
      simp only [Array.size_setIfInBounds, bs]
    · first | (simp only [put_defers, bd]; done) | exact bd | rfl
    · try simp only [put_tmps]
      repeat rw [sl_ne _ (by omega)]
    · try simp only [put_tmps]
      repeat first | rw [sl_ne _ (by decide)] | rw [sl_eq _ (by simp only [Array.size_setIfInBounds, bs]; decide)]
theorem t24_none (A : Act) (w : World) (Q : Exit → Act → World → Prop) (wx : World) (k n cap ba oa bh bz b7 : Nat) (id : Int) (row : Value) (l : List Thg) (fi : Int) (act : ActH) (hlt : k < n) (hn : n ≤ 120) (HC : ActAt wx ba oa k act)
    (L : LF A (.slice (some ⟨ba, oa, none⟩) n cap) id b7 bh bz)
    (f12 : sl A.tmps 12 = .int .i64 k) (f13 : sl A.tmps 13 = .int .i64 fi) (dj2 : decide ((0 : Int) ≤ fi) = false) (dj : decide (fi ≥ (0 : Int)) = false) (hl : l.length ≤ 1000) (hid : inI act.t.id) (hi : (findT l act.t.id).isSome = false)
    (HI : Inv3 wx (fun _ => False) (.pointer (some ⟨bh, 0, none⟩)) l (.pointer (some ⟨bz, 0, none⟩)) l row l w)
    (hQ : ∀ A' w', Near 187 A A' → sl A'.tmps 208 = .bool false → Inv3 wx (fun _ => False) (.pointer (some ⟨bh, 0, none⟩)) (dropT l act.t.id) (.pointer (some ⟨bz, 0, none⟩)) (dropT l act.t.id) row l w' → Q .normal A' w') :
    Code.wp Try.prog (hpR 24) Q A w := by
  have D1 := idrop_h act.t.id hid (by omega) HI
  rw [hi] at D1
  replace D1 := Lib.hid D1
  obtain ⟨p0, p1, p2, p3, p4⟩ := HC w HI.bel
  have HI1 := Lib.hid hi
  have HID := Lib.hid hid
  have HCX := Lib.hid HC
  have HL0 := Lib.hid L
  obtain ⟨bs, bd, l0, l1, l7, l9, l10⟩ := L
  have f0 := sl_get l0
  have f1 := sl_get l1
  have f9 := sl_get l9
  have f10 := sl_get l10
  replace f12 := sl_get f12
  replace f13 := sl_get f13
  have HQ := Lib.hid hQ
  clear hQ l0 l1 l7 l9 l10
  clear HI HC hi hid
  conv => arg 2; whnf
  go_wp2_with fail
  refine D1.out.mono ?_; rintro e w3 ⟨rfl, hI3⟩
  have D2 := idrop_z act.t.id HID.out (by omega) hI3
  rw [HI1.out] at D2
  replace D2 := Lib.hid D2
  clear p0 p1 p2 p3 p4 D1
  obtain ⟨p0, p1, p2, p3, p4⟩ := HCX.out w3 hI3.bel
  clear hI3
  go_wp2_with fail
  refine D2.out.mono ?_; rintro e w4 ⟨rfl, hI4⟩
  have HI4 := Lib.hid hI4
  clear p0 p1 p2 p3 p4 D2 hI4
  go_wp2_with fail
  refine HQ.out _ _ ⟨?_, ?_, fun i hi => ?_⟩ ?_ HI4.out
  · try simp only [put_tmps]
    simp only [Array.size_setIfInBounds, bs]
  · first | (simp only [put_defers, bd]; done) | exact bd | rfl
  · try simp only [put_tmps]
    repeat rw [sl_ne _ (by omega)]
  · try simp only [put_tmps]
    repeat first | rw [sl_ne _ (by decide)] | rw [sl_eq _ (by simp only [Array.size_setIfInBounds, bs]; decide)]
theorem t24_some (A : Act) (w : World) (Q : Exit → Act → World → Prop) (wx : World) (k n cap ba oa bh bz b7 : Nat) (id : Int) (row : Value) (l : List Thg) (fi : Int) (act : ActH) (hlt : k < n) (hn : n ≤ 120) (HC : ActAt wx ba oa k act)
    (L : LF A (.slice (some ⟨ba, oa, none⟩) n cap) id b7 bh bz)
    (f12 : sl A.tmps 12 = .int .i64 k) (f13 : sl A.tmps 13 = .int .i64 fi) (dj2 : decide ((0 : Int) ≤ fi) = true) (dj : decide (fi ≥ (0 : Int)) = true) (hl : l.length ≤ 1000) (hid : inI act.t.id) (hi : (findT l act.t.id).isSome = true)
    (HI : Inv3 wx (fun _ => False) (.pointer (some ⟨bh, 0, none⟩)) l (.pointer (some ⟨bz, 0, none⟩)) l row l w)
    (hQ : ∀ A' w', Near 187 A A' → sl A'.tmps 208 = .bool false → Inv3 wx (fun _ => False) (.pointer (some ⟨bh, 0, none⟩)) (dropT l act.t.id) (.pointer (some ⟨bz, 0, none⟩)) (dropT l act.t.id) row l w' → Q .normal A' w') :
    Code.wp Try.prog (hpR 24) Q A w := by
  have D1 := idrop_h act.t.id hid (by omega) HI
  rw [hi] at D1
  replace D1 := Lib.hid D1
  obtain ⟨p0, p1, p2, p3, p4⟩ := HC w HI.bel
  have HI1 := Lib.hid hi
  have HID := Lib.hid hid
  have HCX := Lib.hid HC
  have HL0 := Lib.hid L
  obtain ⟨bs, bd, l0, l1, l7, l9, l10⟩ := L
  have f0 := sl_get l0
  have f1 := sl_get l1
  have f9 := sl_get l9
  have f10 := sl_get l10
  replace f12 := sl_get f12
  replace f13 := sl_get f13
  have HQ := Lib.hid hQ
  clear hQ l0 l1 l7 l9 l10
  clear HI HC hi hid
  conv => arg 2; whnf
  go_wp2_with fail
  refine D1.out.mono ?_; rintro e w3 ⟨rfl, hI3⟩
  have D2 := idrop_z act.t.id HID.out (by omega) hI3
  rw [HI1.out] at D2
  replace D2 := Lib.hid D2
  clear p0 p1 p2 p3 p4 D1
  obtain ⟨p0, p1, p2, p3, p4⟩ := HCX.out w3 hI3.bel
  clear hI3
  go_wp2_with fail
  refine D2.out.mono ?_; rintro e w4 ⟨rfl, hI4⟩
  have HI4 := Lib.hid hI4
  clear p0 p1 p2 p3 p4 D2 hI4
  go_wp2_with fail
  refine HQ.out _ _ ⟨?_, ?_, fun i hi => ?_⟩ ?_ HI4.out
  · try simp only [put_tmps]
    simp only [Array.size_setIfInBounds, bs]
  · first | (simp only [put_defers, bd]; done) | exact bd | rfl
  · try simp only [put_tmps]
    repeat rw [sl_ne _ (by omega)]
  · try simp only [put_tmps]
    repeat first | rw [sl_ne _ (by decide)] | rw [sl_eq _ (by simp only [Array.size_setIfInBounds, bs]; decide)]
theorem t26 (A : Act) (w : World) (Q : Exit → Act → World → Prop) (wx : World) (k n cap ba oa bh bz b7 : Nat) (id : Int) (row : Value) (l l1 : List Thg) (act : ActH) (hlt : k < n) (hn : n ≤ 120) (HC : ActAt wx ba oa k act)
    (L : LF A (.slice (some ⟨ba, oa, none⟩) n cap) id b7 bh bz)
    (f11 : sl A.tmps 11 = row) (f12 : sl A.tmps 12 = .int .i64 k) (hl : l.length ≤ 1000)
    (HI : Inv3 wx (fun _ => False) (.pointer (some ⟨bh, 0, none⟩)) l1 (.pointer (some ⟨bz, 0, none⟩)) l1 row l w)
    (hQ : ∀ A' w' row', Near 11 A A' → sl A'.tmps 12 = .int .i64 k → sl A'.tmps 11 = row' → Inv3 wx (fun _ => False) (.pointer (some ⟨bh, 0, none⟩)) l1 (.pointer (some ⟨bz, 0, none⟩)) l1 row' (dropT l act.t.id) w' → Q .normal A' w') :
    Code.wp Try.prog (hpR 26) Q A w := by
  have RP := Lib.hid (irdrop act.t.id (by omega) HI)
  obtain ⟨p0, p1, p2, p3, p4⟩ := HC w HI.bel
  have HL0 := Lib.hid L
  obtain ⟨bs, bd, l0, l1, l7, l9, l10⟩ := L
  have f0 := sl_get l0
  have f1 := sl_get l1
  have f9 := sl_get l9
  have f10 := sl_get l10
  have HK := Lib.hid f12
  replace f11 := sl_get f11
  replace f12 := sl_get f12
  have HQ := Lib.hid hQ
  clear hQ l0 l1 l7 l9 l10
  clear HI HC
  conv => arg 2; whnf
  go_wp2_with fail
  refine RP.out.mono ?_; rintro e w5 ⟨v5, rfl, hI5⟩
  have HI5 := Lib.hid hI5
  clear hI5 RP p0 p1 p2 p3 p4
  go_wp2_with fail
  refine HQ.out _ _ v5 ⟨?_, ?_, fun i hi => ?_⟩ ?_ ?_ HI5.out
  · try simp only [put_tmps]
    simp only [Array.size_setIfInBounds, bs]
  · first | (simp only [put_defers, bd]; done) | exact bd | rfl
  · try simp only [put_tmps]
    repeat rw [sl_ne _ (by omega)]
  · try simp only [put_tmps]
    repeat rw [sl_ne _ (by decide)]
    exact HK.out
  · try simp only [put_tmps]
    repeat first | rw [sl_ne _ (by decide)] | rw [sl_eq _ (by simp only [Array.size_setIfInBounds, bs]; decide)]
theorem t11_nil (A : Act) (w : World) (Q : Exit → Act → World → Prop) (wx : World) (k n cap ba oa bh bz b7 : Nat) (id : Int) (row : Value) 
    (L : LF A (.slice (some ⟨ba, oa, none⟩) n cap) id b7 bh bz)
    (hl : ([] : List Thg).length ≤ 1000)
    (HI : Inv3 wx (fun _ => False) (.pointer (some ⟨bh, 0, none⟩)) ([] : List Thg) (.pointer (some ⟨bz, 0, none⟩)) ([] : List Thg) row ([] : List Thg) w)
    (hQ : ∀ A' w' b15, Near 14 A A' → sl A'.tmps 14 = .int .i64 0 → sl A'.tmps 15 = .pointer (some ⟨b15, 0, none⟩) → sl A'.tmps 16 = .bool false → w'.heap[b15]? = some (.cells #[.int .i64 0, .int .i64 0, .int .i64 0] 24 (0, 0)) → Inv3 wx (fun q => q = b15) (.pointer (some ⟨bh, 0, none⟩)) ([] : List Thg) (.pointer (some ⟨bz, 0, none⟩)) ([] : List Thg) row ([] : List Thg) w' → Q .normal A' w') :
    Code.wp Try.prog (hpR 11) Q A w := by
  have TP := itop_h (by omega) HI
  unfold topT V3.val zero3 at TP
  replace TP := Lib.hid TP
  have HL0 := Lib.hid L
  obtain ⟨bs, bd, l0, l1, l7, l9, l10⟩ := L
  have f0 := sl_get l0
  have f1 := sl_get l1
  have f9 := sl_get l9
  have f10 := sl_get l10
  have HQ := Lib.hid hQ
  clear hQ l0 l1 l7 l9 l10
  clear HI
  conv => arg 2; whnf
  go_wp2_with fail
  refine TP.out.mono ?_; rintro e w3 ⟨rfl, hI3⟩
  have HI4 := Lib.hid ((hI3.box (.cells #[.int .i64 0, .int .i64 0, .int .i64 0] 24)).less (G' := fun q => q = w3.heap.size) (fun q hq => Or.inr hq))
  have H15 := Lib.hid (blk_new w3 (.cells #[.int .i64 0, .int .i64 0, .int .i64 0] 24))
  clear hI3 TP
  go_wp2_with fail
  refine HQ.out _ _ w3.heap.size ⟨?_, ?_, fun i hi => ?_⟩ ?_ ?_ ?_ H15.out HI4.out
  · try simp only [put_tmps]
    simp only [Array.size_setIfInBounds, bs]
  · first | (simp only [put_defers, bd]; done) | exact bd | rfl
  · try simp only [put_tmps]
    repeat rw [sl_ne _ (by omega)]
  · try simp only [put_tmps]
    repeat first | rw [sl_ne _ (by decide)] | rw [sl_eq _ (by simp only [Array.size_setIfInBounds, bs]; decide)]
  · try simp only [put_tmps]
    repeat first | rw [sl_ne _ (by decide)] | rw [sl_eq _ (by simp only [Array.size_setIfInBounds, bs]; decide)]
  · try simp only [put_tmps]
    repeat first | rw [sl_ne _ (by decide)] | rw [sl_eq _ (by simp only [Array.size_setIfInBounds, bs]; decide)]
theorem t13_nil (A : Act) (w : World) (Q : Exit → Act → World → Prop) (wx : World) (k n cap ba oa bh bz b7 : Nat) (id : Int) (row : Value) (b15 : Nat) 
    (L : LF A (.slice (some ⟨ba, oa, none⟩) n cap) id b7 bh bz)
    (f15 : sl A.tmps 15 = .pointer (some ⟨b15, 0, none⟩)) (hl : ([] : List Thg).length ≤ 1000)
    (h15 : w.heap[b15]? = some (.cells #[.int .i64 0, .int .i64 0, .int .i64 0] 24 (0, 0)))
    (HI : Inv3 wx (fun q => q = b15) (.pointer (some ⟨bh, 0, none⟩)) ([] : List Thg) (.pointer (some ⟨bz, 0, none⟩)) ([] : List Thg) row ([] : List Thg) w)
    (hQ : ∀ A' w', Near 14 A A' → sl A'.tmps 14 = .int .i64 0 → sl A'.tmps 15 = .pointer (some ⟨b15, 0, none⟩) → sl A'.tmps 16 = .bool false → w'.heap[b15]? = some (.cells #[.int .i64 0, .int .i64 0, .int .i64 0] 24 (0, 0)) → Inv3 wx (fun q => q = b15) (.pointer (some ⟨bh, 0, none⟩)) ([] : List Thg).tail (.pointer (some ⟨bz, 0, none⟩)) ([] : List Thg) row ([] : List Thg) w' → Q .normal A' w') :
    Code.wp Try.prog (hpR 13) Q A w := by
  have TH := stay_take_h (by omega) HI
  unfold topT V3.val zero3 at TH
  replace TH := Lib.hid TH
  have H15 := Lib.hid h15
  have HK := Lib.hid f15
  replace f15 := sl_get f15
  have HL0 := Lib.hid L
  obtain ⟨bs, bd, l0, l1, l7, l9, l10⟩ := L
  have f0 := sl_get l0
  have f1 := sl_get l1
  have f9 := sl_get l9
  have f10 := sl_get l10
  have HQ := Lib.hid hQ
  clear hQ l0 l1 l7 l9 l10
  clear HI h15
  conv => arg 2; whnf
  go_wp2_with fail
  refine TH.out.mono ?_; rintro e w4 ⟨rfl, hI4, hs4⟩
  have h154 := (hs4 b15 rfl).trans H15.out
  obtain ⟨c0, c1, c2⟩ := kb_cells (v := zero3) h154
  obtain ⟨g0, g1, g2⟩ := kb_free h154
  have HI5 := Lib.hid (hI4.setK (b := b15) rfl zero3)
  have H155 := Lib.hid (setK_blk (u := zero3) (v := zero3) h154)
  unfold setK zero3 at HI5 H155
  try dsimp only at HI5 H155 c0 c1 c2
  clear hI4 hs4 h154 TH H15
  go_wp2_with fail
  refine HQ.out _ _ ⟨?_, ?_, fun i hi => ?_⟩ ?_ ?_ ?_ H155.out HI5.out
  · try simp only [put_tmps]
    simp only [Array.size_setIfInBounds, bs]
  · first | (simp only [put_defers, bd]; done) | exact bd | rfl
  · try simp only [put_tmps]
    repeat rw [sl_ne _ (by omega)]
  · try simp only [put_tmps]
    repeat first | rw [sl_ne _ (by decide)] | rw [sl_eq _ (by simp only [Array.size_setIfInBounds, bs]; decide)]
  · try simp only [put_tmps]
    repeat rw [sl_ne _ (by decide)]
    exact HK.out
  · try simp only [put_tmps]
    repeat first | rw [sl_ne _ (by decide)] | rw [sl_eq _ (by simp only [Array.size_setIfInBounds, bs]; decide)]
theorem t14_nil (A : Act) (w : World) (Q : Exit → Act → World → Prop) (wx : World) (k n cap ba oa bh bz b7 : Nat) (id : Int) (row : Value) (b15 : Nat) 
    (L : LF A (.slice (some ⟨ba, oa, none⟩) n cap) id b7 bh bz) (l1 : List Thg)
    (hl : ([] : List Thg).length ≤ 1000)
    (h15 : w.heap[b15]? = some (.cells #[.int .i64 0, .int .i64 0, .int .i64 0] 24 (0, 0)))
    (HI : Inv3 wx (fun q => q = b15) (.pointer (some ⟨bh, 0, none⟩)) l1 (.pointer (some ⟨bz, 0, none⟩)) ([] : List Thg) row ([] : List Thg) w)
    (hQ : ∀ A' w', Near 88 A A' → w'.heap[b15]? = some (.cells #[.int .i64 0, .int .i64 0, .int .i64 0] 24 (0, 0)) → Inv3 wx (fun q => q = b15) (.pointer (some ⟨bh, 0, none⟩)) l1 (.pointer (some ⟨bz, 0, none⟩)) ([] : List Thg).tail row ([] : List Thg) w' → Q .normal A' w') :
    Code.wp Try.prog (hpR 14) Q A w := by
  have TH := stay_take_z (by omega) HI
  unfold topT V3.val zero3 at TH
  replace TH := Lib.hid TH
  have H15 := Lib.hid h15
  have HL0 := Lib.hid L
  obtain ⟨bs, bd, l0, l1, l7, l9, l10⟩ := L
  have f0 := sl_get l0
  have f1 := sl_get l1
  have f9 := sl_get l9
  have f10 := sl_get l10
  have HQ := Lib.hid hQ
  clear hQ l0 l1 l7 l9 l10
  clear HI h15
  conv => arg 2; whnf
  go_wp2_with fail
  refine TH.out.mono ?_; rintro e w4 ⟨rfl, hI4, hs4⟩
  have H155 := Lib.hid ((hs4 b15 rfl).trans H15.out)
  have HI5 := Lib.hid hI4
  clear hI4 hs4 TH H15
  go_wp2_with fail
  refine HQ.out _ _ ⟨?_, ?_, fun i hi => ?_⟩ H155.out HI5.out
  · try simp only [put_tmps]
    simp only [Array.size_setIfInBounds, bs]
  · first | (simp only [put_defers, bd]; done) | exact bd | rfl
  · try simp only [put_tmps]
    repeat rw [sl_ne _ (by omega)]
theorem t11_cons (A : Act) (w : World) (Q : Exit → Act → World → Prop) (wx : World) (k n cap ba oa bh bz b7 : Nat) (id : Int) (row : Value) (t : Thg) (r : List Thg)
    (L : LF A (.slice (some ⟨ba, oa, none⟩) n cap) id b7 bh bz)
    (hl : (t :: r).length ≤ 1000)
    (HI : Inv3 wx (fun _ => False) (.pointer (some ⟨bh, 0, none⟩)) (t :: r) (.pointer (some ⟨bz, 0, none⟩)) (t :: r) row (t :: r) w)
    (hQ : ∀ A' w' b15, Near 14 A A' → sl A'.tmps 14 = .int .i64 t.id → sl A'.tmps 15 = .pointer (some ⟨b15, 0, none⟩) → sl A'.tmps 16 = .bool true → w'.heap[b15]? = some (.cells #[.int .i64 t.key.a, .int .i64 t.key.b, .int .i64 t.key.c] 24 (0, 0)) → Inv3 wx (fun q => q = b15) (.pointer (some ⟨bh, 0, none⟩)) (t :: r) (.pointer (some ⟨bz, 0, none⟩)) (t :: r) row (t :: r) w' → Q .normal A' w') :
    Code.wp Try.prog (hpR 11) Q A w := by
  have TP := itop_h (by omega) HI
  unfold topT V3.val at TP
  replace TP := Lib.hid TP
  have HL0 := Lib.hid L
  obtain ⟨bs, bd, l0, l1, l7, l9, l10⟩ := L
  have f0 := sl_get l0
  have f1 := sl_get l1
  have f9 := sl_get l9
  have f10 := sl_get l10
  have HQ := Lib.hid hQ
  clear hQ l0 l1 l7 l9 l10
  clear HI
  conv => arg 2; whnf
  go_wp2_with fail
  refine TP.out.mono ?_; rintro e w3 ⟨rfl, hI3⟩
  have HI4 := Lib.hid ((hI3.box (.cells #[.int .i64 t.key.a, .int .i64 t.key.b, .int .i64 t.key.c] 24)).less (G' := fun q => q = w3.heap.size) (fun q hq => Or.inr hq))
  have H15 := Lib.hid (blk_new w3 (.cells #[.int .i64 t.key.a, .int .i64 t.key.b, .int .i64 t.key.c] 24))
  clear hI3 TP
  go_wp2_with fail
  refine HQ.out _ _ w3.heap.size ⟨?_, ?_, fun i hi => ?_⟩ ?_ ?_ ?_ H15.out HI4.out
  · try simp only [put_tmps]
    simp only [Array.size_setIfInBounds, bs]
  · first | (simp only [put_defers, bd]; done) | exact bd | rfl
  · try simp only [put_tmps]
    repeat rw [sl_ne _ (by omega)]
  · try simp only [put_tmps]
    repeat first | rw [sl_ne _ (by decide)] | rw [sl_eq _ (by simp only [Array.size_setIfInBounds, bs]; decide)]
  · try simp only [put_tmps]
    repeat first | rw [sl_ne _ (by decide)] | rw [sl_eq _ (by simp only [Array.size_setIfInBounds, bs]; decide)]
  · try simp only [put_tmps]
    repeat first | rw [sl_ne _ (by decide)] | rw [sl_eq _ (by simp only [Array.size_setIfInBounds, bs]; decide)]
theorem t13_cons (A : Act) (w : World) (Q : Exit → Act → World → Prop) (wx : World) (k n cap ba oa bh bz b7 : Nat) (id : Int) (row : Value) (b15 : Nat) (t : Thg) (r : List Thg)
    (L : LF A (.slice (some ⟨ba, oa, none⟩) n cap) id b7 bh bz)
    (f15 : sl A.tmps 15 = .pointer (some ⟨b15, 0, none⟩)) (hl : (t :: r).length ≤ 1000)
    (h15 : w.heap[b15]? = some (.cells #[.int .i64 t.key.a, .int .i64 t.key.b, .int .i64 t.key.c] 24 (0, 0)))
    (HI : Inv3 wx (fun q => q = b15) (.pointer (some ⟨bh, 0, none⟩)) (t :: r) (.pointer (some ⟨bz, 0, none⟩)) (t :: r) row (t :: r) w)
    (hQ : ∀ A' w', Near 14 A A' → sl A'.tmps 14 = .int .i64 t.id → sl A'.tmps 15 = .pointer (some ⟨b15, 0, none⟩) → sl A'.tmps 16 = .bool true → w'.heap[b15]? = some (.cells #[.int .i64 t.key.a, .int .i64 t.key.b, .int .i64 t.key.c] 24 (0, 0)) → Inv3 wx (fun q => q = b15) (.pointer (some ⟨bh, 0, none⟩)) (t :: r).tail (.pointer (some ⟨bz, 0, none⟩)) (t :: r) row (t :: r) w' → Q .normal A' w') :
    Code.wp Try.prog (hpR 13) Q A w := by
  have TH := stay_take_h (by omega) HI
  unfold topT V3.val at TH
  replace TH := Lib.hid TH
  have H15 := Lib.hid h15
  have HK := Lib.hid f15
  replace f15 := sl_get f15
  have HL0 := Lib.hid L
  obtain ⟨bs, bd, l0, l1, l7, l9, l10⟩ := L
  have f0 := sl_get l0
  have f1 := sl_get l1
  have f9 := sl_get l9
  have f10 := sl_get l10
  have HQ := Lib.hid hQ
  clear hQ l0 l1 l7 l9 l10
  clear HI h15
  conv => arg 2; whnf
  go_wp2_with fail
  refine TH.out.mono ?_; rintro e w4 ⟨rfl, hI4, hs4⟩
  have h154 := (hs4 b15 rfl).trans H15.out
  obtain ⟨c0, c1, c2⟩ := kb_cells (v := t.key) h154
  obtain ⟨g0, g1, g2⟩ := kb_free h154
  have HI5 := Lib.hid (hI4.setK (b := b15) rfl t.key)
  have H155 := Lib.hid (setK_blk (u := t.key) (v := t.key) h154)
  unfold setK at HI5 H155
  try dsimp only at HI5 H155 c0 c1 c2
  clear hI4 hs4 h154 TH H15
  go_wp2_with fail
  refine HQ.out _ _ ⟨?_, ?_, fun i hi => ?_⟩ ?_ ?_ ?_ H155.out HI5.out
  · try simp only [put_tmps]
    simp only [Array.size_setIfInBounds, bs]
  · first | (simp only [put_defers, bd]; done) | exact bd | rfl
  · try simp only [put_tmps]
    repeat rw [sl_ne _ (by omega)]
  · try simp only [put_tmps]
    repeat first | rw [sl_ne _ (by decide)] | rw [sl_eq _ (by simp only [Array.size_setIfInBounds, bs]; decide)]
  · try simp only [put_tmps]
    repeat rw [sl_ne _ (by decide)]
    exact HK.out
  · try simp only [put_tmps]
    repeat first | rw [sl_ne _ (by decide)] | rw [sl_eq _ (by simp only [Array.size_setIfInBounds, bs]; decide)]
theorem t14_cons (A : Act) (w : World) (Q : Exit → Act → World → Prop) (wx : World) (k n cap ba oa bh bz b7 : Nat) (id : Int) (row : Value) (b15 : Nat) (t : Thg) (r : List Thg)
    (L : LF A (.slice (some ⟨ba, oa, none⟩) n cap) id b7 bh bz) (l1 : List Thg)
    (hl : (t :: r).length ≤ 1000)
    (h15 : w.heap[b15]? = some (.cells #[.int .i64 t.key.a, .int .i64 t.key.b, .int .i64 t.key.c] 24 (0, 0)))
    (HI : Inv3 wx (fun q => q = b15) (.pointer (some ⟨bh, 0, none⟩)) l1 (.pointer (some ⟨bz, 0, none⟩)) (t :: r) row (t :: r) w)
    (hQ : ∀ A' w', Near 88 A A' → w'.heap[b15]? = some (.cells #[.int .i64 t.key.a, .int .i64 t.key.b, .int .i64 t.key.c] 24 (0, 0)) → Inv3 wx (fun q => q = b15) (.pointer (some ⟨bh, 0, none⟩)) l1 (.pointer (some ⟨bz, 0, none⟩)) (t :: r).tail row (t :: r) w' → Q .normal A' w') :
    Code.wp Try.prog (hpR 14) Q A w := by
  have TH := stay_take_z (by omega) HI
  unfold topT V3.val at TH
  replace TH := Lib.hid TH
  have H15 := Lib.hid h15
  have HL0 := Lib.hid L
  obtain ⟨bs, bd, l0, l1, l7, l9, l10⟩ := L
  have f0 := sl_get l0
  have f1 := sl_get l1
  have f9 := sl_get l9
  have f10 := sl_get l10
  have HQ := Lib.hid hQ
  clear hQ l0 l1 l7 l9 l10
  clear HI h15
  conv => arg 2; whnf
  go_wp2_with fail
  refine TH.out.mono ?_; rintro e w4 ⟨rfl, hI4, hs4⟩
  have H155 := Lib.hid ((hs4 b15 rfl).trans H15.out)
  have HI5 := Lib.hid hI4
  clear hI4 hs4 TH H15
  go_wp2_with fail
  refine HQ.out _ _ ⟨?_, ?_, fun i hi => ?_⟩ H155.out HI5.out
  · try simp only [put_tmps]
    simp only [Array.size_setIfInBounds, bs]
  · first | (simp only [put_defers, bd]; done) | exact bd | rfl
  · try simp only [put_tmps]
    repeat rw [sl_ne _ (by omega)]
theorem t12 (A : Act) (w : World) (Q : Exit → Act → World → Prop) (wx : World) (k n cap ba oa bh bz b7 : Nat) (id : Int) (b : Bool) (act : ActH) (hlt : k < n) (hn : n ≤ 120) (HC : ActAt wx ba oa k act) (hk : (act.kind == 3) = b)
    (L : LF A (.slice (some ⟨ba, oa, none⟩) n cap) id b7 bh bz)
    (f12 : sl A.tmps 12 = .int .i64 k)
    (hb : Below wx.heap.size wx w)
    (hQ : ∀ A', Near 76 A A' → sl A'.tmps 81 = .bool b → Q .normal A' w) :
    Code.wp Try.prog (hpR 12) Q A w := by
  obtain ⟨p0, p1, p2, p3, p4⟩ := HC w hb
  have HL0 := Lib.hid L
  obtain ⟨bs, bd, l0, l1, l7, l9, l10⟩ := L
  have f0 := sl_get l0
  have f1 := sl_get l1
  have f9 := sl_get l9
  have f10 := sl_get l10
  replace f12 := sl_get f12
  have HQ := Lib.hid hQ
  clear hQ l0 l1 l7 l9 l10
  clear HC
  conv => arg 2; whnf
  go_wp2_with fail
  refine HQ.out _ ⟨?_, ?_, fun i hi => ?_⟩ ?_
  · try simp only [put_tmps]
    simp only [Array.size_setIfInBounds, bs]
  · first | (simp only [put_defers, bd]; done) | exact bd | rfl
  · try simp only [put_tmps]
    repeat rw [sl_ne _ (by omega)]
  · try simp only [put_tmps]
    repeat first | rw [sl_ne _ (by decide)] | rw [sl_eq _ (by simp only [Array.size_setIfInBounds, bs]; decide)]
theorem t17_t (A : Act) (w : World) (Q : Exit → Act → World → Prop) (wx : World) (k n cap ba oa bh bz b7 : Nat) (id : Int) (ok : Bool) (act : ActH) (hlt : k < n) (hn : n ≤ 120) (HC : ActAt wx ba oa k act) (hk : (act.kind == 3) = true)
    (L : LF A (.slice (some ⟨ba, oa, none⟩) n cap) id b7 bh bz)
    (f12 : sl A.tmps 12 = .int .i64 k) (f16 : sl A.tmps 16 = .bool ok)
    (hb : Below wx.heap.size wx w)
    (hQ : ∀ A', Near 127 A A' → sl A'.tmps 135 = .bool ok → Q .normal A' w) :
    Code.wp Try.prog (hpR 17) Q A w := by
  obtain ⟨p0, p1, p2, p3, p4⟩ := HC w hb
  have HL0 := Lib.hid L
  obtain ⟨bs, bd, l0, l1, l7, l9, l10⟩ := L
  have f0 := sl_get l0
  have f1 := sl_get l1
  have f9 := sl_get l9
  have f10 := sl_get l10
  replace f12 := sl_get f12
  replace f16 := sl_get f16
  have HQ := Lib.hid hQ
  clear hQ l0 l1 l7 l9 l10
  clear HC
  conv => arg 2; whnf
  go_wp2_with fail
  refine HQ.out _ ⟨?_, ?_, fun i hi => ?_⟩ ?_
  · try simp only [put_tmps]
    simp only [Array.size_setIfInBounds, bs]
  · first | (simp only [put_defers, bd]; done) | exact bd | rfl
  · try simp only [put_tmps]
    repeat rw [sl_ne _ (by omega)]
  · try simp only [put_tmps]
    repeat first | rw [sl_ne _ (by decide)] | rw [sl_eq _ (by simp only [Array.size_setIfInBounds, bs]; decide)]
theorem t17_f (A : Act) (w : World) (Q : Exit → Act → World → Prop) (wx : World) (k n cap ba oa bh bz b7 : Nat) (id : Int) (ok : Bool) (act : ActH) (hlt : k < n) (hn : n ≤ 120) (HC : ActAt wx ba oa k act) (hk : (act.kind == 3) = false)
    (L : LF A (.slice (some ⟨ba, oa, none⟩) n cap) id b7 bh bz)
    (f12 : sl A.tmps 12 = .int .i64 k) (f16 : sl A.tmps 16 = .bool ok)
    (hb : Below wx.heap.size wx w)
    (hQ : ∀ A', Near 127 A A' → sl A'.tmps 135 = .bool false → Q .normal A' w) :
    Code.wp Try.prog (hpR 17) Q A w := by
  obtain ⟨p0, p1, p2, p3, p4⟩ := HC w hb
  have HL0 := Lib.hid L
  obtain ⟨bs, bd, l0, l1, l7, l9, l10⟩ := L
  have f0 := sl_get l0
  have f1 := sl_get l1
  have f9 := sl_get l9
  have f10 := sl_get l10
  replace f12 := sl_get f12
  replace f16 := sl_get f16
  have HQ := Lib.hid hQ
  clear hQ l0 l1 l7 l9 l10
  clear HC
  conv => arg 2; whnf
  go_wp2_with fail
  refine HQ.out _ ⟨?_, ?_, fun i hi => ?_⟩ ?_
  · try simp only [put_tmps]
    simp only [Array.size_setIfInBounds, bs]
  · first | (simp only [put_defers, bd]; done) | exact bd | rfl
  · try simp only [put_tmps]
    repeat rw [sl_ne _ (by omega)]
  · try simp only [put_tmps]
    repeat first | rw [sl_ne _ (by decide)] | rw [sl_eq _ (by simp only [Array.size_setIfInBounds, bs]; decide)]
theorem t18 (A : Act) (w : World) (Q : Exit → Act → World → Prop) (wx : World) (k n cap ba oa bh bz b7 : Nat) (id : Int) (br or m c : Nat) (hm : 0 < m) (hmc : m ≤ c)
    (L : LF A (.slice (some ⟨ba, oa, none⟩) n cap) id b7 bh bz)
    (f11 : sl A.tmps 11 = .slice (some ⟨br, or, none⟩) m c) (f12 : sl A.tmps 12 = .int .i64 k)
    (hQ : ∀ A', Near 11 A A' → sl A'.tmps 12 = .int .i64 k → sl A'.tmps 11 = sliced (some ⟨br, or, none⟩) 1 m c 4 → Q .normal A' w) :
    Code.wp Try.prog (hpR 18) Q A w := by
  have HL0 := Lib.hid L
  obtain ⟨bs, bd, l0, l1, l7, l9, l10⟩ := L
  have f0 := sl_get l0
  have f1 := sl_get l1
  have f9 := sl_get l9
  have f10 := sl_get l10
  have HK := Lib.hid f12
  replace f11 := sl_get f11
  replace f12 := sl_get f12
  have HQ := Lib.hid hQ
  clear hQ l0 l1 l7 l9 l10
  conv => arg 2; whnf
  go_wp2_with fail
  all_goals
    refine HQ.out _ ⟨?_, ?_, fun i hi => ?_⟩ ?_ ?_
    · try simp only [put_tmps]
      simp only [Array.size_setIfInBounds, bs]
    · first | (simp only [put_defers, bd]; done) | exact bd | rfl
    · try simp only [put_tmps]
      repeat rw [sl_ne _ (by omega)]
    · try simp only [put_tmps]
      repeat rw [sl_ne _ (by decide)]
      exact HK.out
    · try simp only [put_tmps]
      first
      | (rw [sl_eq _ (by simp only [Array.size_setIfInBounds, bs]; decide)]; done)
      | (rw [sl_eq _ (by simp only [Array.size_setIfInBounds, bs]; decide)]; unfold sliced Addr.add; simp_all; done)
theorem t27_none (A : Act) (w : World) (Q : Exit → Act → World → Prop) (wx : World) (k n cap ba oa bh bz b7 : Nat) (id : Int) (row : Value) (l : List Thg) (hid : inI id)
    (L : LF A (.slice (some ⟨ba, oa, none⟩) n cap) id b7 bh bz)
    (hl : l.length ≤ 1000) (hi : (findT l id).isSome = false) (hk : keyT l id = zero3)
    (HI : Inv3 wx (fun _ => False) (.pointer (some ⟨bh, 0, none⟩)) l (.pointer (some ⟨bz, 0, none⟩)) l row l w)
    (hQ : ∀ A' w' b17, Near 17 A A' → sl A'.tmps 17 = .pointer (some ⟨b17, 0, none⟩) → sl A'.tmps 18 = .bool false → w'.heap[b17]? = some (.cells #[.int .i64 0, .int .i64 0, .int .i64 0] 24 (0, 0)) → Inv3 wx (fun _ => False) (.pointer (some ⟨bh, 0, none⟩)) l (.pointer (some ⟨bz, 0, none⟩)) l row l w' → Q .normal A' w') :
    Code.wp Try.prog (hpR 27) Q A w := by
  have TP := ikey_h id hid (by omega) HI
  rw [hi, hk] at TP
  unfold V3.val zero3 at TP
  replace TP := Lib.hid TP
  have HL0 := Lib.hid L
  obtain ⟨bs, bd, l0, l1, l7, l9, l10⟩ := L
  have f0 := sl_get l0
  have f1 := sl_get l1
  have f9 := sl_get l9
  have f10 := sl_get l10
  have HQ := Lib.hid hQ
  clear hQ l0 l1 l7 l9 l10
  clear HI hi hk
  conv => arg 2; whnf
  go_wp2_with fail
  refine TP.out.mono ?_; rintro e w3 ⟨rfl, hI3⟩
  have HI4 := Lib.hid (hI3.below ((Below.refl _ _).alloc (Nat.le_refl _) (.cells #[.int .i64 0, .int .i64 0, .int .i64 0] 24)))
  have H17 := Lib.hid (blk_new w3 (.cells #[.int .i64 0, .int .i64 0, .int .i64 0] 24))
  clear hI3 TP
  go_wp2_with fail
  refine HQ.out _ _ w3.heap.size ⟨?_, ?_, fun i hi => ?_⟩ ?_ ?_ H17.out HI4.out
  · try simp only [put_tmps]
    simp only [Array.size_setIfInBounds, bs]
  · first | (simp only [put_defers, bd]; done) | exact bd | rfl
  · try simp only [put_tmps]
    repeat rw [sl_ne _ (by omega)]
  · try simp only [put_tmps]
    repeat first | rw [sl_ne _ (by decide)] | rw [sl_eq _ (by simp only [Array.size_setIfInBounds, bs]; decide)]
  · try simp only [put_tmps]
    repeat first | rw [sl_ne _ (by decide)] | rw [sl_eq _ (by simp only [Array.size_setIfInBounds, bs]; decide)]
theorem t27_some (A : Act) (w : World) (Q : Exit → Act → World → Prop) (wx : World) (k n cap ba oa bh bz b7 : Nat) (id : Int) (row : Value) (l : List Thg) (hid : inI id) (K : V3)
    (L : LF A (.slice (some ⟨ba, oa, none⟩) n cap) id b7 bh bz)
    (hl : l.length ≤ 1000) (hi : (findT l id).isSome = true) (hk : keyT l id = K)
    (HI : Inv3 wx (fun _ => False) (.pointer (some ⟨bh, 0, none⟩)) l (.pointer (some ⟨bz, 0, none⟩)) l row l w)
    (hQ : ∀ A' w' b17, Near 17 A A' → sl A'.tmps 17 = .pointer (some ⟨b17, 0, none⟩) → sl A'.tmps 18 = .bool true → w'.heap[b17]? = some (.cells #[.int .i64 K.a, .int .i64 K.b, .int .i64 K.c] 24 (0, 0)) → Inv3 wx (fun _ => False) (.pointer (some ⟨bh, 0, none⟩)) l (.pointer (some ⟨bz, 0, none⟩)) l row l w' → Q .normal A' w') :
    Code.wp Try.prog (hpR 27) Q A w := by
  have TP := ikey_h id hid (by omega) HI
  rw [hi, hk] at TP
  unfold V3.val at TP
  replace TP := Lib.hid TP
  have HL0 := Lib.hid L
  obtain ⟨bs, bd, l0, l1, l7, l9, l10⟩ := L
  have f0 := sl_get l0
  have f1 := sl_get l1
  have f9 := sl_get l9
  have f10 := sl_get l10
  have HQ := Lib.hid hQ
  clear hQ l0 l1 l7 l9 l10
  clear HI hi hk
  conv => arg 2; whnf
  go_wp2_with fail
  refine TP.out.mono ?_; rintro e w3 ⟨rfl, hI3⟩
  have HI4 := Lib.hid (hI3.below ((Below.refl _ _).alloc (Nat.le_refl _) (.cells #[.int .i64 K.a, .int .i64 K.b, .int .i64 K.c] 24)))
  have H17 := Lib.hid (blk_new w3 (.cells #[.int .i64 K.a, .int .i64 K.b, .int .i64 K.c] 24))
  clear hI3 TP
  go_wp2_with fail
  refine HQ.out _ _ w3.heap.size ⟨?_, ?_, fun i hi => ?_⟩ ?_ ?_ H17.out HI4.out
  · try simp only [put_tmps]
    simp only [Array.size_setIfInBounds, bs]
  · first | (simp only [put_defers, bd]; done) | exact bd | rfl
  · try simp only [put_tmps]
    repeat rw [sl_ne _ (by omega)]
  · try simp only [put_tmps]
    repeat first | rw [sl_ne _ (by decide)] | rw [sl_eq _ (by simp only [Array.size_setIfInBounds, bs]; decide)]
  · try simp only [put_tmps]
    repeat first | rw [sl_ne _ (by decide)] | rw [sl_eq _ (by simp only [Array.size_setIfInBounds, bs]; decide)]
theorem t28 (A : Act) (w : World) (Q : Exit → Act → World → Prop) (wx : World) (k n cap ba oa bh bz b7 : Nat) (id : Int) (row : Value) (l : List Thg)
    (L : LF A (.slice (some ⟨ba, oa, none⟩) n cap) id b7 bh bz)
    (f11 : sl A.tmps 11 = row) (hl : l.length ≤ 1000)
    (HI : Inv3 wx (fun _ => False) (.pointer (some ⟨bh, 0, none⟩)) l (.pointer (some ⟨bz, 0, none⟩)) l row l w)
    (hQ : ∀ A', Near 19 A A' → sl A'.tmps 19 = .int .i64 (idxI (findT l id)) → Q .normal A' w) :
    Code.wp Try.prog (hpR 28) Q A w := by
  have FD := Lib.hid (ifind id (by omega) HI)
  have HL0 := Lib.hid L
  obtain ⟨bs, bd, l0, l1, l7, l9, l10⟩ := L
  have f0 := sl_get l0
  have f1 := sl_get l1
  have f9 := sl_get l9
  have f10 := sl_get l10
  replace f11 := sl_get f11
  have HQ := Lib.hid hQ
  clear hQ l0 l1 l7 l9 l10
  clear HI
  conv => arg 2; whnf
  go_wp2_with fail
  refine FD.out.mono ?_; rintro e w2 ⟨rfl, rfl⟩
  go_wp2_with fail
  refine HQ.out _ ⟨?_, ?_, fun i hi => ?_⟩ ?_
  · try simp only [put_tmps]
    simp only [Array.size_setIfInBounds, bs]
  · first | (simp only [put_defers, bd]; done) | exact bd | rfl
  · try simp only [put_tmps]
    repeat rw [sl_ne _ (by omega)]
  · try simp only [put_tmps]
    repeat first | rw [sl_ne _ (by decide)] | rw [sl_eq _ (by simp only [Array.size_setIfInBounds, bs]; decide)]
theorem t8 (A : Act) (w : World) (Q : Exit → Act → World → Prop) (k : Nat) (hk : k < 1000)
    (bs : A.tmps.size = 317) (bd : A.defers = []) (f12 : sl A.tmps 12 = .int .i64 k)
    (hQ : ∀ A', Near 12 A A' → sl A'.tmps 12 = .int .i64 ((k + 1 : Nat) : Int) → Q .normal A' w) :
    Code.wp Try.prog (hpR 8) Q A w := by
  replace f12 := sl_get f12
  have q3 : IntKind.i64.wrap ((k : Int) + 1) = ((k + 1 : Nat) : Int) := by rw [IntWalk.i64_in _ (by omega)]; omega
  have HQ := Lib.hid hQ
  clear hQ
  conv => arg 2; whnf
  go_wp2_with fail
  refine HQ.out _ ⟨?_, ?_, fun i hi => ?_⟩ ?_
  · try simp only [put_tmps]
    simp only [Array.size_setIfInBounds, bs]
  · first | (simp only [put_defers, bd]; done) | exact bd | rfl
  · try simp only [put_tmps]
    repeat rw [sl_ne _ (by omega)]
  · try simp only [put_tmps]
    repeat first | rw [sl_ne _ (by decide)] | rw [sl_eq _ (by simp only [Array.size_setIfInBounds, bs]; decide)]
    rfl
theorem t7f (A : Act) (w : World) (Q : Exit → Act → World → Prop) (wx : World) (k n cap ba oa bh bz b7 : Nat) (id : Int) (a0 : Option Addr) (dk : decide (k < n) = false)
    (L : LF A (.slice a0 n cap) id b7 bh bz)
    (f12 : sl A.tmps 12 = .int .i64 k)
    (hQ : ∀ A', Near 52 A A' → sl A'.tmps 55 = .bool false → Q .normal A' w) :
    Code.wp Try.prog (hpR 7) Q A w := by
  have HL0 := Lib.hid L
  obtain ⟨bs, bd, l0, l1, l7, l9, l10⟩ := L
  have f0 := sl_get l0
  have f1 := sl_get l1
  have f9 := sl_get l9
  have f10 := sl_get l10
  replace f12 := sl_get f12
  have HQ := Lib.hid hQ
  clear hQ l0 l1 l7 l9 l10
  conv => arg 2; whnf
  go_wp2_with fail
  refine HQ.out _ ⟨?_, ?_, fun i hi => ?_⟩ ?_
  · try simp only [put_tmps]
    simp only [Array.size_setIfInBounds, bs]
  · first | (simp only [put_defers, bd]; done) | exact bd | rfl
  · try simp only [put_tmps]
    repeat rw [sl_ne _ (by omega)]
  · try simp only [put_tmps]
    repeat first | rw [sl_ne _ (by decide)] | rw [sl_eq _ (by simp only [Array.size_setIfInBounds, bs]; decide)]
theorem t7t (A : Act) (w : World) (Q : Exit → Act → World → Prop) (wx : World) (k n cap ba oa bh bz b7 : Nat) (id : Int) (a0 : Option Addr) (dk : decide (k < n) = true)
    (L : LF A (.slice a0 n cap) id b7 bh bz)
    (f12 : sl A.tmps 12 = .int .i64 k)
    (hQ : ∀ A', Near 52 A A' → sl A'.tmps 55 = .bool true → Q .normal A' w) :
    Code.wp Try.prog (hpR 7) Q A w := by
  have HL0 := Lib.hid L
  obtain ⟨bs, bd, l0, l1, l7, l9, l10⟩ := L
  have f0 := sl_get l0
  have f1 := sl_get l1
  have f9 := sl_get l9
  have f10 := sl_get l10
  replace f12 := sl_get f12
  have HQ := Lib.hid hQ
  clear hQ l0 l1 l7 l9 l10
  conv => arg 2; whnf
  go_wp2_with fail
  refine HQ.out _ ⟨?_, ?_, fun i hi => ?_⟩ ?_
  · try simp only [put_tmps]
    simp only [Array.size_setIfInBounds, bs]
  · first | (simp only [put_defers, bd]; done) | exact bd | rfl
  · try simp only [put_tmps]
    repeat rw [sl_ne _ (by omega)]
  · try simp only [put_tmps]
    repeat first | rw [sl_ne _ (by decide)] | rw [sl_eq _ (by simp only [Array.size_setIfInBounds, bs]; decide)]
end Go.Proofs.Ytfknmokidjgeiaa
