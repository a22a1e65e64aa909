/- The regions of Due, a lemma each, the frame a variable. Conditions: as stated. -/
import Derived.Test.YtdlkpkigpnlanaaBduA
namespace Go.Proofs.Ytdlkpkigpnlanaa
open Go.ChangeShapes Go.WideShapes Go.ChangeAt Go.RowKit
set_option linter.unusedVariables false
set_option maxRecDepth 100000
set_option linter.unusedSimpArgs false
set_option maxHeartbeats 4000000

theorem d3t (A : Act) (w : World) (Q : Exit → Act → World → Prop) (k : Nat) (hd : decide (k < 16) = true) (bs : A.tmps.size = 73) (bd : A.defers = []) (f7 : sl A.tmps 7 = .int .i64 k)
    (hQ : ∀ A', NearU 10 10 10 A A' → sl A'.tmps 11 = .bool true → Q .normal A' w) :
    Code.wp Try.prog (duR 3) Q A w := by
  have hd2 : decide ((k : Int) < 16) = true := by rw [← hd]; exact decide_eq_decide.2 (by omega)
  replace f7 := sl_get f7
  have HQ := Lib.hid hQ
  clear hQ
  conv => arg 2; whnf
  go_wp2_with fail
  refine HQ.out _ ⟨?_, ?_, fun i hi he => ?_⟩ ?_ 
  · try simp only [put_tmps]
    simp only [Array.size_setIfInBounds, bs]
  · first | (simp only [put_defers, bd]; done) | exact bd | rfl
  · try simp only [put_tmps]
    repeat rw [sl_ne _ (by omega)]
  · try simp only [put_tmps]
    repeat first | rw [sl_ne _ (by decide)] | rw [sl_eq _ (by simp only [Array.size_setIfInBounds, bs]; decide)]
    try exact sl_of (by rw [bs]; decide) (by assumption)
theorem d7t (A : Act) (w : World) (Q : Exit → Act → World → Prop) (wL : World) (K : Nat → Prop) (s : Int) (v6 : Value) (od : List Bt) (A0 : Option Addr) (c : Nat) (l : List Bt) (hl : l.length ≤ 100000) (now : Int) (L : LDu A now wL.heap.size) (HI : DS wL K s v6 od (.slice A0 l.length c) l w) (i : Nat) (hd : decide (i < l.length) = true) (f9 : sl A.tmps 9 = .int .i64 i)
    (hQ : ∀ A', NearU 10 10 10 A A' → sl A'.tmps 18 = .bool true → Q .normal A' w) :
    Code.wp Try.prog (duR 7) Q A w := by
  have hd2 : decide ((i : Int) < (l.length : Int)) = true := by rw [← hd]; exact decide_eq_decide.2 (by omega)
  obtain ⟨y0, y1, yf1, z0, z1, zf0, zf1⟩ := TR.cells HI.tr
  clear HI
  obtain ⟨bs, bd, l1, l2, l4⟩ := L
  have f1 := sl_get l1
  have f2 := sl_get l2
  have f4 := sl_get l4
  clear l1 l2 l4
  replace f9 := sl_get f9
  have HQ := Lib.hid hQ
  clear hQ
  conv => arg 2; whnf
  go_wp2_with fail
  refine HQ.out _ ⟨?_, ?_, fun i hi he => ?_⟩ ?_ 
  · try simp only [put_tmps]
    simp only [Array.size_setIfInBounds, bs]
  · first | (simp only [put_defers, bd]; done) | exact bd | rfl
  · try simp only [put_tmps]
    repeat rw [sl_ne _ (by omega)]
  · try simp only [put_tmps]
    repeat first | rw [sl_ne _ (by decide)] | rw [sl_eq _ (by simp only [Array.size_setIfInBounds, bs]; decide)]
    try exact sl_of (by rw [bs]; decide) (by assumption)
theorem d3f (A : Act) (w : World) (Q : Exit → Act → World → Prop) (k : Nat) (hd : decide (k < 16) = false) (bs : A.tmps.size = 73) (bd : A.defers = []) (f7 : sl A.tmps 7 = .int .i64 k)
    (hQ : ∀ A', NearU 10 10 10 A A' → sl A'.tmps 11 = .bool false → Q .normal A' w) :
    Code.wp Try.prog (duR 3) Q A w := by
  have hd2 : decide ((k : Int) < 16) = false := by rw [← hd]; exact decide_eq_decide.2 (by omega)
  replace f7 := sl_get f7
  have HQ := Lib.hid hQ
  clear hQ
  conv => arg 2; whnf
  go_wp2_with fail
  refine HQ.out _ ⟨?_, ?_, fun i hi he => ?_⟩ ?_ 
  · try simp only [put_tmps]
    simp only [Array.size_setIfInBounds, bs]
  · first | (simp only [put_defers, bd]; done) | exact bd | rfl
  · try simp only [put_tmps]
    repeat rw [sl_ne _ (by omega)]
  · try simp only [put_tmps]
    repeat first | rw [sl_ne _ (by decide)] | rw [sl_eq _ (by simp only [Array.size_setIfInBounds, bs]; decide)]
    try exact sl_of (by rw [bs]; decide) (by assumption)
theorem d7f (A : Act) (w : World) (Q : Exit → Act → World → Prop) (wL : World) (K : Nat → Prop) (s : Int) (v6 : Value) (od : List Bt) (A0 : Option Addr) (c : Nat) (l : List Bt) (hl : l.length ≤ 100000) (now : Int) (L : LDu A now wL.heap.size) (HI : DS wL K s v6 od (.slice A0 l.length c) l w) (i : Nat) (hd : decide (i < l.length) = false) (f9 : sl A.tmps 9 = .int .i64 i)
    (hQ : ∀ A', NearU 10 10 10 A A' → sl A'.tmps 18 = .bool false → Q .normal A' w) :
    Code.wp Try.prog (duR 7) Q A w := by
  have hd2 : decide ((i : Int) < (l.length : Int)) = false := by rw [← hd]; exact decide_eq_decide.2 (by omega)
  obtain ⟨y0, y1, yf1, z0, z1, zf0, zf1⟩ := TR.cells HI.tr
  clear HI
  obtain ⟨bs, bd, l1, l2, l4⟩ := L
  have f1 := sl_get l1
  have f2 := sl_get l2
  have f4 := sl_get l4
  clear l1 l2 l4
  replace f9 := sl_get f9
  have HQ := Lib.hid hQ
  clear hQ
  conv => arg 2; whnf
  go_wp2_with fail
  refine HQ.out _ ⟨?_, ?_, fun i hi he => ?_⟩ ?_ 
  · try simp only [put_tmps]
    simp only [Array.size_setIfInBounds, bs]
  · first | (simp only [put_defers, bd]; done) | exact bd | rfl
  · try simp only [put_tmps]
    repeat rw [sl_ne _ (by omega)]
  · try simp only [put_tmps]
    repeat first | rw [sl_ne _ (by decide)] | rw [sl_eq _ (by simp only [Array.size_setIfInBounds, bs]; decide)]
    try exact sl_of (by rw [bs]; decide) (by assumption)
theorem d4 (A : Act) (w : World) (Q : Exit → Act → World → Prop) (k : Nat) (hk : k ≤ 16) (bs : A.tmps.size = 73) (bd : A.defers = []) (f7 : sl A.tmps 7 = .int .i64 k)
    (hQ : ∀ A', NearU 10 7 8 A A' → sl A'.tmps 7 = .int .i64 ((k : Int) + 1) → Q .normal A' w) :
    Code.wp Try.prog (duR 4) Q A w := by
  have q3 : IntKind.i64.wrap ((k : Int) + 1) = (k : Int) + 1 := IntWalk.i64_in _ (by omega)
  replace f7 := sl_get f7
  have HQ := Lib.hid hQ
  clear hQ
  conv => arg 2; whnf
  go_wp2_with fail
  refine HQ.out _ ⟨?_, ?_, fun i hi he => ?_⟩ ?_ 
  · try simp only [put_tmps]
    simp only [Array.size_setIfInBounds, bs]
  · first | (simp only [put_defers, bd]; done) | exact bd | rfl
  · try simp only [put_tmps]
    repeat rw [sl_ne _ (by omega)]
  · try simp only [put_tmps]
    repeat first | rw [sl_ne _ (by decide)] | rw [sl_eq _ (by simp only [Array.size_setIfInBounds, bs]; decide)]
    try exact sl_of (by rw [bs]; decide) (by assumption)
theorem d8 (A : Act) (w : World) (Q : Exit → Act → World → Prop) (k : Nat) (hk : k ≤ 100000) (bs : A.tmps.size = 73) (bd : A.defers = []) (f9 : sl A.tmps 9 = .int .i64 k)
    (hQ : ∀ A', NearU 10 9 10 A A' → sl A'.tmps 9 = .int .i64 ((k : Int) + 1) → Q .normal A' w) :
    Code.wp Try.prog (duR 8) Q A w := by
  have q3 : IntKind.i64.wrap ((k : Int) + 1) = (k : Int) + 1 := IntWalk.i64_in _ (by omega)
  replace f9 := sl_get f9
  have HQ := Lib.hid hQ
  clear hQ
  conv => arg 2; whnf
  go_wp2_with fail
  refine HQ.out _ ⟨?_, ?_, fun i hi he => ?_⟩ ?_ 
  · try simp only [put_tmps]
    simp only [Array.size_setIfInBounds, bs]
  · first | (simp only [put_defers, bd]; done) | exact bd | rfl
  · try simp only [put_tmps]
    repeat rw [sl_ne _ (by omega)]
  · try simp only [put_tmps]
    repeat first | rw [sl_ne _ (by decide)] | rw [sl_eq _ (by simp only [Array.size_setIfInBounds, bs]; decide)]
    try exact sl_of (by rw [bs]; decide) (by assumption)
theorem d5 (A : Act) (w : World) (Q : Exit → Act → World → Prop) (bs : A.tmps.size = 73) (bd : A.defers = []) 
    (hQ : ∀ A', NearU 10 8 9 A A' → sl A'.tmps 8 = .int .i64 (-1) → Q .normal A' w) :
    Code.wp Try.prog (duR 5) Q A w := by
  have HQ := Lib.hid hQ
  clear hQ
  conv => arg 2; whnf
  go_wp2_with fail
  refine HQ.out _ ⟨?_, ?_, fun i hi he => ?_⟩ ?_ 
  · try simp only [put_tmps]
    simp only [Array.size_setIfInBounds, bs]
  · first | (simp only [put_defers, bd]; done) | exact bd | rfl
  · try simp only [put_tmps]
    repeat rw [sl_ne _ (by omega)]
  · try simp only [put_tmps]
    repeat first | rw [sl_ne _ (by decide)] | rw [sl_eq _ (by simp only [Array.size_setIfInBounds, bs]; decide)]
    try exact sl_of (by rw [bs]; decide) (by assumption)
theorem d6 (A : Act) (w : World) (Q : Exit → Act → World → Prop) (bs : A.tmps.size = 73) (bd : A.defers = []) 
    (hQ : ∀ A', NearU 10 9 10 A A' → sl A'.tmps 9 = .int .i64 0 → Q .normal A' w) :
    Code.wp Try.prog (duR 6) Q A w := by
  have HQ := Lib.hid hQ
  clear hQ
  conv => arg 2; whnf
  go_wp2_with fail
  refine HQ.out _ ⟨?_, ?_, fun i hi he => ?_⟩ ?_ 
  · try simp only [put_tmps]
    simp only [Array.size_setIfInBounds, bs]
  · first | (simp only [put_defers, bd]; done) | exact bd | rfl
  · try simp only [put_tmps]
    repeat rw [sl_ne _ (by omega)]
  · try simp only [put_tmps]
    repeat first | rw [sl_ne _ (by decide)] | rw [sl_eq _ (by simp only [Array.size_setIfInBounds, bs]; decide)]
    try exact sl_of (by rw [bs]; decide) (by assumption)
theorem d10 (A : Act) (w : World) (Q : Exit → Act → World → Prop) (v : Value) (bs : A.tmps.size = 73) (bd : A.defers = []) (f9 : sl A.tmps 9 = v)
    (hQ : ∀ A', NearU 10 8 9 A A' → sl A'.tmps 8 = v → Q .normal A' w) :
    Code.wp Try.prog (duR 10) Q A w := by
  replace f9 := sl_get f9
  have HQ := Lib.hid hQ
  clear hQ
  conv => arg 2; whnf
  go_wp2_with fail
  refine HQ.out _ ⟨?_, ?_, fun i hi he => ?_⟩ ?_ 
  · try simp only [put_tmps]
    simp only [Array.size_setIfInBounds, bs]
  · first | (simp only [put_defers, bd]; done) | exact bd | rfl
  · try simp only [put_tmps]
    repeat rw [sl_ne _ (by omega)]
  · try simp only [put_tmps]
    repeat first | rw [sl_ne _ (by decide)] | rw [sl_eq _ (by simp only [Array.size_setIfInBounds, bs]; decide)]
    try exact sl_of (by rw [bs]; decide) (by assumption)
theorem d11 (A : Act) (w : World) (Q : Exit → Act → World → Prop) (v : Int) (bs : A.tmps.size = 73) (bd : A.defers = []) (f8 : sl A.tmps 8 = .int .i64 v)
    (hQ : ∀ A', NearU 10 10 10 A A' → sl A'.tmps 50 = .bool (decide (v < 0)) → Q .normal A' w) :
    Code.wp Try.prog (duR 11) Q A w := by
  replace f8 := sl_get f8
  have HQ := Lib.hid hQ
  clear hQ
  conv => arg 2; whnf
  go_wp2_with fail
  refine HQ.out _ ⟨?_, ?_, fun i hi he => ?_⟩ ?_ 
  · try simp only [put_tmps]
    simp only [Array.size_setIfInBounds, bs]
  · first | (simp only [put_defers, bd]; done) | exact bd | rfl
  · try simp only [put_tmps]
    repeat rw [sl_ne _ (by omega)]
  · try simp only [put_tmps]
    repeat first | rw [sl_ne _ (by decide)] | rw [sl_eq _ (by simp only [Array.size_setIfInBounds, bs]; decide)]
    try exact sl_of (by rw [bs]; decide) (by assumption)
theorem d9f (A : Act) (w : World) (Q : Exit → Act → World → Prop) (wL : World) (K : Nat → Prop) (s : Int) (v6 : Value) (od : List Bt) (A0 : Option Addr) (c : Nat) (l : List Bt) (hl : l.length ≤ 100000) (now : Int) (L : LDu A now wL.heap.size) (HI : DS wL K s v6 od (.slice A0 l.length c) l w) (i : Nat) (hi : i < l.length) (a : Int) (ha : l[i].u = a) (f9 : sl A.tmps 9 = .int .i64 i) (z : Int) (f8 : sl A.tmps 8 = .int .i64 z) (hd : ¬ a ≤ now)
    (hQ : ∀ A' w', NearU 10 10 10 A A' → sl A'.tmps 47 = .bool false → DS wL K s v6 od (.slice A0 l.length c) l w' → Q .normal A' w') :
    Code.wp Try.prog (duR 9) Q A w := by
  obtain ⟨ba, oa, rfl, _⟩ := rdB_at HI.row hi
  have i0 : (0 : Int) ≤ (i : Int) := by omega
  have i1 : (i : Int) < (l.length : Int) := by omega
  have HI0 := Lib.hid (show DS wL K s v6 od (.slice (some ⟨ba, oa, none⟩) l.length c) l w.drew from HI.draws 1)
  have HCE := Lib.hid (fun w' (h : DS wL K s v6 od (.slice (some ⟨ba, oa, none⟩) l.length c) l w') => And.intro (show w'.cell? ⟨wL.heap.size, 1, none⟩ = some (.slice (some ⟨ba, oa, none⟩) l.length c) from (TR.cells h.tr).2.1) (show w'.cell? ⟨ba, oa + i * 3 + 2, none⟩ = some (.int .i64 a) from by
    obtain ⟨_, _, h4, _, _, _, e2⟩ := rdB_at h.row hi
    cases h4
    rw [ha] at e2; exact e2))
  have q1 : decide (a ≤ now) = false := decide_eq_false hd
  obtain ⟨bs, bd, l1, l2, l4⟩ := L
  have f1 := sl_get l1
  have f2 := sl_get l2
  have f4 := sl_get l4
  clear l1 l2 l4
  replace f8 := sl_get f8
  replace f9 := sl_get f9
  have HQ := Lib.hid hQ
  clear hQ
  clear HI hd
  conv => arg 2; whnf
  refine wp_region_hold (fun w' => DS wL K s v6 od (.slice (some ⟨ba, oa, none⟩) l.length c) l w') (by kernel_rfl) (by kernel_rfl) HI0.out ?_
  repeat
    first
    | (refine hold_val (v := ?_) ?_ ?_ ?_
       rotate_left
       · first
         | (simp [Region.wanted]; done)
         | (simp [Region.wanted, yielded, Act.put, bs]; done)
       · (intro w' hC
          obtain ⟨_, _⟩ := HCE.out w' hC
          clear hC
          go_simp
          try with_reducible rfl))
    | (refine hold_skip ?_ ?_
       · (first | (simp [Region.wanted, yielded, Act.put, bs]; done) | (simp [Region.wanted, yielded, Act.put, bs, undef]; done)))
  refine hold_nil (fun w3 hC => ?_)
  have HI3 := Lib.hid hC
  clear hC
  clear HI0 HCE
  refine HQ.out _ _ ⟨?_, ?_, fun i hi he => ?_⟩ ?_ HI3.out
  · try simp only [put_tmps]
    simp only [Array.size_setIfInBounds, bs]
  · first | (simp only [put_defers, bd]; done) | exact bd | rfl
  · try simp only [put_tmps]
    repeat rw [sl_ne _ (by omega)]
  · try simp only [put_tmps]
    repeat first | rw [sl_ne _ (by decide)] | rw [sl_eq _ (by simp only [Array.size_setIfInBounds, bs]; decide)]
    try exact sl_of (by rw [bs]; decide) (by assumption)
theorem d9n (A : Act) (w : World) (Q : Exit → Act → World → Prop) (wL : World) (K : Nat → Prop) (s : Int) (v6 : Value) (od : List Bt) (A0 : Option Addr) (c : Nat) (l : List Bt) (hl : l.length ≤ 100000) (now : Int) (L : LDu A now wL.heap.size) (HI : DS wL K s v6 od (.slice A0 l.length c) l w) (i : Nat) (hi : i < l.length) (a : Int) (ha : l[i].u = a) (f9 : sl A.tmps 9 = .int .i64 i) (f8 : sl A.tmps 8 = .int .i64 (-1)) (hd : a ≤ now)
    (hQ : ∀ A' w', NearU 10 10 10 A A' → sl A'.tmps 47 = .bool true → DS wL K s v6 od (.slice A0 l.length c) l w' → Q .normal A' w') :
    Code.wp Try.prog (duR 9) Q A w := by
  obtain ⟨ba, oa, rfl, _⟩ := rdB_at HI.row hi
  have i0 : (0 : Int) ≤ (i : Int) := by omega
  have i1 : (i : Int) < (l.length : Int) := by omega
  have HI0 := Lib.hid (show DS wL K s v6 od (.slice (some ⟨ba, oa, none⟩) l.length c) l w.drew from HI.draws 1)
  have HCE := Lib.hid (fun w' (h : DS wL K s v6 od (.slice (some ⟨ba, oa, none⟩) l.length c) l w') => And.intro (show w'.cell? ⟨wL.heap.size, 1, none⟩ = some (.slice (some ⟨ba, oa, none⟩) l.length c) from (TR.cells h.tr).2.1) (show w'.cell? ⟨ba, oa + i * 3 + 2, none⟩ = some (.int .i64 a) from by
    obtain ⟨_, _, h4, _, _, _, e2⟩ := rdB_at h.row hi
    cases h4
    rw [ha] at e2; exact e2))
  have q1 : decide (a ≤ now) = true := decide_eq_true hd
  obtain ⟨bs, bd, l1, l2, l4⟩ := L
  have f1 := sl_get l1
  have f2 := sl_get l2
  have f4 := sl_get l4
  clear l1 l2 l4
  replace f8 := sl_get f8
  replace f9 := sl_get f9
  have HQ := Lib.hid hQ
  clear hQ
  clear HI hd
  conv => arg 2; whnf
  refine wp_region_hold (fun w' => DS wL K s v6 od (.slice (some ⟨ba, oa, none⟩) l.length c) l w') (by kernel_rfl) (by kernel_rfl) HI0.out ?_
  repeat
    first
    | (refine hold_val (v := ?_) ?_ ?_ ?_
       rotate_left
       · first
         | (simp [Region.wanted]; done)
         | (simp [Region.wanted, yielded, Act.put, bs]; done)
       · (intro w' hC
          obtain ⟨_, _⟩ := HCE.out w' hC
          clear hC
          go_simp
          try with_reducible rfl))
    | (refine hold_skip ?_ ?_
       · (first | (simp [Region.wanted, yielded, Act.put, bs]; done) | (simp [Region.wanted, yielded, Act.put, bs, undef]; done)))
  refine hold_nil (fun w3 hC => ?_)
  have HI3 := Lib.hid hC
  clear hC
  clear HI0 HCE
  refine HQ.out _ _ ⟨?_, ?_, fun i hi he => ?_⟩ ?_ HI3.out
  · try simp only [put_tmps]
    simp only [Array.size_setIfInBounds, bs]
  · first | (simp only [put_defers, bd]; done) | exact bd | rfl
  · try simp only [put_tmps]
    repeat rw [sl_ne _ (by omega)]
  · try simp only [put_tmps]
    repeat first | rw [sl_ne _ (by decide)] | rw [sl_eq _ (by simp only [Array.size_setIfInBounds, bs]; decide)]
    try exact sl_of (by rw [bs]; decide) (by assumption)
theorem d9s (A : Act) (w : World) (Q : Exit → Act → World → Prop) (wL : World) (K : Nat → Prop) (s : Int) (v6 : Value) (od : List Bt) (A0 : Option Addr) (c : Nat) (l : List Bt) (hl : l.length ≤ 100000) (now : Int) (L : LDu A now wL.heap.size) (HI : DS wL K s v6 od (.slice A0 l.length c) l w) (i : Nat) (hi : i < l.length) (a : Int) (ha : l[i].u = a) (f9 : sl A.tmps 9 = .int .i64 i) (j : Nat) (hj : j < l.length) (z : Int) (hz : l[j].u = z) (f8 : sl A.tmps 8 = .int .i64 j) (hd : a ≤ now) (r : Bool) (hr : decide (a < z) = r)
    (hQ : ∀ A' w', NearU 10 10 10 A A' → sl A'.tmps 47 = .bool r → DS wL K s v6 od (.slice A0 l.length c) l w' → Q .normal A' w') :
    Code.wp Try.prog (duR 9) Q A w := by
  obtain ⟨ba, oa, rfl, _⟩ := rdB_at HI.row hi
  have i0 : (0 : Int) ≤ (i : Int) := by omega
  have i1 : (i : Int) < (l.length : Int) := by omega
  have HI0 := Lib.hid (show DS wL K s v6 od (.slice (some ⟨ba, oa, none⟩) l.length c) l w.drew from HI.draws 1)
  have HCE := Lib.hid (fun w' (h : DS wL K s v6 od (.slice (some ⟨ba, oa, none⟩) l.length c) l w') => And.intro (show w'.cell? ⟨wL.heap.size, 1, none⟩ = some (.slice (some ⟨ba, oa, none⟩) l.length c) from (TR.cells h.tr).2.1) (show w'.cell? ⟨ba, oa + i * 3 + 2, none⟩ = some (.int .i64 a) from by
    obtain ⟨_, _, h4, _, _, _, e2⟩ := rdB_at h.row hi
    cases h4
    rw [ha] at e2; exact e2))
  have HCJ := Lib.hid (fun w' (h : DS wL K s v6 od (.slice (some ⟨ba, oa, none⟩) l.length c) l w') => (show w'.cell? ⟨ba, oa + j * 3 + 2, none⟩ = some (.int .i64 z) from by
    obtain ⟨_, _, h4, _, _, _, e2⟩ := rdB_at h.row hj
    cases h4
    rw [hz] at e2; exact e2))
  have j0 : (0 : Int) ≤ (j : Int) := by omega
  have j1 : (j : Int) < (l.length : Int) := by omega
  have q2 : decide ((j : Int) < 0) = false := decide_eq_false (by omega)
  have q1 : decide (a ≤ now) = true := decide_eq_true hd
  obtain ⟨bs, bd, l1, l2, l4⟩ := L
  have f1 := sl_get l1
  have f2 := sl_get l2
  have f4 := sl_get l4
  clear l1 l2 l4
  replace f8 := sl_get f8
  replace f9 := sl_get f9
  have HQ := Lib.hid hQ
  clear hQ
  clear HI hd
  cases r
  all_goals
    conv => arg 2; whnf
    refine wp_region_hold (fun w' => DS wL K s v6 od (.slice (some ⟨ba, oa, none⟩) l.length c) l w') (by kernel_rfl) (by kernel_rfl) HI0.out ?_
    repeat
      first
      | (refine hold_val (v := ?_) ?_ ?_ ?_
         rotate_left
         · first
           | (simp [Region.wanted]; done)
           | (simp [Region.wanted, yielded, Act.put, bs]; done)
         · (intro w' hC
            obtain ⟨_, _⟩ := HCE.out w' hC
            have := HCJ.out w' hC
            clear hC
            go_simp
            try with_reducible rfl))
      | (refine hold_skip ?_ ?_
         · (first | (simp [Region.wanted, yielded, Act.put, bs]; done) | (simp [Region.wanted, yielded, Act.put, bs, undef]; done)))
    refine hold_nil (fun w3 hC => ?_)
    have HI3 := Lib.hid hC
    clear hC
    clear HI0 HCE
    clear HCJ
    refine HQ.out _ _ ⟨?_, ?_, fun i hi he => ?_⟩ ?_ HI3.out
    · try simp only [put_tmps]
      simp only [Array.size_setIfInBounds, bs]
    · first | (simp only [put_defers, bd]; done) | exact bd | rfl
    · try simp only [put_tmps]
      repeat rw [sl_ne _ (by omega)]
    · try simp only [put_tmps]
      repeat first | rw [sl_ne _ (by decide)] | rw [sl_eq _ (by simp only [Array.size_setIfInBounds, bs]; decide)]
      try exact sl_of (by rw [bs]; decide) (by assumption)
theorem d13 (A : Act) (w : World) (Q : Exit → Act → World → Prop) (wL : World) (K : Nat → Prop) (s : Int) (v6 : Value) (od : List Bt) (A0 : Option Addr) (c : Nat) (l : List Bt) (hl : l.length ≤ 100000) (now : Int) (L : LDu A now wL.heap.size) (HI : DS wL K s v6 od (.slice A0 l.length c) l w) (hod : od.length ≤ 16) (j : Nat) (hj : j < l.length) (x : Bt) (hx : l[j] = x) (f6 : sl A.tmps 6 = v6) (f8 : sl A.tmps 8 = .int .i64 j)
    (hQ : ∀ A' w' v6', NearU 10 6 7 A A' → sl A'.tmps 6 = v6' → DS wL K s v6' (od ++ [x]) (.slice A0 l.length c) l w' → Q .normal A' w') :
    Code.wp Try.prog (duR 13) Q A w := by
  obtain ⟨y0, y1, yf1, z0, z1, zf0, zf1⟩ := TR.cells HI.tr
  obtain ⟨ba, oa, rfl, _, e0, e1, e2⟩ := rdB_at HI.row hj
  rw [hx] at e0 e1 e2
  have j0 : (0 : Int) ≤ (j : Int) := by omega
  have j1 : (j : Int) < (l.length : Int) := by omega
  obtain ⟨it, hit, hz0, hz1, hz2⟩ := info_parts infoBt
  have HS := Lib.hid HI
  obtain ⟨bs, bd, l1, l2, l4⟩ := L
  have f1 := sl_get l1
  have f2 := sl_get l2
  have f4 := sl_get l4
  clear l1 l2 l4
  replace f6 := sl_get f6
  replace f8 := sl_get f8
  have HQ := Lib.hid hQ
  clear hQ
  clear HI hx
  conv => arg 2; whnf
  go_wp2_with (at_builtin; refine wpList_append_own_at _ rfl _ _ 28 rfl (wL.heap.size + 2) 51 it (.agg #[.int .i64 0, .int .i64 0, .int .i64 0]) 3 24 Try.underlying28 hit hz0 hz1 hz2 rfl (by decide) v6 od.length _ ?c0 (HS.out.own.alloc _) ⟨w.heap.size, 0, none⟩ 1 1 [.int .i64 x.n, .int .i64 x.i, .int .i64 x.u] ?cx rfl (cells_new _ _ _) ?c2 ?c3 ?c4 ?c5 ?_)
  case c0 => go_simp
  case cx => go_simp
  case c2 => intro q hq; simp only [List.mem_cons, List.not_mem_nil, or_false] at hq; rcases hq with rfl | rfl | rfl <;> rfl
  case c3 => unfold maxLen; omega
  case c4 => omega
  case c5 => simp; have := HS.out.siz; omega
  intro v' w4 hown4 hgrow _ hloc
  have HI4 := Lib.hid (ds_grown HS.out hown4 hgrow hloc)
  clear hown4 hgrow hloc HS
  go_wp2_with fail
  refine HQ.out _ _ _ ⟨?_, ?_, fun i hi he => ?_⟩ ?_ HI4.out
  · try simp only [put_tmps]
    simp only [Array.size_setIfInBounds, bs]
  · first | (simp only [put_defers, bd]; done) | exact bd | rfl
  · try simp only [put_tmps]
    repeat rw [sl_ne _ (by omega)]
  · try simp only [put_tmps]
    repeat first | rw [sl_ne _ (by decide)] | rw [sl_eq _ (by simp only [Array.size_setIfInBounds, bs]; decide)]
    try exact sl_of (by rw [bs]; decide) (by assumption)
theorem d14 (A : Act) (w : World) (Q : Exit → Act → World → Prop) (wL : World) (K : Nat → Prop) (s : Int) (v6 : Value) (od : List Bt) (A0 : Option Addr) (c : Nat) (l : List Bt) (hl : l.length ≤ 100000) (now : Int) (L : LDu A now wL.heap.size) (HI : DS wL K s v6 od (.slice A0 l.length c) l w) (j : Nat) (hj : j < l.length) (n : Int) (hn : l[j].n = n) (f8 : sl A.tmps 8 = .int .i64 j)
    (hQ : ∀ A' w' A1 c1, NearU 10 10 10 A A' → DS wL K s v6 od (.slice A1 (wobB l n).length c1) (wobB l n) w' → Q .normal A' w') :
    Code.wp Try.prog (duR 14) Q A w := by
  obtain ⟨ba, oa, rfl, _⟩ := rdB_at HI.row hj
  have j0 : (0 : Int) ≤ (j : Int) := by omega
  have j1 : (j : Int) < (l.length : Int) := by omega
  have HI0 := Lib.hid (show DS wL K s v6 od (.slice (some ⟨ba, oa, none⟩) l.length c) l w.drew from HI.draws 1)
  have WB := Lib.hid (fun w' (h : DS wL K s v6 od (.slice (some ⟨ba, oa, none⟩) l.length c) l w') => ds_without (n := n) hl h)
  have HCE := Lib.hid (fun w' (h : DS wL K s v6 od (.slice (some ⟨ba, oa, none⟩) l.length c) l w') => And.intro (show w'.cell? ⟨wL.heap.size, 1, none⟩ = some (.slice (some ⟨ba, oa, none⟩) l.length c) ∧ w'.frozen? ⟨wL.heap.size, 1, none⟩ = false from ⟨(TR.cells h.tr).2.1, (TR.cells h.tr).2.2.1⟩) (show w'.cell? ⟨ba, oa + j * 3, none⟩ = some (.int .i64 n) from by
    obtain ⟨_, _, h4, _, e0, _, _⟩ := rdB_at h.row hj
    cases h4
    rw [hn] at e0; exact e0))
  obtain ⟨bs, bd, l1, l2, l4⟩ := L
  have f1 := sl_get l1
  have f2 := sl_get l2
  have f4 := sl_get l4
  clear l1 l2 l4
  replace f8 := sl_get f8
  have HQ := Lib.hid hQ
  clear hQ
  clear HI
  conv => arg 2; whnf
  refine wp_region_holdP [8, 10] (C14 wL K s v6 od (.slice (some ⟨ba, oa, none⟩) l.length c) l) (by kernel_rfl) (by kernel_rfl) HI0.out ?_
  refine holdP_val (v := ?_) (by rfl) ?_ ?_ ?_
  rotate_left
  · first
    | (simp [Region.wanted]; done)
    | (simp [Region.wanted, yielded, Act.put, bs]; done)
  · intro p w' hC
    clear hC
    go_simp
    try with_reducible rfl
  refine holdP_valA (v := .slice (some ⟨ba, oa, none⟩) l.length c) 1 10 _ rfl rfl (by kernel_rfl) (by rfl) ?_ (fun p w' hp hC => ?_) ?_
  · first
    | (simp [Region.wanted]; done)
    | (simp [Region.wanted, yielded, Act.put, bs]; done)
  · obtain ⟨_, _⟩ := HCE.out w' (c14_ds hp hC)
    clear hC
    go_simp
    try with_reducible rfl
  refine holdP_val (v := ?_) (by rfl) ?_ ?_ ?_
  rotate_left
  · first
    | (simp [Region.wanted]; done)
    | (simp [Region.wanted, yielded, Act.put, bs]; done)
  · intro p w' hC
    clear hC
    go_simp
    try with_reducible rfl
  refine holdP_valA (v := .slice (some ⟨ba, oa, none⟩) l.length c) 1 10 _ rfl rfl (by kernel_rfl) (by rfl) ?_ (fun p w' hp hC => ?_) ?_
  · first
    | (simp [Region.wanted]; done)
    | (simp [Region.wanted, yielded, Act.put, bs]; done)
  · obtain ⟨_, _⟩ := HCE.out w' (c14_ds hp hC)
    clear hC
    go_simp
    try with_reducible rfl
  refine holdP_val (v := ?_) (by rfl) ?_ ?_ ?_
  rotate_left
  · first
    | (simp [Region.wanted]; done)
    | (simp [Region.wanted, yielded, Act.put, bs]; done)
  · intro p w' hC
    clear hC
    go_simp
    try with_reducible rfl
  refine holdP_val (v := ?_) (by rfl) ?_ ?_ ?_
  rotate_left
  · first
    | (simp [Region.wanted]; done)
    | (simp [Region.wanted, yielded, Act.put, bs]; done)
  · intro p w' hC
    clear hC
    go_simp
    try with_reducible rfl
  refine holdP_val (v := ?_) (by rfl) ?_ ?_ ?_
  rotate_left
  · first
    | (simp [Region.wanted]; done)
    | (simp [Region.wanted, yielded, Act.put, bs]; done)
  · intro p w' hC
    clear hC
    go_simp
    try with_reducible rfl
  refine holdP_valA (v := .int .i64 n) 1 10 _ rfl rfl (by kernel_rfl) (by rfl) ?_ (fun p w' hp hC => ?_) ?_
  · first
    | (simp [Region.wanted]; done)
    | (simp [Region.wanted, yielded, Act.put, bs]; done)
  · obtain ⟨_, _⟩ := HCE.out w' (c14_ds hp hC)
    clear hC
    go_simp
    try with_reducible rfl
  refine holdP_some 0 (D14 wL K s v6 od (wobB l n)) rfl ?_ ?_ (fun w' hC => (WB.out w' hC).mono fun e w2 hh => by
    obtain ⟨v, he, h1, h2, h3⟩ := hh
    exact ⟨v, he, h1, h2, h3⟩) (fun v => ?_)
  · first
    | (simp [Region.wanted]; done)
    | (simp [Region.wanted, yielded, Act.put, bs]; done)
  · intro w' hC
    go_simp
    done
  refine holdP_val (v := ?_) (by rfl) ?_ ?_ ?_
  rotate_left
  · first
    | (simp [Region.wanted]; done)
    | (simp [Region.wanted, yielded, Act.put, bs]; done)
  · intro p w' hC
    clear hC
    go_simp
    try with_reducible rfl
  refine holdP_store 1 rfl ?_ (fun w' hC => ⟨w'.setCell ⟨wL.heap.size, 1, none⟩ v, ?_, trivial, fun _ => ⟨(hC.2 (by decide)).1, DS.put hC.1 (hC.2 (by decide)).2⟩⟩) ?_
  · first
    | (simp [Region.wanted]; done)
    | (simp [Region.wanted, yielded, Act.put, bs]; done)
  · obtain ⟨⟨_, _⟩, _⟩ := HCE.out w' hC.1
    obtain ⟨⟨_, _, rfl⟩, _⟩ := hC.2 (by decide)
    clear hC
    go_simp
    try with_reducible rfl
  refine holdP_nil (fun w3 hC => ?_)
  obtain ⟨⟨A1, c1, rfl⟩, hD⟩ := hC.2 (by decide)
  have HI3 := Lib.hid hD
  clear hC hD WB HI0 HCE
  refine HQ.out _ _ A1 c1 ⟨?_, ?_, fun i hi he => ?_⟩  HI3.out
  · try simp only [put_tmps]
    simp only [Array.size_setIfInBounds, bs]
  · first | (simp only [put_defers, bd]; done) | exact bd | rfl
  · try simp only [put_tmps]
    repeat rw [sl_ne _ (by omega)]
theorem d12 (A : Act) (w : World) (Q : Exit → Act → World → Prop) (wL : World) (K : Nat → Prop) (s : Int) (v6 : Value) (od : List Bt) (A0 : Option Addr) (c : Nat) (l : List Bt) (hl : l.length ≤ 100000) (now : Int) (L : LDu A now wL.heap.size) (HI : DS wL K s v6 od (.slice A0 l.length c) l w) (f6 : sl A.tmps 6 = v6)
    (hQ : ∀ A' w', NearU 5 5 5 A A' → sl A'.tmps 5 = v6 → DE wL K s v6 od (.slice A0 l.length c) l w' → Q .normal A' w') :
    Code.wp Try.prog (duR 12) Q A w := by
  obtain ⟨y0, y1, yf1, z0, z1, zf0, zf1⟩ := TR.cells HI.tr
  have HE := Lib.hid (ds_end HI)
  obtain ⟨bs, bd, l1, l2, l4⟩ := L
  have f1 := sl_get l1
  have f2 := sl_get l2
  have f4 := sl_get l4
  clear l1 l2 l4
  replace f6 := sl_get f6
  have HQ := Lib.hid hQ
  clear hQ
  clear HI
  conv => arg 2; whnf
  go_wp2_with fail
  refine HQ.out _ _ ⟨?_, ?_, fun i hi he => ?_⟩ ?_ HE.out
  · try simp only [put_tmps]
    simp only [Array.size_setIfInBounds, bs]
  · first | (simp only [put_defers, bd]; done) | exact bd | rfl
  · try simp only [put_tmps]
    repeat rw [sl_ne _ (by omega)]
  · try simp only [put_tmps]
    repeat first | rw [sl_ne _ (by decide)] | rw [sl_eq _ (by simp only [Array.size_setIfInBounds, bs]; decide)]
    try exact sl_of (by rw [bs]; decide) (by assumption)
theorem d15 (A : Act) (w : World) (Q : Exit → Act → World → Prop) (wL : World) (K : Nat → Prop) (s : Int) (v6 : Value) (od : List Bt) (A0 : Option Addr) (c : Nat) (l : List Bt) (hl : l.length ≤ 100000) (now : Int) (L : LDu A now wL.heap.size) (HI : DS wL K s v6 od (.slice A0 l.length c) l w) (f6 : sl A.tmps 6 = v6)
    (hQ : ∀ A' w', NearU 5 5 5 A A' → sl A'.tmps 5 = v6 → DE wL K s v6 od (.slice A0 l.length c) l w' → Q .normal A' w') :
    Code.wp Try.prog (duR 15) Q A w := by
  obtain ⟨y0, y1, yf1, z0, z1, zf0, zf1⟩ := TR.cells HI.tr
  have HE := Lib.hid (ds_end HI)
  obtain ⟨bs, bd, l1, l2, l4⟩ := L
  have f1 := sl_get l1
  have f2 := sl_get l2
  have f4 := sl_get l4
  clear l1 l2 l4
  replace f6 := sl_get f6
  have HQ := Lib.hid hQ
  clear hQ
  clear HI
  conv => arg 2; whnf
  go_wp2_with fail
  refine HQ.out _ _ ⟨?_, ?_, fun i hi he => ?_⟩ ?_ HE.out
  · try simp only [put_tmps]
    simp only [Array.size_setIfInBounds, bs]
  · first | (simp only [put_defers, bd]; done) | exact bd | rfl
  · try simp only [put_tmps]
    repeat rw [sl_ne _ (by omega)]
  · try simp only [put_tmps]
    repeat first | rw [sl_ne _ (by decide)] | rw [sl_eq _ (by simp only [Array.size_setIfInBounds, bs]; decide)]
    try exact sl_of (by rw [bs]; decide) (by assumption)
end Go.Proofs.Ytdlkpkigpnlanaa
