/- A clock in memory: New, Now, Tick, Stop, Stopped; of none. Conditions: none. -/
import Derived.Test.YtejepnjgkflooaaAtm
import Derived.Test.YtejepnjgkflooaaNumB
import Derived.Test.YtejepnjgkflooaaTwo
import Derived.Test.YtejepnjgkflooaaProg
namespace Go.Proofs.Ytejepnjgkflooaa
open Go.ChangeShapes Go.WideShapes Go.ChangeAt Go.RowKit
set_option linter.unusedVariables false
set_option maxRecDepth 100000
set_option linter.unusedSimpArgs false
set_option maxHeartbeats 2000000

structure Ck where
  t : Int
  off : Bool
def tickK (c : Ck) (n : Int) : Ck := if c.off = true then c else ⟨laterV c.t n, false⟩
theorem laterV_in (n b : Int) : 0 ≤ laterV n b ∧ laterV n b ≤ 1099511627776 := spanV_in _ 0 1099511627776 (by omega)
def clkA (k : Int) (d lk : Int) : Array Value := #[.int .u32 d, .int .i32 lk, .int .u32 0, .int .i64 k]
/-- What is kept: the tick, and more than any tick on top where the clock is stopped. -/
def keptV (c : Ck) : Int := if c.off = true then c.t + 1099511627777 else c.t
def clkX (c : Ck) : Obj := .cells (clkA (keptV c) (bit32 c.off) 0) 43 (0, 0)
def CP (F : Nat → Prop) (v : Value) (c : Ck) (w : World) : Prop :=
  ∃ b, v = .pointer (some ⟨b, 0, none⟩) ∧ w.heap[b]? = some (clkX c) ∧ (∀ k, F k ↔ k = b) ∧ 0 ≤ c.t ∧ c.t ≤ 1099511627776
theorem cp_keep {F : Nat → Prop} {v : Value} {c : Ck} {w w' : World} (h : CP F v c w) (hk : ∀ k, F k → w'.heap[k]? = w.heap[k]?) : CP F v c w' := by
  obtain ⟨b, h1, h2, h3, h4⟩ := h
  exact ⟨b, h1, (hk b ((h3 b).2 rfl)).trans h2, h3, h4⟩
theorem cp_lt {F : Nat → Prop} {v : Value} {c : Ck} {w : World} (h : CP F v c w) : ∀ k, F k → k < w.heap.size := by
  obtain ⟨b, h1, h2, h3, h4⟩ := h
  exact fun k hk => (h3 k).1 hk ▸ lt_of_block h2
def clkO : Own Ck := ⟨CP, fun h hk _ => cp_keep h hk, fun h => cp_lt h⟩
theorem cp_post {F : Nat → Prop} {b : Nat} {c : Ck} {w w' : World} (hF : ∀ k, F k ↔ k = b) (h : w'.heap[b]? = some (clkX c)) (ho : Only b w w') (hc : 0 ≤ c.t ∧ c.t ≤ 1099511627776) : OPost clkO F (.pointer (some ⟨b, 0, none⟩)) c w w' :=
  ⟨F, ⟨b, rfl, h, hF, hc⟩, ⟨ho.os, ho.tape, ho.output, ho.size, fun k hk hf => ho.block k hk (fun e => hf ((hF k).2 e))⟩, fun k hk => .inl hk⟩
def ck0 : Ck := ⟨0, false⟩
theorem czero_any (w : World) : CP (fun k => k = w.heap.size) (.pointer (some ⟨w.heap.size, 0, none⟩)) ck0 (w.alloc (clkX ck0)) := ⟨w.heap.size, rfl, blk_new w _, fun k => Iff.rfl, by decide, by decide⟩
theorem cnew_any (w : World) : Calls Try.prog 6 #[] w fun e w' => e = .returned (.pointer (some ⟨w.heap.size, 0, none⟩)) ∧ CP (fun k => k = w.heap.size) (.pointer (some ⟨w.heap.size, 0, none⟩)) ck0 w' ∧ Below w.heap.size w w' := by
  have h : Calls Try.prog 6 #[] w fun e w' => e = .returned (.pointer (some ⟨w.heap.size, 0, none⟩)) ∧ w.alloc (clkX ck0) = w' := by
    go_enter Try.func6, Try.ntmps6
    go_wp2_with fail
    go_ret
    exact ⟨rfl, rfl⟩
  refine h.mono fun e w' hh => ?_
  obtain ⟨he, rfl⟩ := hh
  exact ⟨he, czero_any w, (Below.refl _ _).alloc (Nat.le_refl _) _⟩
/-- What is read of a clock in memory. -/
theorem cread_any (F : Nat → Prop) (v : Value) (c : Ck) (w : World) (h : CP F v c w) :
    Calls Try.prog 16 #[v] w fun e w' => e = .returned (.tuple #[.int .i64 c.t, .bool c.off]) ∧ w = w' := by
  obtain ⟨b, rfl, h2, h3, h4⟩ := h
  have C := Lib.hid (i64load_any ⟨b, 3, none⟩ (keptV c) w (by rw [blk_cell h2]; rfl))
  unfold keptV at C
  cases hoff : c.off with
  | true =>
    rw [if_pos hoff] at C
    have hg : ((decide (c.t + 1099511627777 ≥ 1099511627777)) : Bool) = true := by simp; omega
    have hs := Lib.hid (show wrap64 c.t = c.t by unfold wrap64; omega)
    generalize c.t = t at *
    clear h2 h3 h4 hoff
    go_enter Try.func16, Try.ntmps16
    go_wp2_with fail
    refine C.out.mono ?_; rintro e w1 ⟨rfl, rfl⟩
    go_wp2_with fail
    go_ret2
    exact ⟨by show Ending.returned (Value.tuple #[.int .i64 (wrap64 t), .bool true]) = _; rw [hs.out], rfl⟩
  | false =>
    rw [if_neg (by rw [hoff]; simp)] at C
    have hg : ((decide (c.t ≥ 1099511627777)) : Bool) = false := by simp; omega
    generalize c.t = t at *
    clear h2 h3 h4 hoff
    go_enter Try.func16, Try.ntmps16
    go_wp2_with fail
    refine C.out.mono ?_; rintro e w1 ⟨rfl, rfl⟩
    go_wp2_with fail
    go_ret2
    exact ⟨rfl, rfl⟩
theorem ncread_any (w : World) : Calls Try.prog 16 #[.pointer none] w fun e w' => e = .returned (.tuple #[.int .i64 0, .bool true]) ∧ w = w' := by
  go_enter Try.func16, Try.ntmps16
  go_wp2_with fail
  go_ret2
  exact ⟨rfl, rfl⟩
theorem cnow_of (v : Value) (t : Int) (o : Bool) (w : World) (h : Calls Try.prog 16 #[v] w fun e w' => e = .returned (.tuple #[.int .i64 t, .bool o]) ∧ w = w') :
    Calls Try.prog 10 #[v] w fun e w' => e = .returned (.int .i64 t) ∧ w = w' := by
  have C := Lib.hid h
  clear h
  go_enter Try.func10, Try.ntmps10
  go_wp2_with fail
  refine C.out.mono ?_; rintro e w1 ⟨rfl, rfl⟩
  go_wp2_with fail
  go_ret
  exact ⟨rfl, rfl⟩
theorem cstopped_of (v : Value) (t : Int) (o : Bool) (w : World) (h : Calls Try.prog 16 #[v] w fun e w' => e = .returned (.tuple #[.int .i64 t, .bool o]) ∧ w = w') :
    Calls Try.prog 11 #[v] w fun e w' => e = .returned (.bool o) ∧ w = w' := by
  have C := Lib.hid h
  clear h
  go_enter Try.func11, Try.ntmps11
  go_wp2_with fail
  refine C.out.mono ?_; rintro e w1 ⟨rfl, rfl⟩
  go_wp2_with fail
  go_ret
  exact ⟨rfl, rfl⟩
/-- Tick at a clock that is stopped, or at none. -/
theorem ctick_off (v : Value) (t n : Int) (w : World) (h : Calls Try.prog 16 #[v] w fun e w' => e = .returned (.tuple #[.int .i64 t, .bool true]) ∧ w = w') :
    Calls Try.prog 9 #[v, .int .i64 n] w fun e w' => e = .returned (.int .i64 t) ∧ w = w' := by
  have C := Lib.hid h
  clear h
  go_enter Try.func9, Try.ntmps9
  go_wp2_with fail
  go_loopw [] (fun wr => wr = w) (fun _ => 0)
  case atStart => rfl
  case round =>
    obtain rfl := hrel
    go_wp2_with fail
    refine C.out.mono ?_; rintro e w1 ⟨rfl, rfl⟩
    go_wp2_with fail
    go_ret
    exact ⟨rfl, rfl⟩
theorem cnow_any (F : Nat → Prop) (v : Value) (c : Ck) (w : World) (h : CP F v c w) :
    Calls Try.prog 10 #[v] w fun e w' => e = .returned (.int .i64 c.t) ∧ w = w' := cnow_of v c.t c.off w (cread_any F v c w h)
theorem cstopped_any (F : Nat → Prop) (v : Value) (c : Ck) (w : World) (h : CP F v c w) :
    Calls Try.prog 11 #[v] w fun e w' => e = .returned (.bool c.off) ∧ w = w' := cstopped_of v c.t c.off w (cread_any F v c w h)
theorem ctick_any (F : Nat → Prop) (v : Value) (c : Ck) (n : Int) (w : World) (h : CP F v c w) :
    Calls Try.prog 9 #[v, .int .i64 n] w fun e w' => e = .returned (.int .i64 (tickK c n).t) ∧ OPost clkO F v (tickK c n) w w' := by
  have h0 := h
  have CR := Lib.hid (cread_any F v c w h)
  cases hoff : c.off with
  | true =>
    unfold tickK; rw [if_pos hoff]
    rw [hoff] at CR
    refine (ctick_off v c.t n w CR.out).mono fun e w' hh => ?_
    obtain ⟨he, rfl⟩ := hh
    exact ⟨he, opost_same (O := clkO) h0 (Below.refl _ _)⟩
  | false =>
    obtain ⟨b, rfl, h2, h3, h4⟩ := h
    have LT := Lib.hid (later_any c.t n w)
    have hk : keptV c = c.t := by unfold keptV; rw [if_neg (by rw [hoff]; simp)]
    have CS := Lib.hid (i64cas_hit ⟨b, 3, none⟩ c.t (laterV c.t n) w (by rw [blk_cell h2, hk]; rfl) (blk_free h2 3))
    have HP := Lib.hid (show (tickK c n).t = laterV c.t n ∧ OPost clkO F (.pointer (some ⟨b, 0, none⟩)) (tickK c n) w (w.setCell ⟨b, 3, none⟩ (.int .i64 (laterV c.t n))) by
      unfold tickK; rw [if_neg (by rw [hoff]; simp)]
      refine ⟨rfl, cp_post h3 ?_ ((Only.refl _ _).setCell _ _) (laterV_in _ _)⟩
      rw [blk_set h2, hoff]
      rfl)
    rw [hoff] at CR
    generalize c.t = ct at *
    generalize laterV ct n = lt at *
    clear h0 h2 h3 h4 hk
    go_enter Try.func9, Try.ntmps9
    go_wp2_with fail
    go_loopw [] (fun wr => wr = w) (fun _ => 0)
    case atStart => rfl
    case round =>
      obtain rfl := hrel
      go_wp2_with fail
      refine CR.out.mono ?_; rintro e w1 ⟨rfl, rfl⟩
      go_wp2_with fail
      refine LT.out.mono ?_; rintro e w1 ⟨rfl, rfl⟩
      go_wp2_with fail
      refine CS.out.mono ?_; rintro e w1 ⟨rfl, rfl⟩
      go_wp2_with fail
      go_ret
      exact ⟨by rw [HP.out.1]; rfl, HP.out.2⟩
/-- Stop's function. -/
theorem cstop1_any (b pc pf : Nat) (t : Int) (ht : 0 ≤ t ∧ t ≤ 1099511627776) (d lk : Int) (w : World) (h : w.heap[b]? = some (.cells (clkA t d lk) 43 (0, 0))) (hc : w.heap[pc]? = some (.cells #[.pointer (some ⟨b, 0, none⟩)] 25 (0, 0))) (hf : w.heap[pf]? = some (.cells #[.bool false] 4 (0, 0))) (hne : pf ≠ b) :
    Calls Try.prog 13 #[.pointer (some ⟨pc, 0, none⟩), .pointer (some ⟨pf, 0, none⟩)] w fun e w' => e = .returned (.tuple #[]) ∧ (w.setCell ⟨b, 3, none⟩ (.int .i64 (t + 1099511627777))).setCell ⟨pf, 0, none⟩ (.bool true) = w' := by
  have C := Lib.hid (i64add_any ⟨b, 3, none⟩ t 1099511627777 (t + 1099511627777) w (by rw [blk_cell h]; rfl) (blk_free h 3) (IntWalk.i64_in _ (by omega)))
  have hc0 : w.cell? ⟨pc, 0, none⟩ = some (.pointer (some ⟨b, 0, none⟩)) := by rw [blk_cell hc]; rfl
  have hf0 : w.cell? ⟨pf, 0, none⟩ = some (.bool false) := by rw [blk_cell hf]; rfl
  have hz := blk_free hf 0
  have hne2 : b ≠ pf := fun e => hne e.symm
  clear h hc hf
  go_enter Try.func13, Try.ntmps13
  go_wp2_with fail
  refine C.out.mono ?_; rintro e w1 ⟨rfl, rfl⟩
  go_wp2_with fail
  go_end0
  exact ⟨rfl, rfl⟩
theorem cstop_any (F : Nat → Prop) (v : Value) (c : Ck) (w : World) (h : CP F v c w) :
    Calls Try.prog 7 #[v] w fun e w' => e = .returned (.bool (!c.off)) ∧ OPost clkO F v ⟨c.t, true⟩ w w' := by
  obtain ⟨b, rfl, h2, h3, h4⟩ := h
  have hb := lt_of_block h2
  let w1 := w.alloc (.cells #[.pointer (some ⟨b, 0, none⟩)] 25)
  let w2 := w1.alloc (.cells #[.bool false] 4)
  have k2 : w2.heap[b]? = some (clkX c) := blk_old _ (blk_old _ h2)
  have kc : w2.heap[w.heap.size]? = some (.cells #[.pointer (some ⟨b, 0, none⟩)] 25 (0, 0)) := blk_old _ (blk_new w _)
  have o2 : Only b w w2 := ((Only.refl b w).alloc _).alloc _
  have hs1 : w1.heap.size = w.heap.size + 1 := by simp [w1]
  have kf : w2.heap[w.heap.size + 1]? = some (.cells #[.bool false] 4 (0, 0)) := hs1 ▸ blk_new w1 _
  have hmf : ∀ (fn : Fn) (first cap : Array Value) (w : World), (Instr.makeFunc fn first cap).run Try.prog w = .ok (.func fn first cap) w := fun _ _ _ _ => rfl
  cases hoff : c.off with
  | true =>
    have D := Lib.hid (do_done ⟨b, 0, none⟩ 1 (by decide) (.func (.func 13) #[] #[.pointer (some ⟨w.heap.size, 0, none⟩), .pointer (some ⟨w.heap.size + 1, 0, none⟩)]) w2 (by rw [blk_cell k2, hoff]; rfl))
    have HP := Lib.hid (cp_post (c := ⟨c.t, true⟩) h3 (by rw [k2]; exact congrArg some (congrArg clkX (show c = ⟨c.t, true⟩ from by cases c; simp only at hoff; rw [hoff]))) o2 h4)
    simp only [w1, w2] at D HP
    clear h2 h3 h4 hoff k2 kc kf o2
    go_enter Try.func7, Try.ntmps7
    go_wp2_with fail
    refine D.out.mono ?_; rintro e w3 ⟨rfl, rfl⟩
    go_wp2_with fail
    go_ret
    exact ⟨rfl, HP.out⟩
  | false =>
    have hne : w.heap.size + 1 ≠ b := by omega
    have k2' : w2.heap[b]? = some (.cells (clkA c.t 0 0) 43 (0, 0)) := by rw [k2]; unfold clkX keptV; rw [hoff]; rfl
    have k3 := blk_set k2' 1 (.int .i32 1)
    have k3c := blk_far (p := ⟨b, 1, none⟩) (.int .i32 1) kc (by simp; omega)
    have k3f := blk_far (p := ⟨b, 1, none⟩) (.int .i32 1) kf (by simp; omega)
    have R1 := cstop1_any b w.heap.size (w.heap.size + 1) c.t h4 0 1 (w2.setCell ⟨b, 1, none⟩ (.int .i32 1)) k3 k3c k3f hne
    have hR : ∀ w', ((w2.setCell ⟨b, 1, none⟩ (.int .i32 1)).setCell ⟨b, 3, none⟩ (.int .i64 (c.t + 1099511627777))).setCell ⟨w.heap.size + 1, 0, none⟩ (.bool true) = w' → w'.heap[b]? = some (.cells (clkA (c.t + 1099511627777) 0 1) 43 (0, 0)) ∧ w'.heap[w.heap.size + 1]? = some (.cells #[.bool true] 4 (0, 0)) ∧ Only b w w' := by
      rintro w' rfl
      have a1 : (w2.setCell ⟨b, 1, none⟩ (.int .i32 1)).heap[b]? = _ := k3
      have a2 := blk_set a1 3 (.int .i64 (c.t + 1099511627777))
      have a3 := blk_far (p := ⟨w.heap.size + 1, 0, none⟩) (.bool true) a2 (by simp; omega)
      have c1 : (w2.setCell ⟨b, 1, none⟩ (.int .i32 1)).heap[w.heap.size + 1]? = _ := k3f
      have c2 := blk_far (p := ⟨b, 3, none⟩) (.int .i64 (c.t + 1099511627777)) c1 (by simp; omega)
      have c3 := blk_set c2 0 (.bool true)
      have o5 := (o2.setCell 1 (.int .i32 1)).setCell 3 (.int .i64 (c.t + 1099511627777))
      exact ⟨a3, c3, o5.os, o5.tape, o5.output, by simpa using o5.size, fun k hk hkb => (Below.heap_setCell _ ⟨w.heap.size + 1, 0, none⟩ (.bool true) k (by simp; omega)).trans (o5.block k hk hkb)⟩
    have D := Lib.hid (do_once b 0 13 #[.pointer (some ⟨w.heap.size, 0, none⟩), .pointer (some ⟨w.heap.size + 1, 0, none⟩)] _ w2 (by intro w; kernel_rfl) ⟨by rw [blk_cell k2']; rfl, by rw [blk_cell k2']; rfl, blk_free k2' 0, blk_free k2' 1⟩ R1 (fun w' hw => by
      have q := (hR w' hw).1
      exact ⟨by rw [blk_cell q]; rfl, by rw [blk_cell q]; rfl, blk_free q 0, blk_free q 1⟩))
    have HP := Lib.hid (show ∀ w3, ((w2.setCell ⟨b, 1, none⟩ (.int .i32 1)).setCell ⟨b, 3, none⟩ (.int .i64 (c.t + 1099511627777))).setCell ⟨w.heap.size + 1, 0, none⟩ (.bool true) = w3 → (oncedW b 0 w3).cell? ⟨w.heap.size + 1, 0, none⟩ = some (.bool true) ∧ OPost clkO F (.pointer (some ⟨b, 0, none⟩)) ⟨c.t, true⟩ w (oncedW b 0 w3) from fun w3 h3' => by
      obtain ⟨q1, q2, q3⟩ := hR w3 h3'
      have q1' : w3.drew.heap[b]? = _ := q1
      have q2' : w3.drew.heap[w.heap.size + 1]? = _ := q2
      have e1 := blk_set (blk_set q1' 0 (.int .u32 1)) 1 (.int .i32 0)
      have e2 := blk_far (p := ⟨b, 1, none⟩) (.int .i32 0) (blk_far (p := ⟨b, 0, none⟩) (.int .u32 1) q2' (by simp; omega)) (by simp; omega)
      refine ⟨?_, cp_post (c := ⟨c.t, true⟩) h3 e1 ((q3.drew.setCell _ _).setCell _ _) h4⟩
      unfold oncedW
      rw [blk_cell e2]; rfl)
    simp only [w1, w2] at D HP
    clear h2 h3 h4 hoff k2 kc kf o2 k2' k3 k3c k3f R1 hR hne
    go_enter Try.func7, Try.ntmps7
    go_wp2_with fail
    refine D.out.mono ?_; rintro e w3 ⟨rfl, w4, h5, rfl⟩
    obtain ⟨HC, hp⟩ := HP.out _ h5
    have HP2 := Lib.hid hp
    clear hp h5 D HP
    generalize oncedW b 0 w4 = w5 at *
    go_wp2_with fail
    go_ret
    exact ⟨rfl, HP2.out⟩
end Go.Proofs.Ytejepnjgkflooaa
