/- A store of a lease in memory: Acquire, Renew, Release; of a store that nobody made. (New, Get, Holds: LeaB.) Conditions: none. -/
import Derived.Test.YtcoclpghimcnfaaLeaD
namespace Go.Proofs.Ytcoclpghimcnfaa
open Go.ChangeShapes Go.WideShapes Go.ChangeAt Go.RowKit
set_option linter.unusedVariables false
set_option maxRecDepth 100000
set_option linter.unusedSimpArgs false
set_option maxHeartbeats 2000000

/-- The boxes of 'lead', of Acquire, of Renew. -/
def wLd (w : World) (now who ep : Int) (g : Value) : World := (((w.alloc (.cells #[.int .i64 now] 3)).alloc (.cells #[.int .i64 who] 3)).alloc (.cells #[.int .i64 ep] 3)).alloc (.cells #[g] 65)
def wAq (w : World) (v : Value) (now who : Int) : World := ((w.alloc (.cells #[v] 24)).alloc (.cells #[.int .i64 now] 3)).alloc (.cells #[.int .i64 who] 3)
def wRn (w : World) (v : Value) (now : Int) : World := (w.alloc (.cells #[v] 24)).alloc (.cells #[.int .i64 now] 3)
theorem sz1 (w : World) (X : Obj) : (w.alloc X).heap.size = w.heap.size + 1 := by simp
theorem bel1 (w : World) (X : Obj) : Below w.heap.size w (w.alloc X) := (Below.refl _ w).alloc (Nat.le_refl _) _
theorem bel2 (w : World) (X Y : Obj) : Below w.heap.size w ((w.alloc X).alloc Y) := (bel1 w X).trans ((bel1 _ Y).mono (by simp))
theorem bel3 (w : World) (X Y Z : Obj) : Below w.heap.size w (((w.alloc X).alloc Y).alloc Z) := (bel2 w X Y).trans ((bel1 _ Z).mono (bel2 w X Y).size)
theorem bel4 (w : World) (X Y Z U : Obj) : Below w.heap.size w ((((w.alloc X).alloc Y).alloc Z).alloc U) := (bel3 w X Y Z).trans ((bel1 _ U).mono (bel3 w X Y Z).size)
theorem at2 (w : World) (X Y : Obj) : ((w.alloc X).alloc Y).heap[w.heap.size + 1]? = some Y := by have := blk_new (w.alloc X) Y; rwa [sz1] at this
theorem at3 (w : World) (X Y Z : Obj) : (((w.alloc X).alloc Y).alloc Z).heap[w.heap.size + 1 + 1]? = some Z := by have := at2 (w.alloc X) Y Z; rwa [sz1] at this
theorem at4 (w : World) (X Y Z U : Obj) : ((((w.alloc X).alloc Y).alloc Z).alloc U).heap[w.heap.size + 1 + 1 + 1]? = some U := by have := at3 (w.alloc X) Y Z U; rwa [sz1] at this
theorem lead_of (v : Value) (n : FuncId) (cap : Array Value) (now who ep er : Int) (Q : World → Prop) (w : World)
    (hC : Calls Try.prog 21 #[v, .int .i64 now, .int .i64 who, .func (.func 37) #[] #[.pointer (some ⟨w.heap.size, 0, none⟩), .pointer (some ⟨w.heap.size + 1, 0, none⟩), .pointer (some ⟨w.heap.size + 1 + 1, 0, none⟩), .pointer (some ⟨w.heap.size + 1 + 1 + 1, 0, none⟩)]] (wLd w now who ep (.func (.func n) #[] cap)) fun e w' => (∃ a b c, e = .returned (.tuple #[.agg #[.int .i64 a, .int .i64 b, .int .i64 c], .int .i64 er])) ∧ Q w') :
    Calls Try.prog 27 #[v, .int .i64 now, .int .i64 who, .int .i64 ep, .func (.func n) #[] cap] w fun e w' => e = .returned (.int .i64 er) ∧ ∃ w1, Q w1 ∧ Below w1.heap.size w1 w' := by
  have C := Lib.hid hC
  unfold wLd at C
  have hmf : ∀ (fn : Fn) (first cap : Array Value) (w : World), (Instr.makeFunc fn first cap).run Try.prog w = .ok (.func fn first cap) w := fun _ _ _ _ => rfl
  clear hC
  go_enter Try.func27, Try.ntmps27
  go_wp2_with fail
  refine C.out.mono ?_; rintro e w1 ⟨⟨a, b, c, rfl⟩, hq⟩
  have HQ := Lib.hid hq
  clear hq C
  go_wp2_with fail
  go_ret
  exact ⟨rfl, w1, HQ.out, bel1 _ _⟩
theorem acq_of (p : Option Addr) (now who ep er : Int) (Q : World → Prop) (w : World)
    (hC : Calls Try.prog 21 #[.pointer p, .int .i64 now, .int .i64 who, .func (.func 22) #[] #[.pointer (some ⟨w.heap.size + 1, 0, none⟩), .pointer (some ⟨w.heap.size + 1 + 1, 0, none⟩), .pointer (some ⟨w.heap.size, 0, none⟩)]] (wAq w (.pointer p) now who) fun e w' => (∃ a c, e = .returned (.tuple #[.agg #[.int .i64 a, .int .i64 ep, .int .i64 c], .int .i64 er])) ∧ Q w') :
    Calls Try.prog 10 #[.pointer p, .int .i64 now, .int .i64 who] w fun e w' => e = .returned (.tuple #[.int .i64 ep, .int .i64 er]) ∧ ∃ w1, Q w1 ∧ Below w1.heap.size w1 w' := by
  have C := Lib.hid hC
  unfold wAq at C
  have hmf : ∀ (fn : Fn) (first cap : Array Value) (w : World), (Instr.makeFunc fn first cap).run Try.prog w = .ok (.func fn first cap) w := fun _ _ _ _ => rfl
  clear hC
  go_enter Try.func10, Try.ntmps10
  go_wp2_with fail
  refine C.out.mono ?_; rintro e w1 ⟨⟨a, c, rfl⟩, hq⟩
  have HQ := Lib.hid hq
  clear hq C
  go_wp2_with fail
  go_ret2
  exact ⟨rfl, w1, HQ.out, bel1 _ _⟩
theorem ren_of (p : Option Addr) (now who ep er : Int) (Q : World → Prop) (w : World)
    (hC : Calls Try.prog 27 #[.pointer p, .int .i64 now, .int .i64 who, .int .i64 ep, .func (.func 28) #[] #[.pointer (some ⟨w.heap.size + 1, 0, none⟩), .pointer (some ⟨w.heap.size, 0, none⟩)]] (wRn w (.pointer p) now) fun e w' => e = .returned (.int .i64 er) ∧ Q w') :
    Calls Try.prog 12 #[.pointer p, .int .i64 now, .int .i64 who, .int .i64 ep] w fun e w' => e = .returned (.int .i64 er) ∧ Q w' := by
  have C := Lib.hid hC
  unfold wRn at C
  have hmf : ∀ (fn : Fn) (first cap : Array Value) (w : World), (Instr.makeFunc fn first cap).run Try.prog w = .ok (.func fn first cap) w := fun _ _ _ _ => rfl
  clear hC
  go_enter Try.func12, Try.ntmps12
  go_wp2_with fail
  refine C.out.mono ?_; rintro e w1 ⟨rfl, hq⟩
  have HQ := Lib.hid hq
  clear hq C
  go_wp2_with fail
  go_ret
  exact ⟨rfl, HQ.out⟩
theorem rel_of (v : Value) (now who ep er : Int) (Q : World → Prop) (w : World)
    (hC : Calls Try.prog 27 #[v, .int .i64 now, .int .i64 who, .int .i64 ep, .func (.func 29) #[] #[]] w fun e w' => e = .returned (.int .i64 er) ∧ Q w') :
    Calls Try.prog 14 #[v, .int .i64 now, .int .i64 who, .int .i64 ep] w fun e w' => e = .returned (.int .i64 er) ∧ Q w' := by
  have C := Lib.hid hC
  clear hC
  go_enter Try.func14, Try.ntmps14
  go_wp2_with fail
  refine C.out.mono ?_; rintro e w1 ⟨rfl, hq⟩
  have HQ := Lib.hid hq
  clear hq C
  go_wp2_with fail
  go_ret
  exact ⟨rfl, HQ.out⟩
/-! ### A store that nobody made -/
theorem Nob.ptr {v : Value} {w : World} (h : Nob v w) : ∃ p, v = .pointer p := by
  rcases h with h | ⟨b, h, -⟩
  · exact ⟨_, h⟩
  · exact ⟨_, h⟩
theorem lp_ptr {F : Nat → Prop} {v : Value} {x : Sv} {w : World} (h : leaO.P F v x w) : ∃ p, v = .pointer p := by
  obtain ⟨b, c, h1, -⟩ := h
  exact ⟨_, h1⟩
theorem nlead_any (v : Value) (n : FuncId) (cap : Array Value) (now who ep : Int) (w : World) (h : Nob v w) : Calls Try.prog 27 #[v, .int .i64 now, .int .i64 who, .int .i64 ep, .func (.func n) #[] cap] w fun e w' => e = .returned (.int .i64 7) ∧ Below w.heap.size w w' := by
  have hb := bel4 w (.cells #[.int .i64 now] 3) (.cells #[.int .i64 who] 3) (.cells #[.int .i64 ep] 3) (.cells #[.func (.func n) #[] cap] 65)
  refine (lead_of v n cap now who ep 7 (Below w.heap.size w) w ((nchg_any v now who _ _ (h.keep hb)).mono fun e w' hh => ⟨⟨0, 0, 0, hh.1⟩, hb.trans (hh.2.mono hb.size)⟩)).mono fun e w' hh => ?_
  obtain ⟨he, w1, h1, h2⟩ := hh
  exact ⟨he, h1.trans (h2.mono h1.size)⟩
theorem nlacq_any (v : Value) (now who : Int) (w : World) (h : Nob v w) : Calls Try.prog 10 #[v, .int .i64 now, .int .i64 who] w fun e w' => e = .returned (.tuple #[.int .i64 0, .int .i64 7]) ∧ Below w.heap.size w w' := by
  obtain ⟨p0, rfl⟩ := h.ptr
  have hb := bel3 w (.cells #[.pointer p0] 24) (.cells #[.int .i64 now] 3) (.cells #[.int .i64 who] 3)
  refine (acq_of p0 now who 0 7 (Below w.heap.size w) w ((nchg_any (.pointer p0) now who _ _ (h.keep hb)).mono fun e w' hh => ⟨⟨0, 0, hh.1⟩, hb.trans (hh.2.mono hb.size)⟩)).mono fun e w' hh => ?_
  obtain ⟨he, w1, h1, h2⟩ := hh
  exact ⟨he, h1.trans (h2.mono h1.size)⟩
theorem nlren_any (v : Value) (now who ep : Int) (w : World) (h : Nob v w) : Calls Try.prog 12 #[v, .int .i64 now, .int .i64 who, .int .i64 ep] w fun e w' => e = .returned (.int .i64 7) ∧ Below w.heap.size w w' := by
  obtain ⟨p0, rfl⟩ := h.ptr
  have hb := bel2 w (.cells #[.pointer p0] 24) (.cells #[.int .i64 now] 3)
  exact ren_of p0 now who ep 7 (Below w.heap.size w) w ((nlead_any (.pointer p0) _ _ now who ep _ (h.keep hb)).mono fun e w' hh => ⟨hh.1, hb.trans (hh.2.mono hb.size)⟩)
theorem nlrel_any (v : Value) (now who ep : Int) (w : World) (h : Nob v w) : Calls Try.prog 14 #[v, .int .i64 now, .int .i64 who, .int .i64 ep] w fun e w' => e = .returned (.int .i64 7) ∧ Below w.heap.size w w' :=
  rel_of v now who ep 7 (Below w.heap.size w) w (nlead_any v _ _ now who ep _ h)
/-! ### A store that New made -/
theorem opost_pre {F : Nat → Prop} {v : Value} {y : Sv} {w w1 w2 : World} (hb : Below w.heap.size w w1) (h : OPost leaO F v y w1 w2) : OPost leaO F v y w w2 := by
  obtain ⟨F', h1, h2, h3⟩ := h
  exact ⟨F', h1, ⟨h2.os.trans hb.os, h2.tape.trans hb.tape, h2.output.trans hb.output, Nat.le_trans hb.size h2.size, fun k hk hf => (h2.block k (Nat.lt_of_lt_of_le hk hb.size) hf).trans (hb.block k hk)⟩, fun k hk => (h3 k hk).imp id (fun q => Nat.le_trans hb.size q)⟩
theorem lp_more {F : Nat → Prop} {v : Value} {x : Sv} {w : World} (h : leaO.P F v x w) : -1 ≤ x.l.h := by
  obtain ⟨b, c, h1, h2, h3, h4, h5, h6, h7, h8⟩ := h
  exact h8
/-- 'lead', whatever is handed to it. -/
theorem lead_any (F : Nat → Prop) (v : Value) (x : Sv) (now who ep : Int) (n : FuncId) (cap : Array Value) (r : Ls) (w : World) (h : leaO.P F v x w) (hf : ∀ w', Below w.heap.size w w' → leadsL x.l now who ep = true → LeadF n cap x.l r w') (hx : leadsL x.l now who ep = true → 0 ≤ r.e ∧ r.e ≤ 4294967295 ∧ -1 ≤ r.h) :
    Calls Try.prog 27 #[v, .int .i64 now, .int .i64 who, .int .i64 ep, .func (.func n) #[] cap] w fun e w' => e = .returned (.int .i64 (if rightL now who = false then 1 else if leadsL x.l now who ep = false then 11 else 0)) ∧ OPost leaO F v ⟨x.s, if rightL now who = true ∧ leadsL x.l now who ep = true then r else x.l⟩ w w' := by
  have hb := bel4 w (.cells #[.int .i64 now] 3) (.cells #[.int .i64 who] 3) (.cells #[.int .i64 ep] 3) (.cells #[.func (.func n) #[] cap] 65)
  have h1 := Own.below h hb
  have hl := lp_more h
  have fin : ∀ {er : Int} {l' : Ls}, Calls Try.prog 27 #[v, .int .i64 now, .int .i64 who, .int .i64 ep, .func (.func n) #[] cap] w (fun e w' => e = .returned (.int .i64 er) ∧ ∃ w1, OPost leaO F v ⟨x.s, l'⟩ w w1 ∧ Below w1.heap.size w1 w') → Calls Try.prog 27 #[v, .int .i64 now, .int .i64 who, .int .i64 ep, .func (.func n) #[] cap] w (fun e w' => e = .returned (.int .i64 er) ∧ OPost leaO F v ⟨x.s, l'⟩ w w') := fun hc => hc.mono fun e w' hh => by
    obtain ⟨he, w1, q1, q2⟩ := hh
    exact ⟨he, opost_below q1 q2⟩
  cases hr : rightL now who with
  | false =>
    rw [if_pos rfl, if_neg (by simp)]
    exact fin (lead_of v _ _ now who ep 1 (OPost leaO F v x w) w ((chg_arg F v x now who _ _ h1 hr).mono fun e w' hh => ⟨⟨0, 0, 0, hh.1⟩, opost_same h (hb.trans (hh.2.mono hb.size))⟩))
  | true =>
    rw [if_neg (by simp)]
    have en : ∀ (y : Value) (p q s t : Value) (w : World), (callFunc 37 (#[y] ++ #[p, q, s, t])).run Try.prog w = .ok (.enter 37 (#[y] ++ #[p, q, s, t])) w := fun y p q s t w => by kernel_rfl
    have hbx : BXL now who ep n cap w.heap.size (w.heap.size + 1) (w.heap.size + 1 + 1) (w.heap.size + 1 + 1 + 1) (wLd w now who ep (.func (.func n) #[] cap)) := ⟨blk_old _ (blk_old _ (blk_old _ (blk_new w _))), blk_old _ (blk_old _ (at2 _ _ _)), blk_old _ (at3 _ _ _ _), at4 _ _ _ _ _⟩
    have N : NextF 37 #[.pointer (some ⟨w.heap.size, 0, none⟩), .pointer (some ⟨w.heap.size + 1, 0, none⟩), .pointer (some ⟨w.heap.size + 1 + 1, 0, none⟩), .pointer (some ⟨w.heap.size + 1 + 1 + 1, 0, none⟩)] x.l (if leadsL x.l now who ep = true then r else x.l) (if leadsL x.l now who ep = true then 0 else 11) (wLd w now who ep (.func (.func n) #[] cap)) :=
      ⟨fun w' => en _ _ _ _ _ w', fun w' hw' => lead1_any x.l r now who ep n cap _ _ _ _ w' hl (hbx.below hw') (hf w' (hb.trans (hw'.mono hb.size)))⟩
    have CH := chg_any F v x now who _ _ _ _ _ h1 hr N (fun he => by
      cases hq : leadsL x.l now who ep with
      | false => rw [hq, if_neg (by simp)] at he; omega
      | true => rw [if_pos rfl]; exact hx hq)
    cases hq : leadsL x.l now who ep with
    | false =>
      rw [hq, if_neg (by simp), if_neg (by simp)] at CH
      rw [if_pos rfl, if_neg (by simp)]
      exact fin (lead_of v _ _ now who ep 11 (OPost leaO F v x w) w (CH.mono fun e w' hh => ⟨⟨0, 0, 0, (hh.1 (by omega)).1⟩, opost_same h (hb.trans ((hh.1 (by omega)).2.mono hb.size))⟩))
    | true =>
      rw [hq, if_pos rfl, if_pos rfl] at CH
      rw [if_neg (by simp), if_pos (by simp)]
      exact fin (lead_of v _ _ now who ep 0 (OPost leaO F v ⟨x.s, r⟩ w) w (CH.mono fun e w' hh => ⟨⟨_, _, _, (hh.2 rfl).1⟩, opost_pre hb (hh.2 rfl).2⟩))
theorem holds_s {s : Int} {l : Ls} {now who ep : Int} (hs : 1 ≤ s) : holdsL s l now who ep = leadsL l now who ep := by
  unfold holdsL
  rw [show decide (0 < s) = true from decide_eq_true (by omega)]
  rfl
theorem lren_any (F : Nat → Prop) (v : Value) (x : Sv) (now who ep : Int) (w : World) (h : leaO.P F v x w) :
    Calls Try.prog 12 #[v, .int .i64 now, .int .i64 who, .int .i64 ep] w fun e w' => e = .returned (.int .i64 (renL x.s x.l now who ep).2) ∧ OPost leaO F v ⟨x.s, (renL x.s x.l now who ep).1⟩ w w' := by
  obtain ⟨p0, rfl⟩ := lp_ptr h
  have hb := bel2 w (.cells #[.pointer p0] 24) (.cells #[.int .i64 now] 3)
  have hk := lea_ok h
  have hl := lp_more h
  have h1 := Own.below h hb
  have en : ∀ (y : Value) (p q : Value) (w : World), (callFunc 28 (#[y] ++ #[p, q])).run Try.prog w = .ok (.enter 28 (#[y] ++ #[p, q])) w := fun y p q w => by kernel_rfl
  have hbx : ∃ b, Value.pointer p0 = .pointer (some ⟨b, 0, none⟩) ∧ BXR now x.s (w.heap.size + 1) w.heap.size b (wRn w (.pointer p0) now) := by
    obtain ⟨b, c, hv, h2, h3⟩ := h
    cases hv
    exact ⟨b, rfl, at2 _ _ _, blk_old _ (blk_new _ _), c, (h2.below hb).hb⟩
  obtain ⟨b, -, hbx⟩ := hbx
  refine ren_of p0 now who ep _ _ w ((lead_any F (.pointer p0) x now who ep _ _ ⟨x.l.h, x.l.e, max x.l.u (laterV now x.s)⟩ _ h1 (fun w' hw' _ => ⟨fun w2 => en _ _ _ w2, fun w2 hw2 => ren1_any x.s x.l now _ _ b w2 (hbx.below (hw'.trans (hw2.mono hw'.size)))⟩) (fun _ => ⟨hk.2.2.1, hk.2.2.2, hl⟩)).mono fun e w' hh => ?_)
  rw [show (renL x.s x.l now who ep) = (if rightL now who = true ∧ leadsL x.l now who ep = true then (⟨x.l.h, x.l.e, max x.l.u (laterV now x.s)⟩ : Ls) else x.l, if rightL now who = false then 1 else if leadsL x.l now who ep = false then 11 else 0) by
    unfold renL
    rw [if_neg (by omega), holds_s hk.1]
    cases rightL now who <;> cases leadsL x.l now who ep <;> simp]
  exact ⟨hh.1, opost_pre hb hh.2⟩
theorem lrel_any (F : Nat → Prop) (v : Value) (x : Sv) (now who ep : Int) (w : World) (h : leaO.P F v x w) :
    Calls Try.prog 14 #[v, .int .i64 now, .int .i64 who, .int .i64 ep] w fun e w' => e = .returned (.int .i64 (relL x.s x.l now who ep).2) ∧ OPost leaO F v ⟨x.s, (relL x.s x.l now who ep).1⟩ w w' := by
  have hk := lea_ok h
  have en : ∀ (y : Value) (w : World), (callFunc 29 (#[y] ++ #[])).run Try.prog w = .ok (.enter 29 (#[y] ++ #[])) w := fun y w => by kernel_rfl
  refine rel_of v now who ep _ _ w ((lead_any F v x now who ep _ _ ⟨-1, x.l.e, 0⟩ _ h (fun w' hw' _ => ⟨fun w2 => en _ w2, fun w2 hw2 => rel1_any x.l w2⟩) (fun _ => ⟨hk.2.2.1, hk.2.2.2, by simp⟩)).mono fun e w' hh => ?_)
  rw [show (relL x.s x.l now who ep) = (if rightL now who = true ∧ leadsL x.l now who ep = true then (⟨-1, x.l.e, 0⟩ : Ls) else x.l, if rightL now who = false then 1 else if leadsL x.l now who ep = false then 11 else 0) by
    unfold relL renL
    rw [if_neg (show ¬ x.s = 0 by omega), holds_s hk.1]
    cases rightL now who <;> cases leadsL x.l now who ep <;> simp]
  exact hh
theorem lacq_any (F : Nat → Prop) (v : Value) (x : Sv) (now who : Int) (w : World) (h : leaO.P F v x w) :
    Calls Try.prog 10 #[v, .int .i64 now, .int .i64 who] w fun e w' => e = .returned (.tuple #[.int .i64 (acqL x.s x.l now who).2.1, .int .i64 (acqL x.s x.l now who).2.2]) ∧ OPost leaO F v ⟨x.s, (acqL x.s x.l now who).1⟩ w w' := by
  obtain ⟨p0, rfl⟩ := lp_ptr h
  have hb := bel3 w (.cells #[.pointer p0] 24) (.cells #[.int .i64 now] 3) (.cells #[.int .i64 who] 3)
  have hk := lea_ok h
  have hl := lp_more h
  have h1 := Own.below h hb
  have en : ∀ (y : Value) (p q s : Value) (w : World), (callFunc 22 (#[y] ++ #[p, q, s])).run Try.prog w = .ok (.enter 22 (#[y] ++ #[p, q, s])) w := fun y p q s w => by kernel_rfl
  have hbx : ∃ b, BXA now who x.s (w.heap.size + 1) (w.heap.size + 1 + 1) w.heap.size b (wAq w (.pointer p0) now who) := by
    obtain ⟨b, c, hv, h2, h3⟩ := h
    cases hv
    exact ⟨b, blk_old _ (at2 _ _ _), at3 _ _ _ _, blk_old _ (blk_old _ (blk_new _ _)), c, (h2.below hb).hb⟩
  obtain ⟨b, hbx⟩ := hbx
  have fin : ∀ {er ep : Int} {l' : Ls}, Calls Try.prog 10 #[.pointer p0, .int .i64 now, .int .i64 who] w (fun e w' => e = .returned (.tuple #[.int .i64 ep, .int .i64 er]) ∧ ∃ w1, OPost leaO F (.pointer p0) ⟨x.s, l'⟩ w w1 ∧ Below w1.heap.size w1 w') → Calls Try.prog 10 #[.pointer p0, .int .i64 now, .int .i64 who] w (fun e w' => e = .returned (.tuple #[.int .i64 ep, .int .i64 er]) ∧ OPost leaO F (.pointer p0) ⟨x.s, l'⟩ w w') := fun hc => hc.mono fun e w' hh => by
    obtain ⟨he, w1, q1, q2⟩ := hh
    exact ⟨he, opost_below q1 q2⟩
  cases hr : rightL now who with
  | false =>
    rw [show acqL x.s x.l now who = (x.l, 0, 1) by unfold acqL; rw [if_neg (by omega), if_pos hr]]
    exact fin (acq_of p0 now who 0 1 (OPost leaO F (.pointer p0) x w) w ((chg_arg F (.pointer p0) x now who _ _ h1 hr).mono fun e w' hh => ⟨⟨0, 0, hh.1⟩, opost_same h (hb.trans (hh.2.mono hb.size))⟩))
  | true =>
    have N : NextF 22 #[.pointer (some ⟨w.heap.size + 1, 0, none⟩), .pointer (some ⟨w.heap.size + 1 + 1, 0, none⟩), .pointer (some ⟨w.heap.size, 0, none⟩)] x.l (acq1 x.s x.l now who).1 (acq1 x.s x.l now who).2 (wAq w (.pointer p0) now who) :=
      ⟨fun w' => en _ _ _ _ w', fun w' hw' => acq1_any x.s x.l now who _ _ _ b w' hl ⟨hk.2.2.1, hk.2.2.2⟩ (hbx.below hw')⟩
    have hrw : 0 ≤ who := by
      unfold rightL at hr
      simp at hr
      omega
    have key : ((acq1 x.s x.l now who).2 ≠ 0 ∧ acqL x.s x.l now who = (x.l, 0, (acq1 x.s x.l now who).2)) ∨ ((acq1 x.s x.l now who).2 = 0 ∧ acqL x.s x.l now who = ((acq1 x.s x.l now who).1, (acq1 x.s x.l now who).1.e, 0) ∧ 0 ≤ (acq1 x.s x.l now who).1.e ∧ (acq1 x.s x.l now who).1.e ≤ 4294967295 ∧ -1 ≤ (acq1 x.s x.l now who).1.h) := by
      unfold acqL acq1
      rw [if_neg (show ¬ x.s = 0 by omega), if_neg (show ¬ rightL now who = false by rw [hr]; simp)]
      cases heldL x.l now with
      | true =>
        by_cases hw : x.l.h = who
        · exact .inl (by simp [hw])
        · exact .inl (by simp [hw])
      | false =>
        by_cases hE : x.l.e = 4294967295
        · exact .inl (by simp [hE])
        · have : ¬ 4294967295 ≤ x.l.e := by omega
          refine .inr ?_
          simp only [Bool.false_and, Bool.false_eq_true, if_false, hE, this]
          refine ⟨trivial, trivial, ?_, ?_, ?_⟩
          · show 0 ≤ x.l.e + 1; omega
          · show x.l.e + 1 ≤ 4294967295; omega
          · show -1 ≤ who; omega
    have CH := chg_any F (.pointer p0) x now who _ _ _ _ _ h1 hr N (fun he => by
      rcases key with ⟨k1, k2⟩ | ⟨k1, k2, k3⟩
      · exact absurd he k1
      · exact k3)
    rcases key with ⟨k1, k2⟩ | ⟨k1, k2, k3⟩
    · rw [k2]
      exact fin (acq_of p0 now who 0 _ (OPost leaO F (.pointer p0) x w) w (CH.mono fun e w' hh => ⟨⟨0, 0, (hh.1 k1).1⟩, opost_same h (hb.trans ((hh.1 k1).2.mono hb.size))⟩))
    · rw [k2]
      exact fin (acq_of p0 now who _ 0 (OPost leaO F (.pointer p0) ⟨x.s, (acq1 x.s x.l now who).1⟩ w) w (CH.mono fun e w' hh => ⟨⟨_, _, (hh.2 k1).1⟩, opost_pre hb (hh.2 k1).2⟩))
end Go.Proofs.Ytcoclpghimcnfaa
