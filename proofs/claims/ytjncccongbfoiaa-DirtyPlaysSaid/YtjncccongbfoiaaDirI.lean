/- Two sets and a row of numbers: what each call leaves of them. Conditions: as stated. -/
import Derived.Test.YtjncccongbfoiaaDirB
import Derived.Test.YtjncccongbfoiaaDirC
import Derived.Test.YtjncccongbfoiaaDirR
namespace Go.Proofs.Ytjncccongbfoiaa
open Go.ChangeShapes Go.WideShapes Go.ChangeAt Go.RowKit
set_option linter.unusedVariables false
set_option maxRecDepth 100000
set_option linter.unusedSimpArgs false

theorem isame_bel (v1 v2 : Value) (ns : List Int) (K1 K2 : Nat → Prop) (w : World) (hn : ns.length ≤ 1000000) (h1 : RdI w K1 v1 ns) (h2 : RdI w K2 v2 ns) :
    Calls Try.prog 12 #[v1, v2] w fun e w' => e = .returned (.bool true) ∧ Below w.heap.size w w' :=
  (isame_true v1 v2 ns _ w hn h1.rd h2.rd).mono fun e w' ⟨he, n, hw⟩ => ⟨he, by subst hw; exact ⟨rfl, rfl, rfl, Nat.le_refl _, fun _ _ => rfl⟩⟩
def DInv (wL : World) (vh : Value) (l1 : List Int) (vz : Value) (l2 : List Int) (row : Value) (l3 : List Int) (w : World) : Prop :=
  ∃ F1 F2 : Nat → Prop, SP F1 vh l1 w ∧ SP F2 vz l2 w ∧ (∀ k, F1 k → wL.heap.size ≤ k) ∧ (∀ k, F2 k → wL.heap.size ≤ k) ∧ (∀ k, F1 k → ¬ F2 k) ∧ RdI w (fun b => ¬ F1 b ∧ ¬ F2 b) row l3 ∧ Below wL.heap.size wL w
section
variable {wL : World} {vh vz row : Value} {l1 l2 l3 : List Int} {w w' : World}
theorem DInv.bel (h : DInv wL vh l1 vz l2 row l3 w) : Below wL.heap.size wL w := by
  obtain ⟨F1, F2, _, _, _, _, _, _, h⟩ := h; exact h
theorem DInv.rise (h : DInv wL vh l1 vz l2 row l3 w) : Rise l1 := by
  obtain ⟨F1, F2, h, _⟩ := h; exact sp_rise h
theorem DInv.below (h : DInv wL vh l1 vz l2 row l3 w) (hb : Below w.heap.size w w') : DInv wL vh l1 vz l2 row l3 w' := by
  obtain ⟨F1, F2, h1, h2, h3, h4, h5, h6, h7⟩ := h
  exact ⟨F1, F2, sp_below h1 hb, sp_below h2 hb, h3, h4, h5, h6.below hb, h7.trans (hb.mono h7.size)⟩
theorem DInv.rd (h : DInv wL vh l1 vz l2 row l3 w) : ∃ K, RdI w K row l3 := by
  obtain ⟨F1, F2, h1, h2, h3, h4, h5, h6, h7⟩ := h
  exact ⟨_, h6⟩
theorem DInv.form (h : DInv wL vh l1 vz l2 row l3 w) : ∃ A c, row = .slice A l3.length c ∧ l3.length ≤ c ∧ c ≤ maxLen := by
  obtain ⟨K, h⟩ := h.rd; exact h.form
theorem DInv.ptrs (h : DInv wL vh l1 vz l2 row l3 w) : (∃ b, vh = .pointer (some ⟨b, 0, none⟩)) ∧ ∃ b, vz = .pointer (some ⟨b, 0, none⟩) := by
  obtain ⟨F1, F2, h1, h2, h3, h4, h5, h6, h7⟩ := h
  exact ⟨sp_ptr h1, sp_ptr h2⟩
/-- Another row. -/
theorem DInv.row_ {u : Value} {l : List Int} {K : Nat → Prop} (h : DInv wL vh l1 vz l2 row l3 w) (hr : RdI w' (fun b => K b ∨ w.heap.size ≤ b) u l) (hK : ∀ F1 F2 : Nat → Prop, RdI w (fun b => ¬ F1 b ∧ ¬ F2 b) row l3 → ∀ b, K b → ¬ F1 b ∧ ¬ F2 b) (hb : Below w.heap.size w w') : DInv wL vh l1 vz l2 u l w' := by
  obtain ⟨F1, F2, h1, h2, h3, h4, h5, h6, h7⟩ := h
  exact ⟨F1, F2, sp_below h1 hb, sp_below h2 hb, h3, h4, h5, hr.imp fun b hb _ => by
    rcases hb with hb | hb
    · exact hK F1 F2 h6 b hb
    · exact ⟨fun e => by have := sp_lt h1 b e; omega, fun e => by have := sp_lt h2 b e; omega⟩, h7.trans (hb.mono h7.size)⟩
theorem dinv_turn1 {l : List Int} {F1 F2 : Nat → Prop} (h2 : SP F2 vz l2 w) (h3 : ∀ k, F1 k → wL.heap.size ≤ k) (h4 : ∀ k, F2 k → wL.heap.size ≤ k) (h5 : ∀ k, F1 k → ¬ F2 k)
    (h6 : RdI w (fun b => ¬ F1 b ∧ ¬ F2 b) row l3) (h7 : Below wL.heap.size wL w) (hp : SPost F1 vh l w w') : DInv wL vh l vz l2 row l3 w' := by
  obtain ⟨F, p1, p2, p3⟩ := hp
  refine ⟨F, F2, p1, sp_keep h2 (fun k hk => p2.block k (sp_lt h2 k hk) (fun e => h5 k e hk)), fun k hk => ?_, h4, fun k hk hk2 => ?_, ?_, h7.trans (p2.below h3 h7.size)⟩
  · rcases p3 k hk with e | e
    · exact h3 k e
    · exact Nat.le_trans h7.size e
  · rcases p3 k hk with e | e
    · exact h5 k e hk2
    · have := sp_lt h2 k hk2; omega
  · exact (h6.imp (K' := fun b => (¬ F b ∧ ¬ F2 b) ∧ ¬ F1 b) fun b hb hl => ⟨⟨fun e => by rcases p3 b e with e | e; exact hb.1 e; omega, hb.2⟩, hb.1⟩).keep (fun b hb hl => p2.block b hl hb.2) p2.size |>.imp fun b hb _ => hb.1
theorem dinv_turn2 {l : List Int} {F1 F2 : Nat → Prop} (h1 : SP F1 vh l1 w) (h3 : ∀ k, F1 k → wL.heap.size ≤ k) (h4 : ∀ k, F2 k → wL.heap.size ≤ k) (h5 : ∀ k, F1 k → ¬ F2 k)
    (h6 : RdI w (fun b => ¬ F1 b ∧ ¬ F2 b) row l3) (h7 : Below wL.heap.size wL w) (hp : SPost F2 vz l w w') : DInv wL vh l1 vz l row l3 w' := by
  obtain ⟨F, p1, p2, p3⟩ := hp
  refine ⟨F1, F, sp_keep h1 (fun k hk => p2.block k (sp_lt h1 k hk) (h5 k hk)), p1, h3, fun k hk => ?_, fun k hk hk2 => ?_, ?_, h7.trans (p2.below h4 h7.size)⟩
  · rcases p3 k hk with e | e
    · exact h4 k e
    · exact Nat.le_trans h7.size e
  · rcases p3 k hk2 with e | e
    · exact h5 k hk e
    · have := sp_lt h1 k hk; omega
  · exact (h6.imp (K' := fun b => (¬ F1 b ∧ ¬ F b) ∧ ¬ F2 b) fun b hb hl => ⟨⟨hb.1, fun e => by rcases p3 b e with e | e; exact hb.2 e; omega⟩, hb.2⟩).keep (fun b hb hl => p2.block b hl hb.2) p2.size |>.imp fun b hb _ => hb.1
/-- What came in is read alike. -/
theorem dinv_came {sv : Value} {ns : List Int} {F : Nat → Prop} (hF : ∀ k, F k → wL.heap.size ≤ k) (h7 : Below wL.heap.size wL w) (hr : RdI wL (fun b => b < wL.heap.size) sv ns) : RdI w (fun k => ¬ F k) sv ns :=
  (hr.below h7).imp fun b hb _ e => by have := hF b e; omega
theorem idmark_h {sv : Value} {ns : List Int} (hl : l1.length ≤ 100000) (hns : ns.length ≤ 1000) (hin : ∀ x ∈ ns, inI x) (hr : RdI wL (fun b => b < wL.heap.size) sv ns) (h : DInv wL vh l1 vz l2 row l3 w) :
    Calls Try.prog 9 #[vh, sv] w fun e w' => e = .returned (.int .i64 (((putsI l1 ns).length : Int) - (l1.length : Int))) ∧ DInv wL vh (putsI l1 ns) vz l2 row l3 w' := by
  obtain ⟨F1, F2, h1, h2, h3, h4, h5, h6, h7⟩ := h
  exact (smark_any F1 vh sv l1 ns w hl hns hin (dinv_came h3 h7 hr) h1).mono fun e w' ⟨he, hp⟩ => ⟨he, dinv_turn1 h2 h3 h4 h5 h6 h7 hp⟩
theorem idmark_z {sv : Value} {ns : List Int} (hl : l2.length ≤ 100000) (hns : ns.length ≤ 1000) (hin : ∀ x ∈ ns, inI x) (hr : RdI wL (fun b => b < wL.heap.size) sv ns) (h : DInv wL vh l1 vz l2 row l3 w) :
    Calls Try.prog 9 #[vz, sv] w fun e w' => e = .returned (.int .i64 (((putsI l2 ns).length : Int) - (l2.length : Int))) ∧ DInv wL vh l1 vz (putsI l2 ns) row l3 w' := by
  obtain ⟨F1, F2, h1, h2, h3, h4, h5, h6, h7⟩ := h
  exact (smark_any F2 vz sv l2 ns w hl hns hin (dinv_came h4 h7 hr) h2).mono fun e w' ⟨he, hp⟩ => ⟨he, dinv_turn2 h1 h3 h4 h5 h6 h7 hp⟩
/-- The numbers written out by the call. -/
theorem idmark2_h {ns : List Int} {cs : Array Value} (hc : cs.toList = ints ns) (hl : l1.length ≤ 100000) (hns : ns.length ≤ 1000) (hin : ∀ x ∈ ns, inI x) (h : DInv wL vh l1 vz l2 row l3 w) :
    Calls Try.prog 9 #[vh, .slice (some ⟨w.heap.size, 0, none⟩) ns.length ns.length] (w.alloc (.cells cs 3)) fun e w' => e = .returned (.int .i64 (((putsI l1 ns).length : Int) - (l1.length : Int))) ∧ DInv wL vh (putsI l1 ns) vz l2 row l3 w' := by
  have hL := rdI_lit w ns cs 3 hc (by omega)
  have hb : Below w.heap.size w (w.alloc (.cells cs 3)) := (Below.refl _ _).alloc (Nat.le_refl _) _
  obtain ⟨F1, F2, h1, h2, h3, h4, h5, h6, h7⟩ := h
  refine (smark_any F1 vh _ l1 ns _ hl hns hin (hL.imp fun b hb _ e => ?_) (sp_below h1 hb)).mono fun e w' ⟨he, hp⟩ => ⟨he, dinv_turn1 (sp_below h2 hb) h3 h4 h5 (h6.below hb) (h7.trans (hb.mono h7.size)) hp⟩
  have := sp_lt h1 b e
  have hb : b = w.heap.size := hb
  omega
theorem idmark2_z {ns : List Int} {cs : Array Value} (hc : cs.toList = ints ns) (hl : l2.length ≤ 100000) (hns : ns.length ≤ 1000) (hin : ∀ x ∈ ns, inI x) (h : DInv wL vh l1 vz l2 row l3 w) :
    Calls Try.prog 9 #[vz, .slice (some ⟨w.heap.size, 0, none⟩) ns.length ns.length] (w.alloc (.cells cs 3)) fun e w' => e = .returned (.int .i64 (((putsI l2 ns).length : Int) - (l2.length : Int))) ∧ DInv wL vh l1 vz (putsI l2 ns) row l3 w' := by
  have hL := rdI_lit w ns cs 3 hc (by omega)
  have hb : Below w.heap.size w (w.alloc (.cells cs 3)) := (Below.refl _ _).alloc (Nat.le_refl _) _
  obtain ⟨F1, F2, h1, h2, h3, h4, h5, h6, h7⟩ := h
  refine (smark_any F2 vz _ l2 ns _ hl hns hin (hL.imp fun b hb _ e => ?_) (sp_below h2 hb)).mono fun e w' ⟨he, hp⟩ => ⟨he, dinv_turn2 (sp_below h1 hb) h3 h4 h5 (h6.below hb) (h7.trans (hb.mono h7.size)) hp⟩
  have := sp_lt h2 b e
  have hb : b = w.heap.size := hb
  omega
theorem idclean_h (n : Int) (hn : inI n) (h : DInv wL vh l1 vz l2 row l3 w) :
    Calls Try.prog 11 #[vh, .int .i64 n] w fun e w' => e = .returned (.bool (hasI l1 n)) ∧ DInv wL vh (dropI l1 n) vz l2 row l3 w' := by
  obtain ⟨F1, F2, h1, h2, h3, h4, h5, h6, h7⟩ := h
  exact (sclean_any F1 vh l1 n w hn h1).mono fun e w' ⟨he, hp⟩ => ⟨he, dinv_turn1 h2 h3 h4 h5 h6 h7 hp⟩
theorem idclean_z (n : Int) (hn : inI n) (h : DInv wL vh l1 vz l2 row l3 w) :
    Calls Try.prog 11 #[vz, .int .i64 n] w fun e w' => e = .returned (.bool (hasI l2 n)) ∧ DInv wL vh l1 vz (dropI l2 n) row l3 w' := by
  obtain ⟨F1, F2, h1, h2, h3, h4, h5, h6, h7⟩ := h
  exact (sclean_any F2 vz l2 n w hn h2).mono fun e w' ⟨he, hp⟩ => ⟨he, dinv_turn2 h1 h3 h4 h5 h6 h7 hp⟩
theorem idhas_h (n : Int) (hn : inI n) (h : DInv wL vh l1 vz l2 row l3 w) :
    Calls Try.prog 14 #[vh, .int .i64 n] w fun e w' => e = .returned (.bool (hasI l1 n)) ∧ w = w' := by
  obtain ⟨F1, F2, h1, h2, h3, h4, h5, h6, h7⟩ := h
  exact shas_any F1 vh l1 n w hn h1
theorem idlen_h (h : DInv wL vh l1 vz l2 row l3 w) :
    Calls Try.prog 15 #[vh] w fun e w' => e = .returned (.int .i64 l1.length) ∧ w = w' := by
  obtain ⟨F1, F2, h1, h2, h3, h4, h5, h6, h7⟩ := h
  exact slen_any F1 vh l1 w h1
theorem idlen_z (h : DInv wL vh l1 vz l2 row l3 w) :
    Calls Try.prog 15 #[vz] w fun e w' => e = .returned (.int .i64 l2.length) ∧ w = w' := by
  obtain ⟨F1, F2, h1, h2, h3, h4, h5, h6, h7⟩ := h
  exact slen_any F2 vz l2 w h2
theorem idrain_h (hl : l1.length ≤ 100000) (h : DInv wL vh l1 vz l2 row l3 w) :
    Calls Try.prog 13 #[vh] w fun e w' => ∃ u, e = .returned u ∧ RdI w' (fun k => w.heap.size ≤ k) u l1 ∧ DInv wL vh [] vz l2 row l3 w' ∧ DInv wL vh [] vz l2 u l1 w' := by
  obtain ⟨F1, F2, h1, h2, h3, h4, h5, h6, h7⟩ := h
  refine (sdrain_any F1 vh l1 w hl h1).mono fun e w' ⟨u, he, hr, hs, ht⟩ => ⟨u, he, hr, dinv_turn1 h2 h3 h4 h5 h6 h7 ⟨F1, hs, ht, fun k hk => .inl hk⟩, ⟨F1, F2, hs, sp_keep h2 (fun k hk => ht.block k (sp_lt h2 k hk) (fun e => h5 k e hk)), h3, h4, h5, hr.imp fun b hb _ => ⟨fun e => ?_, fun e => ?_⟩, h7.trans (ht.below h3 h7.size)⟩⟩
  · have := sp_lt h1 b e; omega
  · have := sp_lt h2 b e; omega
theorem idrain_z (hl : l2.length ≤ 100000) (h : DInv wL vh l1 vz l2 row l3 w) :
    Calls Try.prog 13 #[vz] w fun e w' => ∃ u, e = .returned u ∧ RdI w' (fun k => w.heap.size ≤ k) u l2 ∧ DInv wL vh l1 vz [] row l3 w' := by
  obtain ⟨F1, F2, h1, h2, h3, h4, h5, h6, h7⟩ := h
  exact (sdrain_any F2 vz l2 w hl h2).mono fun e w' ⟨u, he, hr, hs, ht⟩ => ⟨u, he, hr, dinv_turn2 h1 h3 h4 h5 h6 h7 ⟨F2, hs, ht, fun k hk => .inl hk⟩⟩
theorem irhas (n : Int) (hl : l3.length ≤ 100000) (h : DInv wL vh l1 vz l2 row l3 w) :
    Calls Try.prog 7 #[row, .int .i64 n] w fun e w' => e = .returned (.bool (hasI l3 n)) ∧ w = w' := by
  obtain ⟨K, h⟩ := h.rd
  exact k12has_any row l3 n K w hl h
theorem irdrop (n : Int) (hl : l3.length ≤ 100000) (h : DInv wL vh l1 vz l2 row l3 w) :
    Calls Try.prog 10 #[row, .int .i64 n] w fun e w' => ∃ u, e = .returned u ∧ DInv wL vh l1 vz l2 u (dropI l3 n) w' := by
  obtain ⟨K, hk⟩ := h.rd
  exact (k12drop_any row l3 n K w hl hk).mono fun e w' ⟨u, he, hr, hb⟩ => ⟨u, he, h.row_ (K := fun _ => False) (hr.imp fun _ hb _ => .inr hb) (fun _ _ _ _ hf => hf.elim) hb⟩
/-- Two rows more, as the answers make them. -/
theorem irput (n : Int) (hl : l3.length ≤ 100000) (h : DInv wL vh l1 vz l2 row l3 w) :
    Calls Try.prog 8 #[row, .int .i64 n] w fun e w' => ∃ u, e = .returned u ∧ DInv wL vh l1 vz l2 u (putI l3 n) w' ∧ Below w.heap.size w w' := by
  obtain ⟨F1, F2, h1, h2, h3, h4, h5, h6, h7⟩ := h
  exact (k12put_any row l3 n _ w hl h6).mono fun e w' ⟨u, he, hr, hb⟩ => ⟨u, he, ⟨F1, F2, sp_below h1 hb, sp_below h2 hb, h3, h4, h5, hr.imp fun b hb _ => by
    rcases hb with hb | hb
    · exact hb
    · exact ⟨fun e => by have := sp_lt h1 b e; omega, fun e => by have := sp_lt h2 b e; omega⟩, h7.trans (hb.mono h7.size)⟩, hb⟩
/-- The nil row. -/
theorem DInv.norow (h : DInv wL vh l1 vz l2 row l3 w) : DInv wL vh l1 vz l2 (.slice none 0 0) [] w := by
  obtain ⟨F1, F2, h1, h2, h3, h4, h5, h6, h7⟩ := h
  exact ⟨F1, F2, h1, h2, h3, h4, h5, RdI.nil w _, h7⟩
end
theorem dinv_start {wL w1 : World} {v : Value} {F : Nat → Prop} (h : SP F v [] w1) (hF : ∀ k, F k → wL.heap.size ≤ k) (hb : Below wL.heap.size wL w1) :
    DInv wL v [] (.pointer (some ⟨w1.heap.size, 0, none⟩)) [] (.slice none 0 0) [] (w1.alloc (.cells #[.map none] 28)) := by
  have ha : Below w1.heap.size w1 (w1.alloc (.cells #[.map none] 28)) := (Below.refl _ _).alloc (Nat.le_refl _) _
  refine ⟨F, _, sp_below h ha, szero_any w1, hF, fun k hk => ?_, fun k hk e => ?_, RdI.nil _ _, hb.trans (ha.mono hb.size)⟩
  · have hk : k = w1.heap.size := hk
    rw [hk]; exact hb.size
  · have e : k = w1.heap.size := e
    have := sp_lt h k hk; omega
theorem dinv_start2 {wL w1 w2 : World} {v u : Value} {F G : Nat → Prop} (h : SP F v [] w1) (hF : ∀ k, F k → wL.heap.size ≤ k) (hb : Below wL.heap.size wL w1) (h2 : SP G u [] w2) (hG : ∀ k, G k → w1.heap.size ≤ k) (hb2 : Below w1.heap.size w1 w2) :
    DInv wL v [] u [] (.slice none 0 0) [] w2 := by
  refine ⟨F, G, sp_below h hb2, h2, hF, fun k hk => Nat.le_trans hb.size (hG k hk), fun k hk e => ?_, RdI.nil _ _, hb.trans (hb2.mono hb.size)⟩
  have := sp_lt h k hk
  have := hG k e
  omega
end Go.Proofs.Ytjncccongbfoiaa
