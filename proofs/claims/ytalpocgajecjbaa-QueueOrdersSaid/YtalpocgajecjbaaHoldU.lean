/- A region that draws its order up to a number, and keeps the text's order from there on: the first part taken in the text's order with all that hangs on the world, the rest by the ordinary walk. Conditions: as stated. -/
import Derived.Test.YtalpocgajecjbaaHoldZ
import Derived.StillTail
namespace Go.Proofs.Ytalpocgajecjbaa
open Go.RowKit
set_option linter.unusedVariables false

section
variable {P : Program} {ops : Array Oper} {Q : Exit → Act → World → Prop} {G : Nat → Value → World → Prop}
theorem wpAny_of_holdZT {n : Nat} (hsel : Region.noSelect ops = true) (hB : meetB .any ops = true) (hK : backB .any ops = true) (hC : chainZ ops = true) (hs : Region.sinkB .any ops n = true) (hch : Region.chainB .any ops n = true) (hn : n < ops.size) (hG : ∀ j v, Kept (G j v)) {T : Act → (Array Bool → World → Prop) → Prop}
    (hend : ∀ a S L w, HeadInv .any ops n L → leftOf n L = [] → T a S → S L w → wpAny P .any ops Q (ops.size - n) L a w) :
    ∀ (fuel : Nat) (L : Array Bool) (a : Act) (w : World) (S : Array Bool → World → Prop), HeadInv .any ops n L → (leftOf n L).length = fuel → S L w → HoldZ P ops G T (leftOf n L) a S → wpAny P .any ops Q (fuel + (ops.size - n)) L a w := by
  intro fuel
  induction fuel with
  | zero =>
    intro L a w S inv hl hS h
    have h0 : leftOf n L = [] := List.eq_nil_of_length_eq_zero hl
    rw [h0] at h
    rw [Nat.zero_add]
    exact hend a S L w inv h0 h hS
  | succ fuel ih =>
    intro L a w S inv hl hS h
    have hsz := inv.size
    have hcl : ClosedL ops L := inv.closed
    obtain ⟨q, hq⟩ : ∃ q, q ∈ leftOf n L := by
      cases hlf : leftOf n L with
      | nil => rw [hlf] at hl; cases hl
      | cons q r => exact ⟨q, by simp⟩
    obtain ⟨hqn, hqu⟩ := leftOf_mem.1 hq
    rw [show fuel + 1 + (ops.size - n) = (fuel + (ops.size - n)) + 1 by omega]
    refine ⟨fun h0 => absurd h0 (ready_some hK L hsz (fun e => by
      have : q ∈ leftOf ops.size L := leftOf_mem.2 ⟨by omega, hqu⟩
      rw [e] at this; cases this)), fun j hj => ?_⟩
    obtain ⟨hun, oj, hoj, hall⟩ := mem_ready.1 hj
    have hjs : j < ops.size := (Array.getElem?_eq_some_iff.1 hoj).1
    have hjn : j < n := by
      rcases Nat.lt_or_ge j n with h' | h'
      · exact h'
      · exact absurd hj (tail_waits hs hch hn inv _ q rfl hqn hqu j h')
    have hmem : j ∈ leftOf n L := leftOf_mem.2 ⟨hjn, hun⟩
    obtain ⟨l1, l2, hsp⟩ := List.append_of_mem hmem
    have hsrt : (leftOf n L).Pairwise (· < ·) := List.Pairwise.filter _ List.pairwise_lt_range
    rw [hsp] at h hsrt
    have hlt : ∀ i ∈ l1, i < j := fun i hi => (List.pairwise_append.1 hsrt).2.2 i hi j (by simp)
    have hj1 : j ∉ l1 := fun e => Nat.lt_irrefl _ (hlt j e)
    have hj2 : j ∉ l2 := fun e => by
      have := (List.pairwise_append.1 hsrt).2.1
      exact Nat.lt_irrefl _ ((List.pairwise_cons.1 this).1 j e)
    have hL : ∀ k, k < ops.size → k < L.size := fun k hk => by rw [hsz]; exact hk
    have hun1 : ∀ i ∈ l1, L.getD i true = false := fun i hi => (leftOf_mem.1 (show i ∈ leftOf n L by rw [hsp]; simp [hi])).2
    have hap1 : ∀ i ∈ l1, ∀ oi, ops[i]? = some oi → oi.apart ops oj = true := fun i hi oi hoi => by
      refine meetB_spec hB (hlt i hi) hoi hoj fun e he hb heq => ?_
      have h1 := hall e he hb
      have h3 := hun1 i hi
      rw [heq] at h1
      have hil : i < L.size := by rw [hsz]; exact (Array.getElem?_eq_some_iff.1 hoi).1
      simp [hil] at h1 h3
      rw [h3] at h1; cases h1
    have hleft : leftOf n (L.setIfInBounds j true) = l1 ++ l2 := by
      have e1 : leftOf n (L.setIfInBounds j true) = (leftOf n L).filter (· ≠ j) := by
        unfold leftOf
        rw [List.filter_filter]
        refine List.filter_congr fun i hi => ?_
        by_cases hij : i = j
        · subst hij
          have : i < L.size := by rw [hsz]; exact hjs
          simp [this]
        · rw [getD_set_ne true (fun e => hij e.symm)]; simp [hij]
      rw [e1, hsp, List.filter_append, List.filter_cons]
      simp only [ne_eq, not_true_eq_false, decide_false]
      have f1 : l1.filter (fun x => decide (¬ x = j)) = l1 := List.filter_eq_self.2 fun x hx => by simp; rintro rfl; exact hj1 hx
      have f2 : l2.filter (fun x => decide (¬ x = j)) = l2 := List.filter_eq_self.2 fun x hx => by simp; rintro rfl; exact hj2 hx
      rw [f1]
      simp only [Bool.false_eq_true, if_false]
      rw [f2]
    have hsz' : (L.setIfInBounds j true).size = ops.size := by simpa using hsz
    have hlen : (leftOf n (L.setIfInBounds j true)).length = fuel := by
      rw [hleft]; rw [hsp] at hl; simp at hl ⊢; omega
    have inv' := inv.set hj hjn
    have go : ∀ v w' S', S' (L.setIfInBounds j true) w' → HoldZ P ops G T (l1 ++ l2) (a.put oj.dst v) S' → wpAny P .any ops Q (fuel + (ops.size - n)) (L.setIfInBounds j true) (a.put oj.dst v) w' := fun v w' S' hS' hh =>
      ih (L.setIfInBounds j true) (a.put oj.dst v) w' S' inv' hlen hS' (by rw [hleft]; exact hh)
    have hjL : j < L.size := hL j hjs
    unfold Go.wpOp
    simp only [hoj]
    cases hfj : isFn oj with
    | false =>
      have hap : ∀ i ∈ l1, i ≠ j ∧ L.getD i true = false ∧ ∀ oi, ops[i]? = some oi → oi.apart ops oj = true := fun i hi => ⟨Nat.ne_of_lt (hlt i hi), hun1 i hi, hap1 i hi⟩
      rcases HoldZ.pickN hsel hG hoj hfj hj l1 a S hap hS h with ⟨v, hu, hs, hh⟩ | ⟨hw, _, v, w', hu, _, hs, hg, hh⟩
      · rcases hu with ⟨hw, _, hu⟩ | ⟨hw, rfl⟩
        · simp only [hw, if_true, Oper.wp]
          refine .inl ?_
          rcases hu with hu | ⟨hu, rfl⟩
          · simp only [hu, Oper.upon]; exact go _ _ _ hs hh
          · simp only [hu, Oper.upon]; exact go _ _ _ hs hh
        · simp only [hw, Bool.false_eq_true, if_false]; exact go _ _ _ hs hh
      · simp only [hw, if_true, Oper.wp]
        refine .inl ?_
        simp only [hu, Oper.upon]
        exact go _ _ _ ⟨hs, fun _ => hg⟩ hh
    | true =>
      have hap : ∀ i ∈ l1, i ≠ j ∧ L.getD i true = false ∧ ∀ oi, ops[i]? = some oi → oi.apart ops oj = true ∧ isFn oi = false ∧ isMk oi = false := fun i hi => ⟨Nat.ne_of_lt (hlt i hi), hun1 i hi, fun oi hoi => ⟨hap1 i hi oi hoi, by
        have hno : (isFn oi || isMk oi) = true → False := fun hx => by
          have h1 := anc_ready hcl (chainZ_spec hC (hlt i hi) hoi hoj hx hfj) hj hL (fun o ho e he hb => Nat.lt_trans (backB_spec hK ho e he hb) hjs)
          have h3 := hun1 i hi
          have hil : i < L.size := by rw [hsz]; exact (Array.getElem?_eq_some_iff.1 hoi).1
          simp [hil] at h1 h3
          rw [h3] at h1; cases h1
        constructor
        · cases hx : isFn oi
          · rfl
          · exact (hno (by rw [hx]; rfl)).elim
        · cases hx : isMk oi
          · rfl
          · exact (hno (by rw [hx]; simp)).elim⟩⟩
      rcases HoldZ.pickF hsel hoj hfj hj l1 a S hap hS h with ⟨v, hu, hs, hh⟩ | ⟨hw, v, f, args, hu, hc, hh⟩ | ⟨hw, F, f, args, hu, hc, hh⟩
      · rcases hu with ⟨hw, hu⟩ | ⟨hw, rfl⟩
        · simp only [hw, if_true, Oper.wp]
          refine .inl ?_
          rcases hu with hu | ⟨hu, rfl⟩
          · simp only [hu, Oper.upon]; exact go _ _ _ hs hh
          · simp only [hu, Oper.upon]; exact go _ _ _ hs hh
        · simp only [hw, Bool.false_eq_true, if_false]; exact go _ _ _ hs hh
      · simp only [hw, if_true, Oper.wp]
        refine .inl ?_
        simp only [hu, Oper.upon]
        exact hc.mono fun e w'' ⟨he, hs⟩ => by subst he; exact go _ _ _ hs hh
      · simp only [hw, if_true, Oper.wp]
        refine .inl ?_
        simp only [hu, Oper.upon]
        exact hc.mono fun e w'' ⟨v, he, hs, hF⟩ => by subst he; exact go _ _ _ ⟨hs, fun _ => hF⟩ (hh v)
/-- The first n are done. -/
def doneTo (s n : Nat) : Array Bool := (List.replicate n true ++ List.replicate (s - n) false).toArray
theorem done_eq {n : Nat} {L : Array Bool} (inv : HeadInv .any ops n L) (hn : n < ops.size) (h : leftOf n L = []) : L = doneTo ops.size n := by
  have hsz := inv.size
  refine Array.ext (by simp [doneTo, hsz]; omega) fun i h1 h2 => ?_
  have hi2 : i < (List.replicate n true ++ List.replicate (ops.size - n) false).length := by
    have := h2; unfold doneTo at this; simpa using this
  have e : (doneTo ops.size n)[i]'h2 = (List.replicate n true ++ List.replicate (ops.size - n) false)[i]'hi2 := rfl
  rw [e]
  rcases Nat.lt_or_ge i n with hi | hi
  · rw [List.getElem_append_left (by simpa using hi)]
    simp only [List.getElem_replicate]
    cases hx : L[i] with
    | true => rfl
    | false =>
      have : i ∈ leftOf n L := leftOf_mem.2 ⟨hi, by simp [h1, hx]⟩
      rw [h] at this; cases this
  · rw [List.getElem_append_right (by simpa using hi)]
    simp only [List.getElem_replicate]
    have := inv.tail i hi (by omega)
    simpa [h1] using this
def holdZTOk (ops : Array Oper) (n : Nat) : Bool := Region.noSelect ops && meetB .any ops && backB .any ops && chainZ ops && decide (n < ops.size) && Region.sinkB .any ops n && Region.chainB .any ops n && Region.seqB .any ops (ops.size - n) n (doneTo ops.size n)
theorem wp_region_holdZT {id : Nat} {l : List Oper} {a : Act} {w : World} (n : Nat) (S : Array Bool → World → Prop) (hG : ∀ j v, Kept (G j v)) (hm : P.follows .mixedOrders = true) (hB : holdZTOk l.toArray n = true)
    (hS : S (Array.replicate l.length false) w.drew) (h : HoldZ P l.toArray G (fun a S => ∀ L w, (∀ i, i < n → L.getD i true = true) → S L w → wpList P l.toArray Q (l.drop n) a w) (List.range n) a S) :
    (Code.region id l.toArray true).wp P Q a w := by
  unfold holdZTOk at hB
  simp only [Bool.and_eq_true, decide_eq_true_eq] at hB
  obtain ⟨⟨⟨⟨⟨⟨⟨h1, h2⟩, h3⟩, h4⟩, h5⟩, h6⟩, h7⟩, h8⟩ := hB
  refine wp_region_any hm ?_
  have hl0 : leftOf n (Array.replicate l.toArray.size false) = List.range n := by
    unfold leftOf
    rw [List.filter_eq_self.2]
    intro x hx
    have : x < n := List.mem_range.1 hx
    have : x < l.length := by simp at h5; omega
    simp [this]
  have inv0 : HeadInv .any l.toArray n (Array.replicate l.toArray.size false) :=
    ⟨by simp, fun j oj _ hl => (by rw [getD_replicate_false] at hl; cases hl), fun t _ ht => getD_in (by simpa using ht) (getD_replicate_false _ _)⟩
  have H := wpAny_of_holdZT (ops := l.toArray) (Q := Q) h1 h2 h3 h4 h6 h7 h5 hG (T := fun a S => ∀ L w, (∀ i, i < n → L.getD i true = true) → S L w → wpList P l.toArray Q (l.drop n) a w) (fun a S L w inv hl hT hs => by
    have hw := hT L w (fun i hi => by
      have h' : i < L.size := by rw [inv.size]; omega
      by_cases hx : L.getD i true = false
      · have : i ∈ leftOf n L := leftOf_mem.2 ⟨hi, hx⟩
        rw [hl] at this; cases this
      · simp [h'] at hx ⊢; exact hx) hs
    have he := done_eq inv h5 hl
    rw [he]
    have hdl : (l.drop n).length = l.toArray.size - n := by simp
    have := wpAny_of_seq (md := .any) (Q' := Q) (l.drop n) n (doneTo l.toArray.size n) a w (fun j => by simp [List.getElem?_drop]) (by rw [hdl]; exact h8) hw
    rwa [hdl] at this) n (Array.replicate l.toArray.size false) a w.drew S inv0 (by rw [hl0]; simp) (by simpa using hS) (by rw [hl0]; exact h)
  rwa [show n + (l.toArray.size - n) = l.toArray.size by omega] at H
end
section
variable {P : Program} {ops : Array Oper} {Q : Exit → Act → World → Prop} {S : World → Prop} {G : Nat → Value → World → Prop}
theorem HoldW.holdZ' {T : Act → Env → Prop} : ∀ (l : List Oper) (i : Nat) (a : Act) (E : Env), (∀ j, j < l.length → l[j]? = ops[i + j]?) → HoldW P ops G S T i l a E →
    HoldZ P ops G (fun a S' => ∃ E, S' = envS ops.size S E ∧ T a E) (List.range' i l.length) a (envS ops.size S E)
  | [], i, a, E, _, h => ⟨E, rfl, h⟩
  | o :: r, i, a, E, hl, h => by
    have ho : ops[i]? = some o := by have := hl 0 (by simp); simpa using this.symm
    have hr : ∀ j, j < r.length → r[j]? = ops[i + 1 + j]? := fun j hj => by have := hl (j + 1) (by simp; omega); simp at this; rw [this]; congr 1; omega
    refine ⟨o, ho, ?_⟩
    rcases h with ⟨v, hy, h⟩ | ⟨v, hy, h⟩ | ⟨F, hy, h⟩ | ⟨hy, h⟩
    · exact .inl ⟨v, hy, HoldW.holdZ' r (i + 1) _ E hr h⟩
    · exact .inr (.inl ⟨v, hy, HoldW.holdZ' r (i + 1) _ E hr h⟩)
    · exact .inr (.inr (.inl ⟨F, hy, fun v => HoldW.holdZ' r (i + 1) _ ((i, F v) :: E) hr (h v)⟩))
    · exact .inr (.inr (.inr ⟨hy, fun v => HoldW.holdZ' r (i + 1) _ ((i, G i v) :: E) hr (h v)⟩))
/-- THE BEGINNING: the first n in the text's order (HoldW's own rules), the rest by the walk. -/
theorem wp_region_holdWT {id : Nat} {l : List Oper} {a : Act} {w : World} (n : Nat) (G : Nat → Value → World → Prop) (hG : ∀ j v, Kept (G j v)) (S : World → Prop) (hm : P.follows .mixedOrders = true) (hB : holdZTOk l.toArray n = true) (hK : Kept S) (hS : S w.drew)
    (h : KeptE S [] → HoldW P l.toArray G S (fun a E => ∀ w, S w → (∀ p ∈ E, p.1 < n → p.2 w) → wpList P l.toArray Q (l.drop n) a w) 0 (l.take n) a []) : (Code.region id l.toArray true).wp P Q a w := by
  have hn : n < l.length := by
    unfold holdZTOk at hB
    simp only [Bool.and_eq_true, decide_eq_true_eq] at hB
    simpa using hB.1.1.1.2
  have htl : (l.take n).length = n := by simp; omega
  have h' := HoldW.holdZ' (ops := l.toArray) (l.take n) 0 a [] (fun j hj => by
    have : j < n := by rw [htl] at hj; exact hj
    simp [this]) (h ⟨hK, fun p hp => by cases hp⟩)
  rw [htl, ← List.range_eq_range'] at h'
  refine wp_region_holdZT n (envS l.toArray.size S []) hG hm hB ⟨by simp, hS⟩ ?_
  revert h'
  generalize List.range n = ns
  generalize envS l.toArray.size S [] = S0
  intro h'
  have mono : ∀ (ns : List Nat) (a : Act) (S' : Array Bool → World → Prop), HoldZ P l.toArray G (fun a S' => ∃ E, S' = envS l.toArray.size S E ∧ ∀ w, S w → (∀ p ∈ E, p.1 < n → p.2 w) → wpList P l.toArray Q (l.drop n) a w) ns a S' →
      HoldZ P l.toArray G (fun a S => ∀ L w, (∀ i, i < n → L.getD i true = true) → S L w → wpList P l.toArray Q (l.drop n) a w) ns a S' := by
    intro ns
    induction ns with
    | nil =>
      intro a S' h L w hall hs
      obtain ⟨E, rfl, h⟩ := h
      exact h w (env_base hs).2 (fun p hp hl => env_get hp hs (hall _ hl))
    | cons i ns ih =>
      intro a S' h
      obtain ⟨o, ho, h⟩ := h
      refine ⟨o, ho, ?_⟩
      rcases h with ⟨v, hy, h⟩ | ⟨v, hy, h⟩ | ⟨F, hy, h⟩ | ⟨hy, h⟩
      · exact .inl ⟨v, hy, ih _ _ h⟩
      · exact .inr (.inl ⟨v, hy, ih _ _ h⟩)
      · exact .inr (.inr (.inl ⟨F, hy, fun v => ih _ _ (h v)⟩))
      · exact .inr (.inr (.inr ⟨hy, fun v => ih _ _ (h v)⟩))
  exact mono _ _ _ h'
end
end Go.Proofs.Ytalpocgajecjbaa
