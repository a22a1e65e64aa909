/- A region that draws its order up to a number, taken by a condition of one's own: whatever the order, each of those operations keeps it; the rest by the ordinary walk. For allocs beside calls, whose places hang on the order. Conditions: as stated. -/
import Derived.Test.YthpijibcfkcenaaDoorHoldV
namespace Go.Proofs.YthpijibcfkcenaaDoor
open Go.RowKit
set_option linter.unusedVariables false

def updS (s : Nat → Value) (j : Nat) (v : Value) : Nat → Value := fun k => if k = j then v else s k
/-- The frame with what the operations have yielded laid in. -/
def putFrom (s : Nat → Value) : Nat → List (Option Tmp) → Act → Act
  | _, [], a => a
  | k, d :: r, a => putFrom s (k + 1) r (a.put d (s k))
theorem put_same2 (a : Act) (d : Option Tmp) (u v : Value) : (a.put d u).put d v = a.put d v := by
  cases d with
  | none => rfl
  | some t => simp [Act.put]
theorem put_swap (a : Act) (d e : Option Tmp) (u v : Value) (h : d ≠ e) : (a.put d u).put e v = (a.put e v).put d u := by
  cases d with
  | none => rfl
  | some t =>
    cases e with
    | none => rfl
    | some q =>
      have hne : t ≠ q := fun x => h (by rw [x])
      simp only [Act.put]
      congr 1
      exact Array.setIfInBounds_comm _ _ hne
theorem putFrom_out (s : Nat → Value) : ∀ (ds : List (Option Tmp)) (k : Nat) (a : Act) (d : Option Tmp) (v : Value), d ∉ ds → (putFrom s k ds a).put d v = putFrom s k ds (a.put d v)
  | [], _, _, _, _, _ => rfl
  | e :: r, k, a, d, v, h => by
    rw [putFrom, putFrom, putFrom_out s r (k + 1) _ d v (fun x => h (List.mem_cons_of_mem _ x)), put_swap _ e d _ _ (fun x => h (by rw [x]; exact List.mem_cons_self))]
theorem putFrom_upd (s : Nat → Value) (j : Nat) (v : Value) : ∀ (ds : List (Option Tmp)) (k : Nat) (a : Act), j < k → putFrom (updS s j v) k ds a = putFrom s k ds a
  | [], _, _, _ => rfl
  | e :: r, k, a, h => by
    rw [putFrom, putFrom, putFrom_upd s j v r (k + 1) _ (by omega)]
    rw [show updS s j v k = s k by unfold updS; rw [if_neg (by omega)]]
theorem putFrom_in (s : Nat → Value) : ∀ (ds : List (Option Tmp)) (k j : Nat) (a : Act) (d : Option Tmp) (v : Value), ds.Nodup → ds[j]? = some d → (putFrom s k ds a).put d v = putFrom (updS s (k + j) v) k ds a
  | e :: r, k, 0, a, d, v, hn, hj => by
    obtain rfl : e = d := by simpa using hj
    rw [putFrom, putFrom, putFrom_out s r (k + 1) _ e v (List.nodup_cons.1 hn).1, put_same2, putFrom_upd s (k + 0) v r (k + 1) _ (by omega)]
    rw [show updS s (k + 0) v k = v by unfold updS; rw [if_pos (by omega)]]
  | e :: r, k, j + 1, a, d, v, hn, hj => by
    rw [putFrom, putFrom, putFrom_in s r (k + 1) j _ d v (List.nodup_cons.1 hn).2 (by simpa using hj)]
    rw [show k + 1 + j = k + (j + 1) by omega, show updS s (k + (j + 1)) v k = s k by unfold updS; rw [if_neg (by omega)]]
theorem put_size (a : Act) (d : Option Tmp) (v : Value) : (a.put d v).tmps.size = a.tmps.size := by cases d <;> simp [Act.put]
theorem putFrom_size (s : Nat → Value) : ∀ (ds : List (Option Tmp)) (k : Nat) (a : Act), (putFrom s k ds a).tmps.size = a.tmps.size
  | [], _, _ => rfl
  | d :: r, k, a => by rw [putFrom, putFrom_size s r (k + 1), put_size]
theorem putFrom_else (s : Nat → Value) (t : Tmp) : ∀ (ds : List (Option Tmp)) (k : Nat) (a : Act), some t ∉ ds → (putFrom s k ds a).tmps[t]? = a.tmps[t]?
  | [], _, _, _ => rfl
  | d :: r, k, a, h => by
    rw [putFrom, putFrom_else s t r (k + 1) _ (fun x => h (List.mem_cons_of_mem _ x))]
    cases d with
    | none => rfl
    | some q =>
      have : q ≠ t := fun e => h (by rw [e]; exact List.mem_cons_self)
      simp [Act.put, Array.getElem?_setIfInBounds_ne this]
theorem putFrom_read (s : Nat → Value) : ∀ (ds : List (Option Tmp)) (k j : Nat) (a : Act) (t : Tmp), ds.Nodup → ds[j]? = some (some t) → t < a.tmps.size → (putFrom s k ds a).tmps[t]? = some (s (k + j))
  | e :: r, k, 0, a, t, hn, hj, ht => by
    obtain rfl : e = some t := by simpa using hj
    rw [putFrom, putFrom_else s t r (k + 1) _ (List.nodup_cons.1 hn).1]
    simp [Act.put, ht]
  | e :: r, k, j + 1, a, t, hn, hj, ht => by
    rw [putFrom, putFrom_read s r (k + 1) j _ t (List.nodup_cons.1 hn).2 (by simpa using hj) (by rw [put_size]; exact ht), show k + 1 + j = k + (j + 1) by omega]
theorem putFrom_self : ∀ (ds : List (Option Tmp)) (k : Nat) (a : Act) (s : Nat → Value), (∀ j t, ds[j]? = some (some t) → s (k + j) = a.tmps.getD t undef) → putFrom s k ds a = a
  | [], _, _, _, _ => rfl
  | d :: r, k, a, s, h => by
    have e : a.put d (s k) = a := by
      cases d with
      | none => rfl
      | some t =>
        have h0 := h 0 t (by simp)
        rw [Nat.add_zero] at h0
        rw [h0]
        show { a with tmps := a.tmps.setIfInBounds t (a.tmps.getD t undef) } = a
        have : a.tmps.setIfInBounds t (a.tmps.getD t undef) = a.tmps := by
          refine Array.ext (by simp) fun i h1 h2 => ?_
          by_cases hi : t = i
          · subst hi; simp [h2]
          · rw [Array.getElem_setIfInBounds_ne _ hi]
        rw [this]
    rw [putFrom, e]
    exact putFrom_self r (k + 1) a s fun j t hj => by
      have := h (j + 1) t (by simpa using hj)
      rwa [show k + (j + 1) = k + 1 + j by omega] at this
def slotsOf (ds : List (Option Tmp)) (a : Act) (k : Nat) : Value := match ds[k]? with
  | some (some t) => a.tmps.getD t undef
  | _ => undef
theorem putFrom_slots (ds : List (Option Tmp)) (a : Act) : putFrom (slotsOf ds a) 0 ds a = a := putFrom_self ds 0 a _ fun j t hj => by
  rw [Nat.zero_add]; unfold slotsOf; rw [hj]
section
variable {P : Program} {ops : Array Oper} {Q : Exit → Act → World → Prop}
theorem does_mono {o : Oper} {a : Act} {w : World} {K K' : Value → World → Prop} (h : Does P o a w K) (hk : ∀ v w', K v w' → K' v w') : Does P o a w K' := by
  rcases h with ⟨v, w', h1, h2⟩ | ⟨w', h1, h2⟩ | ⟨f, args, h1, h2⟩
  · exact .inl ⟨v, w', h1, hk _ _ h2⟩
  · exact .inr (.inl ⟨w', h1, hk _ _ h2⟩)
  · exact .inr (.inr ⟨f, args, h1, h2.mono fun e w'' ⟨v, he, h3⟩ => ⟨v, he, hk _ _ h3⟩⟩)
theorem wpAny_inv {n : Nat} (I : Array Bool → Act → World → Prop) (hK : backB .any ops = true) (hs : Region.sinkB .any ops n = true) (hch : Region.chainB .any ops n = true) (hn : n < ops.size)
    (hstep : ∀ L a w j o, HeadInv .any ops n L → j < n → j ∈ Region.ready .any ops L → ops[j]? = some o → I L a w → Region.wanted o (yielded ops a.tmps) = true ∧ Does P o a w fun v w' => I (L.setIfInBounds j true) (a.put o.dst v) w')
    (hend : ∀ L a w, HeadInv .any ops n L → leftOf n L = [] → I L a w → wpAny P .any ops Q (ops.size - n) L a w) :
    ∀ (fuel : Nat) (L : Array Bool) (a : Act) (w : World), HeadInv .any ops n L → (leftOf n L).length = fuel → I L a w → wpAny P .any ops Q (fuel + (ops.size - n)) L a w := by
  intro fuel
  induction fuel with
  | zero =>
    intro L a w inv hl hI
    rw [Nat.zero_add]
    exact hend L a w inv (List.eq_nil_of_length_eq_zero hl) hI
  | succ fuel ih =>
    intro L a w inv hl hI
    have hsz := inv.size
    obtain ⟨q, hq⟩ : ∃ q, q ∈ leftOf n L := by
      cases hlf : leftOf n L with
      | nil => rw [hlf] at hl; cases hl
      | cons q r => exact ⟨q, by simp⟩
    obtain ⟨hqn, hqu⟩ := leftOf_mem.1 hq
    rw [show fuel + 1 + (ops.size - n) = (fuel + (ops.size - n)) + 1 by omega]
    refine ⟨fun h0 => absurd h0 (ready_some hK L hsz (fun e => by
      have : q ∈ leftOf ops.size L := leftOf_mem.2 ⟨by omega, hqu⟩
      rw [e] at this; cases this)), fun j hj => ?_⟩
    obtain ⟨hun, oj, hoj, hall⟩ := mem_ready.1 hj
    have hjs : j < ops.size := (Array.getElem?_eq_some_iff.1 hoj).1
    have hjn : j < n := by
      rcases Nat.lt_or_ge j n with h' | h'
      · exact h'
      · exact absurd hj (tail_waits hs hch hn inv _ q rfl hqn hqu j h')
    have hmem : j ∈ leftOf n L := leftOf_mem.2 ⟨hjn, hun⟩
    have hjL : j < L.size := by rw [hsz]; exact hjs
    have hlen : (leftOf n (L.setIfInBounds j true)).length = fuel := by
      obtain ⟨l1, l2, hsp⟩ := List.append_of_mem hmem
      have hsrt : (leftOf n L).Pairwise (· < ·) := List.Pairwise.filter _ List.pairwise_lt_range
      rw [hsp] at hsrt hl
      have hj1 : j ∉ l1 := fun e => Nat.lt_irrefl _ ((List.pairwise_append.1 hsrt).2.2 j e j (by simp))
      have hj2 : j ∉ l2 := fun e => by
        have := (List.pairwise_append.1 hsrt).2.1
        exact Nat.lt_irrefl _ ((List.pairwise_cons.1 this).1 j e)
      have e1 : leftOf n (L.setIfInBounds j true) = (leftOf n L).filter (· ≠ j) := by
        unfold leftOf
        rw [List.filter_filter]
        refine List.filter_congr fun i hi => ?_
        by_cases hij : i = j
        · subst hij; simp [hjL]
        · rw [getD_set_ne true (fun e => hij e.symm)]; simp [hij]
      rw [e1, hsp, List.filter_append, List.filter_cons]
      simp only [ne_eq, not_true_eq_false, decide_false]
      have f1 : l1.filter (fun x => decide (¬ x = j)) = l1 := List.filter_eq_self.2 fun x hx => by simp; rintro rfl; exact hj1 hx
      have f2 : l2.filter (fun x => decide (¬ x = j)) = l2 := List.filter_eq_self.2 fun x hx => by simp; rintro rfl; exact hj2 hx
      rw [f1]
      simp only [Bool.false_eq_true, if_false]
      rw [f2]
      simp at hl ⊢; omega
    have go : ∀ v w', I (L.setIfInBounds j true) (a.put oj.dst v) w' → wpAny P .any ops Q (fuel + (ops.size - n)) (L.setIfInBounds j true) (a.put oj.dst v) w' := fun v w' h =>
      ih (L.setIfInBounds j true) (a.put oj.dst v) w' (inv.set hj hjn) hlen h
    obtain ⟨hw, hd⟩ := hstep L a w j oj inv hjn hj hoj hI
    unfold Go.wpOp
    simp only [hoj, hw, if_true, Oper.wp]
    refine .inl ?_
    rcases hd with ⟨v, w', hu, h⟩ | ⟨w', hu, h⟩ | ⟨f, args, hu, hc⟩
    · simp only [hu, Oper.upon]; exact go _ _ h
    · simp only [hu, Oper.upon]; exact go _ _ h
    · simp only [hu, Oper.upon]
      exact hc.mono fun e w'' ⟨v, he, h⟩ => by subst he; exact go _ _ h
def invOk (ops : Array Oper) (n : Nat) : Bool := backB .any ops && decide (n < ops.size) && Region.sinkB .any ops n && Region.chainB .any ops n && Region.seqB .any ops (ops.size - n) n (doneTo ops.size n)
/-- THE RULE. m: which have come up; s: what they have yielded. -/
theorem wp_region_inv {id : Nat} {l : List Oper} {a : Act} {w : World} (n : Nat) (s0 : Nat → Value) (J : (Nat → Bool) → (Nat → Value) → World → Prop) (ds : List (Option Tmp)) (hds : (l.take n).map (·.dst) = ds) (hnd : ds.Nodup) (hm : P.follows .mixedOrders = true) (hB : invOk l.toArray n = true)
    (hput : putFrom s0 0 ds a = a) (hS : J (fun _ => false) s0 w.drew)
    (hstep : ∀ j o, j < n → l[j]? = some o → ∀ m s w, m j = false → (∀ e ∈ o.after, Region.binds .any e = true → m e.on = true) → J m s w →
      Region.wanted o (yielded l.toArray (putFrom s 0 ds a).tmps) = true ∧ Does P o (putFrom s 0 ds a) w fun v w' => J (fun k => k == j || m k) (updS s j v) w')
    (h : ∀ m s w, (∀ k, k < n → m k = true) → J m s w → wpList P l.toArray Q (l.drop n) (putFrom s 0 ds a) w) : (Code.region id l.toArray true).wp P Q a w := by
  unfold invOk at hB
  simp only [Bool.and_eq_true, decide_eq_true_eq] at hB
  obtain ⟨⟨⟨⟨h3, h5⟩, h6⟩, h7⟩, h8⟩ := hB
  refine wp_region_any hm ?_
  have hl0 : leftOf n (Array.replicate l.toArray.size false) = List.range n := by
    unfold leftOf
    rw [List.filter_eq_self.2]
    intro x hx
    have : x < n := List.mem_range.1 hx
    have : x < l.length := by simp at h5; omega
    simp [this]
  have inv0 : HeadInv .any l.toArray n (Array.replicate l.toArray.size false) :=
    ⟨by simp, fun j oj _ hl => (by rw [getD_replicate_false] at hl; cases hl), fun t _ ht => getD_in (by simpa using ht) (getD_replicate_false _ _)⟩
  have H := wpAny_inv (P := P) (ops := l.toArray) (Q := Q) (n := n) (fun L b w => ∃ s, b = putFrom s 0 ds a ∧ J (fun k => L.getD k false) s w) h3 h6 h7 h5
    (fun L b w j o inv hjn hj hoj ⟨s, hb, hJ⟩ => by
      subst hb
      obtain ⟨hun, o', ho', hall⟩ := mem_ready.1 hj
      obtain rfl : o' = o := Option.some.inj (ho'.symm.trans hoj)
      have hjs : j < l.toArray.size := (Array.getElem?_eq_some_iff.1 hoj).1
      have hjL : j < L.size := by rw [inv.size]; exact hjs
      obtain ⟨hw, hd⟩ := hstep j o' hjn (by simpa using hoj) (fun k => L.getD k false) s w (by simp [hjL] at hun ⊢; exact hun) hall hJ
      refine ⟨hw, does_mono hd fun v w' hJ' => ⟨updS s j v, ?_, ?_⟩⟩
      · have hdj : ds[j]? = some o'.dst := by rw [← hds, List.getElem?_map, List.getElem?_take_of_lt hjn]; rw [show l[j]? = some o' by simpa using hoj]; rfl
        have := putFrom_in s ds 0 j a o'.dst v hnd hdj
        rw [Nat.zero_add] at this
        exact this
      · have e : (fun k => (L.setIfInBounds j true).getD k false) = fun k => k == j || L.getD k false := by
          funext k
          by_cases hkj : k = j
          · subst hkj; simp [hjL]
          · rw [getD_set_ne false (fun e => hkj e.symm)]; simp [hkj]
        rw [e]; exact hJ')
    (fun L b w inv hl ⟨s, hb, hJ⟩ => by
      subst hb
      have hw := h (fun k => L.getD k false) s w (fun i hi => by
        have h' : i < L.size := by rw [inv.size]; omega
        by_cases hx : L.getD i true = false
        · have : i ∈ leftOf n L := leftOf_mem.2 ⟨hi, hx⟩
          rw [hl] at this; cases this
        · simp [h'] at hx ⊢; exact hx) hJ
      have he := done_eq inv h5 hl
      rw [he]
      have hdl : (l.drop n).length = l.toArray.size - n := by simp
      have := wpAny_of_seq (md := .any) (Q' := Q) (l.drop n) n (doneTo l.toArray.size n) (putFrom s 0 ds a) w (fun j => by simp [List.getElem?_drop]) (by rw [hdl]; exact h8) hw
      rwa [hdl] at this) n (Array.replicate l.toArray.size false) a w.drew inv0 (by rw [hl0]; simp) ⟨s0, hput.symm, by
        have e : (fun k => (Array.replicate l.toArray.size false).getD k false) = fun _ => false := by
          funext k
          exact getD_replicate_false _ _
        rw [e]; exact hS⟩
  rwa [show n + (l.toArray.size - n) = l.toArray.size by omega] at H
end
end Go.Proofs.YthpijibcfkcenaaDoor
