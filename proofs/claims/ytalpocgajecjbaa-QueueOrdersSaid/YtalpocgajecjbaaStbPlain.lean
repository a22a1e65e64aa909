/- A stable sort by inserting, and merging, of lists: plain. Conditions: as stated. -/
import Derived.Sort.Grow
import Derived.Sort.WalkA
namespace Go.Proofs.Ytalpocgajecjbaa
open Go.Sort (swp insInner insOuter insertionSort SWO)
set_option linter.unusedVariables false
set_option linter.unusedSimpArgs false
set_option linter.unusedSectionVars false

section
variable {α : Type} (lt : α → α → Bool)
/-- y behind those that it is not ahead of. -/
def ins (y : α) : List α → List α
  | [] => [y]
  | z :: l => if lt y z then y :: z :: l else z :: ins y l
/-- One by one. -/
def stb (l : List α) : List α := l.foldl (fun acc x => ins lt x acc) []
/-- Two together, the left ones first where neither is ahead. -/
def mrg : List α → List α → List α
  | [], ys => ys
  | x :: xs, [] => x :: xs
  | x :: xs, y :: ys => if lt y x then y :: mrg (x :: xs) ys else x :: mrg xs (y :: ys)
termination_by a b => a.length + b.length
/-- In order. -/
def Asc (l : List α) : Prop := l.Pairwise (fun x y => lt y x = false)
variable {lt}
@[simp] theorem mrg_nil (l : List α) : mrg lt [] l = l := by rw [mrg]
@[simp] theorem mrg_nil2 (l : List α) : mrg lt l [] = l := by cases l <;> rw [mrg]
theorem mrg_cons (x y : α) (xs ys : List α) : mrg lt (x :: xs) (y :: ys) = if lt y x then y :: mrg lt (x :: xs) ys else x :: mrg lt xs (y :: ys) := by rw [mrg]
theorem ins_len (y : α) (l : List α) : (ins lt y l).length = l.length + 1 := by
  induction l with
  | nil => rfl
  | cons z l ih => unfold ins; split <;> simp [ih]
theorem mrg_len : ∀ (k : Nat) (a b : List α), a.length + b.length ≤ k → (mrg lt a b).length = a.length + b.length := by
  intro k
  induction k with
  | zero => intro a b h; obtain rfl := List.eq_nil_of_length_eq_zero (show a.length = 0 by omega); simp
  | succ k ih =>
    intro a b h
    cases a with
    | nil => simp
    | cons x a =>
      cases b with
      | nil => simp
      | cons y b =>
        rw [mrg_cons]
        simp only [List.length_cons] at h ⊢
        split
        · rw [List.length_cons, ih _ _ (by simp only [List.length_cons]; omega)]; simp only [List.length_cons]; omega
        · rw [List.length_cons, ih _ _ (by simp only [List.length_cons]; omega)]; simp only [List.length_cons]; omega
theorem mrg_length (a b : List α) : (mrg lt a b).length = a.length + b.length := mrg_len _ a b (Nat.le_refl _)
/-- TWO SPLIT ROWS, part by part. -/
theorem mrg_split (k : Nat) : ∀ (L1 R1 L2 R2 : List α), L1.length + R1.length ≤ k → (∀ x ∈ L2, ∀ y ∈ R1, lt y x = true) → (∀ x ∈ L1, ∀ y ∈ R2, lt y x = false) → mrg lt (L1 ++ L2) (R1 ++ R2) = mrg lt L1 R1 ++ mrg lt L2 R2 := by
  induction k with
  | zero =>
    intro L1 R1 L2 R2 h _ _
    obtain rfl := List.eq_nil_of_length_eq_zero (show L1.length = 0 by omega)
    obtain rfl := List.eq_nil_of_length_eq_zero (show R1.length = 0 by omega)
    simp
  | succ k ih =>
    intro L1 R1 L2 R2 h h1 h2
    cases L1 with
    | nil =>
      cases R1 with
      | nil => simp
      | cons y R1 =>
        cases L2 with
        | nil => simp
        | cons x L2 =>
          have e := ih [] R1 (x :: L2) R2 (by simp only [List.length_cons, List.length_nil] at h ⊢; omega) (fun u hu v hv => h1 u hu v (List.mem_cons_of_mem _ hv)) (fun u hu => by cases hu)
          simp only [List.nil_append, mrg_nil] at e ⊢
          rw [List.cons_append, mrg_cons, if_pos (h1 x (List.mem_cons_self ..) y (List.mem_cons_self ..)), e]
          rfl
    | cons x L1 =>
      cases R1 with
      | nil =>
        cases R2 with
        | nil => simp
        | cons y R2 =>
          have e := ih L1 [] L2 (y :: R2) (by simp only [List.length_cons, List.length_nil] at h ⊢; omega) (fun u hu v hv => by cases hv) (fun u hu v hv => h2 u (List.mem_cons_of_mem _ hu) v hv)
          simp only [List.nil_append, mrg_nil2] at e ⊢
          rw [List.cons_append, mrg_cons, if_neg (by rw [h2 x (List.mem_cons_self ..) y (List.mem_cons_self ..)]; exact Bool.false_ne_true), e]
          rfl
      | cons y R1 =>
        simp only [List.cons_append]
        rw [mrg_cons, mrg_cons]
        split
        · have e := ih (x :: L1) R1 L2 R2 (by simp only [List.length_cons] at h ⊢; omega) (fun u hu v hv => h1 u hu v (List.mem_cons_of_mem _ hv)) h2
          rw [List.cons_append] at e; rw [e]; rfl
        · have e := ih L1 (y :: R1) L2 R2 (by simp only [List.length_cons] at h ⊢; omega) h1 (fun u hu v hv => h2 u (List.mem_cons_of_mem _ hu) v hv)
          rw [List.cons_append] at e; rw [e]; rfl
theorem mrg_parts (L1 R1 L2 R2 : List α) (h1 : ∀ x ∈ L2, ∀ y ∈ R1, lt y x = true) (h2 : ∀ x ∈ L1, ∀ y ∈ R2, lt y x = false) : mrg lt (L1 ++ L2) (R1 ++ R2) = mrg lt L1 R1 ++ mrg lt L2 R2 := mrg_split _ L1 R1 L2 R2 (Nat.le_refl _) h1 h2
theorem mrg_one (x : α) (R1 R2 : List α) (h1 : ∀ y ∈ R1, lt y x = true) (h2 : ∀ y ∈ R2, lt y x = false) : mrg lt [x] (R1 ++ R2) = R1 ++ x :: R2 := by
  have e := mrg_parts (lt := lt) [] R1 [x] R2 (fun u hu v hv => by rw [List.mem_singleton] at hu; subst hu; exact h1 v hv) (fun u hu => by cases hu)
  rw [List.nil_append, mrg_nil] at e
  rw [e]
  cases R2 with
  | nil => simp
  | cons y R2 => rw [mrg_cons, if_neg (by rw [h2 y (List.mem_cons_self ..)]; exact Bool.false_ne_true), mrg_nil]
theorem mrg_one2 (y : α) (L1 L2 : List α) (h1 : ∀ x ∈ L2, lt y x = true) (h2 : ∀ x ∈ L1, lt y x = false) : mrg lt (L1 ++ L2) [y] = L1 ++ y :: L2 := by
  have e := mrg_parts (lt := lt) L1 [] L2 [y] (fun u hu v hv => by cases hv) (fun u hu v hv => by rw [List.mem_singleton] at hv; subst hv; exact h2 u hu)
  rw [List.nil_append, mrg_nil2] at e
  rw [e]
  cases L2 with
  | nil => simp
  | cons x L2 => rw [mrg_cons, if_pos (h1 x (List.mem_cons_self ..)), mrg_nil2]
theorem ins_mem (y z : α) (l : List α) : z ∈ ins lt y l ↔ z = y ∨ z ∈ l := by
  induction l with
  | nil => simp [ins]
  | cons u l ih =>
    unfold ins
    split
    · simp
    · rw [List.mem_cons, ih, List.mem_cons]
      constructor
      · rintro (h | h | h) <;> simp [h]
      · rintro (h | h | h) <;> simp [h]
theorem ins_perm (y : α) (l : List α) : (ins lt y l).Perm (y :: l) := by
  induction l with
  | nil => exact .refl _
  | cons u l ih =>
    unfold ins
    split
    · exact .refl _
    · exact (ih.cons u).trans (.swap y u l)
theorem ins_at (y : α) (A B : List α) (h1 : ∀ a ∈ A, lt y a = false) (h2 : ∀ b ∈ B, lt y b = true) : ins lt y (A ++ B) = A ++ y :: B := by
  induction A with
  | nil =>
    cases B with
    | nil => rfl
    | cons b B => show ins lt y (b :: B) = y :: b :: B; unfold ins; rw [if_pos (h2 b (List.mem_cons_self ..))]
  | cons a A ih =>
    rw [List.cons_append]
    unfold ins
    rw [if_neg (by rw [h1 a (List.mem_cons_self ..)]; exact Bool.false_ne_true), ih (fun u hu => h1 u (List.mem_cons_of_mem _ hu))]
    rfl
theorem ins_end (y s : α) (S : List α) (h : lt y s = true) : ins lt y (S ++ [s]) = ins lt y S ++ [s] := by
  induction S with
  | nil => simp [ins, h]
  | cons z S ih => rw [List.cons_append]; unfold ins; split
                   · rfl
                   · rw [ih]; rfl
variable (hO : SWO lt)
include hO
theorem asc_ins (y : α) (l : List α) (h : Asc lt l) : Asc lt (ins lt y l) := by
  induction l with
  | nil => simp [ins, Asc]
  | cons z l ih =>
    unfold Asc at h ih ⊢
    rw [List.pairwise_cons] at h
    unfold ins
    cases hc : lt y z
    · rw [if_neg Bool.false_ne_true, List.pairwise_cons]
      refine ⟨fun u hu => ?_, ih h.2⟩
      rcases (ins_mem y u l).1 hu with rfl | hu
      · exact hc
      · exact h.1 u hu
    · rw [if_pos rfl, List.pairwise_cons, List.pairwise_cons]
      refine ⟨fun u hu => ?_, h.1, h.2⟩
      have hyz : lt z y = false := by
        cases hq : lt z y
        · rfl
        · have := hO.trans _ _ _ hc hq; rw [hO.irrefl] at this; cases this
      rcases List.mem_cons.1 hu with rfl | hu
      · exact hyz
      · exact hO.ntrans _ _ _ (h.1 u hu) hyz
theorem asc_fold (l acc : List α) (h : Asc lt acc) : Asc lt (l.foldl (fun acc x => ins lt x acc) acc) := by
  induction l generalizing acc with
  | nil => exact h
  | cons x l ih => exact ih _ (asc_ins hO x acc h)
theorem asc_stb (l : List α) : Asc lt (stb lt l) := asc_fold hO l [] List.Pairwise.nil
omit hO in
theorem stb_append (l : List α) (y : α) : stb lt (l ++ [y]) = ins lt y (stb lt l) := by unfold stb; rw [List.foldl_append]; rfl
omit hO in
theorem stb_len (l : List α) : (stb lt l).length = l.length := by
  unfold stb
  suffices ∀ (l acc : List α), (l.foldl (fun acc x => ins lt x acc) acc).length = acc.length + l.length by simpa using this l []
  intro l
  induction l with
  | nil => intro acc; rfl
  | cons x l ih => intro acc; rw [List.foldl_cons, ih, ins_len, List.length_cons]; omega
omit hO in
theorem stb_perm (l : List α) : (stb lt l).Perm l := by
  unfold stb
  suffices ∀ (l acc : List α), (l.foldl (fun acc x => ins lt x acc) acc).Perm (acc ++ l) by simpa using this l []
  intro l
  induction l with
  | nil => intro acc; rw [List.append_nil]; exact .refl _
  | cons x l ih =>
    intro acc
    refine (ih _).trans ?_
    refine ((ins_perm x acc).append_right l).trans ?_
    rw [List.cons_append]
    exact (List.perm_middle (a := x) (l₁ := acc) (l₂ := l)).symm
theorem ins_mrg (y : α) : ∀ (k : Nat) (X Z : List α), X.length + Z.length ≤ k → ins lt y (mrg lt X Z) = mrg lt X (ins lt y Z) := by
  intro k
  induction k with
  | zero =>
    intro X Z h
    obtain rfl := List.eq_nil_of_length_eq_zero (show X.length = 0 by omega)
    simp
  | succ k ih =>
    intro X Z h
    cases X with
    | nil => simp
    | cons x X =>
      cases Z with
      | nil =>
        rw [mrg_nil2]
        show ins lt y (x :: X) = mrg lt (x :: X) [y]
        rw [mrg_cons]; unfold ins
        cases hyx : lt y x
        · rw [if_neg Bool.false_ne_true, if_neg Bool.false_ne_true]
          have := ih X [] (by simp only [List.length_cons, List.length_nil] at h ⊢; omega)
          rw [mrg_nil2] at this; rw [this]; rfl
        · rw [if_pos rfl, if_pos rfl, mrg_nil2]
      | cons z Z =>
        simp only [List.length_cons] at h
        have i1 := ih (x :: X) Z (by simp only [List.length_cons]; omega)
        have i2 := ih X (z :: Z) (by simp only [List.length_cons]; omega)
        rw [mrg_cons]
        cases hzx : lt z x
        · rw [if_neg Bool.false_ne_true]
          cases hyx : lt y x
          · rw [ins.eq_2, hyx, if_neg Bool.false_ne_true, i2]
            rw [ins.eq_2]
            cases hyz : lt y z
            · rw [if_neg Bool.false_ne_true, mrg_cons, hzx, if_neg Bool.false_ne_true]
            · rw [if_pos rfl, mrg_cons x, hyx, if_neg Bool.false_ne_true]
          · have hyz : lt y z = true := by
              cases hq : lt y z
              · have := hO.ntrans _ _ _ hq hzx; rw [hyx] at this; cases this
              · rfl
            rw [ins.eq_2, hyx, if_pos rfl, ins.eq_2, hyz, if_pos rfl, mrg_cons, hyx, if_pos rfl, mrg_cons, hzx, if_neg Bool.false_ne_true]
        · rw [if_pos rfl]
          cases hyz : lt y z
          · rw [ins.eq_2, hyz, if_neg Bool.false_ne_true, i1, ins.eq_2, hyz, if_neg Bool.false_ne_true, mrg_cons, hzx, if_pos rfl]
          · have hyx : lt y x = true := hO.trans _ _ _ hyz hzx
            rw [ins.eq_2, hyz, if_pos rfl, ins.eq_2, hyz, if_pos rfl, mrg_cons, hyx, if_pos rfl, mrg_cons, hzx, if_pos rfl]
/-- A SORTED ROW IS THAT OF ITS PARTS, MERGED. -/
theorem stb_mrg (xs ys : List α) : stb lt (xs ++ ys) = mrg lt (stb lt xs) (stb lt ys) := by
  suffices ∀ (k : Nat) (ys : List α), ys.length = k → stb lt (xs ++ ys) = mrg lt (stb lt xs) (stb lt ys) from this _ ys rfl
  intro k
  induction k with
  | zero => intro ys h; obtain rfl := List.eq_nil_of_length_eq_zero h; rw [List.append_nil]; show _ = mrg lt _ []; rw [mrg_nil2]
  | succ k ih =>
    intro ys h
    obtain ⟨y0, y, rfl⟩ : ∃ y0 y, ys = y0 ++ [y] := ⟨ys.dropLast, ys.getLast (by intro e; subst e; cases h), (List.dropLast_concat_getLast _).symm⟩
    rw [← List.append_assoc, stb_append, ih y0 (by simp at h; omega), stb_append, ins_mrg hO y _ _ _ (Nat.le_refl _)]
theorem asc_not (l : List α) (y s : α) (S : List α) (h : Asc lt (S ++ [s])) (hys : lt y s = false) : ∀ x ∈ S ++ [s], lt y x = false := by
  intro x hx
  rcases List.mem_append.1 hx with hx | hx
  · unfold Asc at h
    have := (List.pairwise_append.1 h).2.2 x hx s (List.mem_singleton_self _)
    exact hO.ntrans _ _ _ hys this
  · rw [List.mem_singleton] at hx; subst hx; exact hys
end
section
variable {α : Type} [Inhabited α] {lt : α → α → Bool}
theorem get_at (A : List α) (x : α) (B : List α) (i : Nat) (hi : i = A.length) : (A ++ x :: B).toArray[i]! = x := by
  subst hi; simp
theorem get_in (l : List α) (i : Nat) (hi : i < l.length) : l.toArray[i]! = l[i] := by simp [hi]
theorem swp_list (A : List α) (x : α) (M : List α) (y : α) (B : List α) (i j : Nat) (hi : i = A.length) (hj : j = A.length + 1 + M.length) :
    swp (A ++ x :: M ++ y :: B).toArray i j = (A ++ y :: M ++ x :: B).toArray := by
  have g1 : (A ++ x :: M ++ y :: B).toArray[i]! = x := by rw [List.append_assoc, List.cons_append]; exact get_at _ _ _ _ hi
  have g2 : (A ++ x :: M ++ y :: B).toArray[j]! = y := get_at (A ++ x :: M) y B j (by rw [hj, List.length_append, List.length_cons]; omega)
  unfold swp
  rw [g1, g2, List.setIfInBounds_toArray, List.setIfInBounds_toArray]
  congr 1
  rw [List.append_assoc, List.cons_append, List.set_append_right _ _ (by omega), hi, Nat.sub_self, List.set_cons_zero, ← List.cons_append, ← List.append_assoc, List.set_append_right _ _ (by rw [hj, List.length_append, List.length_cons]; omega), show j - (A ++ y :: M).length = 0 by rw [hj, List.length_append, List.length_cons]; omega, List.set_cons_zero]
theorem swp_list2 (A : List α) (x y : α) (B : List α) (i j : Nat) (hi : i = A.length) (hj : j = A.length + 1) : swp (A ++ x :: y :: B).toArray i j = (A ++ y :: x :: B).toArray := by
  have := swp_list A x [] y B i j hi (by simpa using hj)
  simpa using this
theorem swp_list3 (A : List α) (x y : α) (B : List α) (i j : Nat) (hi : i = A.length + 1) (hj : j = A.length) : swp (A ++ x :: y :: B).toArray i j = (A ++ y :: x :: B).toArray := by
  have g1 : (A ++ x :: y :: B).toArray[j]! = x := get_at _ _ _ _ hj
  have g2 : (A ++ x :: y :: B).toArray[i]! = y := by
    rw [show A ++ x :: y :: B = (A ++ [x]) ++ y :: B by simp]; exact get_at _ _ _ _ (by simpa using hi)
  unfold swp
  rw [g1, g2, List.setIfInBounds_toArray, List.setIfInBounds_toArray]
  congr 1
  rw [List.set_append_right _ _ (by omega), hi, show A.length + 1 - A.length = 1 by omega]
  show (A ++ x :: x :: B).set j y = _
  rw [List.set_append_right _ _ (by omega), hj, Nat.sub_self, List.set_cons_zero]
theorem inner_list (hO : SWO lt) : ∀ (k : Nat) (A S : List α) (y : α) (B : List α) (a j : Nat), S.length = k → a = A.length → j = A.length + S.length → Asc lt S →
    insInner lt a j (A ++ S ++ y :: B).toArray = (A ++ ins lt y S ++ B).toArray := by
  intro k
  induction k with
  | zero =>
    intro A S y B a j hk ha hj hs
    obtain rfl := List.eq_nil_of_length_eq_zero hk
    rw [Go.Proofs.insInner_stop lt a j _ (.inl (by simp at hj; omega))]
    simp [ins]
  | succ k ih =>
    intro A S y B a j hk ha hj hs
    obtain ⟨S0, s, rfl⟩ : ∃ S0 s, S = S0 ++ [s] := ⟨S.dropLast, S.getLast (by intro e; subst e; cases hk), (List.dropLast_concat_getLast _).symm⟩
    have hl : (S0 ++ [s]).length = S0.length + 1 := by simp
    have e0 : A ++ (S0 ++ [s]) ++ y :: B = (A ++ S0) ++ s :: y :: B := by simp
    have g1 : (A ++ (S0 ++ [s]) ++ y :: B).toArray[j]! = y := get_at _ _ _ _ (by simp at hj ⊢; omega)
    have g2 : (A ++ (S0 ++ [s]) ++ y :: B).toArray[j - 1]! = s := by rw [e0]; exact get_at _ _ _ _ (by rw [hj, hl, List.length_append]; omega)
    cases hc : lt y s
    · rw [Go.Proofs.insInner_stop lt a j _ (.inr (by rw [g1, g2]; exact hc))]
      have := ins_at (lt := lt) y (S0 ++ [s]) [] (asc_not hO [] y s S0 hs hc) (fun b hb => by cases hb)
      rw [List.append_nil] at this
      rw [this]
      simp
    · rw [Go.Proofs.insInner_go lt a j _ (by rw [ha, hj, hl]; omega) (by rw [g1, g2]; exact hc), e0, swp_list3 _ _ _ _ _ _ (by rw [hj, hl, List.length_append]; omega) (by rw [hj, hl, List.length_append]; omega)]
      rw [ih A S0 y (s :: B) a (j - 1) (by omega) ha (by rw [hj, hl]; omega) (List.pairwise_append.1 hs).1, ins_end y s S0 hc]
      simp
theorem outer_list (hO : SWO lt) : ∀ (T : List α) (A S B : List α) (a b i : Nat), a = A.length → i = A.length + S.length → b = A.length + S.length + T.length → Asc lt S →
    insOuter lt a b i (A ++ S ++ T ++ B).toArray = (A ++ T.foldl (fun acc x => ins lt x acc) S ++ B).toArray := by
  intro T
  induction T with
  | nil =>
    intro A S B a b i ha hi hb hs
    rw [Go.Proofs.insOuter_stop lt a b i _ (by simp at hb; omega)]
    simp
  | cons y T ih =>
    intro A S B a b i ha hi hb hs
    rw [List.length_cons] at hb
    rw [Go.Proofs.insOuter_go lt a b i _ (by omega), show A ++ S ++ y :: T ++ B = A ++ S ++ y :: (T ++ B) by simp, inner_list hO _ A S y (T ++ B) a i rfl ha hi hs]
    have := ih A (ins lt y S) B a b (i + 1) ha (by rw [ins_len]; omega) (by rw [ins_len]; omega) (asc_ins hO y S hs)
    rw [show A ++ ins lt y S ++ (T ++ B) = A ++ ins lt y S ++ T ++ B by simp, this, List.foldl_cons]
/-- INSERTION SORT OF A PART. -/
theorem insertion_list (hO : SWO lt) (A X B : List α) (a b : Nat) (ha : a = A.length) (hb : b = A.length + X.length) : insertionSort lt (A ++ X ++ B).toArray a b = (A ++ stb lt X ++ B).toArray := by
  unfold insertionSort
  cases X with
  | nil => rw [Go.Proofs.insOuter_stop lt a b _ _ (by simp at hb; omega)]; rfl
  | cons x X =>
    have := outer_list hO X A [x] B a b (a + 1) ha (by simp; omega) (by simp at hb ⊢; omega) (List.pairwise_singleton _ _)
    rw [show A ++ x :: X ++ B = A ++ [x] ++ X ++ B by simp, this]
    rfl
end
section
variable {α : Type} [Inhabited α] {lt : α → α → Bool}
theorem asc_at {l : List α} (h : Asc lt l) {i j : Nat} (hij : i ≤ j) (hj : j < l.length) (hO : SWO lt) : lt (l[j]) (l[i]'(by omega)) = false := by
  rcases Nat.eq_or_lt_of_le hij with rfl | hlt
  · exact hO.irrefl _
  · exact List.pairwise_iff_getElem.1 h i j (by omega) hj hlt
theorem asc_take {l : List α} (h : Asc lt l) (n : Nat) : Asc lt (l.take n) := List.Pairwise.sublist (List.take_sublist n l) h
theorem asc_drop {l : List α} (h : Asc lt l) (n : Nat) : Asc lt (l.drop n) := List.Pairwise.sublist (List.drop_sublist n l) h
theorem lt_left (hO : SWO lt) {u v x : α} (h1 : lt u v = false) (h2 : lt u x = true) : lt v x = true := by
  cases hq : lt v x
  · have := hO.ntrans _ _ _ h1 hq; rw [h2] at this; cases this
  · rfl
theorem lt_right (hO : SWO lt) {y x u : α} (h1 : lt x u = false) (h2 : lt y u = true) : lt y x = true := by
  cases hq : lt y x
  · have := hO.ntrans _ _ _ hq h1; rw [h2] at this; cases this
  · rfl
/-- TWO SORTED ROWS, CUT WHERE THEY CROSS. -/
theorem cross_split (hO : SWO lt) (X Y : List α) (hX : Asc lt X) (hY : Asc lt Y) (u v : Nat) (hu : u ≤ X.length) (hv : v ≤ Y.length) (c1 : ∀ (h1 : u < X.length) (h2 : 0 < v), lt (Y[v - 1]'(by omega)) X[u] = true) (c2 : ∀ (h1 : 0 < u) (h2 : v < Y.length), lt Y[v] (X[u - 1]'(by omega)) = false) :
    mrg lt X Y = mrg lt (X.take u) (Y.take v) ++ mrg lt (X.drop u) (Y.drop v) := by
  conv => lhs; rw [← List.take_append_drop u X, ← List.take_append_drop v Y]
  refine mrg_parts _ _ _ _ (fun x hx y hy => ?_) (fun x hx y hy => ?_)
  · obtain ⟨i, hi, rfl⟩ := List.getElem_of_mem hx
    obtain ⟨j, hj, rfl⟩ := List.getElem_of_mem hy
    rw [List.length_drop] at hi
    rw [List.length_take] at hj
    rw [List.getElem_drop, List.getElem_take]
    have h0 := c1 (by omega) (by omega)
    have h1 : lt (Y[v - 1]'(by omega)) (Y[j]'(by omega)) = false := asc_at hY (by omega) (by omega) hO
    have h2 : lt (X[u + i]'(by omega)) (X[u]'(by omega)) = false := asc_at hX (by omega) (by omega) hO
    exact lt_right hO h2 (lt_left hO h1 h0)
  · obtain ⟨i, hi, rfl⟩ := List.getElem_of_mem hx
    obtain ⟨j, hj, rfl⟩ := List.getElem_of_mem hy
    rw [List.length_take] at hi
    rw [List.length_drop] at hj
    rw [List.getElem_drop, List.getElem_take]
    have h0 := c2 (by omega) (by omega)
    have h1 : lt (Y[v + j]'(by omega)) (Y[v]'(by omega)) = false := asc_at hY (by omega) (by omega) hO
    have h2 : lt (X[u - 1]'(by omega)) (X[i]'(by omega)) = false := asc_at hX (by omega) (by omega) hO
    exact hO.ntrans _ _ _ (hO.ntrans _ _ _ h1 h0) h2
theorem get_second (A X B : List α) (i : Nat) (hi : A.length ≤ i) (h2 : i < A.length + X.length) : (A ++ X ++ B).toArray[i]! = X[i - A.length]'(by omega) := by
  rw [get_in _ _ (by simp; omega), List.getElem_append_left (by simp; omega), List.getElem_append_right hi]
theorem get_third (A X Y B : List α) (i : Nat) (hi : A.length + X.length ≤ i) (h2 : i < A.length + X.length + Y.length) : (A ++ X ++ Y ++ B).toArray[i]! = Y[i - (A.length + X.length)]'(by omega) := by
  have := get_second (A ++ X) Y B i (by simp; omega) (by simp; omega)
  simpa using this
end
section
variable {α : Type} [Inhabited α] {lt : α → α → Bool}
/-- Where two sorted rows, one behind the other, are cut for merging in place: c and its mirror image. -/
structure SymCut (A X Y B : List α) (a m b mid lo hi : Nat) : Prop where
  ha : a = A.length
  hm : m = A.length + X.length
  hb : b = A.length + X.length + Y.length
  hmid : mid = (a + b) / 2
  hX : 0 < X.length
  hY : 0 < Y.length
  hc : (mid < m ∧ lo + b = mid + m ∧ hi = mid) ∨ (m ≤ mid ∧ lo = a ∧ hi = m)
theorem SymCut.get {A X Y B : List α} {a m b mid lo hi : Nat} (h : SymCut A X Y B a m b mid lo hi) (c : Nat) (h1 : lo ≤ c) (h2 : c < hi) : ∃ (p1 : c - a < X.length) (p2 : mid + m - 1 - c - m < Y.length), (A ++ X ++ Y ++ B).toArray[c]! = X[c - a] ∧ (A ++ X ++ Y ++ B).toArray[mid + m - 1 - c]! = Y[mid + m - 1 - c - m] := by
  obtain ⟨ha, hm, hb, hmid, hX, hY, hc⟩ := h
  refine ⟨by omega, by omega, ?_, ?_⟩
  · have := get_second A X (Y ++ B) c (by omega) (by omega)
    rw [← List.append_assoc (A ++ X)] at this
    rw [this]; congr 1; omega
  · rw [get_third A X Y B _ (by omega) (by omega)]; congr 1; omega
theorem SymCut.mono {A X Y B : List α} {a m b mid lo hi : Nat} (h : SymCut A X Y B a m b mid lo hi) (hO : SWO lt) (hX : Asc lt X) (hY : Asc lt Y) (u v : Nat) (h1 : lo ≤ u) (h2 : u ≤ v) (h3 : v < hi) (h4 : lt (A ++ X ++ Y ++ B).toArray[mid + m - 1 - v]! (A ++ X ++ Y ++ B).toArray[v]! = false) : lt (A ++ X ++ Y ++ B).toArray[mid + m - 1 - u]! (A ++ X ++ Y ++ B).toArray[u]! = false := by
  obtain ⟨p1, p2, e1, e2⟩ := h.get u h1 (by omega)
  obtain ⟨q1, q2, f1, f2⟩ := h.get v (by omega) h3
  rw [f1, f2] at h4
  rw [e1, e2]
  have hc := h.hc
  have ha := h.ha
  have hm := h.hm
  have hb := h.hb
  have hmid := h.hmid
  have g1 : lt (Y[mid + m - 1 - u - m]) (Y[mid + m - 1 - v - m]) = false := asc_at hY (by omega) p2 hO
  have g2 : lt (X[v - a]) (X[u - a]) = false := asc_at hX (by omega) q1 hO
  exact hO.ntrans _ _ _ (hO.ntrans _ _ _ g1 h4) g2
theorem SymCut.cut {A X Y B : List α} {a m b mid lo hi : Nat} (h : SymCut A X Y B a m b mid lo hi) (hO : SWO lt) (hX : Asc lt X) (hY : Asc lt Y) (s : Nat) (h1 : lo ≤ s) (h2 : s ≤ hi) (hu : ∀ q, lo ≤ q → q < s → lt (A ++ X ++ Y ++ B).toArray[mid + m - 1 - q]! (A ++ X ++ Y ++ B).toArray[q]! = false) (hf : ∀ q, s ≤ q → q < hi → lt (A ++ X ++ Y ++ B).toArray[mid + m - 1 - q]! (A ++ X ++ Y ++ B).toArray[q]! = true) :
    mrg lt X Y = mrg lt (X.take (s - a)) (Y.take (mid - s)) ++ mrg lt (X.drop (s - a)) (Y.drop (mid - s)) := by
  have hc := h.hc
  have ha := h.ha
  have hm := h.hm
  have hb := h.hb
  have hmid := h.hmid
  refine cross_split hO X Y hX hY (s - a) (mid - s) (by omega) (by omega) (fun g1 g2 => ?_) (fun g1 g2 => ?_)
  · have hs : s < hi := by omega
    have e := hf s (Nat.le_refl _) hs
    obtain ⟨p1, p2, e1, e2⟩ := h.get s h1 hs
    rw [e1, e2] at e
    have ei : mid + m - 1 - s - m = mid - s - 1 := by omega
    simp only [ei] at e
    exact e
  · have hs : lo ≤ s - 1 := by omega
    have e := hu (s - 1) hs (by omega)
    obtain ⟨p1, p2, e1, e2⟩ := h.get (s - 1) hs (by omega)
    rw [e1, e2] at e
    have ei : mid + m - 1 - (s - 1) - m = mid - s := by omega
    have ej : s - 1 - a = s - a - 1 := by omega
    simp only [ei, ej] at e
    exact e
end
section
variable {α : Type} (lt : α → α → Bool)
/-- Blocks of s, each in order. -/
def full (s : Nat) (l : List α) : List α := if h : s = 0 ∨ l.length ≤ s then stb lt l else stb lt (l.take s) ++ full s (l.drop s)
termination_by l.length
decreasing_by simp only [List.length_drop]; omega
variable {lt}
theorem full_small {s : Nat} {l : List α} (h : l.length ≤ s) : full lt s l = stb lt l := by rw [full, dif_pos (.inr h)]
theorem full_nil (s : Nat) : full lt s ([] : List α) = [] := full_small (Nat.zero_le _)
theorem full_big {s : Nat} {l : List α} (h0 : 0 < s) (h : s ≤ l.length) : full lt s l = stb lt (l.take s) ++ full lt s (l.drop s) := by
  rcases Nat.eq_or_lt_of_le h with h | h
  · rw [full_small (by omega), List.take_of_length_le (by omega), List.drop_eq_nil_of_le (by omega), full_nil, List.append_nil]
  · rw [full, dif_neg (by omega)]
theorem full_two {s : Nat} {l : List α} (h0 : 0 < s) (h : 2 * s ≤ l.length) : full lt s l = stb lt (l.take s) ++ (stb lt ((l.drop s).take s) ++ full lt s (l.drop (2 * s))) := by
  rw [full_big h0 (by omega), full_big (l := l.drop s) h0 (by rw [List.length_drop]; omega), List.drop_drop, show s + s = 2 * s by omega]
theorem full_len {s : Nat} (h0 : 0 < s) : ∀ (k : Nat) (l : List α), l.length ≤ k → (full lt s l).length = l.length := by
  intro k
  induction k with
  | zero => intro l h; obtain rfl := List.eq_nil_of_length_eq_zero (show l.length = 0 by omega); rw [full_nil]
  | succ k ih =>
    intro l h
    by_cases hs : l.length ≤ s
    · rw [full_small hs, stb_len]
    · rw [full_big h0 (by omega), List.length_append, stb_len, ih _ (by rw [List.length_drop]; omega), List.length_take, List.length_drop]; omega
theorem full_length {s : Nat} (h0 : 0 < s) (l : List α) : (full lt s l).length = l.length := full_len h0 _ l (Nat.le_refl _)
theorem mrg_blocks [Inhabited α] (hO : SWO lt) (s : Nat) (l : List α) (h : 2 * s ≤ l.length) : mrg lt (stb lt (l.take s)) (stb lt ((l.drop s).take s)) = stb lt (l.take (2 * s)) := by
  rw [← stb_mrg hO, show 2 * s = s + s by omega, List.take_add]
theorem mrg_last [Inhabited α] (hO : SWO lt) (s : Nat) (l : List α) : mrg lt (stb lt (l.take s)) (stb lt (l.drop s)) = stb lt l := by
  rw [← stb_mrg hO, List.take_append_drop]
end
end Go.Proofs.Ytalpocgajecjbaa
