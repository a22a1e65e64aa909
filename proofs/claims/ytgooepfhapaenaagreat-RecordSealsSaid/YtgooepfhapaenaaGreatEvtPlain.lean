/- Events and their bytes, plain: the letters of a kind, the numbers of an event, the event of numbers; what is right, written, read. Conditions: none. -/
import Derived.Test.YtgooepfhapaenaaGreatOctPlain
import Derived.Test.YtgooepfhapaenaaGreatPlains
namespace Go.Proofs.YtgooepfhapaenaaGreat
set_option linter.unusedVariables false

structure Evt where
  k : Int
  n : Int
  j : Int
  i : Int
  p : Int
  r : V3
def Evt.ok (v : Evt) : Prop := inI v.k ∧ inI v.n ∧ inI v.j ∧ inI v.i ∧ inI v.p ∧ v.r.ok
def Evt.row (v : Evt) : List Value := [.int .i64 v.k, .int .i64 v.n, .int .i64 v.j, .int .i64 v.i, .int .i64 v.p, .int .i64 v.r.a, .int .i64 v.r.b, .int .i64 v.r.c]
def Evt.cells (v : Evt) : Array Value := #[.int .i64 v.k, .int .i64 v.n, .int .i64 v.j, .int .i64 v.i, .int .i64 v.p, .int .i64 v.r.a, .int .i64 v.r.b, .int .i64 v.r.c]
def Evt.val (v : Evt) : Value := .agg #[.int .i64 v.k, .int .i64 v.n, .int .i64 v.j, .int .i64 v.i, .int .i64 v.p, .int .i64 v.r.a, .int .i64 v.r.b, .int .i64 v.r.c]
def zeroE : Evt := ⟨0, 0, 0, 0, 0, zero3⟩
def eqE (v u : Evt) : Bool := v.k == u.k && (v.n == u.n && (v.j == u.j && (v.i == u.i && (v.p == u.p && eq3 v.r u.r))))
theorem eqE_iff (v u : Evt) : eqE v u = true ↔ v = u := by cases v; cases u; simp [eqE, eq3_iff]
/-- The letters of a kind: N 78, I 73, J 74, P 80, R 82. -/
def lettersE (k : Int) : List UInt8 := if k = 1 ∨ k = 2 then [78, 73, 82] else if k = 3 then [78, 73] else if k = 4 then [74, 80, 82] else if k = 5 then [74] else if k = 6 ∨ k = 7 then [74, 78, 73] else []
def fieldE (v : Evt) (c : UInt8) : List Int := if c = 78 then [v.n] else if c = 73 then [v.i] else if c = 74 then [v.j] else if c = 80 then [v.p] else [v.r.a, v.r.b, v.r.c]
def numsE (v : Evt) (ls : List UInt8) : List Int := ls.flatMap (fieldE v)
/-- How many numbers letters have. -/
def wideE (c : UInt8) : Nat := if c = 78 ∨ c = 73 ∨ c = 74 ∨ c = 80 then 1 else 3
def manyE (ls : List UInt8) : Nat := (ls.map wideE).sum
def putF (v : Evt) (c : UInt8) (l : List Int) : Evt :=
  if c = 78 then { v with n := l.getD 0 0 } else if c = 73 then { v with i := l.getD 0 0 } else if c = 74 then { v with j := l.getD 0 0 } else if c = 80 then { v with p := l.getD 0 0 } else { v with r := ⟨l.getD 0 0, l.getD 1 0, l.getD 2 0⟩ }
def fillE : List UInt8 → List Int → Evt → Evt
  | [], _, v => v
  | c :: ls, l, v => fillE ls (l.drop (wideE c)) (putF v c l)
def madeE (k : Int) (l : List Int) : Evt := fillE (lettersE k) l ⟨k, 0, 0, 0, 0, zero3⟩
def pureE (v : Evt) : Evt := if lettersE v.k = [] then zeroE else madeE v.k (numsE v (lettersE v.k))
def okFv (v : Evt) (c : UInt8) : Bool :=
  if c = 78 then decide (0 ≤ v.n) && decide (v.n ≤ 15) else if c = 73 then decide (1 ≤ v.i) && decide (v.i ≤ 2147483647) else if c = 74 then decide (1 ≤ v.j) && decide (v.j ≤ 2147483647) else if c = 80 then decide (0 ≤ v.p) && decide (v.p ≤ 99) else rightB v.r
def checkE (v : Evt) : Int := if lettersE v.k = [] then 5 else if (lettersE v.k).all (okFv v) = false then 1 else if eqE (pureE v) v = false then 1 else 0
def bytesN (l : List Int) : List UInt8 := l.flatMap fun n => if n < 0 then [] else varL n.toNat
def bytesE (v : Evt) : List UInt8 := UInt8.ofNat v.k.toNat :: bytesN (numsE v (lettersE v.k))
def putE (v : Evt) : List UInt8 × Int := if checkE v = 0 then (bytesE v, 0) else ([], checkE v)
/-- So many numbers off the bytes: the numbers, what is left, the error. -/
def takesE : Nat → List UInt8 → List Int × List UInt8 × Nat
  | 0, l => ([], l, 0)
  | m + 1, l => if tvE l = 0 then (((tvV l : Nat) : Int) :: (takesE m (l.drop (tvM l))).1, (takesE m (l.drop (tvM l))).2) else ([], l, tvE l)
def getE (s : List UInt8) : Evt × Int := match s with
  | [] => (zeroE, 3)
  | c :: t => if lettersE c.toNat = [] then (zeroE, 5) else if (takesE (manyE (lettersE c.toNat)) t).2.2 ≠ 0 then (zeroE, (takesE (manyE (lettersE c.toNat)) t).2.2) else if (takesE (manyE (lettersE c.toNat)) t).2.1 ≠ [] then (zeroE, 2)
    else if checkE (madeE c.toNat (takesE (manyE (lettersE c.toNat)) t).1) = 0 then (madeE c.toNat (takesE (manyE (lettersE c.toNat)) t).1, 0) else (zeroE, checkE (madeE c.toNat (takesE (manyE (lettersE c.toNat)) t).1))
/-! ### Facts -/
theorem letters_cases (k : Int) : (k = 1 ∧ lettersE k = [78, 73, 82]) ∨ (k = 2 ∧ lettersE k = [78, 73, 82]) ∨ (k = 3 ∧ lettersE k = [78, 73]) ∨ (k = 4 ∧ lettersE k = [74, 80, 82]) ∨ (k = 5 ∧ lettersE k = [74]) ∨ (k = 6 ∧ lettersE k = [74, 78, 73]) ∨ (k = 7 ∧ lettersE k = [74, 78, 73]) ∨ ((k < 1 ∨ 7 < k) ∧ lettersE k = []) := by
  by_cases h1 : k = 1; · subst h1; exact .inl ⟨rfl, rfl⟩
  by_cases h2 : k = 2; · subst h2; exact .inr (.inl ⟨rfl, rfl⟩)
  by_cases h3 : k = 3; · subst h3; exact .inr (.inr (.inl ⟨rfl, rfl⟩))
  by_cases h4 : k = 4; · subst h4; exact .inr (.inr (.inr (.inl ⟨rfl, rfl⟩)))
  by_cases h5 : k = 5; · subst h5; exact .inr (.inr (.inr (.inr (.inl ⟨rfl, rfl⟩))))
  by_cases h6 : k = 6; · subst h6; exact .inr (.inr (.inr (.inr (.inr (.inl ⟨rfl, rfl⟩)))))
  by_cases h7 : k = 7; · subst h7; exact .inr (.inr (.inr (.inr (.inr (.inr (.inl ⟨rfl, rfl⟩))))))
  refine .inr (.inr (.inr (.inr (.inr (.inr (.inr ⟨by omega, ?_⟩))))))
  unfold lettersE
  rw [if_neg (by omega), if_neg h3, if_neg h4, if_neg h5, if_neg (by omega)]
theorem pureE_k {v : Evt} (h : lettersE v.k ≠ []) : (pureE v).k = v.k := by
  unfold pureE
  rw [if_neg h]
  unfold madeE
  rcases letters_cases v.k with ⟨_, e⟩ | ⟨_, e⟩ | ⟨_, e⟩ | ⟨_, e⟩ | ⟨_, e⟩ | ⟨_, e⟩ | ⟨_, e⟩ | ⟨_, e⟩ <;> rw [e] <;> rfl
theorem numsE_len (v : Evt) (k : Int) : (numsE v (lettersE k)).length = manyE (lettersE k) := by
  rcases letters_cases k with ⟨_, e⟩ | ⟨_, e⟩ | ⟨_, e⟩ | ⟨_, e⟩ | ⟨_, e⟩ | ⟨_, e⟩ | ⟨_, e⟩ | ⟨_, e⟩ <;> rw [e] <;> rfl
theorem len1 {l : List Int} (h : l.length = 1) : ∃ a, l = [a] := by
  match l, h with
  | [a], _ => exact ⟨a, rfl⟩
theorem len2 {l : List Int} (h : l.length = 2) : ∃ a b, l = [a, b] := by
  match l, h with
  | [a, b], _ => exact ⟨a, b, rfl⟩
theorem len3 {l : List Int} (h : l.length = 3) : ∃ a b c, l = [a, b, c] := by
  match l, h with
  | [a, b, c], _ => exact ⟨a, b, c, rfl⟩
theorem len5 {l : List Int} (h : l.length = 5) : ∃ a b c d e, l = [a, b, c, d, e] := by
  match l, h with
  | [a, b, c, d, e], _ => exact ⟨a, b, c, d, e, rfl⟩
/-- The event of numbers has just those. -/
theorem made_nums (k : Int) (l : List Int) (h : l.length = manyE (lettersE k)) : (madeE k l).k = k ∧ numsE (madeE k l) (lettersE k) = l := by
  unfold madeE
  rcases letters_cases k with ⟨_, e⟩ | ⟨_, e⟩ | ⟨_, e⟩ | ⟨_, e⟩ | ⟨_, e⟩ | ⟨_, e⟩ | ⟨_, e⟩ | ⟨_, e⟩ <;> rw [e] at h ⊢
  · obtain ⟨a, b, c, d, e, rfl⟩ := len5 (h.trans rfl); exact ⟨rfl, rfl⟩
  · obtain ⟨a, b, c, d, e, rfl⟩ := len5 (h.trans rfl); exact ⟨rfl, rfl⟩
  · obtain ⟨a, b, rfl⟩ := len2 (h.trans rfl); exact ⟨rfl, rfl⟩
  · obtain ⟨a, b, c, d, e, rfl⟩ := len5 (h.trans rfl); exact ⟨rfl, rfl⟩
  · obtain ⟨a, rfl⟩ := len1 (h.trans rfl); exact ⟨rfl, rfl⟩
  · obtain ⟨a, b, c, rfl⟩ := len3 (h.trans rfl); exact ⟨rfl, rfl⟩
  · obtain ⟨a, b, c, rfl⟩ := len3 (h.trans rfl); exact ⟨rfl, rfl⟩
  · have : l = [] := List.eq_nil_of_length_eq_zero h
    subst this; exact ⟨rfl, rfl⟩
/-- An event of numbers is pure. -/
theorem made_pure (k : Int) (l : List Int) (hk : lettersE k ≠ []) (h : l.length = manyE (lettersE k)) : pureE (madeE k l) = madeE k l := by
  obtain ⟨h1, h2⟩ := made_nums k l h
  unfold pureE
  rw [h1, if_neg hk, h2]
theorem pure_pure (v : Evt) : pureE (pureE v) = pureE v := by
  by_cases h : lettersE v.k = []
  · have e : pureE v = zeroE := by unfold pureE; rw [if_pos h]
    rw [e]
    rfl
  · have e : pureE v = madeE v.k (numsE v (lettersE v.k)) := by unfold pureE; rw [if_neg h]
    rw [e]
    exact made_pure v.k _ h (numsE_len v v.k)
/-- What is right is pure; its kind is one. -/
theorem check_ok {v : Evt} (h : checkE v = 0) : lettersE v.k ≠ [] ∧ (lettersE v.k).all (okFv v) = true ∧ pureE v = v := by
  unfold checkE at h
  by_cases h1 : lettersE v.k = []
  · rw [if_pos h1] at h; omega
  · rw [if_neg h1] at h
    by_cases h2 : (lettersE v.k).all (okFv v) = false
    · rw [if_pos h2] at h; omega
    · rw [if_neg h2] at h
      by_cases h3 : eqE (pureE v) v = false
      · rw [if_pos h3] at h; omega
      · exact ⟨h1, by simpa using h2, (eqE_iff _ _).1 (by simpa using h3)⟩
/-- The numbers of an event that is right are none below 0, and an int holds them. -/
theorem nums_ok {v : Evt} (h : (lettersE v.k).all (okFv v) = true) : ∀ n ∈ numsE v (lettersE v.k), 0 ≤ n ∧ n ≤ 2147483647 := by
  intro n hn
  unfold numsE at hn
  obtain ⟨c, hc, hn⟩ := List.mem_flatMap.1 hn
  have hok := List.all_eq_true.1 h c hc
  unfold okFv at hok
  unfold fieldE at hn
  split at hn
  · rename_i e; rw [if_pos e] at hok; simp at hok hn; omega
  · rename_i e; rw [if_neg e] at hok
    split at hn
    · rename_i e; rw [if_pos e] at hok; simp at hok hn; omega
    · rename_i e; rw [if_neg e] at hok
      split at hn
      · rename_i e; rw [if_pos e] at hok; simp at hok hn; omega
      · rename_i e; rw [if_neg e] at hok
        split at hn
        · rename_i e; rw [if_pos e] at hok; simp at hok hn; omega
        · rename_i e; rw [if_neg e] at hok
          unfold rightB unitB at hok
          simp at hok hn
          omega
theorem takes_bytes : ∀ (l : List Int) (r : List UInt8), (∀ n ∈ l, 0 ≤ n ∧ n ≤ 2147483647) → takesE l.length (bytesN l ++ r) = (l, r, 0)
  | [], r, _ => rfl
  | n :: l, r, h => by
    obtain ⟨h0, h1⟩ := h n List.mem_cons_self
    have hb : bytesN (n :: l) ++ r = varL n.toNat ++ (bytesN l ++ r) := by
      unfold bytesN
      rw [List.flatMap_cons, if_neg (by omega), List.append_assoc]
    have hlt : n.toNat < 9223372036854775808 := by omega
    have ih := takes_bytes l r (fun m hm => h m (List.mem_cons_of_mem _ hm))
    rw [hb]
    unfold takesE
    rw [List.length_cons]
    simp only [tvE_varL _ _ hlt, tvV_varL _ _ hlt, tvM_varL _ _ hlt, if_true, List.drop_left, ih]
    rw [Int.toNat_of_nonneg h0]
theorem getE_put {v : Evt} (h : checkE v = 0) : getE (bytesE v) = (v, 0) := by
  obtain ⟨h1, h2, h3⟩ := check_ok h
  have hk : ((UInt8.ofNat v.k.toNat).toNat : Int) = v.k := by
    rcases letters_cases v.k with ⟨e, _⟩ | ⟨e, _⟩ | ⟨e, _⟩ | ⟨e, _⟩ | ⟨e, _⟩ | ⟨e, _⟩ | ⟨e, _⟩ | ⟨_, e⟩
    all_goals first | (rw [e]; rfl) | exact absurd e h1
  have ht := takes_bytes (numsE v (lettersE v.k)) [] (nums_ok h2)
  rw [List.append_nil, numsE_len] at ht
  have hm : madeE v.k (numsE v (lettersE v.k)) = v := by
    have := h3
    unfold pureE at this
    rwa [if_neg h1] at this
  unfold getE bytesE
  simp only [hk]
  rw [if_neg h1, ht]
  simp [hm, h]
theorem takes_len : ∀ (m : Nat) (l : List UInt8), (takesE m l).2.2 = 0 → (takesE m l).1.length = m
  | 0, l, _ => rfl
  | m + 1, l, h => by
    unfold takesE at h ⊢
    split at h
    · rename_i e
      rw [if_pos e]
      simp only [List.length_cons]
      rw [takes_len m _ h]
    · rename_i e
      exact absurd h e
theorem take_bytes {l : List UInt8} (h : tvE l = 0) : varL (tvV l) = l.take (tvM l) := by
  have h1 : leadN l < l.length := by
    rcases Nat.lt_or_ge (leadN l) l.length with h1 | h1
    · exact h1
    · rw [tvE_short h1] at h; simp at h
  have h2 : ¬ (9 ≤ leadN l ∨ (0 < leadN l ∧ l[leadN l]? = some 0)) := fun q => by rw [tvE_form h1 q] at h; simp at h
  unfold tvV tvM
  rw [if_pos h, if_pos h]
  exact (varL_iff l h1 (by omega)).2 (fun q => h2 (.inr q))
theorem bytes_takes : ∀ (m : Nat) (l : List UInt8), (takesE m l).2.2 = 0 → bytesN (takesE m l).1 ++ (takesE m l).2.1 = l
  | 0, l, _ => rfl
  | m + 1, l, h => by
    unfold takesE at h ⊢
    split at h
    · rename_i e
      rw [if_pos e]
      have ih := bytes_takes m _ h
      have hb : bytesN (((tvV l : Nat) : Int) :: (takesE m (l.drop (tvM l))).1) = varL (tvV l) ++ bytesN (takesE m (l.drop (tvM l))).1 := by
        unfold bytesN
        rw [List.flatMap_cons, if_neg (by omega), Int.toNat_natCast]
      simp only
      rw [hb, List.append_assoc, ih, take_bytes e, List.take_append_drop]
    · rename_i e
      exact absurd h e
/-- What is read is written so. -/
theorem put_get {s : List UInt8} (h : (getE s).2 = 0) : checkE (getE s).1 = 0 ∧ bytesE (getE s).1 = s := by
  cases s with
  | nil => exact absurd h (by decide)
  | cons c t =>
    unfold getE at h ⊢
    simp only at h ⊢
    by_cases h1 : lettersE c.toNat = []
    · rw [if_pos h1] at h; exact absurd h (by decide)
    rw [if_neg h1] at h ⊢
    by_cases h2 : (takesE (manyE (lettersE c.toNat)) t).2.2 = 0
    · rw [if_neg (fun q => q h2)] at h ⊢
      by_cases h3 : (takesE (manyE (lettersE c.toNat)) t).2.1 = []
      · rw [if_neg (fun q => q h3)] at h ⊢
        by_cases h4 : checkE (madeE c.toNat (takesE (manyE (lettersE c.toNat)) t).1) = 0
        · rw [if_pos h4] at h ⊢
          obtain ⟨m1, m2⟩ := made_nums c.toNat _ (takes_len _ _ h2)
          refine ⟨h4, ?_⟩
          unfold bytesE
          simp only [m1, m2]
          have hb := bytes_takes _ _ h2
          rw [h3, List.append_nil] at hb
          rw [hb, Int.toNat_natCast]
          simp
        · rw [if_neg h4] at h; exact absurd h h4
      · rw [if_pos h3] at h; exact absurd h (by decide)
    · rw [if_pos h2] at h; exact absurd (show (takesE (manyE (lettersE c.toNat)) t).2.2 = 0 by simp only at h; omega) h2
theorem get_zero {s : List UInt8} (h : (getE s).2 ≠ 0) : (getE s).1 = zeroE := by
  unfold getE at h ⊢
  split
  · rfl
  · simp only at h ⊢
    repeat' split
    all_goals first | rfl | (exfalso; rename_i q1 q2 q3 q4; rw [if_neg q1, if_neg q2, if_neg q3, if_pos q4] at h; exact h rfl)
/-! ### What is cut off is none -/
theorem lead_all {l : List UInt8} (h : ∀ b ∈ l, 128 ≤ b.toNat) : leadN l = l.length := by
  induction l with
  | nil => rfl
  | cons a r ih =>
    have h0 := h a List.mem_cons_self
    unfold leadN
    rw [if_pos h0, ih (fun b hb => h b (List.mem_cons_of_mem _ hb)), List.length_cons]
theorem form_last : ∀ {l : List UInt8}, form l → ∀ b ∈ l.dropLast, 128 ≤ b.toNat
  | [], h, _, _ => h.elim
  | [a], _, b, hb => by simp at hb
  | a :: c :: l, h, b, hb => by
    rw [List.dropLast_cons_of_ne_nil (by simp)] at hb
    rcases List.mem_cons.1 hb with rfl | hb
    · exact h.1
    · exact form_last h.2 b hb
theorem takes_cut : ∀ (l : List Int), l ≠ [] → (∀ n ∈ l, 0 ≤ n ∧ n ≤ 2147483647) → (takesE l.length (bytesN l).dropLast).2.2 ≠ 0
  | [], h, _ => absurd rfl h
  | n :: l, _, h => by
    obtain ⟨h0, h1⟩ := h n List.mem_cons_self
    have hlt : n.toNat < 9223372036854775808 := by omega
    have hb : bytesN (n :: l) = varL n.toNat ++ bytesN l := by
      unfold bytesN
      rw [List.flatMap_cons, if_neg (by omega)]
    rw [hb]
    cases l with
    | nil =>
      have e : bytesN [] = [] := rfl
      rw [e, List.append_nil]
      have hs : tvE (varL n.toNat).dropLast = 3 := tvE_short (by rw [lead_all (form_last (form_varL _))]; exact Nat.le_refl _)
      show (takesE 1 (varL n.toNat).dropLast).2.2 ≠ 0
      unfold takesE
      rw [if_neg (by rw [hs]; decide)]
      simp only [hs]
      decide
    | cons m r =>
      have hne : bytesN (m :: r) ≠ [] := by
        have hm := h m (List.mem_cons_of_mem _ List.mem_cons_self)
        unfold bytesN
        rw [List.flatMap_cons, if_neg (by omega)]
        intro q
        exact varL_ne _ (List.append_eq_nil_iff.1 q).1
      have ih := takes_cut (m :: r) (by simp) (fun x hx => h x (List.mem_cons_of_mem _ hx))
      rw [List.dropLast_append_of_ne_nil hne]
      unfold takesE
      rw [List.length_cons]
      simp only [tvE_varL _ _ hlt, tvM_varL _ _ hlt, if_true, List.drop_left]
      exact ih
theorem get_cut {v : Evt} (h : checkE v = 0) : (getE (bytesE v).dropLast).2 ≠ 0 := by
  obtain ⟨h1, h2, h3⟩ := check_ok h
  have hk : ((UInt8.ofNat v.k.toNat).toNat : Int) = v.k := by
    rcases letters_cases v.k with ⟨e, _⟩ | ⟨e, _⟩ | ⟨e, _⟩ | ⟨e, _⟩ | ⟨e, _⟩ | ⟨e, _⟩ | ⟨e, _⟩ | ⟨_, e⟩
    all_goals first | (rw [e]; rfl) | exact absurd e h1
  have hn := nums_ok h2
  have hne : numsE v (lettersE v.k) ≠ [] := fun q => by
    have := numsE_len v v.k
    rw [q] at this
    rcases letters_cases v.k with ⟨_, e⟩ | ⟨_, e⟩ | ⟨_, e⟩ | ⟨_, e⟩ | ⟨_, e⟩ | ⟨_, e⟩ | ⟨_, e⟩ | ⟨_, e⟩ <;> rw [e] at this
    all_goals first | exact absurd this (by decide) | exact h1 e
  have hc := takes_cut _ hne hn
  rw [numsE_len] at hc
  have hbn : bytesN (numsE v (lettersE v.k)) ≠ [] := by
    cases hl : numsE v (lettersE v.k) with
    | nil => exact absurd hl hne
    | cons m r =>
      have hm := hn m (by rw [hl]; exact List.mem_cons_self)
      unfold bytesN
      rw [List.flatMap_cons, if_neg (by omega)]
      intro q
      exact varL_ne _ (List.append_eq_nil_iff.1 q).1
  unfold bytesE
  rw [List.dropLast_cons_of_ne_nil hbn]
  unfold getE
  simp only [hk]
  rw [if_neg h1, if_pos hc]
  simp only
  omega
/-! ### An int holds what it has -/
theorem inI_zero : inI 0 := by unfold inI; omega
theorem pure_ok {v : Evt} (h : v.ok) : (pureE v).ok := by
  obtain ⟨h1, h2, h3, h4, h5, h6, h7, h8⟩ := h
  have z := inI_zero
  unfold pureE
  rcases letters_cases v.k with ⟨k, e⟩ | ⟨k, e⟩ | ⟨k, e⟩ | ⟨k, e⟩ | ⟨k, e⟩ | ⟨k, e⟩ | ⟨k, e⟩ | ⟨_, e⟩
  · rw [if_neg (by rw [e]; simp)]; unfold madeE; rw [e]; exact ⟨h1, h2, z, h4, z, h6, h7, h8⟩
  · rw [if_neg (by rw [e]; simp)]; unfold madeE; rw [e]; exact ⟨h1, h2, z, h4, z, h6, h7, h8⟩
  · rw [if_neg (by rw [e]; simp)]; unfold madeE; rw [e]; exact ⟨h1, h2, z, h4, z, z, z, z⟩
  · rw [if_neg (by rw [e]; simp)]; unfold madeE; rw [e]; exact ⟨h1, z, h3, z, h5, h6, h7, h8⟩
  · rw [if_neg (by rw [e]; simp)]; unfold madeE; rw [e]; exact ⟨h1, z, h3, z, z, z, z, z⟩
  · rw [if_neg (by rw [e]; simp)]; unfold madeE; rw [e]; exact ⟨h1, h2, h3, h4, z, z, z, z⟩
  · rw [if_neg (by rw [e]; simp)]; unfold madeE; rw [e]; exact ⟨h1, h2, h3, h4, z, z, z, z⟩
  · rw [if_pos e]; exact ⟨z, z, z, z, z, z, z, z⟩
theorem made_ok {k : Int} {l : List Int} (hk : inI k) (hl : l.length = manyE (lettersE k)) (h : ∀ n ∈ l, inI n) : (madeE k l).ok := by
  have z := inI_zero
  unfold madeE
  rcases letters_cases k with ⟨_, e⟩ | ⟨_, e⟩ | ⟨_, e⟩ | ⟨_, e⟩ | ⟨_, e⟩ | ⟨_, e⟩ | ⟨_, e⟩ | ⟨_, e⟩ <;> rw [e] at hl ⊢
  · obtain ⟨a, b, c, d, e, rfl⟩ := len5 (hl.trans rfl); simp at h; exact ⟨hk, h.1, z, h.2.1, z, h.2.2.1, h.2.2.2.1, h.2.2.2.2⟩
  · obtain ⟨a, b, c, d, e, rfl⟩ := len5 (hl.trans rfl); simp at h; exact ⟨hk, h.1, z, h.2.1, z, h.2.2.1, h.2.2.2.1, h.2.2.2.2⟩
  · obtain ⟨a, b, rfl⟩ := len2 (hl.trans rfl); simp at h; exact ⟨hk, h.1, z, h.2, z, z, z, z⟩
  · obtain ⟨a, b, c, d, e, rfl⟩ := len5 (hl.trans rfl); simp at h; exact ⟨hk, z, h.1, z, h.2.1, h.2.2.1, h.2.2.2.1, h.2.2.2.2⟩
  · obtain ⟨a, rfl⟩ := len1 (hl.trans rfl); simp at h; exact ⟨hk, z, h, z, z, z, z, z⟩
  · obtain ⟨a, b, c, rfl⟩ := len3 (hl.trans rfl); simp at h; exact ⟨hk, h.2.1, h.1, h.2.2, z, z, z, z⟩
  · obtain ⟨a, b, c, rfl⟩ := len3 (hl.trans rfl); simp at h; exact ⟨hk, h.2.1, h.1, h.2.2, z, z, z, z⟩
  · exact ⟨hk, z, z, z, z, z, z, z⟩
theorem check_fits {v : Evt} (h : checkE v = 0) : v.ok := by
  obtain ⟨h1, h2, h3⟩ := check_ok h
  have hn := nums_ok h2
  have e : madeE v.k (numsE v (lettersE v.k)) = v := by
    have := h3
    unfold pureE at this
    rwa [if_neg h1] at this
  rw [← e]
  refine made_ok ?_ (numsE_len v v.k) fun n hm => by have := hn n hm; unfold inI; omega
  rcases letters_cases v.k with ⟨k, _⟩ | ⟨k, _⟩ | ⟨k, _⟩ | ⟨k, _⟩ | ⟨k, _⟩ | ⟨k, _⟩ | ⟨k, _⟩ | ⟨_, e⟩
  all_goals first | (unfold inI; omega) | exact absurd e h1
theorem bytesE_ne (v : Evt) : bytesE v ≠ [] := by unfold bytesE; simp
theorem get_put_ok {s : List UInt8} (h : (getE s).2 = 0) : putE (getE s).1 = (s, 0) ∧ pureE (getE s).1 = (getE s).1 ∧ (getE s).1.ok := by
  obtain ⟨h1, h2⟩ := put_get h
  refine ⟨?_, (check_ok h1).2.2, check_fits h1⟩
  unfold putE
  rw [if_pos h1, h2]
end Go.Proofs.YtgooepfhapaenaaGreat
