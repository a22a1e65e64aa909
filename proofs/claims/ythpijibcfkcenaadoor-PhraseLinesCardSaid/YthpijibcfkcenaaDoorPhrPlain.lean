/- Events as lines of text, plain: a kind's word and names, an event's line, the event of a line, many of them; back. Conditions: none. -/
import Derived.Test.YthpijibcfkcenaaDoorRowPlain
import Derived.Test.YthpijibcfkcenaaDoorEvtPlain
namespace Go.Proofs.YthpijibcfkcenaaDoor
set_option linter.unusedVariables false
set_option linter.unusedSimpArgs false

/-- A kind's word. -/
def wordP (k : Int) : List UInt8 :=
  if k = 1 then [106, 111, 105, 110] else if k = 2 then [114, 101, 115, 105, 122, 101] else if k = 3 then [103, 111, 110, 101] else if k = 4 then [115, 117, 98, 109, 105, 116]
  else if k = 5 then [99, 97, 110, 99, 101, 108] else if k = 6 then [114, 117, 110] else if k = 7 then [100, 111, 110, 101] else []
def nNode : List UInt8 := [110, 111, 100, 101]
def nInc : List UInt8 := [105, 110, 99]
def nJob : List UInt8 := [106, 111, 98]
def nPrio : List UInt8 := [112, 114, 105, 111]
def nCores : List UInt8 := [99, 111, 114, 101, 115]
def nMem : List UInt8 := [109, 101, 109, 111, 114, 121]
def nDisk : List UInt8 := [100, 105, 115, 107]
def namesP (k : Int) : List (List UInt8) :=
  if k = 1 ∨ k = 2 then [nNode, nInc, nCores, nMem, nDisk] else if k = 3 then [nNode, nInc] else if k = 4 then [nJob, nPrio, nCores, nMem, nDisk] else if k = 5 then [nJob] else [nJob, nNode, nInc]
def lineL (v : Evt) : List UInt8 := rowL (wordP v.k) (namesP v.k) (numsE v (lettersE v.k))
def lineP (v : Evt) : List UInt8 × Int := if checkE v = 0 then (lineL v, 0) else ([], checkE v)
def tryP (l : List UInt8) (k : Int) : Option Evt := match rowO l (wordP k) (namesP k) with
  | some o => if checkE (madeE k o) = 0 then some (madeE k o) else none
  | none => none
def parseO (l : List UInt8) : Option Evt := ([1, 2, 3, 4, 5, 6, 7] : List Int).findSome? (tryP l)
def parseP (l : List UInt8) : Evt × Int := match parseO l with
  | some v => (v, 0)
  | none => (zeroE, 2)
def textP : List Evt → List UInt8 × Int
  | [] => ([], 0)
  | v :: l => if checkE v ≠ 0 then ([], checkE v) else if (textP l).2 ≠ 0 then ([], (textP l).2) else (lineL v ++ 10 :: (textP l).1, 0)
def joinR (out : List Evt) (r : List Evt × Int × Int) : List Evt × Int × Int := if r.2.2 ≠ 0 then ([], r.2) else (out ++ r.1, 0, 0)
def allP : Nat → List (List UInt8) → List Evt × Int × Int
  | _, [] => ([], 0, 0)
  | i, x :: t => if wordsL x = [] then allP (i + 1) t else match parseO x with
    | none => ([], i, 2)
    | some v => joinR [v] (allP (i + 1) t)
/-! ### A kind's word and names -/
theorem kinds7 {k : Int} (h : lettersE k ≠ []) : k = 1 ∨ k = 2 ∨ k = 3 ∨ k = 4 ∨ k = 5 ∨ k = 6 ∨ k = 7 := by
  rcases letters_cases k with ⟨e, _⟩ | ⟨e, _⟩ | ⟨e, _⟩ | ⟨e, _⟩ | ⟨e, _⟩ | ⟨e, _⟩ | ⟨e, _⟩ | ⟨_, e⟩
  all_goals first | (exact absurd e h) | omega
theorem letters_ne {k : Int} (h : 1 ≤ k ∧ k ≤ 7) : lettersE k ≠ [] := by
  rcases letters_cases k with ⟨_, e⟩ | ⟨_, e⟩ | ⟨_, e⟩ | ⟨_, e⟩ | ⟨_, e⟩ | ⟨_, e⟩ | ⟨_, e⟩ | ⟨e, _⟩
  all_goals first | omega | (rw [e]; simp)
theorem names_many {k : Int} (h : lettersE k ≠ []) : (namesP k).length = manyE (lettersE k) := by
  rcases kinds7 h with rfl | rfl | rfl | rfl | rfl | rfl | rfl <;> rfl
theorem word_small (k : Int) : (wordP k).length ≤ 6 := by
  unfold wordP
  repeat' split
  all_goals simp
theorem names_few (k : Int) : (namesP k).length ≤ 5 := by
  unfold namesP
  repeat' split
  all_goals simp
theorem names_each (k : Int) : ∀ a ∈ namesP k, a.length ≤ 6 := by
  unfold namesP
  repeat' split
  all_goals decide
instance wchar_dec (c : UInt8) : Decidable (wchar c) := by unfold wchar; infer_instance
theorem word_ok {k : Int} (h : lettersE k ≠ []) : wordP k ≠ [] ∧ (∀ c ∈ wordP k, wchar c) ∧ (10 : UInt8) ∉ wordP k := by
  rcases kinds7 h with rfl | rfl | rfl | rfl | rfl | rfl | rfl <;> decide
theorem names_ok {k : Int} (h : lettersE k ≠ []) : (∀ a ∈ namesP k, ∀ c ∈ a, wchar c) ∧ ∀ a ∈ namesP k, (10 : UInt8) ∉ a := by
  rcases kinds7 h with rfl | rfl | rfl | rfl | rfl | rfl | rfl <;> decide
theorem word_inj {i k : Int} (hi : lettersE i ≠ []) (hk : lettersE k ≠ []) (h : wordP i = wordP k) : i = k := by
  rcases kinds7 hi with rfl | rfl | rfl | rfl | rfl | rfl | rfl <;> rcases kinds7 hk with rfl | rfl | rfl | rfl | rfl | rfl | rfl <;> first | rfl | (exact absurd h (by decide))
/-! ### One line -/
theorem try_word {l x : List UInt8} {ps : List (List UInt8)} {k : Int} (h : wordsL l = x :: ps) (hx : x ≠ wordP k) : tryP l k = none := by
  unfold tryP
  rw [rowO_word h hx]
theorem try_none {l : List UInt8} {k : Int} (h : wordsL l = []) : tryP l k = none := by
  unfold tryP rowO
  rw [h]
theorem parse_hit {l : List UInt8} {k : Int} {v : Evt} (hk : lettersE k ≠ []) (h : tryP l k = some v) : parseO l = some v := by
  have hw : ∀ i, lettersE i ≠ [] → i ≠ k → tryP l i = none := by
    intro i hi hik
    cases hl : wordsL l with
    | nil => exact try_none hl
    | cons x ps =>
      by_cases hx : x = wordP k
      · exact try_word hl (fun e => hik (word_inj hi hk (e.symm.trans hx)))
      · rw [try_word hl hx] at h; exact absurd h (by simp)
  unfold parseO
  rcases kinds7 hk with rfl | rfl | rfl | rfl | rfl | rfl | rfl
  all_goals (simp only [List.findSome?_cons, List.findSome?_nil]; repeat (first | rw [h] | rw [hw _ (letters_ne (by decide)) (by decide)] | rfl))
theorem parse_miss {l : List UInt8} (h : ∀ k, 1 ≤ k → k < 8 → tryP l k = none) : parseO l = none := by
  unfold parseO
  rw [List.findSome?_eq_none_iff]
  intro k hk
  exact h k (by simp at hk; omega) (by simp at hk; omega)
theorem parse_kind {l x : List UInt8} {ps : List (List UInt8)} {k : Int} (hk : lettersE k ≠ []) (h : wordsL l = x :: ps) (hx : x = wordP k) : parseO l = tryP l k := by
  cases ht : tryP l k with
  | some v => exact parse_hit hk ht
  | none =>
    refine parse_miss fun i h1 h2 => ?_
    by_cases hik : i = k
    · rw [hik]; exact ht
    · exact try_word h (fun e => hik (word_inj (letters_ne ⟨h1, by omega⟩) hk (e.symm.trans hx)))
theorem try_ok {l : List UInt8} {k : Int} {v : Evt} (h : tryP l k = some v) : checkE v = 0 ∧ ∃ o, rowO l (wordP k) (namesP k) = some o ∧ v = madeE k o := by
  unfold tryP at h
  split at h
  · rename_i o ho
    split at h
    · rename_i hc
      have := Option.some.inj h
      exact ⟨this ▸ hc, o, ho, this.symm⟩
    · simp at h
  · simp at h
theorem parse_ok {l : List UInt8} {v : Evt} (h : parseO l = some v) : checkE v = 0 := by
  unfold parseO at h
  obtain ⟨k, hk, hv⟩ := List.exists_of_findSome?_eq_some h
  exact (try_ok hv).1
theorem parseP_ok (l : List UInt8) : (parseP l).1.ok := by
  unfold parseP
  cases h : parseO l with
  | none => exact ⟨inI_zero, inI_zero, inI_zero, inI_zero, inI_zero, inI_zero, inI_zero, inI_zero⟩
  | some v => exact check_fits (parse_ok h)
theorem line_words {v : Evt} (h : checkE v = 0) : ∃ ps, wordsL (lineL v) = wordP v.k :: ps := by
  have hk := (check_ok h).1
  exact ⟨_, words_join_end _ (row_plain _ _ _ ⟨(word_ok hk).1, (word_ok hk).2.1⟩ (names_ok hk).1)⟩
theorem nums_in {v : Evt} (h : checkE v = 0) : ∀ n ∈ numsE v (lettersE v.k), inI n := fun n hn => by
  have := nums_ok (check_ok h).2.1 n hn
  unfold inI; omega
theorem parse_line {v : Evt} (h : checkE v = 0) : parseO (lineL v) = some v := by
  obtain ⟨hk, ho, hp⟩ := check_ok h
  have hl : (numsE v (lettersE v.k)).length = (namesP v.k).length := by rw [names_many hk, numsE_len]
  have hr : rowO (lineL v) (wordP v.k) (namesP v.k) = some (numsE v (lettersE v.k)) := by
    have e : wordsL (lineL v) = wordP v.k :: List.zipWith partL (namesP v.k) (numsE v (lettersE v.k)) := words_join_end _ (row_plain _ _ _ ⟨(word_ok hk).1, (word_ok hk).2.1⟩ (names_ok hk).1)
    rw [rowO_parts e, parts_back _ _ (by omega) (nums_in h), ← hl, List.take_length]
  have hm : madeE v.k (numsE v (lettersE v.k)) = v := by
    unfold pureE at hp
    rwa [if_neg hk] at hp
  refine parse_hit hk ?_
  unfold tryP
  rw [hr]
  show (if checkE (madeE v.k (numsE v (lettersE v.k))) = 0 then some (madeE v.k (numsE v (lettersE v.k))) else none) = some v
  rw [hm, if_pos h]
theorem joinS_no {d : UInt8} : ∀ (l : List (List UInt8)), d ≠ 32 → (∀ p ∈ l, d ∉ p) → d ∉ joinW l
  | [], _, _ => by unfold joinW joinS; simp
  | [a], _, h => by unfold joinW joinS; exact h a (by simp)
  | a :: b :: l, hd, h => by
    have ih := joinS_no (b :: l) hd (fun p hp => h p (by simp [hp]))
    unfold joinW at ih ⊢
    unfold joinS
    intro hm
    rcases List.mem_append.1 hm with hm | hm
    · exact h a (by simp) hm
    · rcases List.mem_cons.1 hm with hm | hm
      · exact hd hm
      · exact ih hm
theorem zip_no : ∀ (ks : List (List UInt8)) (ns : List Int), (∀ a ∈ ks, (10 : UInt8) ∉ a) → ∀ p ∈ List.zipWith partL ks ns, (10 : UInt8) ∉ p
  | [], _, _ => by simp
  | a :: ks, [], _ => by simp
  | a :: ks, n :: ns, h => by
    intro p hp
    rcases List.mem_cons.1 (by simpa only [List.zipWith_cons_cons] using hp) with e | e
    · subst e
      intro hm
      unfold partL at hm
      rcases List.mem_append.1 hm with hm | hm
      · exact h a (by simp) hm
      · rcases List.mem_cons.1 hm with hm | hm
        · exact absurd hm (by decide)
        · rcases textL_chars n _ hm with hd | hd
          · unfold isDig at hd; simp at hd
          · exact absurd hd (by decide)
    · exact zip_no ks ns (fun b hb => h b (by simp [hb])) p e
theorem line_no {v : Evt} (h : checkE v = 0) : (10 : UInt8) ∉ lineL v := by
  have hk := (check_ok h).1
  refine joinS_no _ (by decide) fun p hp => ?_
  rcases List.mem_cons.1 hp with e | e
  · subst e; exact (word_ok hk).2.2
  · exact zip_no _ _ (names_ok hk).2 p e
/-! ### Texts -/
theorem text_bad : ∀ {l : List Evt} {i : Nat} (hi : i < l.length), (∀ v ∈ l.take i, checkE v = 0) → checkE l[i] ≠ 0 → textP l = ([], checkE l[i])
  | [], i, hi, _, _ => absurd hi (by simp)
  | v :: l, 0, hi, _, h => by
    unfold textP
    exact if_pos h
  | v :: l, i + 1, hi, ha, h => by
    have hv : checkE v = 0 := ha v (by simp)
    have ih := text_bad (l := l) (i := i) (by simpa using hi) (fun u hu => ha u (by simp [hu])) (by simpa using h)
    unfold textP
    rw [if_neg (by simp [hv]), ih, if_pos (by simpa using h)]
    simp
theorem text_end : ∀ {l : List Evt}, (∀ v ∈ l, checkE v = 0) → textP l = (textW (l.map lineL), 0)
  | [], _ => rfl
  | v :: l, h => by
    have ih := text_end (l := l) (fun u hu => h u (by simp [hu]))
    unfold textP
    rw [if_neg (by simp [h v (by simp)]), ih, if_neg (by simp)]
    simp [textW]
theorem joinR_join (a b : List Evt) (r : List Evt × Int × Int) : joinR a (joinR b r) = joinR (a ++ b) r := by
  unfold joinR
  by_cases h : r.2.2 ≠ 0
  · rw [if_pos h]; simp [h]
  · have h : r.2.2 = 0 := by simpa using h
    simp [h]
/-- How far ParseAll has come. -/
def PhAI (ls : List (List UInt8)) (k : Nat) (out : List Evt) : Prop := allP 0 ls = joinR out (allP k (ls.drop k))
theorem allP_err : ∀ (ls : List (List UInt8)) (i : Nat), (allP i ls).2.2 = 0 → (allP i ls).2.1 = 0
  | [], i, _ => rfl
  | x :: t, i, h => by
    unfold allP at h ⊢
    split
    · rename_i hw; rw [if_pos hw] at h; exact allP_err t _ h
    · rename_i hw
      rw [if_neg hw] at h
      split
      · rename_i hp; rw [hp] at h; simp at h
      · rename_i v hp
        rw [hp] at h
        unfold joinR at h ⊢
        split
        · rename_i hr; simp [hr] at h
        · rfl
theorem joinR_nil (ls : List (List UInt8)) (i : Nat) (h : (allP i ls).2.2 ≠ 0 → (allP i ls).1 = []) : joinR [] (allP i ls) = allP i ls := by
  unfold joinR
  by_cases hr : (allP i ls).2.2 = 0
  · rw [if_neg (by simp [hr])]
    refine Prod.ext (by simp) (Prod.ext ?_ hr.symm)
    exact (allP_err ls i hr).symm
  · rw [if_pos hr]
    exact Prod.ext (h hr).symm rfl
theorem allP_bad : ∀ (ls : List (List UInt8)) (i : Nat), (allP i ls).2.2 ≠ 0 → (allP i ls).1 = []
  | [], i, h => rfl
  | x :: t, i, h => by
    unfold allP at h ⊢
    split
    · rename_i hw; rw [if_pos hw] at h; exact allP_bad t _ h
    · rename_i hw
      rw [if_neg hw] at h
      split
      · rfl
      · rename_i v hp
        rw [hp] at h
        unfold joinR at h ⊢
        split
        · rfl
        · rename_i hr; simp [hr] at h
theorem phAI_zero (ls : List (List UInt8)) : PhAI ls 0 [] := (joinR_nil ls 0 (allP_bad ls 0)).symm
theorem phAI_skip {ls : List (List UInt8)} {k : Nat} {out : List Evt} (h : PhAI ls k out) (hk : k < ls.length) (hw : wordsL ls[k] = []) : PhAI ls (k + 1) out := by
  unfold PhAI at h ⊢
  rw [h, List.drop_eq_getElem_cons hk]
  congr 1
  rw [allP]
  exact if_pos hw
theorem phAI_next {ls : List (List UInt8)} {k : Nat} {out : List Evt} {v : Evt} (h : PhAI ls k out) (hk : k < ls.length) (hw : wordsL ls[k] ≠ []) (hp : parseO ls[k] = some v) : PhAI ls (k + 1) (out ++ [v]) := by
  unfold PhAI at h ⊢
  rw [h, List.drop_eq_getElem_cons hk, ← joinR_join]
  congr 1
  rw [allP, if_neg hw, hp]
theorem phAI_bad {ls : List (List UInt8)} {k : Nat} {out : List Evt} (h : PhAI ls k out) (hk : k < ls.length) (hw : wordsL ls[k] ≠ []) (hp : parseO ls[k] = none) : allP 0 ls = ([], (k : Int), 2) := by
  unfold PhAI at h
  rw [h, List.drop_eq_getElem_cons hk, allP, if_neg hw, hp]
  rfl
theorem phAI_end {ls : List (List UInt8)} {k : Nat} {out : List Evt} (h : PhAI ls k out) (hk : ls.length ≤ k) : allP 0 ls = (out, 0, 0) := by
  unfold PhAI at h
  rw [h, List.drop_eq_nil_of_le hk]
  unfold joinR allP
  simp
theorem allP_shift : ∀ (ls : List (List UInt8)) (i : Nat), (∀ x ∈ ls, wordsL x ≠ [] → parseO x ≠ none) → (allP i ls).1 = ls.filterMap (fun x => if wordsL x = [] then none else parseO x) ∧ (allP i ls).2 = (0, 0)
  | [], i, _ => ⟨rfl, rfl⟩
  | x :: t, i, h => by
    have ih := allP_shift t (i + 1) (fun y hy => h y (by simp [hy]))
    rw [allP]
    by_cases hw : wordsL x = []
    · rw [if_pos hw, List.filterMap_cons_none (by simp [hw])]
      exact ih
    · rw [if_neg hw]
      cases hp : parseO x with
      | none => exact absurd hp (h x (by simp) hw)
      | some v =>
        rw [List.filterMap_cons_some (b := v) (by simp [hw, hp])]
        show (joinR [v] (allP (i + 1) t)).1 = _ ∧ (joinR [v] (allP (i + 1) t)).2 = _
        unfold joinR
        rw [if_neg (by rw [ih.2]; simp), ih.1]
        exact ⟨by simp, rfl⟩
theorem lines_words {l : List Evt} (h : ∀ v ∈ l, checkE v = 0) : (l.map lineL).filterMap (fun x => if wordsL x = [] then none else parseO x) = l := by
  induction l with
  | nil => rfl
  | cons v l ih =>
    obtain ⟨ps, hw⟩ := line_words (h v (by simp))
    rw [List.map_cons, List.filterMap_cons_some (b := v) (by rw [hw]; simp [parse_line (h v (by simp))]), ih (fun u hu => h u (by simp [hu]))]
/-- EVENTS COME BACK FROM THEIR TEXT: a line of a remark ahead of it, an empty one behind it. -/
theorem all_back {l : List Evt} (h : ∀ v ∈ l, checkE v = 0) : allP 0 (linesL ([35, 10] ++ (textP l).1 ++ [10])) = (l, 0, 0) := by
  have e : [35, 10] ++ (textP l).1 ++ [10] = textW ([[35]] ++ l.map lineL ++ [[]]) := by
    rw [text_end h]
    simp [textW]
  have hn : ∀ p ∈ [[35]] ++ l.map lineL ++ [[]], (10 : UInt8) ∉ p := by
    intro p hp
    simp only [List.mem_append, List.mem_singleton, List.mem_map] at hp
    rcases hp with (rfl | ⟨v, hv, rfl⟩) | rfl
    · decide
    · exact line_no (h v hv)
    · simp
  rw [e, lines_back _ hn]
  have w1 : wordsL [35] = [] := by decide
  have w2 : wordsL [] = [] := by decide
  have hp : ∀ x ∈ [[35]] ++ l.map lineL ++ [[]], wordsL x ≠ [] → parseO x ≠ none := by
    intro x hx hw
    simp only [List.mem_append, List.mem_singleton, List.mem_map] at hx
    rcases hx with (rfl | ⟨v, hv, rfl⟩) | rfl
    · exact absurd w1 hw
    · rw [parse_line (h v hv)]; simp
    · exact absurd w2 hw
  obtain ⟨a1, a2⟩ := allP_shift _ 0 hp
  refine Prod.ext ?_ a2
  rw [a1, List.filterMap_append, List.filterMap_append, lines_words h]
  simp [w1, w2]
end Go.Proofs.YthpijibcfkcenaaDoor
