/- Numbers of any kind that came in; timers by numbers, which are due when, plain. Conditions: as stated. -/
import Derived.Test.YtpdlpnfaclpgbaaWhlW
import Derived.Test.YtpdlpnfaclpgbaaTimR
import Derived.Test.YtpdlpnfaclpgbaaAct3
namespace Go.Proofs.Ytpdlpnfaclpgbaa
open Go.ChangeShapes Go.WideShapes Go.ChangeAt Go.RowKit
set_option linter.unusedVariables false
set_option maxRecDepth 100000
set_option linter.unusedSimpArgs false

theorem nums_came {w : World} {q : IntKind} {A : Option Addr} {len cap : Nat} (h : Has w (.slice (.int q)) [.slice A len cap]) :
    ∃ ns : List Int, ns.length = len ∧ (∀ n ∈ ns, (Lit.int q n).wf = true) ∧ ∀ k (hk : k < ns.length), ∃ b o, A = some ⟨b, o, none⟩ ∧ b < w.heap.size ∧ w.cell? ⟨b, o + k, none⟩ = some (.int q ns[k]) := by
  obtain ⟨h1, h2, h3⟩ := has_ints h
  rcases h3 with rfl | ⟨b, off, Z, h0, rfl, hb, hZ⟩
  · exact ⟨[], rfl, by simp, fun k hk => by cases hk⟩
  · refine ⟨(List.range len).map Z, by simp, fun n hn => ?_, fun k hk => ⟨b, off, rfl, hb, ?_⟩⟩
    · obtain ⟨i, hi, rfl⟩ := List.mem_map.1 hn
      exact (hZ i (by simpa using hi)).1
    · have hk' : k < len := by simpa using hk
      rw [(hZ k hk').2]
      simp
/-- The k-th of them. -/
def nth0 (ns : List Int) (k : Nat) : Int := ns.getD k 0
theorem nth0_eq (ns : List Int) (k : Nat) (h : k < ns.length) : nth0 ns k = ns[k] := by unfold nth0; rw [List.getD_eq_getElem?_getD, List.getElem?_eq_getElem h]; rfl
theorem and_maskW (v : Int) (m : Nat) (hm : m < 9223372036854775808) : ∃ N : Nat, bits .and .i64 v (m : Int) = (N : Int) ∧ N ≤ m := by
  have h : (BitVec.ofInt 64 v &&& BitVec.ofInt 64 (m : Int)).toNat ≤ m := by
    rw [BitVec.toNat_and]
    have : (BitVec.ofInt 64 (m : Int)).toNat = m := by simp [BitVec.toNat_ofInt]; omega
    exact Nat.le_trans Nat.and_le_right (by omega)
  refine ⟨(BitVec.ofInt 64 v &&& BitVec.ofInt 64 (m : Int)).toNat, ?_, h⟩
  show IntKind.i64.wrap (((BitVec.ofInt 64 v &&& BitVec.ofInt 64 (m : Int)).toNat : Nat) : Int) = _
  exact IntWalk.i64_in _ (by omega)
/-- The tick of a number: its last ten bits. -/
def tau (z : Int) : Int := bits .and .i64 z 1023
theorem tau_le (z : Int) : 0 ≤ tau z ∧ tau z ≤ 1023 := by
  obtain ⟨N, h1, h2⟩ := and_maskW z 1023 (by omega)
  unfold tau
  rw [show ((1023 : Nat) : Int) = 1023 from rfl] at h1
  rw [h1]
  omega
def tauL (ts : List Int) (j : Nat) : Int := tau (nth0 ts j)
/-- Of l just those numbers below n are members for which p holds, each at its tick. -/
structure MemW (ts : List Int) (n : Nat) (p : Nat → Bool) (l : List Tm) : Prop where
  srt : SortedW l
  mem : ∀ x, x ∈ l ↔ ∃ j, j < n ∧ p j = true ∧ x = ⟨(j : Int), tauL ts j⟩
theorem mem_insW (l : List Tm) (x y : Tm) : y ∈ insW l x ↔ y = x ∨ y ∈ l := by rw [(insW_perm l x).mem_iff, List.mem_cons]
theorem memW_nil (ts : List Int) : MemW ts 0 (fun _ => true) [] := ⟨SortedW.nil, fun x => by simp⟩
theorem may_tau (z : Int) : mayW (tau z) = true := by
  have := tau_le z
  unfold mayW
  simp; omega
theorem memW_set {ts : List Int} {k : Nat} {l : List Tm} (h : MemW ts k (fun _ => true) l) (hk : k ≤ 1000) : MemW ts (k + 1) (fun _ => true) (setW l ⟨(k : Int), tauL ts k⟩) := by
  have hin : inI (k : Int) := by unfold inI; omega
  refine ⟨sorted_setW h.srt _ hin, fun x => ?_⟩
  rw [show setW l ⟨(k : Int), tauL ts k⟩ = insW (dropW l (k : Int)) ⟨(k : Int), tauL ts k⟩ from if_pos (may_tau _), mem_insW, mem_dropW, h.mem]
  constructor
  · rintro (rfl | ⟨⟨j, hj, _, rfl⟩, hne⟩)
    · exact ⟨k, by omega, rfl, rfl⟩
    · exact ⟨j, by omega, rfl, rfl⟩
  · rintro ⟨j, hj, _, rfl⟩
    by_cases e : j = k
    · subst e; exact .inl rfl
    · refine .inr ⟨⟨j, by omega, rfl, rfl⟩, ?_⟩
      show (j : Int) ≠ (k : Int)
      omega
/-- Which are still to come when it is now: all at the start. -/
def toCome (ts : List Int) (first : Bool) (now : Int) (j : Nat) : Bool := first || decide (now < tauL ts j)
theorem memW_left {ts : List Int} {n : Nat} {first : Bool} {now now2 : Int} {l : List Tm} (h : MemW ts n (toCome ts first now) l) (hle : now ≤ now2) : MemW ts n (toCome ts false now2) (leftW l now2) := by
  refine ⟨sorted_leftW h.srt now2, fun x => ?_⟩
  rw [(leftW_filter h.srt.ord now2).2, List.mem_filter, h.mem]
  constructor
  · rintro ⟨⟨j, hj, hp, rfl⟩, hd⟩
    refine ⟨j, hj, ?_, rfl⟩
    simp only [Bool.not_eq_true', decide_eq_false_iff_not] at hd
    unfold toCome
    simp only [Bool.false_or, decide_eq_true_eq]
    exact Int.not_le.1 hd
  · rintro ⟨j, hj, hp, rfl⟩
    unfold toCome at hp
    simp only [Bool.false_or, decide_eq_true_eq] at hp
    refine ⟨⟨j, hj, ?_, rfl⟩, ?_⟩
    · unfold toCome
      rw [decide_eq_true (by omega), Bool.or_true]
    · simp only [Bool.not_eq_true', decide_eq_false_iff_not]
      exact Int.not_le.2 hp
/-- Those that are due, in order. -/
def dueT (l : List Tm) (now : Int) : List Tm := l.take (dueN l now)
theorem dueT_ids (l : List Tm) (now : Int) : dueW l now = (dueT l now).map Tm.id := rfl
theorem dueT_at {ts : List Int} {n : Nat} {p : Nat → Bool} {l : List Tm} (h : MemW ts n p l) (now : Int) (k : Nat) (hk : k < (dueT l now).length) :
    ∃ j, j < n ∧ p j = true ∧ (dueT l now)[k] = ⟨(j : Int), tauL ts j⟩ ∧ tauL ts j ≤ now := by
  have hm := List.getElem_mem hk
  generalize (dueT l now)[k] = x at *
  unfold dueT at hm
  rw [(leftW_filter h.srt.ord now).1, List.mem_filter, h.mem] at hm
  obtain ⟨⟨j, hj, hp, rfl⟩, hd⟩ := hm
  exact ⟨j, hj, hp, rfl, by simpa using hd⟩
theorem dueT_next {l : List Tm} (h : SortedW l) (now : Int) (k : Nat) (hk : k < (dueT l now).length) (h0 : 0 < k) : (dueT l now)[k - 1].tick ≤ (dueT l now)[k].tick := by
  have hs : (dueT l now).Pairwise fun x y => tmB x y = true := h.ord.sublist (List.take_sublist _ _)
  have := List.pairwise_iff_getElem.1 hs (k - 1) k (by omega) hk (by omega)
  unfold tmB at this
  simp only [Bool.or_eq_true, Bool.and_eq_true, decide_eq_true_eq, beq_iff_eq] at this
  omega
theorem dueT_apart {l : List Tm} (h : SortedW l) (now : Int) (k : Nat) (hk : k < (dueT l now).length) : ∀ x ∈ (dueT l now).take k, x.id ≠ (dueT l now)[k].id := by
  have hs : (dueT l now).Pairwise fun x y => x.id ≠ y.id := h.ids.sublist (List.take_sublist _ _)
  intro x hx
  obtain ⟨i, hi, rfl⟩ := List.mem_iff_getElem.1 hx
  rw [List.getElem_take]
  rw [List.length_take] at hi
  exact List.pairwise_iff_getElem.1 hs i k (by omega) hk (by omega)
theorem dueT_len (l : List Tm) (now : Int) : (dueT l now).length ≤ l.length := by unfold dueT; rw [List.length_take]; omega
theorem dueW_len2 (l : List Tm) (now : Int) : (dueW l now).length = (dueT l now).length := by rw [dueT_ids, List.length_map]
/-- How often each has come: not yet where p holds and it is none of D. -/
def gotF (p : Nat → Bool) (D : List Tm) (j : Nat) : Int := if p j && D.all (fun x => x.id != (j : Int)) then 0 else 1
def gotL (n : Nat) (f : Nat → Int) : List Int := (List.range n).map f
theorem gotL_len (n : Nat) (f : Nat → Int) : (gotL n f).length = n := by simp [gotL]
theorem gotL_get (n : Nat) (f : Nat → Int) (j : Nat) (h : j < n) : (gotL n f)[j]? = some (f j) := by simp [gotL, h]
theorem gotL_ext {n : Nat} {f g : Nat → Int} (h : ∀ j, j < n → f j = g j) : gotL n f = gotL n g := by
  unfold gotL
  exact List.map_congr_left fun j hj => h j (by simpa using hj)
theorem gotL_zero (ts : List Int) (n : Nat) (now : Int) : gotL n (gotF (toCome ts true now) []) = List.replicate n 0 := by
  refine List.ext_getElem (by simp [gotL]) fun i h1 h2 => ?_
  simp [gotL, gotF, toCome]
theorem gotL_set {n : Nat} {p : Nat → Bool} {D : List Tm} {j : Nat} {t : Int} (hj : j < n) : (gotL n (gotF p D)).set j 1 = gotL n (gotF p (D ++ [⟨(j : Int), t⟩])) := by
  refine List.ext_getElem? fun i => ?_
  rw [List.getElem?_set, gotL_len]
  by_cases hi : i < n
  · rw [gotL_get _ _ _ hi, gotL_get _ _ _ hi]
    unfold gotF
    rw [List.all_append]
    by_cases e : j = i
    · subst e
      rw [if_pos rfl, if_pos hi]
      simp
    · rw [if_neg e]
      have : ((j : Int) != (i : Int)) = true := by simp; omega
      simp [this]
  · rw [if_neg (by omega), List.getElem?_eq_none (by rw [gotL_len]; omega), List.getElem?_eq_none (by rw [gotL_len]; omega)]
theorem gotF_zero {p : Nat → Bool} {D : List Tm} {j : Nat} (hp : p j = true) (hD : ∀ x ∈ D, x.id ≠ (j : Int)) : gotF p D j = 0 := by
  unfold gotF
  rw [if_pos]
  rw [hp, Bool.true_and, List.all_eq_true]
  exact fun x hx => by simpa using hD x hx
theorem gotL_end {ts : List Int} {n : Nat} {first : Bool} {now now2 : Int} {l : List Tm} (h : MemW ts n (toCome ts first now) l) (hle : now ≤ now2) :
    gotL n (gotF (toCome ts first now) (dueT l now2)) = gotL n (gotF (toCome ts false now2) []) := by
  refine gotL_ext fun j hj => ?_
  unfold gotF
  simp only [List.all_nil, Bool.and_true]
  have key : (toCome ts first now j && (dueT l now2).all fun x => x.id != (j : Int)) = toCome ts false now2 j := ?_
  · rw [key]
  rw [Bool.eq_iff_iff, Bool.and_eq_true, List.all_eq_true]
  constructor
  · rintro ⟨h1, h2⟩
    unfold toCome
    simp only [Bool.false_or, decide_eq_true_eq]
    refine Int.not_le.1 fun hle2 => ?_
    have hm : (⟨(j : Int), tauL ts j⟩ : Tm) ∈ dueT l now2 := by
      unfold dueT
      rw [(leftW_filter h.srt.ord now2).1, List.mem_filter, h.mem]
      exact ⟨⟨j, hj, h1, rfl⟩, by simpa using hle2⟩
    have := h2 _ hm
    simp at this
  · intro h1
    unfold toCome at h1
    simp only [Bool.false_or, decide_eq_true_eq] at h1
    refine ⟨by unfold toCome; rw [decide_eq_true (by omega), Bool.or_true], fun x hx => ?_⟩
    unfold dueT at hx
    rw [(leftW_filter h.srt.ord now2).1, List.mem_filter, h.mem] at hx
    obtain ⟨⟨i, hi, hp, rfl⟩, hd⟩ := hx
    simp only [decide_eq_true_eq] at hd
    simp only [bne_iff_ne, ne_eq]
    intro e
    have : i = j := by omega
    subst this
    omega
theorem got_all (ts : List Int) (n : Nat) (now : Int) (h : 1023 ≤ now) (j : Nat) : gotF (toCome ts false now) [] j = 1 := by
  have := tau_le (nth0 ts j)
  unfold gotF toCome tauL
  rw [decide_eq_false (by omega)]
  rfl
theorem memW_none {ts : List Int} {n : Nat} {now : Int} {l : List Tm} (h : MemW ts n (toCome ts false now) l) (hn : 1023 ≤ now) : l = [] := by
  cases l with
  | nil => rfl
  | cons x r =>
    obtain ⟨j, _, hp, _⟩ := (h.mem x).1 (by simp)
    have := tau_le (nth0 ts j)
    unfold toCome tauL at hp
    rw [decide_eq_false (by omega)] at hp
    cases hp
theorem madeZ (n : Nat) : (madeCells #[Value.int .i64 0] n).toList = ints (List.replicate n 0) := by
  unfold madeCells ints
  refine List.ext_getElem (by simp) fun i h1 h2 => ?_
  simp [Nat.mod_one]
theorem own_cellsZ {w : World} {base g n : Nat} {e : TypeId} {ns : List Int} (h : w.ownsRow base e 1 (.slice (some ⟨g, 0, none⟩) n n) n (ints ns)) : w.heap[g]? = some (.cells (ints ns).toArray e (0, 0)) := by
  rcases h.2 with ⟨h, _⟩ | ⟨g', c, cur, hv, h0, hg, hc, hm, hs, ht⟩
  · cases h
  · cases hv
    have hl : cur.toList.length = n := by rw [Array.length_toList]; omega
    rw [Nat.mul_one] at ht
    rw [List.take_of_length_le (by omega)] at ht
    rw [hg, ← ht, Array.toArray_toList]
/-- The block of what has come. -/
def GotB (w : World) (g : Nat) (ns : List Int) : Prop := w.heap[g]? = some (.cells (ints ns).toArray 3 (0, 0))
theorem gotB_cell {w : World} {g : Nat} {ns : List Int} (h : GotB w g ns) (j : Nat) (x : Int) (hx : ns[j]? = some x) : w.cell? ⟨g, j, none⟩ = some (.int .i64 x) := by
  rw [blk_cell h j]
  simp [ints, hx]
theorem gotB_set {w : World} {g : Nat} {ns : List Int} (h : GotB w g ns) (j : Nat) (x : Int) : GotB (w.setCell ⟨g, j, none⟩ (.int .i64 x)) g (ns.set j x) := by
  unfold GotB
  rw [blk_set h j (.int .i64 x)]
  unfold ints
  rw [List.map_set]
  simp
theorem gotB_stay {w w' : World} {g : Nat} {ns : List Int} (h : GotB w g ns) (hs : Stay (fun k => k = g) w w') : GotB w' g ns := (hs g rfl).trans h
end Go.Proofs.Ytpdlpnfaclpgbaa
