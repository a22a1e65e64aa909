/- Records and their bytes, plain: which may be, written, read; back, cut off, spoilt. Conditions: none. -/
import Derived.Test.YtgooepfhapaenaaGreatEvtPlain
import Derived.Test.YtgooepfhapaenaaGreatFrmPlain
namespace Go.Proofs.YtgooepfhapaenaaGreat
set_option linter.unusedVariables false
set_option linter.unusedSimpArgs false

structure Rec where
  s : Int
  e : Int
  v : Evt
def Rec.ok (r : Rec) : Prop := inI r.s ∧ inI r.e ∧ r.v.ok
def Rec.row (r : Rec) : List Value := [.int .i64 r.s, .int .i64 r.e, .int .i64 r.v.k, .int .i64 r.v.n, .int .i64 r.v.j, .int .i64 r.v.i, .int .i64 r.v.p, .int .i64 r.v.r.a, .int .i64 r.v.r.b, .int .i64 r.v.r.c]
def Rec.cells (r : Rec) : Array Value := #[.int .i64 r.s, .int .i64 r.e, .int .i64 r.v.k, .int .i64 r.v.n, .int .i64 r.v.j, .int .i64 r.v.i, .int .i64 r.v.p, .int .i64 r.v.r.a, .int .i64 r.v.r.b, .int .i64 r.v.r.c]
def Rec.val (r : Rec) : Value := .agg #[.int .i64 r.s, .int .i64 r.e, .int .i64 r.v.k, .int .i64 r.v.n, .int .i64 r.v.j, .int .i64 r.v.i, .int .i64 r.v.p, .int .i64 r.v.r.a, .int .i64 r.v.r.b, .int .i64 r.v.r.c]
def zeroR : Rec := ⟨0, 0, zeroE⟩
def eqR (a b : Rec) : Bool := a.s == b.s && (a.e == b.e && eqE a.v b.v)
theorem eqR_iff (a b : Rec) : eqR a b = true ↔ a = b := by
  cases a; cases b
  simp [eqR, eqE_iff]
def numRc (r : Rec) : Bool := decide (1 ≤ r.s) && decide (r.s ≤ 2147483647) && decide (1 ≤ r.e) && decide (r.e ≤ 4294967295)
def checkR (r : Rec) : Int := if numRc r = false then 1 else checkE r.v
def bodyR (r : Rec) : List UInt8 := varL r.s.toNat ++ (varL r.e.toNat ++ bytesE r.v)
def sealR (r : Rec) : List UInt8 × Int := if checkR r = 0 then (sealL (bodyR r), 0) else ([], checkR r)
/-- What is behind so many numbers. -/
def restR (b : List UInt8) : List UInt8 := b.drop (tvM b)
def madeR (b : List UInt8) : Rec := ⟨(tvV b : Nat), (tvV (restR b) : Nat), (getE (restR (restR b))).1⟩
/-- A body's error. -/
def errR (b : List UInt8) : Int :=
  if tvE b ≠ 0 then (tvE b : Nat) else if tvE (restR b) ≠ 0 then (tvE (restR b) : Nat) else if (getE (restR (restR b))).2 ≠ 0 then (getE (restR (restR b))).2 else if checkR (madeR b) ≠ 0 then 1 else 0
def openR (s : List UInt8) : Rec × Nat × Int :=
  if openE s ≠ 0 then (zeroR, 0, (openE s : Nat)) else if errR (openB s) ≠ 0 then (zeroR, 0, errR (openB s)) else (madeR (openB s), openN s, 0)
theorem checkR_ok {r : Rec} (h : checkR r = 0) : 1 ≤ r.s ∧ r.s ≤ 2147483647 ∧ 1 ≤ r.e ∧ r.e ≤ 4294967295 ∧ checkE r.v = 0 := by
  unfold checkR at h
  cases hn : numRc r with
  | false => rw [hn] at h; simp at h
  | true =>
    rw [hn] at h
    unfold numRc at hn
    simp at hn h
    exact ⟨hn.1.1.1, hn.1.1.2, hn.1.2, hn.2, h⟩
theorem checkR_fits {r : Rec} (h : checkR r = 0) : r.ok := by
  obtain ⟨h1, h2, h3, h4, h5⟩ := checkR_ok h
  exact ⟨by unfold inI; omega, by unfold inI; omega, check_fits h5⟩
theorem body_back {r : Rec} (h : checkR r = 0) : errR (bodyR r) = 0 ∧ madeR (bodyR r) = r := by
  obtain ⟨h1, h2, h3, h4, h5⟩ := checkR_ok h
  have hs : r.s.toNat < 9223372036854775808 := by omega
  have he : r.e.toNat < 9223372036854775808 := by omega
  have r1 : restR (bodyR r) = varL r.e.toNat ++ bytesE r.v := by
    unfold restR bodyR
    rw [tvM_varL _ _ hs, List.drop_left]
  have r2 : restR (varL r.e.toNat ++ bytesE r.v) = bytesE r.v := by
    unfold restR
    rw [tvM_varL _ _ he, List.drop_left]
  have hm : madeR (bodyR r) = r := by
    unfold madeR
    rw [r1, r2, getE_put h5]
    unfold bodyR
    rw [tvV_varL _ _ hs, tvV_varL _ _ he, Int.toNat_of_nonneg (by omega), Int.toNat_of_nonneg (by omega)]
  refine ⟨?_, hm⟩
  have e1 : tvE (bodyR r) = 0 := by unfold bodyR; exact tvE_varL _ _ hs
  have e2 : tvE (restR (bodyR r)) = 0 := by rw [r1]; exact tvE_varL _ _ he
  have e3 : (getE (restR (restR (bodyR r)))).2 = 0 := by rw [r1, r2, getE_put h5]
  unfold errR
  rw [if_neg (by simp [e1]), if_neg (by simp [e2]), if_neg (by simp [e3]), if_neg (by rw [hm]; simp [h])]
theorem bytesN_nine : ∀ (l : List Int), (∀ n ∈ l, 0 ≤ n ∧ n ≤ 2147483647) → (bytesN l).length ≤ 5 * l.length
  | [], _ => Nat.le_refl _
  | n :: l, h => by
    obtain ⟨h0, h1⟩ := h n List.mem_cons_self
    have ih := bytesN_nine l fun m hm => h m (List.mem_cons_of_mem _ hm)
    have h9 := varL_len n.toNat 5 (by omega) (by omega)
    unfold bytesN at ih ⊢
    rw [List.flatMap_cons, if_neg (by omega), List.length_append, List.length_cons]
    omega
theorem bytesE_small {v : Evt} (h : checkE v = 0) : (bytesE v).length ≤ 26 := by
  obtain ⟨hk, ho, _⟩ := check_ok h
  have h1 := bytesN_nine _ (nums_ok ho)
  have h2 : manyE (lettersE v.k) ≤ 5 := by rcases letters_cases v.k with ⟨_, e⟩ | ⟨_, e⟩ | ⟨_, e⟩ | ⟨_, e⟩ | ⟨_, e⟩ | ⟨_, e⟩ | ⟨_, e⟩ | ⟨_, e⟩ <;> rw [e] <;> decide
  rw [numsE_len] at h1
  unfold bytesE
  rw [List.length_cons]
  omega
theorem bodyR_len {r : Rec} (h : checkR r = 0) : (bodyR r).length ≤ 36 ∧ 3 ≤ (bodyR r).length := by
  obtain ⟨h1, h2, h3, h4, h5⟩ := checkR_ok h
  have a := varL_len r.s.toNat 5 (by omega) (by omega)
  have b := varL_len r.e.toNat 5 (by omega) (by omega)
  have c := bytesE_small h5
  have d : (varL r.s.toNat).length ≠ 0 := fun e => by
    have := tvE_varL r.s.toNat [] (by omega)
    rw [List.eq_nil_of_length_eq_zero e] at this
    simp [tvE, leadN] at this
  have f : (varL r.e.toNat).length ≠ 0 := fun e => by
    have := tvE_varL r.e.toNat [] (by omega)
    rw [List.eq_nil_of_length_eq_zero e] at this
    simp [tvE, leadN] at this
  have g : (bytesE r.v).length ≠ 0 := by unfold bytesE; simp
  unfold bodyR
  rw [List.length_append, List.length_append]
  omega
/-- RECORDS COME BACK, whatever follows them. -/
theorem rec_back {r : Rec} (h : checkR r = 0) (t : List UInt8) : openR (sealL (bodyR r) ++ t) = (r, (sealL (bodyR r)).length, 0) := by
  have hl := (bodyR_len h).1
  obtain ⟨h1, h2⟩ := body_back h
  unfold openR
  rw [if_neg (by rw [open_seal _ _ (by omega)]; simp), openB_seal _ _ (by omega), if_neg (by simp [h1]), h2, openN_seal _ _ (by omega)]
theorem open_bad {s : List UInt8} (h : openE s ≠ 0) : openR s = (zeroR, 0, ((openE s : Nat) : Int)) := by
  unfold openR
  rw [if_pos h]
theorem rec_cut {r : Rec} (h : checkR r = 0) (c : Nat) (hc : c < (sealL (bodyR r)).length) : openE ((sealL (bodyR r)).take c) ≠ 0 := by
  have := open_cut (bodyR r) [] c (by have := (bodyR_len h).1; omega) hc
  rwa [List.append_nil] at this
theorem rec_turned {r : Rec} (h : checkR r = 0) (t : List UInt8) (k : Nat) (hk : k < (sealL (bodyR r)).length) (h1 : k ≠ 1) (h2 : k ≠ 2) (y : UInt8) (hy : (sealL (bodyR r))[k] ≠ y) :
    openE ((sealL (bodyR r)).set k y ++ t) ≠ 0 := by
  have := open_turned (bodyR r) t k (by have := (bodyR_len h).1; omega) hk h1 h2 y hy
  rwa [List.set_append, if_pos hk] at this
theorem sealR_no {r : Rec} (h : checkR r ≠ 0) : sealR r = ([], checkR r) := if_neg h
theorem sealR_ok {r : Rec} (h : checkR r = 0) : sealR r = (sealL (bodyR r), 0) := if_pos h
end Go.Proofs.YtgooepfhapaenaaGreat
