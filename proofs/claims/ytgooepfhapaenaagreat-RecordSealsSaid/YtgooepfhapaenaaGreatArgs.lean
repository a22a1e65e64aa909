/- What an argument of plain data looks like in memory: numbers, bools, texts, structs and arrays of such, slices of such. Conditions: as stated. -/
import Derived.WalkKit
import Derived.ProofKit
import Derived.OpenShut
import Derived.Below
import Derived.ShutString
import Derived.Deep.Slices
namespace Go.Proofs.YtgooepfhapaenaaGreat
open Go.ChangeShapes Go.WideShapes Go.ChangeAt Go.RowKit
set_option linter.unusedVariables false
set_option maxRecDepth 100000

/-- The shape of plain data: a struct and an array are pairs, ended by 'unit'. -/
inductive Sh where
  | int (k : IntKind) | str | bool | unit | pair (a b : Sh) | slice (e : Sh)
def Sh.rep (e : Sh) : Nat → Sh
  | 0 => .unit
  | n + 1 => .pair e (Sh.rep e n)
/-- How many cells. -/
def Sh.size : Sh → Nat
  | .int _ => 1 | .str => 1 | .bool => 1 | .unit => 0 | .pair a b => a.size + b.size | .slice _ => 1
/-- These cells are of that shape, in that world. -/
def Has (w : World) : Sh → List Value → Prop
  | .int k, cs => ∃ n, cs = [.int k n] ∧ (Lit.int k n).wf = true
  | .str, cs => ∃ s, cs = [.string s] ∧ s.size ≤ maxLen
  | .bool, cs => ∃ b, cs = [.bool b]
  | .unit, cs => cs = []
  | .pair a b, cs => ∃ x y, cs = x ++ y ∧ Has w a x ∧ Has w b y
  | .slice e, cs => ∃ A len cap, cs = [.slice A len cap] ∧ len ≤ cap ∧ cap ≤ maxLen ∧
      (0 < len → ∃ b off, A = some ⟨b, off, none⟩ ∧ b < w.heap.size) ∧
      ∃ E : Nat → List Value, ∀ i, i < len → Has w e (E i) ∧ ∀ b off, A = some ⟨b, off, none⟩ → ∀ j v, (E i)[j]? = some v → w.cell? ⟨b, off + i * e.size + j, none⟩ = some v
theorem has_length (w : World) : ∀ (s : Sh) (cs : List Value), Has w s cs → cs.length = s.size
  | .int k, cs, h => by obtain ⟨n, rfl, _⟩ := h; rfl
  | .str, cs, h => by obtain ⟨n, rfl, _⟩ := h; rfl
  | .bool, cs, h => by obtain ⟨n, rfl⟩ := h; rfl
  | .unit, cs, h => by cases h; rfl
  | .pair a b, cs, h => by
    obtain ⟨x, y, rfl, hx, hy⟩ := h
    rw [List.length_append, has_length w a x hx, has_length w b y hy]; rfl
  | .slice e, cs, h => by obtain ⟨A, len, cap, rfl, _⟩ := h; rfl

/-- Whatever reads at this type is of this shape. -/
def Opens (P : Program) (t : TypeId) (s : Sh) : Prop :=
  ∀ (H : Type) (enc : TypeId × Value → H) (w : World) (base : Nat) (spare : Nat → Bool) (held : Bool) (fuel : Nat) (cs : List Value) (x : DataW H × List MemPlace),
    DataW.trod enc P w base spare held fuel t cs = some x → Has w s cs
theorem opens_int {P : Program} {t : TypeId} {k : IntKind} (h : P.underlying t = some (.int k)) : Opens P t (.int k) := fun H enc w base spare held fuel cs x hx => by
  obtain ⟨n, rfl, _, hw⟩ := DataW.trod_int h hx
  exact ⟨n, rfl, hw⟩
theorem opens_str {P : Program} {t : TypeId} (h : P.underlying t = some .string) : Opens P t .str := fun H enc w base spare held fuel cs x hx => by
  obtain ⟨s, rfl, _, hw⟩ := DataW.trod_string h hx
  exact ⟨s, rfl, hw⟩
theorem opens_bool {P : Program} {t : TypeId} (h : P.underlying t = some .bool) : Opens P t .bool := fun H enc w base spare held fuel cs x hx => by
  obtain ⟨b, rfl, _⟩ := DataW.trod_bool h hx
  exact ⟨b, rfl⟩
theorem addr_add (a : Addr) (h : a.spot = none) (n : Nat) : a.add n = ⟨a.block, a.off + n, none⟩ := by
  obtain ⟨b, o, s⟩ := a
  cases h
  unfold Addr.add; split <;> simp_all
theorem lt_of_cell {w : World} {b o : Nat} {v : Value} (h : w.cell? ⟨b, o, none⟩ = some v) : b < w.heap.size := by
  rcases Nat.lt_or_ge b w.heap.size with hlt | hge
  · exact hlt
  · unfold World.cell? at h; simp [Array.getElem?_eq_none hge] at h
theorem opens_slice {P : Program} {t e : TypeId} {s : Sh} (ht : P.underlying t = some (.slice e)) (hc : P.cellsOf e = s.size) (hp : 0 < s.size) (he : Opens P e s) : Opens P t (.slice s) := fun H enc w base spare held fuel cs x hx => by
  rcases Deep.open_slice ht hx with ⟨rfl, _⟩ | ⟨a, len, cap, m, n, D, Pl, rfl, hb, hl, hm, hmm, rfl, hcell⟩
  · exact ⟨none, 0, 0, rfl, Nat.le_refl _, Nat.zero_le _, fun h => absurd h (by omega), fun _ => [], fun i hi => absurd hi (by omega)⟩
  · have hlm : len ≤ m := by rw [hmm]; split <;> omega
    obtain ⟨E, hE⟩ := Deep.choose_lt (n := len) (α := List Value) (p := fun i cs' => w.cells? base (a.add (i * P.cellsOf e)) (P.cellsOf e) = some cs' ∧ DataW.trod enc P w base spare held n e cs' = some (D i, Pl i)) (fun i hi => by
      obtain ⟨cs', h1, h2⟩ := hcell i (by omega)
      exact ⟨cs', h1, h2⟩)
    refine ⟨some a, len, cap, rfl, hl, hm, fun h0 => ?_, E, fun i hi => ⟨he _ _ _ _ _ _ _ _ _ (hE i hi).2, fun b off ha j v hj => ?_⟩⟩
    · obtain ⟨h1, _⟩ := hE 0 h0
      obtain ⟨_, hlen, hcc⟩ := World.cells?_some h1
      have h2 := hcc 0 (by rw [hc]; exact hp)
      have hv : ∃ v, (E 0)[0]? = some v := ⟨_, List.getElem?_eq_getElem (by rw [hlen, hc]; exact hp)⟩
      obtain ⟨v, hv⟩ := hv
      rw [hv, Nat.zero_mul] at h2
      have e0 : (a.add 0).add 0 = a := by unfold Addr.add; simp
      rw [e0] at h2
      have hs := World.cell?_spot h2
      obtain ⟨b, o, sp⟩ := a
      cases hs
      exact ⟨b, o, rfl, lt_of_cell h2⟩
    · obtain ⟨h1, _⟩ := hE i hi
      obtain ⟨_, hlen, hcc⟩ := World.cells?_some h1
      injection ha with ha
      subst ha
      have hjl : j < P.cellsOf e := by
        rw [← hlen]
        rcases Nat.lt_or_ge j (E i).length with h | h
        · exact h
        · rw [List.getElem?_eq_none h] at hj; cases hj
      have h2 := hcc j hjl
      rw [Deep.add_add, addr_add _ rfl, hj, hc, ← Nat.add_assoc] at h2
      exact h2
theorem take_drop_app {α : Type} (l : List α) (off a b : Nat) : (l.drop off).take (a + b) = (l.drop off).take a ++ (l.drop (off + a)).take b := by
  rw [List.take_add, List.drop_drop]
/-- The fields from here on. -/
def OpensF (P : Program) (fs : List Field) (off : Nat) (s : Sh) : Prop :=
  ∀ (H : Type) (enc : TypeId × Value → H) (w : World) (base : Nat) (spare : Nat → Bool) (held : Bool) (fuel : Nat) (cs : List Value),
    (∀ f ∈ fs, ∃ x, DataW.trod enc P w base spare held fuel f.type ((cs.drop f.offset).take (P.cellsOf f.type)) = some x) → Has w s ((cs.drop off).take s.size)
theorem fields_nil {P : Program} {off : Nat} : OpensF P [] off .unit := fun H enc w base spare held fuel cs h => by simp [Has, Sh.size]
theorem fields_cons {P : Program} {f : Field} {fs : List Field} {off : Nat} {a b : Sh} (ho : f.offset = off) (hc : P.cellsOf f.type = a.size) (ha : Opens P f.type a) (hb : OpensF P fs (off + a.size) b) : OpensF P (f :: fs) off (.pair a b) :=
  fun H enc w base spare held fuel cs h => by
    obtain ⟨x, hx⟩ := h f (by simp)
    refine ⟨(cs.drop off).take a.size, (cs.drop (off + a.size)).take b.size, take_drop_app cs off a.size b.size, ?_, hb H enc w base spare held fuel cs fun g hg => h g (by simp [hg])⟩
    rw [← ho, ← hc]
    exact ha _ _ _ _ _ _ _ _ _ hx
theorem opens_struct {P : Program} {t : TypeId} {fs : Array Field} {s : Sh} (ht : P.underlying t = some (.struct fs)) (hc : P.cellsOf t = s.size) (hf : OpensF P fs.toList 0 s) : Opens P t s := fun H enc w base spare held fuel cs x hx => by
  obtain ⟨xs, n, rfl, _, hl, hxl, hff⟩ := DataW.trod_struct ht hx
  have := hf H enc w base spare held n cs (fun f hf => by
    obtain ⟨i, hi⟩ := List.getElem?_of_mem hf
    have hi' : fs[i]? = some f := by simpa using hi
    have hlt : i < xs.length := by
      rw [hxl]
      rcases Nat.lt_or_ge i fs.size with h | h
      · exact h
      · rw [Array.getElem?_eq_none h] at hi'; cases hi'
    exact ⟨_, (hff i f hi').trans (List.getElem?_eq_getElem hlt)⟩)
  rw [List.drop_zero, List.take_of_length_le (by omega)] at this
  exact this
theorem opens_array {P : Program} {t e : TypeId} {n : Nat} {a : Sh} (ht : P.underlying t = some (.array n e)) (hc : P.cellsOf e = a.size) (hs : P.cellsOf t = n * a.size) (he : Opens P e a) : Opens P t (Sh.rep a n) := fun H enc w base spare held fuel cs x hx => by
  obtain ⟨xs, m, rfl, _, hl, hxl, hff⟩ := DataW.trod_array ht hx
  have key : ∀ k j, k + j = n → Has w (Sh.rep a k) ((cs.drop (j * a.size)).take (k * a.size)) := by
    intro k
    induction k with
    | zero => intro j _; simp [Sh.rep, Has]
    | succ k ih =>
      intro j hj
      refine ⟨(cs.drop (j * a.size)).take a.size, (cs.drop ((j + 1) * a.size)).take (k * a.size), ?_, ?_, ih (j + 1) (by omega)⟩
      · rw [show (k + 1) * a.size = a.size + k * a.size by rw [Nat.add_mul]; omega, take_drop_app, show j * a.size + a.size = (j + 1) * a.size by rw [Nat.add_mul]; omega]
      · have := hff j (by omega)
        rw [hc, List.getElem?_eq_getElem (by omega)] at this
        exact he _ _ _ _ _ _ _ _ _ this
  have := key n 0 (by omega)
  rw [Nat.zero_mul, List.drop_zero, List.take_of_length_le (by omega)] at this
  exact this
/-- A slice that came in. -/
theorem has_slice {w : World} {e : Sh} {A : Option Addr} {len cap : Nat} (h : Has w (.slice e) [.slice A len cap]) :
    len ≤ cap ∧ cap ≤ maxLen ∧ (len = 0 ∨ ∃ b off, ∃ E : Nat → List Value, 0 < len ∧ A = some ⟨b, off, none⟩ ∧ b < w.heap.size ∧ ∀ i, i < len → Has w e (E i) ∧ ∀ j v, (E i)[j]? = some v → w.cell? ⟨b, off + i * e.size + j, none⟩ = some v) := by
  obtain ⟨A', len', cap', he, h1, h2, h3, E, h4⟩ := h
  simp only [List.cons.injEq, Value.slice.injEq, and_true] at he
  obtain ⟨rfl, rfl, rfl⟩ := he
  refine ⟨h1, h2, ?_⟩
  rcases Nat.eq_zero_or_pos len with h0 | h0
  · exact Or.inl h0
  · obtain ⟨b, off, hA, hb⟩ := h3 h0
    exact Or.inr ⟨b, off, E, h0, hA, hb, fun i hi => ⟨(h4 i hi).1, fun j v hj => (h4 i hi).2 b off hA j v hj⟩⟩
theorem has_int {w : World} {k : IntKind} {cs : List Value} (h : Has w (.int k) cs) : ∃ n, cs = [.int k n] ∧ (Lit.int k n).wf = true := h
/-- A slice of numbers, of texts. -/
theorem has_ints {w : World} {k : IntKind} {A : Option Addr} {len cap : Nat} (h : Has w (.slice (.int k)) [.slice A len cap]) :
    len ≤ cap ∧ cap ≤ maxLen ∧ (len = 0 ∨ ∃ b off, ∃ Z : Nat → Int, 0 < len ∧ A = some ⟨b, off, none⟩ ∧ b < w.heap.size ∧ ∀ i, i < len → (Lit.int k (Z i)).wf = true ∧ w.cell? ⟨b, off + i, none⟩ = some (.int k (Z i))) := by
  obtain ⟨h1, h2, h3⟩ := has_slice h
  refine ⟨h1, h2, h3.imp_right ?_⟩
  rintro ⟨b, off, E, h0, hA, hb, hE⟩
  obtain ⟨Z, hZ⟩ := Deep.choose_lt (n := len) (α := Int) (p := fun i n => E i = [.int k n] ∧ (Lit.int k n).wf = true) (fun i hi => (hE i hi).1)
  refine ⟨b, off, Z, h0, hA, hb, fun i hi => ⟨(hZ i hi).2, ?_⟩⟩
  have := (hE i hi).2 0 (.int k (Z i)) (by rw [(hZ i hi).1]; rfl)
  simpa [Sh.size] using this
theorem has_strs {w : World} {A : Option Addr} {len cap : Nat} (h : Has w (.slice .str) [.slice A len cap]) :
    len ≤ cap ∧ cap ≤ maxLen ∧ (len = 0 ∨ ∃ b off, ∃ Z : Nat → ByteArray, 0 < len ∧ A = some ⟨b, off, none⟩ ∧ b < w.heap.size ∧ ∀ i, i < len → (Z i).size ≤ maxLen ∧ w.cell? ⟨b, off + i, none⟩ = some (.string (Z i))) := by
  obtain ⟨h1, h2, h3⟩ := has_slice h
  refine ⟨h1, h2, h3.imp_right ?_⟩
  rintro ⟨b, off, E, h0, hA, hb, hE⟩
  obtain ⟨Z, hZ⟩ := Deep.choose_lt (n := len) (α := ByteArray) (p := fun i s => E i = [.string s] ∧ s.size ≤ maxLen) (fun i hi => (hE i hi).1)
  refine ⟨b, off, Z, h0, hA, hb, fun i hi => ⟨(hZ i hi).2, ?_⟩⟩
  have := (hE i hi).2 0 (.string (Z i)) (by rw [(hZ i hi).1]; rfl)
  simpa [Sh.size] using this
theorem okWide_array {P : Program} {w : World} {r : Reach} {base : Nat} {t : TypeId} {v : Value} {n : Nat} {e : TypeId} (ht : P.underlying t = some (.array n e)) (h : Value.okWide P w r base t v) : ∃ cs, v = .agg cs ∧ cs.size = P.cellsOf t := by
  simp only [Value.okWide, ht] at h
  obtain ⟨cs, h1, h2, _⟩ := h
  exact ⟨cs, h1, h2⟩
end Go.Proofs.YtgooepfhapaenaaGreat
