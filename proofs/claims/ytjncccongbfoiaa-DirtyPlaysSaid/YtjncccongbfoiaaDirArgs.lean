/- Numbers and calls that came in; what is reckoned of them. Conditions: as stated. -/
import Derived.Test.YtjncccongbfoiaaDirW
import Derived.Test.YtjncccongbfoiaaDecArgs
import Derived.Test.YtjncccongbfoiaaRdmArgs
namespace Go.Proofs.Ytjncccongbfoiaa
open Go.ChangeShapes Go.WideShapes Go.ChangeAt Go.RowKit
set_option linter.unusedVariables false
set_option maxRecDepth 100000

theorem rdI_of {w : World} {v : Value} {ns : List Int} (h : Rd w w.heap.size v (ints ns)) : RdI w (fun b => b < w.heap.size) v ns := by
  obtain ⟨A, c, h1, h2, h3, h4⟩ := h
  rw [ints_len] at h1 h2 h4
  refine ⟨A, c, h1, h2, h3, fun h0 => ?_⟩
  obtain ⟨b, o, ha, hb, hc⟩ := h4 h0
  exact ⟨b, o, ha, hb, hb, fun i hi => hc i _ (by simp [ints, hi])⟩
theorem rdI_came {w : World} {A : Option Addr} {len cap : Nat} (h : Has w (.slice (.int .i64)) [.slice A len cap]) :
    ∃ ns : List Int, ns.length = len ∧ RdI w (fun b => b < w.heap.size) (.slice A len cap) ns ∧ ∀ n ∈ ns, inI n := by
  obtain ⟨ns, h1, h2, h3⟩ := rd_ints h
  exact ⟨ns, h1, rdI_of h2, h3⟩
theorem putsI_turn (ns : List Int) (k : Nat) : putsI (putsI [] (ns.drop k)) (ns.take k) = putsI [] ns := by
  refine rise_ext (rise_putsI _ (rise_putsI _ Rise.nil)) (rise_putsI _ Rise.nil) fun x => ?_
  rw [mem_putsI, mem_putsI, mem_putsI]
  have := List.take_append_drop k ns
  constructor
  · rintro (h | h | h)
    · exact .inl (List.mem_of_mem_take h)
    · exact .inl (List.mem_of_mem_drop h)
    · cases h
  · rintro (h | h)
    · rw [← this, List.mem_append] at h
      rcases h with h | h
      · exact .inl h
      · exact .inr (.inl h)
    · cases h
theorem putsI_has (ns : List Int) (k : Nat) (h : k < (putsI [] ns).length) : hasI ns (putsI [] ns)[k] = true := by
  unfold hasI
  have := (mem_putsI ns [] _).1 (List.getElem_mem h)
  rcases this with h2 | h2
  · exact decide_eq_true h2
  · cases h2
theorem has_putsI (ns : List Int) (k : Nat) (h : k < ns.length) : hasI (putsI [] ns) ns[k] = true := by
  unfold hasI
  exact decide_eq_true ((mem_putsI ns [] _).2 (.inl (List.getElem_mem h)))
theorem rise_at {l : List Int} (hr : Rise l) (k : Nat) (h : k < l.length) (h0 : 0 < k) : l[k - 1] < l[k] := by
  unfold Rise at hr
  exact List.pairwise_iff_getElem.1 hr (k - 1) k (by omega) h (by omega)
/-- Where the i-th mark is set, the other. -/
def pkD {α : Type} (m : List Bool) (i : Nat) (a b : α) : α := if m[i]? = some true then b else a
theorem pkD_off {α : Type} {m : List Bool} {i : Nat} {a b : α} (h : m[i]? = some false) : pkD m i a b = a := by unfold pkD; rw [h]; rfl
theorem pkD_on {α : Type} {m : List Bool} {i : Nat} {a b : α} (h : m[i]? = some true) : pkD m i a b = b := by unfold pkD; rw [h]; rfl
theorem pkD_set {α : Type} {m : List Bool} {i : Nat} {a b : α} (h : m[i]? = some false) : pkD (m.set i true) i a b = b := by
  unfold pkD
  rw [List.getElem?_set_self (List.getElem?_eq_some_iff.1 h).1]; rfl
theorem pkD_far {α : Type} {m : List Bool} {i j : Nat} {a b : α} (h : i ≠ j) : pkD (m.set i true) j a b = pkD m j a b := by
  unfold pkD
  rw [List.getElem?_set_ne h]
/-- The second set's two parts, each of which may have come up. -/
def M2 (wL : World) (vh : Value) (l1 : List Int) (vz : Value) (pa pb : List Int) (m : List Bool) (w : World) : Prop :=
  (m[1]? = some true → m[0]? = some true) ∧ DInv wL vh l1 vz (pkD m 0 [] (pkD m 1 (putsI [] pa) (putsI (putsI [] pa) pb))) (.slice none 0 0) [] w
section
variable {wL w : World} {vh vz : Value} {l1 pa pb : List Int} {m : List Bool}
theorem m2_first {sv : Value} (hns : pa.length ≤ 1000) (hin : ∀ x ∈ pa, inI x) (hr : RdI wL (fun b => b < wL.heap.size) sv pa) (hm : m[0]? = some false) (h : M2 wL vh l1 vz pa pb m w) :
    Calls Try.prog 9 #[vz, sv] w fun e w' => e = .returned (.int .i64 ((putsI [] pa).length : Int)) ∧ M2 wL vh l1 vz pa pb (m.set 0 true) w' := by
  have hlt := (List.getElem?_eq_some_iff.1 hm).1
  have h1 : ¬ m[1]? = some true := fun e => by have := h.1 e; rw [hm] at this; cases this
  unfold M2 at *
  rw [pkD_off hm] at h
  rw [pkD_set hm, pkD_far (show 0 ≠ 1 by decide), show pkD m 1 (putsI [] pa) (putsI (putsI [] pa) pb) = putsI [] pa from if_neg h1]
  exact (idmark_z (by simp) hns hin hr h.2).mono fun e w' ⟨he, hi⟩ => ⟨by rw [he]; simp, fun _ => List.getElem?_set_self hlt, hi⟩
theorem m2_second {sv : Value} (hpa : pa.length ≤ 1000) (hns : pb.length ≤ 1000) (hin : ∀ x ∈ pb, inI x) (hr : RdI wL (fun b => b < wL.heap.size) sv pb) (hm : m[0]? = some true) (hm1 : m[1]? = some false) (h : M2 wL vh l1 vz pa pb m w) :
    Calls Try.prog 9 #[vz, sv] w fun e w' => e = .returned (.int .i64 (((putsI (putsI [] pa) pb).length : Int) - ((putsI [] pa).length : Int))) ∧ M2 wL vh l1 vz pa pb (m.set 1 true) w' := by
  unfold M2 at *
  rw [pkD_on hm, pkD_off hm1] at h
  rw [pkD_far (show 1 ≠ 0 by decide), pkD_on hm, pkD_set hm1]
  have := putsI_len_le pa []
  exact (idmark_z (by simp at this; omega) hns hin hr h.2).mono fun e w' ⟨he, hi⟩ => ⟨he, fun _ => by rw [List.getElem?_set_ne (by decide)]; exact hm, hi⟩
end
/-! ### Calls that came in -/
/-- A call: its kind, two numbers. -/
structure ActD where
  kind : Int
  n : Int
  m : Int
def ActD.ok (a : ActD) : Prop := inI a.n ∧ inI a.m
def ActD.row (a : ActD) : List Value := [.int .i64 a.kind, .int .i64 a.n, .int .i64 a.m]
def rowsD (l : List ActD) : List (List Value) := l.map ActD.row
theorem rowsD_len (l : List ActD) : (rowsD l).length = l.length := by simp [rowsD]
theorem rowsD_get (l : List ActD) (k : Nat) (h : k < l.length) : (rowsD l)[k]? = some l[k].row := by simp [rowsD, h]
theorem actd_of {w : World} {r : List Value} (h : Has w (.pair (.int .i64) (.pair (.int .i64) (.pair (.int .i64) .unit))) r) : ∃ a : ActD, a.ok ∧ r = a.row := by
  obtain ⟨_, r, rfl, ⟨n1, rfl, h1⟩, _, r2, rfl, ⟨n2, rfl, h2⟩, _, r3, rfl, ⟨n3, rfl, h3⟩, h4⟩ := h
  have h4 : r3 = [] := h4
  subst h4
  exact ⟨⟨n1, n2, n3⟩, ⟨wf_in h2, wf_in h3⟩, rfl⟩
theorem dacts_of {w : World} (R : List (List Value)) (h : ∀ r ∈ R, Has w (.pair (.int .i64) (.pair (.int .i64) (.pair (.int .i64) .unit))) r) : ∃ l : List ActD, R = rowsD l ∧ ∀ a ∈ l, a.ok := by
  induction R with
  | nil => exact ⟨[], rfl, fun a h => by cases h⟩
  | cons r R ih =>
    obtain ⟨a, ha, rfl⟩ := actd_of (h r (by simp))
    obtain ⟨l, rfl, hl⟩ := ih fun q hq => h q (by simp [hq])
    refine ⟨a :: l, rfl, fun b hb => ?_⟩
    rcases List.mem_cons.1 hb with rfl | hb
    · exact ha
    · exact hl b hb
/-- A call's cells. -/
def ActC (b o : Nat) (a : ActD) (w : World) : Prop := w.cell? ⟨b, o, none⟩ = some (.int .i64 a.kind) ∧ w.cell? ⟨b, o + 1, none⟩ = some (.int .i64 a.n) ∧ w.cell? ⟨b, o + 2, none⟩ = some (.int .i64 a.m)
theorem dacts_came {w : World} {A : Option Addr} {len cap : Nat} (h : Has w (.slice (.pair (.int .i64) (.pair (.int .i64) (.pair (.int .i64) .unit)))) [.slice A len cap]) :
    ∃ l : List ActD, l.length = len ∧ (∀ a ∈ l, a.ok) ∧ ∀ k (hk : k < l.length), ∃ b o, A = some ⟨b, o, none⟩ ∧ ∀ w', Below w.heap.size w w' → ActC b (o + k * 3) l[k] w' := by
  obtain ⟨R, h1, h2, h3⟩ := rdk_came h
  obtain ⟨l, rfl, hl⟩ := dacts_of R h2
  refine ⟨l, by rw [← h1, rowsD_len], hl, fun k hk => ?_⟩
  obtain ⟨b, o, ha, hb, _, hx⟩ := h3.at_ (k := k) (by rw [rowsD_len]; exact hk)
  have hc : ∀ j x, l[k].row[j]? = some x → ∀ w', Below w.heap.size w w' → w'.cell? ⟨b, o + k * 3 + j, none⟩ = some x := fun j x hj w' hq =>
    (hq.cell (p := ⟨b, o + k * 3 + j, none⟩) hb).trans (hx k _ (rowsD_get l k hk) j x hj)
  exact ⟨b, o, ha, fun w' hq => ⟨hc 0 _ rfl w' hq, hc 1 _ rfl w' hq, hc 2 _ rfl w' hq⟩⟩
end Go.Proofs.Ytjncccongbfoiaa
