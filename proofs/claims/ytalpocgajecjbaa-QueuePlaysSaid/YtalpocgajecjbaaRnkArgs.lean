/- Jobs and nodes that came in. Conditions: none. -/
import Derived.Test.YtalpocgajecjbaaJbR
import Derived.Test.YtalpocgajecjbaaRdmArgs
namespace Go.Proofs.Ytalpocgajecjbaa
open Go.ChangeShapes Go.WideShapes Go.ChangeAt Go.RowKit
set_option linter.unusedVariables false
set_option maxRecDepth 100000

abbrev shJob : Sh := .pair (.int .i64) (.pair (.int .i64) (.pair (.int .i64) (.pair (.int .i64) (.pair (.int .i64) (.pair (Sh.rep (.int .i64) 3) .unit)))))
abbrev shNod : Sh := .pair (.int .i64) (.pair (.int .i64) (.pair (.int .i64) (.pair (Sh.rep (.int .i64) 3) (.pair (Sh.rep (.int .i64) 3) (.pair .bool .unit)))))
theorem job_of {w : World} {r : List Value} (h : Has w shJob r) : ∃ x : Jb, x.ok ∧ r = x.row := by
  obtain ⟨_, r, rfl, ⟨n1, rfl, h1⟩, _, r2, rfl, ⟨n2, rfl, h2⟩, _, r3, rfl, ⟨n3, rfl, h3⟩, _, r4, rfl, ⟨n4, rfl, h4⟩, _, r5, rfl, ⟨n5, rfl, h5⟩, _, r6, rfl, hk, h6⟩ := h
  have h6 : r6 = [] := h6
  subst h6
  obtain ⟨v, hv, rfl⟩ := key_of hk
  exact ⟨⟨n1, n2, n3, n4, n5, v⟩, ⟨wf_in h1, wf_in h2, wf_in h3, wf_in h4, wf_in h5, hv⟩, rfl⟩
theorem node_of {w : World} {r : List Value} (h : Has w shNod r) : ∃ x : Nd, x.ok ∧ r = x.row := by
  obtain ⟨_, r, rfl, ⟨n1, rfl, h1⟩, _, r2, rfl, ⟨n2, rfl, h2⟩, _, r3, rfl, ⟨n3, rfl, h3⟩, _, r4, rfl, hk, _, r5, rfl, hu, _, r6, rfl, ⟨b, rfl⟩, h6⟩ := h
  have h6 : r6 = [] := h6
  subst h6
  obtain ⟨v, hv, rfl⟩ := key_of hk
  obtain ⟨u, hu2, rfl⟩ := key_of hu
  exact ⟨⟨n1, n2, n3, v, u, b⟩, ⟨wf_in h1, wf_in h2, wf_in h3, hv, hu2⟩, rfl⟩
theorem job_came {w : World} {c : Array Value} (h : Has w shJob c.toList) : ∃ x : Jb, x.ok ∧ c = x.row.toArray := by
  obtain ⟨x, hx, hr⟩ := job_of h
  exact ⟨x, hx, by cases c; simp at hr; rw [hr]⟩
theorem node_came {w : World} {c : Array Value} (h : Has w shNod c.toList) : ∃ x : Nd, x.ok ∧ c = x.row.toArray := by
  obtain ⟨x, hx, hr⟩ := node_of h
  exact ⟨x, hx, by cases c; simp at hr; rw [hr]⟩
theorem need_came {w : World} {c : Array Value} (h : Has w (Sh.rep (.int .i64) 3) c.toList) : ∃ v : V3, v.ok ∧ c = #[.int .i64 v.a, .int .i64 v.b, .int .i64 v.c] := by
  obtain ⟨v, hv, hr⟩ := key_of h
  exact ⟨v, hv, by cases c; simp at hr; rw [hr]⟩
theorem jobs3_came {w : World} {c : Array Value} (h : Has w (Sh.rep shJob 3) c.toList) : ∃ x y z : Jb, x.ok ∧ y.ok ∧ z.ok ∧ c = (x.row ++ (y.row ++ z.row)).toArray := by
  obtain ⟨_, _, hc, h1, _, _, rfl, h2, _, r3, rfl, h3, h4⟩ := h
  have h4 : r3 = [] := h4
  subst h4
  obtain ⟨x, hx, rfl⟩ := job_of h1
  obtain ⟨y, hy, rfl⟩ := job_of h2
  obtain ⟨z, hz, rfl⟩ := job_of h3
  exact ⟨x, y, z, hx, hy, hz, by cases c; simp at hc; rw [hc]⟩
theorem nodes3_came {w : World} {c : Array Value} (h : Has w (Sh.rep shNod 3) c.toList) : ∃ x y z : Nd, x.ok ∧ y.ok ∧ z.ok ∧ c = (x.row ++ (y.row ++ z.row)).toArray := by
  obtain ⟨_, _, hc, h1, _, _, rfl, h2, _, r3, rfl, h3, h4⟩ := h
  have h4 : r3 = [] := h4
  subst h4
  obtain ⟨x, hx, rfl⟩ := node_of h1
  obtain ⟨y, hy, rfl⟩ := node_of h2
  obtain ⟨z, hz, rfl⟩ := node_of h3
  exact ⟨x, y, z, hx, hy, hz, by cases c; simp at hc; rw [hc]⟩
theorem jobs_of {w : World} (R : List (List Value)) (h : ∀ r ∈ R, Has w shJob r) : ∃ l : List Jb, R = rowsJ l ∧ ∀ a ∈ l, a.ok := by
  induction R with
  | nil => exact ⟨[], rfl, fun a h => by cases h⟩
  | cons r R ih =>
    obtain ⟨a, ha, rfl⟩ := job_of (h r (by simp))
    obtain ⟨l, rfl, hl⟩ := ih fun q hq => h q (by simp [hq])
    refine ⟨a :: l, rfl, fun b hb => ?_⟩
    rcases List.mem_cons.1 hb with rfl | hb
    · exact ha
    · exact hl b hb
theorem jobs_came {w : World} {A : Option Addr} {len cap : Nat} (h : Has w (.slice shJob) [.slice A len cap]) : ∃ l : List Jb, l.length = len ∧ RdK 8 w (fun _ => True) (.slice A len cap) (rowsJ l) ∧ ∀ a ∈ l, a.ok := by
  obtain ⟨R, h1, h2, h3⟩ := rdk_came h
  obtain ⟨l, rfl, hl⟩ := jobs_of R h2
  exact ⟨l, by rw [← h1, rowsJ_len], h3, hl⟩
end Go.Proofs.Ytalpocgajecjbaa
