/-
  No cell of these rows narrows 'for every input' (looked for: loops, veiled, ifaces, maps, wideKeys, modest, calm, conditions, laid).
  DERIVED. THE GIVEN ROWS OF THIS SEAT. 3 by the template 'for every input the law returns true; each argument reads behind the call as it read before'; 0 by the template 'total and deterministic' (their statements: YtipmlbbbjafpiaaTotals.lean).
  GIVEN WITH THE SEED: the statements are not yours to turn. If you find one false, say at which input.
  Laid BY PROGRAM, IN A SANDBOX (cutbox-rows.mjs): the forced cells as the released guide's own fill.sh prints them over the translation 92be8f366d2b9571… (all of the seat's roots in one cut). By AI agents, Wed Nov 11 2026. No macro, syntax, notation, axiom, sorry.
-/
import Derived.Test.YtipmlbbbjafpiaaChecked
import GoSem.Claim
import GoSem.ClaimJoined
import GoSem.ClaimMapViews
import Derived.JoinedTies
import Derived.KernelRfl
namespace Go.Proofs.Ytipmlbbbjafpiaa
/- THE CELL 'sum', in the pinned program and in every row, IS THE sha256 OF THE DUMP (.gsa) THAT YtipmlbbbjafpiaaProg.lean LOADS. Nothing in Lean hashes anything: it is a label: what it is worth is what the hold of that sum in a sandbox is worth. -/
noncomputable def Try.pinned : Pinned := { name := "ytipmlbbbjafpiaa", sum := "92be8f366d2b95711bebc4e5f7a2a83dcf6ba7f46e921bbb01daa185a2c60678", checked := Try.checked }
namespace Rows
def none {H : Type} : Left H := { results := [], args := [] }

/-- 'reevelaw10.RankJobs': WHATEVER THE INPUT: true; the input reads as it did. -/
def rankJobsSpec : ChangeSpec := { name := "rankJobs", fn := fun _ => fun
  | [d1, d2, d3] => { results := [.lit (.bool true)], args := [d1, d2, d3] }
  | _ => none }
def rankJobsRow : OpenClaim := { program := "ytipmlbbbjafpiaa", sum := "92be8f366d2b95711bebc4e5f7a2a83dcf6ba7f46e921bbb01daa185a2c60678", func := "reeve/reevelaw10.RankJobs", spec := "rankJobs", unfollowed := true, recurses := true, apart := false }
def RankJobsSaid : Prop := rankJobsRow.holds Try.pinned (OpenSpec.ofChange rankJobsSpec)

/-- ITS FALSE NEIGHBOUR: 'it returns false'. Refute it at one input. -/
def rankJobsWrong : ChangeSpec := { name := "rankJobs", fn := fun _ => fun
  | [d1, d2, d3] => { results := [.lit (.bool false)], args := [d1, d2, d3] }
  | _ => none }
def RankJobsWrongFalsely : Prop := rankJobsRow.holds Try.pinned (OpenSpec.ofChange rankJobsWrong)

/-- 'reevelaw10.RankNodes': WHATEVER THE INPUT: true; the input reads as it did. -/
def rankNodesSpec : ChangeSpec := { name := "rankNodes", fn := fun _ => fun
  | [d1, d2, d3] => { results := [.lit (.bool true)], args := [d1, d2, d3] }
  | _ => none }
def rankNodesRow : OpenClaim := { program := "ytipmlbbbjafpiaa", sum := "92be8f366d2b95711bebc4e5f7a2a83dcf6ba7f46e921bbb01daa185a2c60678", func := "reeve/reevelaw10.RankNodes", spec := "rankNodes", unfollowed := true, recurses := true, apart := false }
def RankNodesSaid : Prop := rankNodesRow.holds Try.pinned (OpenSpec.ofChange rankNodesSpec)

/-- ITS FALSE NEIGHBOUR: 'it returns false'. Refute it at one input. -/
def rankNodesWrong : ChangeSpec := { name := "rankNodes", fn := fun _ => fun
  | [d1, d2, d3] => { results := [.lit (.bool false)], args := [d1, d2, d3] }
  | _ => none }
def RankNodesWrongFalsely : Prop := rankNodesRow.holds Try.pinned (OpenSpec.ofChange rankNodesWrong)

/-- 'reevelaw10.RankOrders': WHATEVER THE INPUT: true; the input reads as it did. -/
def rankOrdersSpec : ChangeSpec := { name := "rankOrders", fn := fun _ => fun
  | [d1, d2] => { results := [.lit (.bool true)], args := [d1, d2] }
  | _ => none }
def rankOrdersRow : OpenClaim := { program := "ytipmlbbbjafpiaa", sum := "92be8f366d2b95711bebc4e5f7a2a83dcf6ba7f46e921bbb01daa185a2c60678", func := "reeve/reevelaw10.RankOrders", spec := "rankOrders", unfollowed := true, recurses := true, apart := false }
def RankOrdersSaid : Prop := rankOrdersRow.holds Try.pinned (OpenSpec.ofChange rankOrdersSpec)

/-- ITS FALSE NEIGHBOUR: 'it returns false'. Refute it at one input. -/
def rankOrdersWrong : ChangeSpec := { name := "rankOrders", fn := fun _ => fun
  | [d1, d2] => { results := [.lit (.bool false)], args := [d1, d2] }
  | _ => none }
def RankOrdersWrongFalsely : Prop := rankOrdersRow.holds Try.pinned (OpenSpec.ofChange rankOrdersWrong)

/- THE SECOND FORM. 'bulk': how many values and letters a reading holds, each counted each time it is reached (what is shared counts as often as it is met; a slice's spare places count too). A statement '..UptoSaid' is the law's where the arguments, and the package variables that the reading takes, are together of bulk at most 1048576: NARROWER than '..Said'. Prove '..Said' where nothing that the law and all that it calls make is longer than what came in: it says more and counts as full. Else prove '..UptoSaid'. A law counts once. -/
mutual
def uptoBulk {H : Type} : DataW H → Nat
  | .lit (.string bytes) => bytes.length + 1
  | .lit _ => 1
  | .nil => 1
  | .ptr d => uptoBulk d + 1
  | .slice elems spare => uptoBulkAll elems + uptoBulkAll spare + 1
  | .agg parts => uptoBulkAll parts + 1
  | .iface _ d => uptoBulk d + 1
  | .map entries => uptoBulkEntries entries + 1
  | .held _ => 1
def uptoBulkAll {H : Type} : List (DataW H) → Nat
  | [] => 0
  | d :: r => uptoBulk d + uptoBulkAll r
def uptoBulkEntries {H : Type} : List (Lit × DataW H) → Nat
  | [] => 0
  | x :: r => uptoBulkEntry x + uptoBulkEntries r
def uptoBulkEntry {H : Type} : Lit × DataW H → Nat
  | (.string bytes, d) => bytes.length + uptoBulk d + 1
  | (_, d) => uptoBulk d + 1
 end
def uptoSmall : (H : Type) → List (DataW H) → Bool := fun _ ds => decide (uptoBulkAll ds ≤ 1048576)
def OpenSpec.upto (s : _root_.Go.ChangeSpec) : _root_.Go.OpenSpec := { _root_.Go.OpenSpec.ofChange s with cond := some uptoSmall }

/-- 'reevelaw10.RankJobs', WHERE WHAT IT READS IS OF BULK AT MOST 1048576: true; the input reads as it did. -/
def rankJobsUptoRow : OpenClaim := { program := "ytipmlbbbjafpiaa", sum := "92be8f366d2b95711bebc4e5f7a2a83dcf6ba7f46e921bbb01daa185a2c60678", func := "reeve/reevelaw10.RankJobs", spec := "rankJobs", unfollowed := true, recurses := true, apart := false, narrowed := true }
def RankJobsUptoSaid : Prop := rankJobsUptoRow.holds Try.pinned (OpenSpec.upto rankJobsSpec)

/-- 'reevelaw10.RankNodes', WHERE WHAT IT READS IS OF BULK AT MOST 1048576: true; the input reads as it did. -/
def rankNodesUptoRow : OpenClaim := { program := "ytipmlbbbjafpiaa", sum := "92be8f366d2b95711bebc4e5f7a2a83dcf6ba7f46e921bbb01daa185a2c60678", func := "reeve/reevelaw10.RankNodes", spec := "rankNodes", unfollowed := true, recurses := true, apart := false, narrowed := true }
def RankNodesUptoSaid : Prop := rankNodesUptoRow.holds Try.pinned (OpenSpec.upto rankNodesSpec)

/-- 'reevelaw10.RankOrders', WHERE WHAT IT READS IS OF BULK AT MOST 1048576: true; the input reads as it did. -/
def rankOrdersUptoRow : OpenClaim := { program := "ytipmlbbbjafpiaa", sum := "92be8f366d2b95711bebc4e5f7a2a83dcf6ba7f46e921bbb01daa185a2c60678", func := "reeve/reevelaw10.RankOrders", spec := "rankOrders", unfollowed := true, recurses := true, apart := false, narrowed := true }
def RankOrdersUptoSaid : Prop := rankOrdersUptoRow.holds Try.pinned (OpenSpec.upto rankOrdersSpec)

end Rows
end Go.Proofs.Ytipmlbbbjafpiaa
