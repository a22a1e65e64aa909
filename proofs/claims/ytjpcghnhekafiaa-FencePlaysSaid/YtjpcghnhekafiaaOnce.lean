/- sync.Once and sync/atomic's Int64, for one goroutine: the parts that any once is made of. Conditions: the once is not held. -/
import Derived.Test.YtjpcghnhekafiaaRows
import Derived.Test.YtjpcghnhekafiaaKit
import Derived.Defers
import Derived.Laws.Pointers
import Derived.Laws.LoneSync
import Derived.RegionTactic
import Derived.RegionCalls
import Derived.ChangeAlike
namespace Go.Proofs.Ytjpcghnhekafiaa
open Go.ChangeShapes Go.WideShapes Go.ChangeAt Go.RowKit
set_option linter.unusedVariables false
set_option maxRecDepth 100000
set_option linter.unusedSimpArgs false
end Go.Proofs.Ytjpcghnhekafiaa
