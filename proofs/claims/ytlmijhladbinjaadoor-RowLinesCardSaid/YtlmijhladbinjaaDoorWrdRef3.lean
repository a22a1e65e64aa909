/- What the document's own answers for finds and cuts come to. Conditions: texts of at most 100,000 bytes. -/
import Derived.Test.YtlmijhladbinjaaDoorWrdRef2
namespace Go.Proofs.YtlmijhladbinjaaDoor
open Go.ChangeShapes Go.WideShapes Go.ChangeAt Go.RowKit
set_option linter.unusedVariables false
set_option maxRecDepth 100000
set_option linter.unusedSimpArgs false
end Go.Proofs.YtlmijhladbinjaaDoor
