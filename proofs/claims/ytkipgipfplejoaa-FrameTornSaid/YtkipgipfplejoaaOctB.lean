/- What octet.Var and the document's Var return. Conditions: the number fits. -/
import Derived.Test.YtkipgipfplejoaaOctA
namespace Go.Proofs.Ytkipgipfplejoaa
open Go.ChangeShapes Go.WideShapes Go.ChangeAt Go.RowKit
set_option linter.unusedVariables false
set_option maxRecDepth 100000
set_option linter.unusedSimpArgs false
end Go.Proofs.Ytkipgipfplejoaa
