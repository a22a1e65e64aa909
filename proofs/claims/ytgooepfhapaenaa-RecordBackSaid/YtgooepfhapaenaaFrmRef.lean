/- What the document's own answers for frames come to. Conditions: texts of at most 100,000 bytes. -/
import Derived.Test.YtgooepfhapaenaaFrmS
import Derived.Test.YtgooepfhapaenaaCrcRef
namespace Go.Proofs.Ytgooepfhapaenaa
open Go.ChangeShapes Go.WideShapes Go.ChangeAt Go.RowKit
set_option linter.unusedVariables false
set_option maxRecDepth 100000
set_option linter.unusedSimpArgs false
/-- What the document's Open says, in its order. -/
theorem byte_one (l : List UInt8) (h : 0 < l.length) : bigV (l.take 1) 0 = (l[0]).toNat := by
  cases l with
  | nil => simp at h
  | cons b l => simp [bigV]
theorem byte_two (l : List UInt8) (h : 2 < l.length) : told l = (l[1]).toNat * 256 + (l[2]).toNat := by
  match l, h with
  | a :: b :: c :: l, _ => simp [told, bigV]
end Go.Proofs.Ytgooepfhapaenaa
