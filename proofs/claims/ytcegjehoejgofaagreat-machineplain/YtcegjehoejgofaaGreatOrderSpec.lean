/-
Proved: words for what Legal and Keeps are to tell. No walk. No condition.
-/
import Derived.Test.YtcegjehoejgofaaGreatExplFacts
import Derived.Test.YtcegjehoejgofaaGreatSplitFacts
import Derived.Test.YtcegjehoejgofaaGreatOpsSame
namespace Go.Proofs.YtcegjehoejgofaaGreat
open Go.ChangeShapes Go.WideShapes Go.ChangeAt Go.RowKit Go.Joins

/-- What was told is what the operations tell one after the other. -/
def legB (m : List Int) (l : List Td) : Bool := decide (runV m (l.map Td.d) = l.map Td.v)
end Go.Proofs.YtcegjehoejgofaaGreat
