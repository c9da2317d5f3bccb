/-
Proved: what DeedFault of the reference returns; it changes nothing that was there. No condition.
-/
import Derived.Test.YtcegjehoejgofaaGreatJoined1
import Derived.Test.YtcegjehoejgofaaGreatRefLow
namespace Go.Proofs.YtcegjehoejgofaaGreat
open Go.ChangeShapes Go.WideShapes Go.ChangeAt Go.RowKit Go.Joins
end Go.Proofs.YtcegjehoejgofaaGreat
