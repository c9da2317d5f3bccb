/-
Proved: slices.Equal on ways returns true where both slices hold the same; it changes nothing that was there. No other condition.
-/
import Derived.Test.YtgdacpcifnpojaaGreatJoined2
import Derived.Test.YtgdacpcifnpojaaGreatJoined1
namespace Go.Proofs.YtgdacpcifnpojaaGreat
open Go.ChangeShapes Go.WideShapes Go.ChangeAt Go.RowKit Go.Joins
end Go.Proofs.YtgdacpcifnpojaaGreat
