/-
Proved: words for what Legal and Keeps are to tell. No walk. No condition.
-/
import Derived.Test.YtcegjehoejgofaaGreatExplFacts
import Derived.Test.YtcegjehoejgofaaGreatSplitFacts
import Derived.Test.YtcegjehoejgofaaGreatOpsSame
namespace Go.Proofs.YtcegjehoejgofaaGreat
open Go.ChangeShapes Go.WideShapes Go.ChangeAt Go.RowKit Go.Joins
def legB (m : List Int) (l : List Td) : Bool := decide (runV m (l.map Td.d) = l.map Td.v)
def keep1 (p : List (List Dd)) (l : List Td) (k : Nat) : Bool :=
 decide ((onD k (l.map Td.d)).length ≤ (p.getD k []).length) && decide (onD k (l.map Td.d) = (p.getD k []).take (onD k (l.map Td.d)).length)
def keepB (p : List (List Dd)) (l : List Td) : Bool := (List.range 8).all (keep1 p l)
def keepE (p : List (List Dd)) (l : List Td) : Int := if toldE 200 l ≠ 0 then toldE 200 l else if 8 < p.length then 3 else 0
end Go.Proofs.YtcegjehoejgofaaGreat
