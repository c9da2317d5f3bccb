/-
Proved: words for what Legal and Keeps are to tell. No walk. No condition.
-/
import Derived.Test.YtcegjehoejgofaaGreatExplFacts
import Derived.Test.YtcegjehoejgofaaGreatSplitFacts
import Derived.Test.YtcegjehoejgofaaGreatOpsSame
namespace Go.Proofs.YtcegjehoejgofaaGreat
open Go.ChangeShapes Go.WideShapes Go.ChangeAt Go.RowKit Go.Joins
def legB (m : List Int) (l : List Td) : Bool := decide (runV m (l.map Td.d) = l.map Td.v)
def keep1 (p : List (List Dd)) (l : List Td) (k : Nat) : Bool :=
 decide ((onD k (l.map Td.d)).length ≤ (p.getD k []).length) && decide (onD k (l.map Td.d) = (p.getD k []).take (onD k (l.map Td.d)).length)
def keepB (p : List (List Dd)) (l : List Td) : Bool := (List.range 8).all (keep1 p l)
def keepE (p : List (List Dd)) (l : List Td) : Int := if toldE 200 l ≠ 0 then toldE 200 l else if 8 < p.length then 3 else 0
theorem onD_td {l : List Td} {j : Nat} {x : Td} {k : Nat} (h : l[j]? = some x) : onD k ((l.take (j + 1)).map Td.d) = onD k ((l.take j).map Td.d) ++ if x.d.nd = (k : Int) then [x.d] else [] := by
 rw [List.take_add_one, h, List.map_append]
 by_cases e : x.d.nd = (k : Int)
 ·rw [if_pos e]
  exact onD_same _ e
 ·rw [if_neg e, List.append_nil]
  exact onD_other _ e
theorem onD_few (k : Nat) (l : List Td) : (onD k (l.map Td.d)).length ≤ l.length := by
 have := onD_length k (l.map Td.d)
 simpa using this
end Go.Proofs.YtcegjehoejgofaaGreat
