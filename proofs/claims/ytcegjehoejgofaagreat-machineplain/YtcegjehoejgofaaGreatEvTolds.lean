/-
Proved: events as observations, each node's log of them. By lists alone, no walk. No condition.
-/
import Derived.Test.YtcegjehoejgofaaGreatTallyFacts
import Derived.Test.YtcegjehoejgofaaGreatSide
namespace Go.Proofs.YtcegjehoejgofaaGreat
open Go.ChangeShapes Go.WideShapes Go.ChangeAt Go.RowKit Go.Joins

def evTd (es : List Ev) : List Td := es.map fun e => ⟨e.d, e.told⟩
theorem evTd_d (es : List Ev) : (evTd es).map Td.d = evD es := by simp [evTd, evD]
theorem evTd_v (es : List Ev) : (evTd es).map Td.v = evT es := by simp [evTd, evT]
theorem evTd_length (es : List Ev) : (evTd es).length = es.length := by simp [evTd]
theorem evTd_more {es : List Ev} {j : Nat} {x : Ev} (h : es[j]? = some x) : evTd (es.take (j + 1)) = evTd (es.take j) ++ [⟨x.d, x.told⟩] := by
  rw [List.take_add_one, h]
  simp [evTd]
end Go.Proofs.YtcegjehoejgofaaGreat
