/-
Proved: events as observations, each node's log of them. By lists alone, no walk. No condition.
-/
import Derived.Test.YtcegjehoejgofaaTallyFacts
import Derived.Test.YtcegjehoejgofaaSide
namespace Go.Proofs.Ytcegjehoejgofaa
open Go.ChangeShapes Go.WideShapes Go.ChangeAt Go.RowKit Go.Joins

def evTd (es : List Ev) : List Td := es.map fun e => ⟨e.d, e.told⟩
theorem evTd_d (es : List Ev) : (evTd es).map Td.d = evD es := by simp [evTd, evD]
theorem evTd_v (es : List Ev) : (evTd es).map Td.v = evT es := by simp [evTd, evT]
theorem evTd_length (es : List Ev) : (evTd es).length = es.length := by simp [evTd]
theorem evTd_more {es : List Ev} {j : Nat} {x : Ev} (h : es[j]? = some x) : evTd (es.take (j + 1)) = evTd (es.take j) ++ [⟨x.d, x.told⟩] := by
  rw [List.take_add_one, h]
  simp [evTd]
/-- The logs, node by node. -/
def logsL (n : Int) (es : List Ev) : List (List Td) := (List.range n.toNat).map fun k => keyT.on k (evTd es)
theorem logsL_length (n : Int) (es : List Ev) : (logsL n es).length = n.toNat := by simp [logsL]
theorem logsL_at {n : Int} {es : List Ev} {k : Nat} (hk : k < n.toNat) : (logsL n es)[k]? = some (keyT.on k (evTd es)) := by simp [logsL, hk]
end Go.Proofs.Ytcegjehoejgofaa
