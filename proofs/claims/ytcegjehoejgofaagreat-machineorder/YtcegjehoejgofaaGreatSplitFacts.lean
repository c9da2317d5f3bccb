/-
Proved: words for operations split by their nodes: the lists, the slices that grow side by side, the first error. No walk. No condition.
-/
import Derived.Test.YtcegjehoejgofaaGreatJoined1
import Derived.Test.YtcegjehoejgofaaGreatJoined3
import Derived.Test.YtcegjehoejgofaaGreatJoined6
namespace Go.Proofs.YtcegjehoejgofaaGreat
open Go.ChangeShapes Go.WideShapes Go.ChangeAt Go.RowKit Go.Joins
def onD (k : Nat) (l : List Dd) : List Dd := l.filter fun d => d.nd == (k : Int)
theorem onD_same {k : Nat} (P : List Dd) {c : Dd} (h : c.nd = (k : Int)) : onD k (P ++ [c]) = onD k P ++ [c] := by
 simp [onD, List.filter_append, h]
theorem onD_other {k : Nat} (P : List Dd) {c : Dd} (h : c.nd ≠ (k : Int)) : onD k (P ++ [c]) = onD k P := by
 simp [onD, List.filter_append, h]
theorem onD_length (k : Nat) (P : List Dd) : (onD k P).length ≤ P.length := List.length_filter_le _ _
end Go.Proofs.YtcegjehoejgofaaGreat
