/-
Proved: '==' on operations compares their cells; slices.Equal of two slices that hold the same operations returns true, and changes nothing that was there. No other condition.
-/
import Derived.Test.YtcegjehoejgofaaGreatJoined1
namespace Go.Proofs.YtcegjehoejgofaaGreat
open Go.ChangeShapes Go.WideShapes Go.ChangeAt Go.RowKit Go.Joins
def eqD (x y : Dd) : Bool := x.nd == y.nd && (x.kd == y.kd && (x.ad == y.ad && x.vl == y.vl))
theorem eqD_iff (x y : Dd) : eqD x y = true ↔ x = y := by
 obtain ⟨a, b, c, d⟩ := x
 obtain ⟨a', b', c', d'⟩ := y
 simp [eqD]
end Go.Proofs.YtcegjehoejgofaaGreat
