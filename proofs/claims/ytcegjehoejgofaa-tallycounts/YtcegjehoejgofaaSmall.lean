/-
Proved: the small configuration that the statements name. No condition.
-/
import Derived.Test.YtcegjehoejgofaaOpen
namespace Go.Proofs.Ytcegjehoejgofaa
open Go.ChangeShapes Go.WideShapes Go.ChangeAt Go.RowKit Go.Joins

theorem small_is (w : World) : Calls Try.prog 18 #[] w fun e w' => e = .returned (cfg 2 1 1 1) ∧ Below w.heap.size w w' := by
  have low := Below.refl w.heap.size w
  go_enter Try.func18, Try.ntmps18
  go_wp2_with fail
  refine bodyPost_ret (v := cfg 2 1 1 1) (by simp [results, Try.results18, go_sem]) rfl ⟨rfl, ?_⟩
  exact gAlloc low _
end Go.Proofs.Ytcegjehoejgofaa
