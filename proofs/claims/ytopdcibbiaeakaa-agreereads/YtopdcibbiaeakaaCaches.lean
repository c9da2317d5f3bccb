/-
Proved: the closed fact that the statements on caches ask for first: a small cache can be made. No condition.
-/
import Derived.Test.YtopdcibbiaeakaaCache5
namespace Go.Proofs.Ytopdcibbiaeakaa
open Go.ChangeShapes Go.WideShapes Go.ChangeAt Go.RowKit Go.Joins

theorem small_is (w : World) : Calls Try.prog 12 #[] w fun e w' => e = .returned (cfg 2 1 1 1) ∧ Below w.heap.size w w' := by
  have low := Below.refl w.heap.size w
  go_enter Try.func12, Try.ntmps12
  go_wp2_with fail
  refine bodyPost_ret (v := cfg 2 1 1 1) (by simp [results, Try.results12, go_sem]) rfl ⟨rfl, ?_⟩
  exact gAlloc low _

end Go.Proofs.Ytopdcibbiaeakaa
