/-
Proved: the range of ways of a tree that is right, and the closed fact of package plru that the laws ask for first. No condition.
-/
import Derived.Test.YtmodajmjmdigfaaPlru2
namespace Go.Proofs.Ytmodajmjmdigfaa
open Go.ChangeShapes Go.WideShapes Go.ChangeAt Go.RowKit Go.Joins

theorem treeE_range {a b c : Bool} {n : Int} (h : treeE a b c n = 0) : 1 ≤ n ∧ n ≤ 4 := by
  unfold treeE at h
  by_cases g : n < 1 ∨ 4 < n
  · rw [if_pos g] at h; omega
  · omega

theorem plruCheck_zero (a b c : Bool) (n : Int) (w : World) (h : treeE a b c n = 0) :
    Calls Try.prog 48 #[tree a b c, .int .i64 n] w fun e w' => e = .returned (.int .i64 0) ∧ Below w.heap.size w w' := by
  have k := plruCheck_any a b c n w
  rw [h] at k
  exact k

end Go.Proofs.Ytmodajmjmdigfaa
