/-
Proved: the range of ways of a tree that is right, and the closed fact of package plru that the laws ask for first. No condition.
-/
import Derived.Test.YtkicjcefghecgaaPlru2
namespace Go.Proofs.Ytkicjcefghecgaa
open Go.ChangeShapes Go.WideShapes Go.ChangeAt Go.RowKit Go.Joins

theorem treeE_range {a b c : Bool} {n : Int} (h : treeE a b c n = 0) : 1 ≤ n ∧ n ≤ 4 := by
  unfold treeE at h
  by_cases g : n < 1 ∨ 4 < n
  · rw [if_pos g] at h; omega
  · omega

theorem plruCheck_zero (a b c : Bool) (n : Int) (w : World) (h : treeE a b c n = 0) :
    Calls Try.prog 23 #[tree a b c, .int .i64 n] w fun e w' => e = .returned (.int .i64 0) ∧ Below w.heap.size w w' := by
  have k := plruCheck_any a b c n w
  rw [h] at k
  exact k

theorem plrus_yes (w : World) : Calls Try.prog 26 #[] w fun e w' => e = .returned (.bool true) ∧ Below w.heap.size w w' := by
  have T : ∀ W, Calls Try.prog 20 #[tree false false false, .int .i64 2, .int .i64 0] W fun e w' => e = .returned (.tuple #[tree true false false, .int .i64 0]) ∧ Below W.heap.size W w' := fun W => touch_ok false false false 2 0 W (by decide) (by omega) (by omega)
  have V : ∀ W, Calls Try.prog 21 #[tree true false false, .int .i64 2] W fun e w' => e = .returned (.tuple #[.int .i64 1, .int .i64 0]) ∧ Below W.heap.size W w' := fun W => victim_ok true false false 2 W (by decide)
  have T := Lib.hid T
  have V := Lib.hid V
  go_enter Try.func26, Try.ntmps26
  go_wp2_with fail
  with_reducible refine (T.out _).mono ?_
  rintro e w1 ⟨rfl, hb⟩
  go_wp2_with fail
  with_reducible refine (V.out _).mono ?_
  rintro e w2 ⟨rfl, hb2⟩
  obtain ⟨hc, hf⟩ := bcell hb2
  go_wp2_with fail
  go_ret
  exact ⟨rfl, gCall (gAlloc hb _) hb2⟩
end Go.Proofs.Ytkicjcefghecgaa
