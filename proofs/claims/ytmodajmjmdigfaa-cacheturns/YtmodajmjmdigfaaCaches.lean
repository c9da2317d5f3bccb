/-
Proved: the closed fact that the statements on caches ask for first: a small cache can be made. No condition.
-/
import Derived.Test.YtmodajmjmdigfaaCache5
namespace Go.Proofs.Ytmodajmjmdigfaa
open Go.ChangeShapes Go.WideShapes Go.ChangeAt Go.RowKit Go.Joins

theorem small_is (w : World) : Calls Try.prog 64 #[] w fun e w' => e = .returned (cfg 2 1 1 1) ∧ Below w.heap.size w w' := by
  have low := Below.refl w.heap.size w
  go_enter Try.func64, Try.ntmps64
  go_wp2_with fail
  refine bodyPost_ret (v := cfg 2 1 1 1) (by simp [results, Try.results64, go_sem]) rfl ⟨rfl, ?_⟩
  exact gAlloc low _

theorem caches_yes (w : World) : Calls Try.prog 32 #[] w fun e w' => e = .returned (.bool true) ∧ Below w.heap.size w w' := by
  have N := Lib.hid fun w => cacheNew_ok 2 1 1 1 w (by decide)
  simp only [Int.natCast_one] at N
  have low := Below.refl w.heap.size w
  go_enter Try.func32, Try.ntmps32
  go_wp2_with fail
  (with_reducible refine (small_is _).mono ?_); rintro e w1 ⟨rfl, hb⟩
  replace low := gCall low hb
  clear hb
  go_wp2_with fail
  (with_reducible refine (N.out _).mono ?_); rintro e w2 ⟨⟨A, c, rfl, cf⟩, hb⟩
  replace low := gCall low hb
  clear hb cf
  go_wp2_with fail
  go_ret
  exact ⟨rfl, low⟩
end Go.Proofs.Ytmodajmjmdigfaa
