/-
Proved: what the reference's functions on trees return: Bits, Counts, TreeFault, Road. No condition.
-/
import Derived.Test.YtmodajmjmdigfaaPlru3
import Derived.Test.YtmodajmjmdigfaaMem
import Derived.Maps.RangeWalk
import Derived.Maps.OwnOps
namespace Go.Proofs.Ytmodajmjmdigfaa
open Go.ChangeShapes Go.WideShapes Go.ChangeAt Go.RowKit Go.Joins Go.Maps

/-- Three bits as an array's value. -/
abbrev bits (a b c : Bool) : Value := .agg #[.bool a, .bool b, .bool c]

theorem bits_any (a b c : Bool) (w : World) : Calls Try.prog 86 #[tree a b c] w fun e w' => e = .returned (bits a b c) ∧ Below w.heap.size w w' := by
  go_enter Try.func86, Try.ntmps86
  go_wp2
  exact bodyPost_ret (v := bits a b c) (by simp [results, Try.results86, go_sem]) rfl ⟨rfl, gAlloc (gAlloc (Below.refl _ _) _) _⟩

theorem counts_any (k n : Int) (w : World) (h0 : 0 ≤ k) (h1 : k ≤ 2) : Calls Try.prog 97 #[.int .i64 k, .int .i64 n] w fun e w' => e = .returned (.bool (decide (k + 1 < n))) ∧ w = w' := by
  go_enter Try.func97, Try.ntmps97
  go_wp2
  go_ret
  exact ⟨rfl, rfl⟩

theorem idx0 (x y z : Bool) (w : World) : (Instr.index 129 (bits x y z) (.int .i64 0)).run Try.prog w = .ok (.bool x) w := by kernel_rfl
theorem idx1 (x y z : Bool) (w : World) : (Instr.index 129 (bits x y z) (.int .i64 1)).run Try.prog w = .ok (.bool y) w := by kernel_rfl
theorem idx2 (x y z : Bool) (w : World) : (Instr.index 129 (bits x y z) (.int .i64 2)).run Try.prog w = .ok (.bool z) w := by kernel_rfl

theorem treeFault_out (a b c : Bool) (n : Int) (w : World) (h : n < 1 ∨ 4 < n) :
    Calls Try.prog 85 #[tree a b c, .int .i64 n] w fun e w' => e = .returned (.int .i64 4) ∧ Below w.heap.size w w' := by
  by_cases h1 : n < 1
  · clear h
    go_enter Try.func85, Try.ntmps85
    go_wp2
    go_ret
    exact ⟨rfl, gAlloc (Below.refl _ _) _⟩
  · have h2 : 4 < n := by omega
    clear h
    go_enter Try.func85, Try.ntmps85
    go_wp2
    go_ret
    exact ⟨rfl, gAlloc (Below.refl _ _) _⟩

set_option maxHeartbeats 8000000 in
theorem treeFault_in (a b c : Bool) (n : Int) (w : World) (h : n = 1 ∨ n = 2 ∨ n = 3 ∨ n = 4) :
    Calls Try.prog 85 #[tree a b c, .int .i64 n] w fun e w' => e = .returned (.int .i64 (if treeB a b c n then 0 else 3)) ∧ Below w.heap.size w w' := by
  rcases h with rfl | rfl | rfl | rfl
  all_goals
    cases a <;> cases b <;> cases c
    all_goals
      simp only [treeB]
      have j0 := idx0
      have j1 := idx1
      have j2 := idx2
      go_enter Try.func85, Try.ntmps85
      go_wp2_with fail
      refine (bits_any _ _ _ _).mono ?_; rintro e w1 ⟨rfl, hb⟩
      go_wp2_with fail
      refine wp_loop_rounds 4 ?_
      rw [rounds_succ]
      go_wp2_with (go_at_call 97; refine (counts_any _ _ _ (by omega) (by omega)).mono ?_; rintro e w' ⟨rfl, rfl⟩)
      all_goals (try (rw [rounds_succ]; go_wp2_with (go_at_call 97; refine (counts_any _ _ _ (by omega) (by omega)).mono ?_; rintro e w' ⟨rfl, rfl⟩)))
      all_goals (try (rw [rounds_succ]; go_wp2_with (go_at_call 97; refine (counts_any _ _ _ (by omega) (by omega)).mono ?_; rintro e w' ⟨rfl, rfl⟩)))
      all_goals (try (rw [rounds_succ]; go_wp2_with (go_at_call 97; refine (counts_any _ _ _ (by omega) (by omega)).mono ?_; rintro e w' ⟨rfl, rfl⟩)))
      go_ret
      exact ⟨rfl, gCall (gAlloc (Below.refl _ _) _) hb⟩

theorem treeFault_any (a b c : Bool) (n : Int) (w : World) :
    Calls Try.prog 85 #[tree a b c, .int .i64 n] w fun e w' => e = .returned (.int .i64 (treeE a b c n)) ∧ Below w.heap.size w w' := by
  unfold treeE
  by_cases h : n < 1 ∨ 4 < n
  · rw [if_pos h]; exact treeFault_out a b c n w h
  · rw [if_neg h]; exact treeFault_in a b c n w (by omega)
end Go.Proofs.Ytmodajmjmdigfaa
