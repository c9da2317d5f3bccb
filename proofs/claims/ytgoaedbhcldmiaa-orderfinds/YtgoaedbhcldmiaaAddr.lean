/-
Proved: what each function of package addr returns, for every argument; none of them changes anything that was there. No condition.
-/
import Derived.Test.YtgoaedbhcldmiaaOpen
namespace Go.Proofs.Ytgoaedbhcldmiaa
open Go.ChangeShapes Go.WideShapes Go.ChangeAt Go.RowKit

/-- Are the numbers of a configuration in range? -/
def cfgB (n s y b : Int) : Bool := decide (2 ≤ n ∧ n ≤ 8 ∧ (s = 1 ∨ s = 2 ∨ s = 4) ∧ 1 ≤ y ∧ y ≤ 4 ∧ 1 ≤ b ∧ b ≤ 4)

theorem cfgB_iff {n s y b : Int} : cfgB n s y b = true ↔ (2 ≤ n ∧ n ≤ 8 ∧ (s = 1 ∨ s = 2 ∨ s = 4) ∧ 1 ≤ y ∧ y ≤ 4 ∧ 1 ≤ b ∧ b ≤ 4) := by
  unfold cfgB; exact decide_eq_true_iff

theorem cfgB_no {n s y b : Int} (h : cfgB n s y b = false) : n < 2 ∨ 8 < n ∨ (s ≠ 1 ∧ s ≠ 2 ∧ s ≠ 4) ∨ y < 1 ∨ 4 < y ∨ b < 1 ∨ 4 < b := by
  have : ¬ (2 ≤ n ∧ n ≤ 8 ∧ (s = 1 ∨ s = 2 ∨ s = 4) ∧ 1 ≤ y ∧ y ≤ 4 ∧ 1 ≤ b ∧ b ≤ 4) := by
    intro k; rw [cfgB_iff.2 k] at h; cases h
  omega

/-- The node that is k places after f in a ring of n. -/
def nodeAt (n f k : Int) : Int := (f + k % n) % n

theorem nodeAt_nonneg {n f k : Int} (h : 0 < n) : 0 ≤ nodeAt n f k := Int.emod_nonneg _ (by omega)
theorem nodeAt_lt {n f k : Int} (h : 0 < n) : nodeAt n f k < n := Int.emod_lt_of_pos _ h

theorem within_yes (n lo hi : Int) (w : World) (h1 : lo ≤ n) (h2 : n ≤ hi) :
    Calls Try.prog 38 #[.int .i64 n, .int .i64 lo, .int .i64 hi] w fun e w' => e = .returned (.bool true) ∧ w = w' := by
  go_enter Try.func38, Try.ntmps38
  go_wp2
  go_ret
  exact ⟨rfl, rfl⟩

theorem within_no (n lo hi : Int) (w : World) (h : n < lo ∨ hi < n) :
    Calls Try.prog 38 #[.int .i64 n, .int .i64 lo, .int .i64 hi] w fun e w' => e = .returned (.bool false) ∧ w = w' := by
  by_cases h1 : n < lo
  · go_enter Try.func38, Try.ntmps38
    go_wp2
    go_ret
    exact ⟨rfl, rfl⟩
  · have h2 : hi < n := by omega
    have h3 : lo ≤ n := by omega
    have h4 : decide (n ≤ hi) = false := by simpa using h2
    clear h h1
    go_enter Try.func38, Try.ntmps38
    go_wp2
    go_ret
    exact ⟨rfl, rfl⟩




theorem line_ok (a : Int) (w : World) (h0 : 0 ≤ a) (h1 : a ≤ 63) :
    Calls Try.prog 37 #[.int .i64 a] w fun e w' => e = .returned (.tuple #[.int .i64 (a / 4), .int .i64 (a % 4), .int .i64 0]) ∧ w = w' := by
  go_enter Try.func37, Try.ntmps37
  go_wp2_with fail
  refine (within_yes _ _ _ _ (by omega) (by omega)).mono ?_; rintro e w' ⟨rfl, rfl⟩
  go_wp2_with fail
  go_ret3
  exact ⟨rfl, rfl⟩

theorem line_out (a : Int) (w : World) (h : a < 0 ∨ 63 < a) :
    Calls Try.prog 37 #[.int .i64 a] w fun e w' => e = .returned (.tuple #[.int .i64 0, .int .i64 0, .int .i64 4]) ∧ w = w' := by
  go_enter Try.func37, Try.ntmps37
  go_wp2_with fail
  refine (within_no _ _ _ _ (by omega)).mono ?_; rintro e w' ⟨rfl, rfl⟩
  go_wp2_with fail
  go_ret3
  exact ⟨rfl, rfl⟩



end Go.Proofs.Ytgoaedbhcldmiaa
