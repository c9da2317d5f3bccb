/-
Proved: what each function of package addr returns, for every argument; none of them changes anything that was there. No condition.
-/
import Derived.Test.YtcegjehoejgofaaOpen
namespace Go.Proofs.Ytcegjehoejgofaa
open Go.ChangeShapes Go.WideShapes Go.ChangeAt Go.RowKit

/-- Are the numbers of a configuration in range? -/
def cfgB (n s y b : Int) : Bool := decide (2 ≤ n ∧ n ≤ 8 ∧ (s = 1 ∨ s = 2 ∨ s = 4) ∧ 1 ≤ y ∧ y ≤ 4 ∧ 1 ≤ b ∧ b ≤ 4)

theorem cfgB_iff {n s y b : Int} : cfgB n s y b = true ↔ (2 ≤ n ∧ n ≤ 8 ∧ (s = 1 ∨ s = 2 ∨ s = 4) ∧ 1 ≤ y ∧ y ≤ 4 ∧ 1 ≤ b ∧ b ≤ 4) := by
  unfold cfgB; exact decide_eq_true_iff

theorem cfgB_no {n s y b : Int} (h : cfgB n s y b = false) : n < 2 ∨ 8 < n ∨ (s ≠ 1 ∧ s ≠ 2 ∧ s ≠ 4) ∨ y < 1 ∨ 4 < y ∨ b < 1 ∨ 4 < b := by
  have : ¬ (2 ≤ n ∧ n ≤ 8 ∧ (s = 1 ∨ s = 2 ∨ s = 4) ∧ 1 ≤ y ∧ y ≤ 4 ∧ 1 ≤ b ∧ b ≤ 4) := by
    intro k; rw [cfgB_iff.2 k] at h; cases h
  omega

/-- The node that is k places after f in a ring of n. -/
def nodeAt (n f k : Int) : Int := (f + k % n) % n

theorem nodeAt_nonneg {n f k : Int} (h : 0 < n) : 0 ≤ nodeAt n f k := Int.emod_nonneg _ (by omega)
theorem nodeAt_lt {n f k : Int} (h : 0 < n) : nodeAt n f k < n := Int.emod_lt_of_pos _ h

theorem within_yes (n lo hi : Int) (w : World) (h1 : lo ≤ n) (h2 : n ≤ hi) :
    Calls Try.prog 25 #[.int .i64 n, .int .i64 lo, .int .i64 hi] w fun e w' => e = .returned (.bool true) ∧ w = w' := by
  go_enter Try.func25, Try.ntmps25
  go_wp2
  go_ret
  exact ⟨rfl, rfl⟩

theorem within_no (n lo hi : Int) (w : World) (h : n < lo ∨ hi < n) :
    Calls Try.prog 25 #[.int .i64 n, .int .i64 lo, .int .i64 hi] w fun e w' => e = .returned (.bool false) ∧ w = w' := by
  by_cases h1 : n < lo
  · go_enter Try.func25, Try.ntmps25
    go_wp2
    go_ret
    exact ⟨rfl, rfl⟩
  · have h2 : hi < n := by omega
    have h3 : lo ≤ n := by omega
    have h4 : decide (n ≤ hi) = false := by simpa using h2
    clear h h1
    go_enter Try.func25, Try.ntmps25
    go_wp2
    go_ret
    exact ⟨rfl, rfl⟩

theorem isSets_yes (s : Int) (w : World) (h : s = 1 ∨ s = 2 ∨ s = 4) :
    Calls Try.prog 26 #[.int .i64 s] w fun e w' => e = .returned (.bool true) ∧ w = w' := by
  rcases h with rfl | rfl | rfl
  all_goals
    go_enter Try.func26, Try.ntmps26
    go_wp2
    go_ret
    exact ⟨rfl, rfl⟩

theorem isSets_no (s : Int) (w : World) (h1 : s ≠ 1) (h2 : s ≠ 2) (h4 : s ≠ 4) :
    Calls Try.prog 26 #[.int .i64 s] w fun e w' => e = .returned (.bool false) ∧ w = w' := by
  have k1 : (s == 1) = false := by simpa using h1
  have k2 : (s == 2) = false := by simpa using h2
  have k4 : (s == 4) = false := by simpa using h4
  clear h1 h2 h4
  go_enter Try.func26, Try.ntmps26
  go_wp2
  go_ret
  exact ⟨rfl, rfl⟩

theorem check_ok (n s y b : Int) (w : World) (h : cfgB n s y b = true) :
    Calls Try.prog 19 #[cfg n s y b] w fun e w' => e = .returned (.int .i64 0) ∧ Below w.heap.size w w' := by
  obtain ⟨h1, h2, h3, h4, h5, h6, h7⟩ := cfgB_iff.1 h
  clear h
  have H3 := Lib.hid h3
  clear h3
  go_enter Try.func19, Try.ntmps19
  go_wp2_with (first
    | (go_at_call 25; refine (within_yes _ _ _ _ (by omega) (by omega)).mono ?_; rintro e w' ⟨rfl, rfl⟩)
    | (go_at_call 26; refine (isSets_yes _ _ H3.out).mono ?_; rintro e w' ⟨rfl, rfl⟩))
  go_ret
  exact ⟨rfl, gAlloc (Below.refl _ _) _⟩

theorem check_bad (n s y b : Int) (w : World) (h : cfgB n s y b = false) :
    Calls Try.prog 19 #[cfg n s y b] w fun e w' => e = .returned (.int .i64 4) ∧ Below w.heap.size w w' := by
  have h' := cfgB_no h
  clear h
  by_cases a1 : n < 2 ∨ 8 < n
  · go_enter Try.func19, Try.ntmps19
    go_wp2_with (go_at_call 25; refine (within_no _ _ _ _ (by omega)).mono ?_; rintro e w' ⟨rfl, rfl⟩)
    go_ret
    exact ⟨rfl, gAlloc (Below.refl _ _) _⟩
  by_cases a2 : s ≠ 1 ∧ s ≠ 2 ∧ s ≠ 4
  · have A2 := Lib.hid a2
    clear a2 h'
    go_enter Try.func19, Try.ntmps19
    go_wp2_with (first
      | (go_at_call 25; refine (within_yes _ _ _ _ (by omega) (by omega)).mono ?_; rintro e w' ⟨rfl, rfl⟩)
      | (go_at_call 26; refine (isSets_no _ _ A2.out.1 A2.out.2.1 A2.out.2.2).mono ?_; rintro e w' ⟨rfl, rfl⟩))
    go_ret
    exact ⟨rfl, gAlloc (Below.refl _ _) _⟩
  have a2' : s = 1 ∨ s = 2 ∨ s = 4 := by omega
  have A2 := Lib.hid a2'
  have b1 : 2 ≤ n := by omega
  have b2 : n ≤ 8 := by omega
  clear a2 a2'
  by_cases a3 : y < 1 ∨ 4 < y
  · clear h' a1
    go_enter Try.func19, Try.ntmps19
    go_wp2_with fail
    refine (within_yes _ _ _ _ (by omega) (by omega)).mono ?_; rintro e w' ⟨rfl, rfl⟩
    go_wp2_with fail
    refine (isSets_yes _ _ A2.out).mono ?_; rintro e w' ⟨rfl, rfl⟩
    go_wp2_with fail
    refine (within_no _ _ _ _ (by omega)).mono ?_; rintro e w' ⟨rfl, rfl⟩
    go_wp2_with fail
    go_ret
    exact ⟨rfl, gAlloc (Below.refl _ _) _⟩
  · have b3 : 1 ≤ y := by omega
    have b4 : y ≤ 4 := by omega
    have b5 : b < 1 ∨ 4 < b := by have := A2.out; omega
    clear h' a1 a3
    go_enter Try.func19, Try.ntmps19
    go_wp2_with fail
    refine (within_yes _ _ _ _ (by omega) (by omega)).mono ?_; rintro e w' ⟨rfl, rfl⟩
    go_wp2_with fail
    refine (isSets_yes _ _ A2.out).mono ?_; rintro e w' ⟨rfl, rfl⟩
    go_wp2_with fail
    refine (within_yes _ _ _ _ (by omega) (by omega)).mono ?_; rintro e w' ⟨rfl, rfl⟩
    go_wp2_with fail
    refine (within_no _ _ _ _ (by omega)).mono ?_; rintro e w' ⟨rfl, rfl⟩
    go_wp2_with fail
    go_ret
    exact ⟨rfl, gAlloc (Below.refl _ _) _⟩


theorem line_ok (a : Int) (w : World) (h0 : 0 ≤ a) (h1 : a ≤ 63) :
    Calls Try.prog 28 #[.int .i64 a] w fun e w' => e = .returned (.tuple #[.int .i64 (a / 4), .int .i64 (a % 4), .int .i64 0]) ∧ w = w' := by
  go_enter Try.func28, Try.ntmps28
  go_wp2_with fail
  refine (within_yes _ _ _ _ (by omega) (by omega)).mono ?_; rintro e w' ⟨rfl, rfl⟩
  go_wp2_with fail
  go_ret3
  exact ⟨rfl, rfl⟩

theorem line_out (a : Int) (w : World) (h : a < 0 ∨ 63 < a) :
    Calls Try.prog 28 #[.int .i64 a] w fun e w' => e = .returned (.tuple #[.int .i64 0, .int .i64 0, .int .i64 4]) ∧ w = w' := by
  go_enter Try.func28, Try.ntmps28
  go_wp2_with fail
  refine (within_no _ _ _ _ (by omega)).mono ?_; rintro e w' ⟨rfl, rfl⟩
  go_wp2_with fail
  go_ret3
  exact ⟨rfl, rfl⟩



end Go.Proofs.Ytcegjehoejgofaa
