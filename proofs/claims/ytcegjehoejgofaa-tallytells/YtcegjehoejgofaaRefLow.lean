/-
Proved: what the reference's small functions return: good addresses, good lines, the fault of a configuration. No condition.
-/
import Derived.Test.YtcegjehoejgofaaAddr
namespace Go.Proofs.Ytcegjehoejgofaa
open Go.ChangeShapes Go.WideShapes Go.ChangeAt Go.RowKit

theorem goodAddr_yes (a : Int) (w : World) (h0 : 0 ≤ a) (h1 : a ≤ 63) :
    Calls Try.prog 17 #[.int .i64 a] w fun e w' => e = .returned (.bool true) ∧ w = w' := by
  have h2 : a < 64 := by omega
  go_enter Try.func17, Try.ntmps17
  go_wp2
  go_ret
  exact ⟨rfl, rfl⟩

theorem goodAddr_no (a : Int) (w : World) (h : a < 0 ∨ 63 < a) :
    Calls Try.prog 17 #[.int .i64 a] w fun e w' => e = .returned (.bool false) ∧ w = w' := by
  by_cases h0 : a < 0
  · go_enter Try.func17, Try.ntmps17
    go_wp2
    go_ret
    exact ⟨rfl, rfl⟩
  · have h1 : 0 ≤ a := by omega
    have h2 : decide (a < 64) = false := by simp; omega
    clear h h0
    go_enter Try.func17, Try.ntmps17
    go_wp2
    go_ret
    exact ⟨rfl, rfl⟩


/-- One walk: all tests are decided by what is in the context. -/
theorem configFault_ok (n s y b : Int) (w : World) (h : cfgB n s y b = true) :
    Calls Try.prog 10 #[cfg n s y b] w fun e w' => e = .returned (.int .i64 0) ∧ Below w.heap.size w w' := by
  obtain ⟨h1, h2, h3, h4, h5, h6, h7⟩ := cfgB_iff.1 h
  clear h
  rcases h3 with rfl | rfl | rfl
  all_goals
    go_enter Try.func10, Try.ntmps10
    go_wp2
    go_ret
    exact ⟨rfl, gAlloc (Below.refl _ _) _⟩

theorem configFault_sets (n s y b : Int) (w : World) (h1 : 2 ≤ n) (h2 : n ≤ 8) (k1 : s ≠ 1) (k2 : s ≠ 2) (k4 : s ≠ 4) :
    Calls Try.prog 10 #[cfg n s y b] w fun e w' => e = .returned (.int .i64 4) ∧ Below w.heap.size w w' := by
  have e1 : (s == 1) = false := by simpa using k1
  have e2 : (s == 2) = false := by simpa using k2
  have e4 : (s == 4) = false := by simpa using k4
  clear k1 k2 k4
  go_enter Try.func10, Try.ntmps10
  go_wp2
  go_ret
  exact ⟨rfl, gAlloc (Below.refl _ _) _⟩

set_option maxHeartbeats 4000000 in
theorem configFault_bad (n s y b : Int) (w : World) (h : cfgB n s y b = false) :
    Calls Try.prog 10 #[cfg n s y b] w fun e w' => e = .returned (.int .i64 4) ∧ Below w.heap.size w w' := by
  have h' := cfgB_no h
  clear h
  by_cases k : s = 1 ∨ s = 2 ∨ s = 4
  · rcases k with rfl | rfl | rfl
    all_goals
      by_cases c1 : n < 2
      · go_enter Try.func10, Try.ntmps10
        go_wp2
        go_ret
        exact ⟨rfl, gAlloc (Below.refl _ _) _⟩
      by_cases c2 : 8 < n
      · go_enter Try.func10, Try.ntmps10
        go_wp2
        go_ret
        exact ⟨rfl, gAlloc (Below.refl _ _) _⟩
      by_cases c3 : y < 1
      · go_enter Try.func10, Try.ntmps10
        go_wp2
        go_ret
        exact ⟨rfl, gAlloc (Below.refl _ _) _⟩
      by_cases c4 : 4 < y
      · go_enter Try.func10, Try.ntmps10
        go_wp2
        go_ret
        exact ⟨rfl, gAlloc (Below.refl _ _) _⟩
      by_cases c5 : b < 1
      · go_enter Try.func10, Try.ntmps10
        go_wp2
        go_ret
        exact ⟨rfl, gAlloc (Below.refl _ _) _⟩
      have c6 : 4 < b := by omega
      clear h'
      go_enter Try.func10, Try.ntmps10
      go_wp2
      go_ret
      exact ⟨rfl, gAlloc (Below.refl _ _) _⟩
  · have e1 : (s == 1) = false := by simp; omega
    have e2 : (s == 2) = false := by simp; omega
    have e4 : (s == 4) = false := by simp; omega
    by_cases c1 : n < 2
    · clear h' k
      go_enter Try.func10, Try.ntmps10
      go_wp2
      go_ret
      exact ⟨rfl, gAlloc (Below.refl _ _) _⟩
    by_cases c2 : 8 < n
    · clear h' k
      go_enter Try.func10, Try.ntmps10
      go_wp2
      go_ret
      exact ⟨rfl, gAlloc (Below.refl _ _) _⟩
    exact configFault_sets n s y b w (by omega) (by omega) (by omega) (by omega) (by omega)
end Go.Proofs.Ytcegjehoejgofaa
