/-
Proved: what the reference's small functions return: good addresses, good lines, the fault of a configuration. No condition.
-/
import Derived.Test.YtgoaedbhcldmiaaAddr
namespace Go.Proofs.Ytgoaedbhcldmiaa
open Go.ChangeShapes Go.WideShapes Go.ChangeAt Go.RowKit

theorem goodAddr_yes (a : Int) (w : World) (h0 : 0 ≤ a) (h1 : a ≤ 63) :
    Calls Try.prog 27 #[.int .i64 a] w fun e w' => e = .returned (.bool true) ∧ w = w' := by
  have h2 : a < 64 := by omega
  go_enter Try.func27, Try.ntmps27
  go_wp2
  go_ret
  exact ⟨rfl, rfl⟩

theorem goodAddr_no (a : Int) (w : World) (h : a < 0 ∨ 63 < a) :
    Calls Try.prog 27 #[.int .i64 a] w fun e w' => e = .returned (.bool false) ∧ w = w' := by
  by_cases h0 : a < 0
  · go_enter Try.func27, Try.ntmps27
    go_wp2
    go_ret
    exact ⟨rfl, rfl⟩
  · have h1 : 0 ≤ a := by omega
    have h2 : decide (a < 64) = false := by simp; omega
    clear h h0
    go_enter Try.func27, Try.ntmps27
    go_wp2
    go_ret
    exact ⟨rfl, rfl⟩


end Go.Proofs.Ytgoaedbhcldmiaa
