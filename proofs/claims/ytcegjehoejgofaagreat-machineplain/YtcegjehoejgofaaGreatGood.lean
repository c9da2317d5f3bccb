/-
Proved: 'good' of the statements' package returns true for a list of OK values. Condition: at most 100 of them.
-/
import Derived.Test.YtcegjehoejgofaaGreatJoined1
namespace Go.Proofs.YtcegjehoejgofaaGreat
open Go.ChangeShapes Go.WideShapes Go.ChangeAt Go.RowKit

theorem index_none (b n : Nat) (w : World) (hn : n ≤ 100) (h : ∀ k, k < n → w.cell? ⟨b, k, none⟩ = some (.int .i64 0)) :
    Calls Tryz.prog 61 #[.slice (some ⟨b, 0, none⟩) n n, .func (.func 30) #[] #[]] w fun e w' => e = .returned (.int .i64 (-1)) ∧ w = w' := by
  have H := Lib.hid h
  clear h
  go_enter Tryz.func61, Tryz.ntmps61
  go_wp2
  go_loop [8] (fun i => ∃ k : Nat, k ≤ n ∧ i = .int .i64 k) (fun i => n - (intOf i).toNat)
  case atStart => exact ⟨0, Nat.zero_le _, rfl⟩
  case round =>
    obtain ⟨k, hk, rfl⟩ := hrel
    by_cases hlt : k < n
    · have g := H.out k hlt
      go_wp2
      go_round
      case rel => exact ⟨k + 1, by omega, by go_num⟩
      case measure => simp [intOf]; omega
    · go_wp2
      go_ret
      exact ⟨rfl, rfl⟩

theorem good_yes (b n : Nat) (w : World) (hn : n ≤ 100) (h : ∀ k, k < n → w.cell? ⟨b, k, none⟩ = some (.int .i64 0)) :
    Calls Tryz.prog 11 #[.slice (some ⟨b, 0, none⟩) n n] w fun e w' => e = .returned (.bool true) ∧ w = w' := by
  have H := Lib.hid h
  clear h
  go_enter Tryz.func11, Tryz.ntmps11
  go_wp2_with (first | (go_at_call 61; refine (index_none _ _ _ hn H.out).mono ?_; rintro e w' ⟨rfl, rfl⟩) | go_in)
  go_ret
  exact ⟨rfl, rfl⟩

end Go.Proofs.YtcegjehoejgofaaGreat
