/-
Proved: 'good' of the statements' package says whether all numbers of a list are OK. Condition: at most 100 of them.
-/
import Derived.Test.YtmodajmjmdigfaaLaw
namespace Go.Proofs.Ytmodajmjmdigfaa
open Go.ChangeShapes Go.WideShapes Go.ChangeAt Go.RowKit

/-- Are the first n numbers 0? -/
def noneB (f : Nat → Int) (n : Nat) : Bool := decide (∀ k, k < n → f k = 0)

/-- What the search returns: -1 exactly where all are 0. -/
def Found (f : Nat → Int) (n : Nat) (e : Ending) : Prop := ∃ r : Int, e = .returned (.int .i64 r) ∧ decide (0 ≤ r) = !noneB f n

theorem indexFunc_any (b n : Nat) (f : Nat → Int) (w : World) (hn : n ≤ 100) (h : ∀ k, k < n → w.cell? ⟨b, k, none⟩ = some (.int .i64 (f k))) :
    Calls Try.prog 77 #[.slice (some ⟨b, 0, none⟩) n n, .func (.func 47) #[] #[]] w fun e w' => Found f n e ∧ w = w' := by
  have H := Lib.hid h
  clear h
  go_enter Try.func77, Try.ntmps77
  go_wp2
  go_loop [8] (fun i => ∃ k : Nat, (k ≤ n ∧ noneB f k = true) ∧ i = .int .i64 k) (fun i => n - (intOf i).toNat)
  case atStart => exact ⟨0, ⟨Nat.zero_le _, by simp [noneB]⟩, rfl⟩
  case round =>
    obtain ⟨k, ⟨hk, hz⟩, rfl⟩ := hrel
    have Z := Lib.hid hz
    clear hz
    by_cases hlt : k < n
    · have g := H.out k hlt
      generalize hq : f k = q at g
      have Q := Lib.hid hq
      clear hq
      by_cases h0 : q = 0
      · subst h0
        go_wp2
        go_round
        case rel =>
          refine ⟨k + 1, ⟨by omega, ?_⟩, by go_num⟩
          have z := Z.out
          unfold noneB at z ⊢
          have z' := of_decide_eq_true z
          refine decide_eq_true fun j hj => ?_
          rcases Nat.lt_succ_iff_lt_or_eq.1 hj with h | h
          · exact z' j h
          · rw [h]; exact Q.out
        case measure => simp [intOf]; omega
      · have h0' : (q == 0) = false := by simpa using h0
        have H0 := Lib.hid h0
        clear h0
        go_wp2
        go_ret
        refine ⟨⟨k, rfl, ?_⟩, rfl⟩
        have : noneB f n = false := decide_eq_false fun z => H0.out (Q.out ▸ z k hlt)
        rw [this]
        exact decide_eq_true (by omega)
    · obtain rfl : k = n := by omega
      clear hlt
      go_wp2
      go_ret
      refine ⟨⟨-1, rfl, ?_⟩, rfl⟩
      rw [Z.out]
      rfl

theorem good_any (b n : Nat) (f : Nat → Int) (w : World) (hn : n ≤ 100) (h : ∀ k, k < n → w.cell? ⟨b, k, none⟩ = some (.int .i64 (f k))) :
    Calls Try.prog 12 #[.slice (some ⟨b, 0, none⟩) n n] w fun e w' => e = .returned (.bool (noneB f n)) ∧ w = w' := by
  have H := Lib.hid h
  clear h
  go_enter Try.func12, Try.ntmps12
  generalize hN : noneB f n = B
  have N := Lib.hid hN
  clear hN
  cases B
  all_goals
    go_wp2_with (first | (go_at_call 77; refine (indexFunc_any _ _ f _ hn H.out).mono ?_; rintro e w' ⟨⟨r, rfl, hr⟩, rfl⟩; rw [N.out] at hr; simp only [Bool.not_false, Bool.not_true] at hr) | go_in)
    go_ret
    exact ⟨rfl, rfl⟩

end Go.Proofs.Ytmodajmjmdigfaa
