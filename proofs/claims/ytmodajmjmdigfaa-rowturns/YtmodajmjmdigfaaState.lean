/-
Proved: what each function of package state returns, for every argument; none of them changes anything. No condition.
-/
import Derived.Test.YtmodajmjmdigfaaOpen
namespace Go.Proofs.Ytmodajmjmdigfaa
open Go.ChangeShapes Go.WideShapes Go.ChangeAt Go.RowKit Go.Joins

/-- Is it a state? -/
def stB (s : Int) : Bool := decide (0 ≤ s ∧ s ≤ 4)
/-- May it read, may it write, does it own? -/
def rdB (s : Int) : Bool := decide (1 ≤ s ∧ s ≤ 4)
def wrB (s : Int) : Bool := decide (s = 2 ∨ s = 4)
def owB (s : Int) : Bool := decide (s = 3 ∨ s = 4)
/-- Leaves it room for others? -/
def shB (s : Int) : Bool := decide (s = 1 ∨ s = 3)
/-- May they be beside each other? -/
def bsB (s t : Int) : Bool := decide ((0 ≤ s ∧ s ≤ 4) ∧ (0 ≤ t ∧ t ≤ 4) ∧ (s = 0 ∨ t = 0 ∨ (s = 1 ∧ t = 1) ∨ (s = 1 ∧ t = 3) ∨ (s = 3 ∧ t = 1)))
/-- The state after an operation, here and elsewhere, and the error. -/
def loS (s : Int) (alone : Bool) : Int := if rdB s = true then s else if alone = true then 2 else 1
def saS (s : Int) : Int := if s = 2 then 1 else if s = 4 then 3 else s
def ownS (s k : Int) (alone : Bool) : Int := if stB s = true then (if k = 1 then loS s alone else if k = 2 ∨ k = 3 then 4 else 0) else 0
def otS (s k : Int) : Int := if stB s = true then (if k = 1 then saS s else if k = 4 then s else 0) else 0
def stE (s k : Int) : Int := if stB s = true ∧ 1 ≤ k ∧ k ≤ 4 then 0 else 1

theorem five (s : Int) : (s = 0 ∨ s = 1 ∨ s = 2 ∨ s = 3 ∨ s = 4) ∨ s < 0 ∨ (0 ≤ s ∧ 4 < s) := by omega

theorem stB_bad {s : Int} (h : s < 0 ∨ (0 ≤ s ∧ 4 < s)) : stB s = false := decide_eq_false (by omega)

section
variable {H : Type} {enc : TypeId × Value → H} {W : World} {base : Nat} {v : Value} {d : DataW H} {p : List MemPlace}

set_option maxRecDepth 10000 in
theorem openState (hv : Value.okWide Try.prog W .any base 27 v) (h : DataW.Trod enc Try.prog W 0 (fun _ => true) true 27 v d p) : IsInt v := by
  obtain ⟨a, rfl, _, _, wa⟩ := open_int Try.underlying27 hv h
  exact ⟨a, rfl, bounds_i64 wa⟩
end

theorem isState_any (s : Int) (w : World) :
    Calls Try.prog 94 #[.int .i64 s] w fun e w' => e = .returned (.bool (stB s)) ∧ w = w' := by
  rcases five s with (rfl | rfl | rfl | rfl | rfl) | h | ⟨h, h'⟩
  rotate_left 5
  · rw [stB_bad (.inl h)]
    have d : decide (0 ≤ s) = false := decide_eq_false (by omega)
    clear h
    go_enter Try.func94, Try.ntmps94
    go_wp2
    go_ret
    exact ⟨rfl, rfl⟩
  · rw [stB_bad (.inr ⟨h, h'⟩)]
    have d1 : decide (0 ≤ s) = true := decide_eq_true (by omega)
    have d : decide (s ≤ 4) = false := decide_eq_false (by omega)
    clear h h'
    go_enter Try.func94, Try.ntmps94
    go_wp2
    go_ret
    exact ⟨rfl, rfl⟩
  all_goals
    go_enter Try.func94, Try.ntmps94
    go_wp2
    go_ret
    exact ⟨rfl, rfl⟩

/-- Which of the numbers is it not? -/
theorem apart (s : Int) (h : s < 0 ∨ (0 ≤ s ∧ 4 < s)) : (s == 0) = false ∧ (s == 1) = false ∧ (s == 2) = false ∧ (s == 3) = false ∧ (s == 4) = false := by
  refine ⟨?_, ?_, ?_, ?_, ?_⟩ <;> simp <;> omega

theorem reads_any (s : Int) (w : World) :
    Calls Try.prog 72 #[.int .i64 s] w fun e w' => e = .returned (.bool (rdB s)) ∧ w = w' := by
  rcases five s with (rfl | rfl | rfl | rfl | rfl) | h
  rotate_left 5
  · have hr : rdB s = false := decide_eq_false (by omega)
    rw [hr]
    have hs := stB_bad h
    clear h hr
    go_enter Try.func72, Try.ntmps72
    go_wp2_with (go_at_call 94; refine (isState_any _ _).mono ?_; rintro e w' ⟨rfl, rfl⟩; rw [hs])
    go_ret
    exact ⟨rfl, rfl⟩
  all_goals
    go_enter Try.func72, Try.ntmps72
    go_wp2
    go_ret
    exact ⟨rfl, rfl⟩

theorem writes_any (s : Int) (w : World) :
    Calls Try.prog 39 #[.int .i64 s] w fun e w' => e = .returned (.bool (wrB s)) ∧ w = w' := by
  rcases five s with (rfl | rfl | rfl | rfl | rfl) | h
  rotate_left 5
  · have hr : wrB s = false := decide_eq_false (by omega)
    rw [hr]
    obtain ⟨_, _, h2, _, h4⟩ := apart s h
    clear h hr
    go_enter Try.func39, Try.ntmps39
    go_wp2
    go_ret
    exact ⟨rfl, rfl⟩
  all_goals
    go_enter Try.func39, Try.ntmps39
    go_wp2
    go_ret
    exact ⟨rfl, rfl⟩

theorem owns_any (s : Int) (w : World) :
    Calls Try.prog 93 #[.int .i64 s] w fun e w' => e = .returned (.bool (owB s)) ∧ w = w' := by
  rcases five s with (rfl | rfl | rfl | rfl | rfl) | h
  rotate_left 5
  · have hr : owB s = false := decide_eq_false (by omega)
    rw [hr]
    obtain ⟨_, _, _, h3, h4⟩ := apart s h
    clear h hr
    go_enter Try.func93, Try.ntmps93
    go_wp2
    go_ret
    exact ⟨rfl, rfl⟩
  all_goals
    go_enter Try.func93, Try.ntmps93
    go_wp2
    go_ret
    exact ⟨rfl, rfl⟩

set_option maxHeartbeats 4000000 in
theorem beside_any (s t : Int) (w : World) :
    Calls Try.prog 99 #[.int .i64 s, .int .i64 t] w fun e w' => e = .returned (.bool (bsB s t)) ∧ w = w' := by
  by_cases hs : s < 0 ∨ (0 ≤ s ∧ 4 < s)
  · have hr : bsB s t = false := decide_eq_false (by omega)
    rw [hr]
    have h := stB_bad hs
    clear hs hr
    go_enter Try.func99, Try.ntmps99
    go_wp2_with (go_at_call 94; refine (isState_any _ _).mono ?_; rintro e w' ⟨rfl, rfl⟩; rw [h])
    go_ret
    exact ⟨rfl, rfl⟩
  have hs' : s = 0 ∨ s = 1 ∨ s = 2 ∨ s = 3 ∨ s = 4 := by omega
  clear hs
  by_cases ht : t < 0 ∨ (0 ≤ t ∧ 4 < t)
  · have hr : bsB s t = false := decide_eq_false (by omega)
    rw [hr]
    have h := stB_bad ht
    have k : stB s = true := decide_eq_true (by omega)
    clear hs' ht hr
    go_enter Try.func99, Try.ntmps99
    go_wp2_with (go_at_call 94; refine (isState_any _ _).mono ?_; rintro e w' ⟨rfl, rfl⟩; first | rw [h] | rw [k])
    go_ret
    exact ⟨rfl, rfl⟩
  have ht' : t = 0 ∨ t = 1 ∨ t = 2 ∨ t = 3 ∨ t = 4 := by omega
  clear ht
  rcases hs' with rfl | rfl | rfl | rfl | rfl <;> rcases ht' with rfl | rfl | rfl | rfl | rfl
  all_goals
    go_enter Try.func99, Try.ntmps99
    go_wp2
    go_ret
    exact ⟨rfl, rfl⟩




end Go.Proofs.Ytmodajmjmdigfaa
