/-
Proved: what each function of package state returns, for every argument; none of them changes anything. No condition.
-/
import Derived.Test.YtbhipedphckgpaaOpen
namespace Go.Proofs.Ytbhipedphckgpaa
open Go.ChangeShapes Go.WideShapes Go.ChangeAt Go.RowKit Go.Joins

/-- Is it a state? -/
def stB (s : Int) : Bool := decide (0 ≤ s ∧ s ≤ 4)
/-- May it read, may it write, does it own? -/
def rdB (s : Int) : Bool := decide (1 ≤ s ∧ s ≤ 4)
def wrB (s : Int) : Bool := decide (s = 2 ∨ s = 4)
def owB (s : Int) : Bool := decide (s = 3 ∨ s = 4)
/-- Leaves it room for others? -/
def shB (s : Int) : Bool := decide (s = 1 ∨ s = 3)
/-- May they be beside each other? -/
def bsB (s t : Int) : Bool := decide ((0 ≤ s ∧ s ≤ 4) ∧ (0 ≤ t ∧ t ≤ 4) ∧ (s = 0 ∨ t = 0 ∨ (s = 1 ∧ t = 1) ∨ (s = 1 ∧ t = 3) ∨ (s = 3 ∧ t = 1)))
/-- The state after an operation, here and elsewhere, and the error. -/
def loS (s : Int) (alone : Bool) : Int := if rdB s = true then s else if alone = true then 2 else 1
def saS (s : Int) : Int := if s = 2 then 1 else if s = 4 then 3 else s
def ownS (s k : Int) (alone : Bool) : Int := if stB s = true then (if k = 1 then loS s alone else if k = 2 ∨ k = 3 then 4 else 0) else 0
def otS (s k : Int) : Int := if stB s = true then (if k = 1 then saS s else if k = 4 then s else 0) else 0
def stE (s k : Int) : Int := if stB s = true ∧ 1 ≤ k ∧ k ≤ 4 then 0 else 1

theorem five (s : Int) : (s = 0 ∨ s = 1 ∨ s = 2 ∨ s = 3 ∨ s = 4) ∨ s < 0 ∨ (0 ≤ s ∧ 4 < s) := by omega

theorem stB_bad {s : Int} (h : s < 0 ∨ (0 ≤ s ∧ 4 < s)) : stB s = false := decide_eq_false (by omega)

section
variable {H : Type} {enc : TypeId × Value → H} {W : World} {base : Nat} {v : Value} {d : DataW H} {p : List MemPlace}

set_option maxRecDepth 10000 in
theorem openState (hv : Value.okWide Try.prog W .any base 33 v) (h : DataW.Trod enc Try.prog W 0 (fun _ => true) true 33 v d p) : IsInt v := by
  obtain ⟨a, rfl, _, _, wa⟩ := open_int Try.underlying33 hv h
  exact ⟨a, rfl, bounds_i64 wa⟩
set_option maxRecDepth 10000 in
theorem openKind (hv : Value.okWide Try.prog W .any base 34 v) (h : DataW.Trod enc Try.prog W 0 (fun _ => true) true 34 v d p) : IsInt v := by
  obtain ⟨a, rfl, _, _, wa⟩ := open_int Try.underlying34 hv h
  exact ⟨a, rfl, bounds_i64 wa⟩
end

theorem isState_any (s : Int) (w : World) :
    Calls Try.prog 24 #[.int .i64 s] w fun e w' => e = .returned (.bool (stB s)) ∧ w = w' := by
  rcases five s with (rfl | rfl | rfl | rfl | rfl) | h | ⟨h, h'⟩
  rotate_left 5
  · rw [stB_bad (.inl h)]
    have d : decide (0 ≤ s) = false := decide_eq_false (by omega)
    clear h
    go_enter Try.func24, Try.ntmps24
    go_wp2
    go_ret
    exact ⟨rfl, rfl⟩
  · rw [stB_bad (.inr ⟨h, h'⟩)]
    have d1 : decide (0 ≤ s) = true := decide_eq_true (by omega)
    have d : decide (s ≤ 4) = false := decide_eq_false (by omega)
    clear h h'
    go_enter Try.func24, Try.ntmps24
    go_wp2
    go_ret
    exact ⟨rfl, rfl⟩
  all_goals
    go_enter Try.func24, Try.ntmps24
    go_wp2
    go_ret
    exact ⟨rfl, rfl⟩

/-- Which of the numbers is it not? -/
theorem apart (s : Int) (h : s < 0 ∨ (0 ≤ s ∧ 4 < s)) : (s == 0) = false ∧ (s == 1) = false ∧ (s == 2) = false ∧ (s == 3) = false ∧ (s == 4) = false := by
  refine ⟨?_, ?_, ?_, ?_, ?_⟩ <;> simp <;> omega

theorem reads_any (s : Int) (w : World) :
    Calls Try.prog 30 #[.int .i64 s] w fun e w' => e = .returned (.bool (rdB s)) ∧ w = w' := by
  rcases five s with (rfl | rfl | rfl | rfl | rfl) | h
  rotate_left 5
  · have hr : rdB s = false := decide_eq_false (by omega)
    rw [hr]
    have hs := stB_bad h
    clear h hr
    go_enter Try.func30, Try.ntmps30
    go_wp2_with (go_at_call 24; refine (isState_any _ _).mono ?_; rintro e w' ⟨rfl, rfl⟩; rw [hs])
    go_ret
    exact ⟨rfl, rfl⟩
  all_goals
    go_enter Try.func30, Try.ntmps30
    go_wp2
    go_ret
    exact ⟨rfl, rfl⟩



set_option maxHeartbeats 4000000 in
theorem beside_any (s t : Int) (w : World) :
    Calls Try.prog 12 #[.int .i64 s, .int .i64 t] w fun e w' => e = .returned (.bool (bsB s t)) ∧ w = w' := by
  by_cases hs : s < 0 ∨ (0 ≤ s ∧ 4 < s)
  · have hr : bsB s t = false := decide_eq_false (by omega)
    rw [hr]
    have h := stB_bad hs
    clear hs hr
    go_enter Try.func12, Try.ntmps12
    go_wp2_with (go_at_call 24; refine (isState_any _ _).mono ?_; rintro e w' ⟨rfl, rfl⟩; rw [h])
    go_ret
    exact ⟨rfl, rfl⟩
  have hs' : s = 0 ∨ s = 1 ∨ s = 2 ∨ s = 3 ∨ s = 4 := by omega
  clear hs
  by_cases ht : t < 0 ∨ (0 ≤ t ∧ 4 < t)
  · have hr : bsB s t = false := decide_eq_false (by omega)
    rw [hr]
    have h := stB_bad ht
    have k : stB s = true := decide_eq_true (by omega)
    clear hs' ht hr
    go_enter Try.func12, Try.ntmps12
    go_wp2_with (go_at_call 24; refine (isState_any _ _).mono ?_; rintro e w' ⟨rfl, rfl⟩; first | rw [h] | rw [k])
    go_ret
    exact ⟨rfl, rfl⟩
  have ht' : t = 0 ∨ t = 1 ∨ t = 2 ∨ t = 3 ∨ t = 4 := by omega
  clear ht
  rcases hs' with rfl | rfl | rfl | rfl | rfl <;> rcases ht' with rfl | rfl | rfl | rfl | rfl
  all_goals
    go_enter Try.func12, Try.ntmps12
    go_wp2
    go_ret
    exact ⟨rfl, rfl⟩

theorem loaded_any (s : Int) (a : Bool) (w : World) :
    Calls Try.prog 26 #[.int .i64 s, .bool a] w fun e w' => e = .returned (.int .i64 (loS s a)) ∧ w = w' := by
  unfold loS
  generalize hr : rdB s = b
  cases b <;> cases a
  all_goals
    go_enter Try.func26, Try.ntmps26
    go_wp2_with (go_at_call 30; refine (reads_any _ _).mono ?_; rintro e w' ⟨rfl, rfl⟩; rw [hr])
    go_ret
    exact ⟨rfl, rfl⟩

theorem own_any (s k : Int) (a : Bool) (w : World) :
    Calls Try.prog 13 #[.int .i64 s, .int .i64 k, .bool a] w fun e w' => e = .returned (.tuple #[.int .i64 (ownS s k a), .int .i64 (stE s k)]) ∧ w = w' := by
  have L := Lib.hid fun W => loaded_any s a W
  generalize ho : ownS s k a = o
  generalize he : stE s k = e
  unfold ownS at ho
  unfold stE at he
  generalize loS s a = l at L ho
  generalize hr : stB s = b at ho he
  cases b
  · obtain rfl : 0 = o := by simpa using ho
    obtain rfl : 1 = e := by simpa using he
    clear ho he
    go_enter Try.func13, Try.ntmps13
    go_wp2_with (go_at_call 24; refine (isState_any _ _).mono ?_; rintro e w' ⟨rfl, rfl⟩; rw [hr])
    go_ret2
    exact ⟨rfl, rfl⟩
  by_cases h1 : k = 1
  · subst h1
    obtain rfl : l = o := by simpa using ho
    obtain rfl : 0 = e := by simpa using he
    clear ho he
    go_enter Try.func13, Try.ntmps13
    go_wp2_with (first | (go_at_call 24; refine (isState_any _ _).mono ?_; rintro e w' ⟨rfl, rfl⟩; rw [hr]) | (go_at_call 26; refine (L.out _).mono ?_; rintro e w' ⟨rfl, rfl⟩))
    go_ret2
    exact ⟨rfl, rfl⟩
  by_cases h2 : k = 2 ∨ k = 3 ∨ k = 4
  · rcases h2 with rfl | rfl | rfl
    all_goals
      simp at ho he
      subst ho he
      clear h1
      go_enter Try.func13, Try.ntmps13
      go_wp2_with (go_at_call 24; refine (isState_any _ _).mono ?_; rintro e w' ⟨rfl, rfl⟩; rw [hr])
      go_ret2
      exact ⟨rfl, rfl⟩
  · have e1 : (k == 1) = false := by simp; omega
    have e2 : (k == 2) = false := by simp; omega
    have e3 : (k == 3) = false := by simp; omega
    have e4 : (k == 4) = false := by simp; omega
    obtain rfl : 0 = o := by rw [if_pos rfl, if_neg h1, if_neg (by omega)] at ho; exact ho
    obtain rfl : 1 = e := by rw [if_neg (by omega)] at he; exact he
    clear ho he h1 h2
    go_enter Try.func13, Try.ntmps13
    go_wp2_with (go_at_call 24; refine (isState_any _ _).mono ?_; rintro e w' ⟨rfl, rfl⟩; rw [hr])
    go_ret2
    exact ⟨rfl, rfl⟩

theorem shared_any (s : Int) (w : World) :
    Calls Try.prog 27 #[.int .i64 s] w fun e w' => e = .returned (.int .i64 (saS s)) ∧ w = w' := by
  by_cases h2 : s = 2
  · subst h2
    go_enter Try.func27, Try.ntmps27
    go_wp2
    go_ret
    exact ⟨rfl, rfl⟩
  by_cases h4 : s = 4
  · subst h4
    go_enter Try.func27, Try.ntmps27
    go_wp2
    go_ret
    exact ⟨rfl, rfl⟩
  have e : saS s = s := by unfold saS; rw [if_neg h2, if_neg h4]
  rw [e]
  have e2 : (s == 2) = false := by simpa using h2
  have e4 : (s == 4) = false := by simpa using h4
  clear h2 h4 e
  go_enter Try.func27, Try.ntmps27
  go_wp2
  go_ret
  exact ⟨rfl, rfl⟩

theorem other_any (s k : Int) (w : World) :
    Calls Try.prog 14 #[.int .i64 s, .int .i64 k] w fun e w' => e = .returned (.tuple #[.int .i64 (otS s k), .int .i64 (stE s k)]) ∧ w = w' := by
  have L := Lib.hid fun W => shared_any s W
  generalize ho : otS s k = o
  generalize he : stE s k = e
  unfold otS at ho
  unfold stE at he
  generalize saS s = l at L ho
  generalize hr : stB s = b at ho he
  cases b
  · obtain rfl : 0 = o := by simpa using ho
    obtain rfl : 1 = e := by simpa using he
    clear ho he
    go_enter Try.func14, Try.ntmps14
    go_wp2_with (go_at_call 24; refine (isState_any _ _).mono ?_; rintro e w' ⟨rfl, rfl⟩; rw [hr])
    go_ret2
    exact ⟨rfl, rfl⟩
  by_cases h1 : k = 1
  · subst h1
    obtain rfl : l = o := by simpa using ho
    obtain rfl : 0 = e := by simpa using he
    clear ho he
    go_enter Try.func14, Try.ntmps14
    go_wp2_with (first | (go_at_call 24; refine (isState_any _ _).mono ?_; rintro e w' ⟨rfl, rfl⟩; rw [hr]) | (go_at_call 27; refine (L.out _).mono ?_; rintro e w' ⟨rfl, rfl⟩))
    go_ret2
    exact ⟨rfl, rfl⟩
  by_cases h2 : k = 2 ∨ k = 3 ∨ k = 4
  · rcases h2 with rfl | rfl | rfl
    all_goals
      simp at ho he
      subst ho he
      clear h1
      go_enter Try.func14, Try.ntmps14
      go_wp2_with (go_at_call 24; refine (isState_any _ _).mono ?_; rintro e w' ⟨rfl, rfl⟩; rw [hr])
      go_ret2
      exact ⟨rfl, rfl⟩
  · have e1 : (k == 1) = false := by simp; omega
    have e2 : (k == 2) = false := by simp; omega
    have e3 : (k == 3) = false := by simp; omega
    have e4 : (k == 4) = false := by simp; omega
    obtain rfl : 0 = o := by rw [if_pos rfl, if_neg h1, if_neg (by omega)] at ho; exact ho
    obtain rfl : 1 = e := by rw [if_neg (by omega)] at he; exact he
    clear ho he h1 h2
    go_enter Try.func14, Try.ntmps14
    go_wp2_with (go_at_call 24; refine (isState_any _ _).mono ?_; rintro e w' ⟨rfl, rfl⟩; rw [hr])
    go_ret2
    exact ⟨rfl, rfl⟩

theorem states_yes (w : World) :
    Calls Try.prog 11 #[] w fun e w' => e = .returned (.bool true) ∧ w = w' := by
  go_enter Try.func11, Try.ntmps11
  go_wp2_with (first | (go_at_call 13; refine (own_any _ _ _ _).mono ?_; rintro e w' ⟨rfl, rfl⟩; rw [show ownS 0 1 true = 2 from rfl, show stE 0 1 = 0 from rfl]) | go_in)
  go_ret
  exact ⟨rfl, rfl⟩

end Go.Proofs.Ytbhipedphckgpaa
