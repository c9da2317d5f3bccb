/-
Proved: what each function of package plru returns, for every argument; none of them changes anything that was there. No condition.
-/
import Derived.Test.YtmodajmjmdigfaaOpen
namespace Go.Proofs.Ytmodajmjmdigfaa
open Go.ChangeShapes Go.WideShapes Go.ChangeAt Go.RowKit Go.Joins

/-- Is a tree right for so many ways? -/
def treeB (a b c : Bool) (n : Int) : Bool := (!a || decide (2 ≤ n)) && (!b || decide (3 ≤ n)) && (!c || decide (n = 4))

/-- What Check of package plru returns. -/
def treeE (a b c : Bool) (n : Int) : Int := if n < 1 ∨ 4 < n then 4 else if treeB a b c n then 0 else 3

theorem usesTop_any (n : Int) (w : World) : Calls Try.prog 78 #[.int .i64 n] w fun e w' => e = .returned (.bool (decide (2 ≤ n))) ∧ w = w' := by
  go_enter Try.func78, Try.ntmps78
  go_wp2
  go_ret
  exact ⟨rfl, rfl⟩

theorem usesLow_any (n : Int) (w : World) : Calls Try.prog 79 #[.int .i64 n] w fun e w' => e = .returned (.bool (decide (3 ≤ n))) ∧ w = w' := by
  go_enter Try.func79, Try.ntmps79
  go_wp2
  go_ret
  exact ⟨rfl, rfl⟩

theorem usesHigh_any (n : Int) (w : World) : Calls Try.prog 80 #[.int .i64 n] w fun e w' => e = .returned (.bool (n == 4)) ∧ w = w' := by
  go_enter Try.func80, Try.ntmps80
  go_wp2
  go_ret
  exact ⟨rfl, rfl⟩

theorem plruCheck_out (a b c : Bool) (n : Int) (w : World) (h : n < 1 ∨ 4 < n) :
    Calls Try.prog 48 #[tree a b c, .int .i64 n] w fun e w' => e = .returned (.int .i64 4) ∧ Below w.heap.size w w' := by
  by_cases h1 : n < 1
  · clear h
    go_enter Try.func48, Try.ntmps48
    go_wp2
    go_ret
    exact ⟨rfl, gAlloc (Below.refl _ _) _⟩
  · have h2 : 4 < n := by omega
    clear h
    go_enter Try.func48, Try.ntmps48
    go_wp2
    go_ret
    exact ⟨rfl, gAlloc (Below.refl _ _) _⟩

set_option maxHeartbeats 4000000 in
theorem plruCheck_in (a b c : Bool) (n : Int) (w : World) (h : n = 1 ∨ n = 2 ∨ n = 3 ∨ n = 4) :
    Calls Try.prog 48 #[tree a b c, .int .i64 n] w fun e w' => e = .returned (.int .i64 (if treeB a b c n then 0 else 3)) ∧ Below w.heap.size w w' := by
  rcases h with rfl | rfl | rfl | rfl
  all_goals
    cases a <;> cases b <;> cases c
    all_goals
      simp only [treeB]
      go_enter Try.func48, Try.ntmps48
      go_wp2_with (first
        | (go_at_call 78; refine (usesTop_any _ _).mono ?_; rintro e w' ⟨rfl, rfl⟩)
        | (go_at_call 79; refine (usesLow_any _ _).mono ?_; rintro e w' ⟨rfl, rfl⟩)
        | (go_at_call 80; refine (usesHigh_any _ _).mono ?_; rintro e w' ⟨rfl, rfl⟩))
      go_ret
      exact ⟨rfl, gAlloc (Below.refl _ _) _⟩

theorem plruCheck_ok (a b c : Bool) (n : Int) (w : World) (h1 : 1 ≤ n) (h4 : n ≤ 4) (h : treeB a b c n = true) :
    Calls Try.prog 48 #[tree a b c, .int .i64 n] w fun e w' => e = .returned (.int .i64 0) ∧ Below w.heap.size w w' := by
  have k := plruCheck_in a b c n w (by omega)
  rw [h] at k
  exact k

theorem plruCheck_any (a b c : Bool) (n : Int) (w : World) :
    Calls Try.prog 48 #[tree a b c, .int .i64 n] w fun e w' => e = .returned (.int .i64 (treeE a b c n)) ∧ Below w.heap.size w w' := by
  unfold treeE
  by_cases h : n < 1 ∨ 4 < n
  · rw [if_pos h]; exact plruCheck_out a b c n w h
  · rw [if_neg h]; exact plruCheck_in a b c n w (by omega)

/-- The tree after an access. -/
def touchT (_a b c : Bool) (n k : Int) : Bool × Bool × Bool :=
  if n ≤ 2 then (decide (n = 2) && decide (k = 0), b, c) else if k < 2 then (true, decide (k = 0), c) else (false, b, decide (n = 4) && decide (k = 2))

/-- The way to which the bits lead. -/
def victimN (a b c : Bool) (n : Int) : Int :=
  if n ≤ 2 then (if a then 1 else 0) else if a then (if c then 3 else 2) else (if b then 1 else 0)

theorem touch_bad (a b c : Bool) (n k : Int) (w : World) (h : treeE a b c n ≠ 0) :
    Calls Try.prog 75 #[tree a b c, .int .i64 n, .int .i64 k] w fun e w' => e = .returned (.tuple #[tree false false false, .int .i64 (treeE a b c n)]) ∧ Below w.heap.size w w' := by
  have h' : (treeE a b c n != 0) = true := by simpa using h
  clear h
  go_enter Try.func75, Try.ntmps75
  go_wp2_with fail
  refine (plruCheck_any _ _ _ _ _).mono ?_; rintro e w1 ⟨rfl, hb⟩
  obtain ⟨hc, hf⟩ := bcell hb
  have hz : w.heap.size + 1 < w1.heap.size := by have := hb.size; simp at this; omega
  go_wp2_with fail
  refine bodyPost_ret (v := .tuple #[tree false false false, .int .i64 (treeE a b c n)]) (by simp [results, Try.results75, go_sem, hc]) rfl ⟨rfl, ?_⟩
  exact gSet (gSet (gSet (gCall (gAlloc (gAlloc (Below.refl _ _) _) _) hb) (by simp) _) (by simp) _) (by simp) _

theorem touch_out (a b c : Bool) (n k : Int) (w : World) (h : treeE a b c n = 0) (hk : k < 0 ∨ n ≤ k) :
    Calls Try.prog 75 #[tree a b c, .int .i64 n, .int .i64 k] w fun e w' => e = .returned (.tuple #[tree false false false, .int .i64 4]) ∧ Below w.heap.size w w' := by
  have H := Lib.hid h
  clear h
  by_cases h1 : k < 0
  all_goals
    go_enter Try.func75, Try.ntmps75
    go_wp2_with fail
    refine (plruCheck_any _ _ _ _ _).mono ?_; rintro e w1 ⟨rfl, hb⟩
    rw [H.out]
    obtain ⟨hc, hf⟩ := bcell hb
    have hz : w.heap.size + 1 < w1.heap.size := by have := hb.size; simp at this; omega
    have hk2 : ¬ (0 ≤ k ∧ k < n) := by omega
    go_wp2_with fail
    refine bodyPost_ret (v := .tuple #[tree false false false, .int .i64 4]) (by simp [results, Try.results75, go_sem, hc]) rfl ⟨rfl, ?_⟩
    exact gSet (gSet (gSet (gCall (gAlloc (gAlloc (Below.refl _ _) _) _) hb) (by simp) _) (by simp) _) (by simp) _


end Go.Proofs.Ytmodajmjmdigfaa
