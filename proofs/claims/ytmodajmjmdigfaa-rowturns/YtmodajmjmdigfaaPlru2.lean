/-
Proved: what Touch and Victim of package plru return for a tree that is right; neither changes anything that was there. Condition: the tree is right.
-/
import Derived.Test.YtmodajmjmdigfaaPlru
namespace Go.Proofs.Ytmodajmjmdigfaa
open Go.ChangeShapes Go.WideShapes Go.ChangeAt Go.RowKit Go.Joins

/-- A tree as a value, of three bits. -/
abbrev treeOf (t : Bool × Bool × Bool) : Value := tree t.1 t.2.1 t.2.2

set_option maxHeartbeats 4000000 in
theorem touch_lit (a b c : Bool) (n k : Int) (w : World) (h : treeE a b c n = 0) (hk : (n = 1 ∧ k = 0) ∨ (n = 2 ∧ k = 0) ∨ (n = 2 ∧ k = 1)) :
    Calls Try.prog 75 #[tree a b c, .int .i64 n, .int .i64 k] w fun e w' => e = .returned (.tuple #[treeOf (touchT a b c n k), .int .i64 0]) ∧ Below w.heap.size w w' := by
  have H := Lib.hid h
  clear h
  rcases hk with ⟨rfl, rfl⟩ | ⟨rfl, rfl⟩ | ⟨rfl, rfl⟩
  all_goals
    go_enter Try.func75, Try.ntmps75
    go_wp2_with fail
    refine (plruCheck_any _ _ _ _ _).mono ?_; rintro e w1 ⟨rfl, hb⟩
    rw [H.out]
    obtain ⟨hc, hf⟩ := bcell hb
    have hz : w.heap.size + 1 < w1.heap.size := by have := hb.size; simp at this; omega
    have c0 : w1.cell? ⟨w.heap.size, 0, none⟩ = some (.bool a) := by simp [hc, go_sem]
    have c1 : w1.cell? ⟨w.heap.size, 1, none⟩ = some (.bool b) := by simp [hc, go_sem]
    have c2 : w1.cell? ⟨w.heap.size, 2, none⟩ = some (.bool c) := by simp [hc, go_sem]
    go_wp2_with (first
        | (go_at_call 78; refine (usesTop_any _ _).mono ?_; rintro e w' ⟨rfl, rfl⟩)
        | (go_at_call 79; refine (usesLow_any _ _).mono ?_; rintro e w' ⟨rfl, rfl⟩)
        | (go_at_call 80; refine (usesHigh_any _ _).mono ?_; rintro e w' ⟨rfl, rfl⟩))
    refine bodyPost_ret (v := .tuple #[treeOf (touchT a b c _ _), .int .i64 0]) (by simp [results, Try.results75, go_sem, hc, touchT]) rfl ⟨rfl, ?_⟩
    repeat (refine gSet ?_ (by simp) _)
    exact gCall (gAlloc (gAlloc (Below.refl _ _) _) _) hb

set_option maxHeartbeats 4000000 in
theorem touch_three (a b c : Bool) (n k : Int) (w : World) (h : treeE a b c n = 0) (hn : n = 3) (hk : k = 0 ∨ k = 1 ∨ k = 2) :
    Calls Try.prog 75 #[tree a b c, .int .i64 n, .int .i64 k] w fun e w' => e = .returned (.tuple #[treeOf (touchT a b c n k), .int .i64 0]) ∧ Below w.heap.size w w' := by
  have H := Lib.hid h
  clear h
  rcases hk with rfl | rfl | rfl
  all_goals
    subst hn
    go_enter Try.func75, Try.ntmps75
    go_wp2_with fail
    refine (plruCheck_any _ _ _ _ _).mono ?_; rintro e w1 ⟨rfl, hb⟩
    rw [H.out]
    obtain ⟨hc, hf⟩ := bcell hb
    have hz : w.heap.size + 1 < w1.heap.size := by have := hb.size; simp at this; omega
    have c0 : w1.cell? ⟨w.heap.size, 0, none⟩ = some (.bool a) := by simp [hc, go_sem]
    have c1 : w1.cell? ⟨w.heap.size, 1, none⟩ = some (.bool b) := by simp [hc, go_sem]
    have c2 : w1.cell? ⟨w.heap.size, 2, none⟩ = some (.bool c) := by simp [hc, go_sem]
    go_wp2_with (first
        | (go_at_call 78; refine (usesTop_any _ _).mono ?_; rintro e w' ⟨rfl, rfl⟩)
        | (go_at_call 79; refine (usesLow_any _ _).mono ?_; rintro e w' ⟨rfl, rfl⟩)
        | (go_at_call 80; refine (usesHigh_any _ _).mono ?_; rintro e w' ⟨rfl, rfl⟩))
    refine bodyPost_ret (v := .tuple #[treeOf (touchT a b c _ _), .int .i64 0]) (by simp [results, Try.results75, go_sem, hc, touchT]) rfl ⟨rfl, ?_⟩
    repeat (refine gSet ?_ (by simp) _)
    exact gCall (gAlloc (gAlloc (Below.refl _ _) _) _) hb

set_option maxHeartbeats 4000000 in
theorem touch_four (a b c : Bool) (n k : Int) (w : World) (h : treeE a b c n = 0) (hn : n = 4) (hk : k = 0 ∨ k = 1 ∨ k = 2 ∨ k = 3) :
    Calls Try.prog 75 #[tree a b c, .int .i64 n, .int .i64 k] w fun e w' => e = .returned (.tuple #[treeOf (touchT a b c n k), .int .i64 0]) ∧ Below w.heap.size w w' := by
  have H := Lib.hid h
  clear h
  rcases hk with rfl | rfl | rfl | rfl
  all_goals
    subst hn
    go_enter Try.func75, Try.ntmps75
    go_wp2_with fail
    refine (plruCheck_any _ _ _ _ _).mono ?_; rintro e w1 ⟨rfl, hb⟩
    rw [H.out]
    obtain ⟨hc, hf⟩ := bcell hb
    have hz : w.heap.size + 1 < w1.heap.size := by have := hb.size; simp at this; omega
    have c0 : w1.cell? ⟨w.heap.size, 0, none⟩ = some (.bool a) := by simp [hc, go_sem]
    have c1 : w1.cell? ⟨w.heap.size, 1, none⟩ = some (.bool b) := by simp [hc, go_sem]
    have c2 : w1.cell? ⟨w.heap.size, 2, none⟩ = some (.bool c) := by simp [hc, go_sem]
    go_wp2_with (first
        | (go_at_call 78; refine (usesTop_any _ _).mono ?_; rintro e w' ⟨rfl, rfl⟩)
        | (go_at_call 79; refine (usesLow_any _ _).mono ?_; rintro e w' ⟨rfl, rfl⟩)
        | (go_at_call 80; refine (usesHigh_any _ _).mono ?_; rintro e w' ⟨rfl, rfl⟩))
    refine bodyPost_ret (v := .tuple #[treeOf (touchT a b c _ _), .int .i64 0]) (by simp [results, Try.results75, go_sem, hc, touchT]) rfl ⟨rfl, ?_⟩
    repeat (refine gSet ?_ (by simp) _)
    exact gCall (gAlloc (gAlloc (Below.refl _ _) _) _) hb

theorem touch_ok (a b c : Bool) (n k : Int) (w : World) (h : treeE a b c n = 0) (h0 : 0 ≤ k) (h1 : k < n) :
    Calls Try.prog 75 #[tree a b c, .int .i64 n, .int .i64 k] w fun e w' => e = .returned (.tuple #[treeOf (touchT a b c n k), .int .i64 0]) ∧ Below w.heap.size w w' := by
  have hn : 1 ≤ n ∧ n ≤ 4 := by
    unfold treeE at h
    by_cases g : n < 1 ∨ 4 < n
    · rw [if_pos g] at h; omega
    · omega
  by_cases h3 : n = 3
  · exact touch_three a b c n k w h h3 (by omega)
  by_cases h4 : n = 4
  · exact touch_four a b c n k w h h4 (by omega)
  exact touch_lit a b c n k w h (by omega)

theorem side_any (b : Bool) (w : World) : Calls Try.prog 95 #[.bool b] w fun e w' => e = .returned (.int .i64 (if b then 1 else 0)) ∧ w = w' := by
  cases b
  all_goals
    go_enter Try.func95, Try.ntmps95
    go_wp2
    go_ret
    exact ⟨rfl, rfl⟩

theorem victim_bad (a b c : Bool) (n : Int) (w : World) (h : treeE a b c n ≠ 0) :
    Calls Try.prog 74 #[tree a b c, .int .i64 n] w fun e w' => e = .returned (.tuple #[.int .i64 0, .int .i64 (treeE a b c n)]) ∧ Below w.heap.size w w' := by
  have h' : (treeE a b c n != 0) = true := by simpa using h
  clear h
  go_enter Try.func74, Try.ntmps74
  go_wp2_with fail
  refine (plruCheck_any _ _ _ _ _).mono ?_; rintro e w1 ⟨rfl, hb⟩
  obtain ⟨hc, hf⟩ := bcell hb
  go_wp2_with fail
  go_ret2
  exact ⟨rfl, gCall (gAlloc (Below.refl _ _) _) hb⟩

set_option maxHeartbeats 4000000 in
theorem victim_ok (a b c : Bool) (n : Int) (w : World) (h : treeE a b c n = 0) :
    Calls Try.prog 74 #[tree a b c, .int .i64 n] w fun e w' => e = .returned (.tuple #[.int .i64 (victimN a b c n), .int .i64 0]) ∧ Below w.heap.size w w' := by
  have H := Lib.hid h
  clear h
  have hn : 1 ≤ n ∧ n ≤ 4 := by
    have h := H.out
    unfold treeE at h
    by_cases g : n < 1 ∨ 4 < n
    · rw [if_pos g] at h; omega
    · omega
  obtain ⟨hn1, hn4⟩ := hn
  by_cases h2 : n ≤ 2
  · have h3 : decide (3 ≤ n) = false := by simp; omega
    cases a <;> cases b <;> cases c
    all_goals
      simp only [victimN, if_pos h2, if_true, if_false, Bool.false_eq_true]
      go_enter Try.func74, Try.ntmps74
      go_wp2_with fail
      refine (plruCheck_any _ _ _ _ _).mono ?_; rintro e w1 ⟨rfl, hb⟩
      rw [H.out]
      obtain ⟨hc, hf⟩ := bcell hb
      go_wp2_with fail
      refine (usesLow_any _ _).mono ?_; rintro e w' ⟨rfl, rfl⟩
      go_wp2_with fail
      refine (side_any _ _).mono ?_; rintro e w' ⟨rfl, rfl⟩
      go_wp2_with fail
      go_ret2
      exact ⟨rfl, gCall (gAlloc (Below.refl _ _) _) hb⟩
  · have h3 : 3 ≤ n := by omega
    cases a <;> cases b <;> cases c
    all_goals
      simp only [victimN, if_neg h2, if_true, if_false, Bool.false_eq_true]
      go_enter Try.func74, Try.ntmps74
      go_wp2_with fail
      refine (plruCheck_any _ _ _ _ _).mono ?_; rintro e w1 ⟨rfl, hb⟩
      rw [H.out]
      obtain ⟨hc, hf⟩ := bcell hb
      go_wp2_with fail
      refine (usesLow_any _ _).mono ?_; rintro e w' ⟨rfl, rfl⟩
      go_wp2_with fail
      refine (side_any _ _).mono ?_; rintro e w' ⟨rfl, rfl⟩
      go_wp2_with fail
      go_ret2
      exact ⟨rfl, gCall (gAlloc (Below.refl _ _) _) hb⟩
end Go.Proofs.Ytmodajmjmdigfaa
