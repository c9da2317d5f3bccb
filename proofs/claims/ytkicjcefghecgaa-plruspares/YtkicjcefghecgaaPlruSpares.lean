/-
Proved: the law 'PlruSpares' returns true for every argument, and changes nothing that was there. No condition.
-/
import Derived.Test.YtkicjcefghecgaaPlru3
namespace Go.Proofs.Ytkicjcefghecgaa.plruSpares
open Go.ChangeShapes Go.WideShapes Go.ChangeAt Go.RowKit

/-- Who was touched last is not the next to go. -/
theorem spares (a b c : Bool) (n k : Int) (h : treeE a b c n = 0) (h0 : 0 ≤ k) (h1 : k < n) :
    treeE (touchT a b c n k).1 (touchT a b c n k).2.1 (touchT a b c n k).2.2 n = 0 ∧ 0 ≤ victimN (touchT a b c n k).1 (touchT a b c n k).2.1 (touchT a b c n k).2.2 n ∧ victimN (touchT a b c n k).1 (touchT a b c n k).2.1 (touchT a b c n k).2.2 n < n ∧ ((n == 1) = false → (victimN (touchT a b c n k).1 (touchT a b c n k).2.1 (touchT a b c n k).2.2 n != k) = true) := by
  obtain ⟨hn1, hn4⟩ := treeE_range h
  have hn : n = 1 ∨ n = 2 ∨ n = 3 ∨ n = 4 := by omega
  have hk : k = 0 ∨ k = 1 ∨ k = 2 ∨ k = 3 := by omega
  rcases hn with rfl | rfl | rfl | rfl <;> rcases hk with rfl | rfl | rfl | rfl <;> first | omega | (revert h; cases a <;> cases b <;> cases c <;> decide)

set_option maxHeartbeats 1000000 in
theorem walk_bad (a b c : Bool) (n k : Int) (w : World) (r : Int) (hr : (r != 0) = true) (ht : ∀ W, Calls Try.prog 20 #[tree a b c, .int .i64 n, .int .i64 k] W fun e w' => e = .returned (.tuple #[tree false false false, .int .i64 r]) ∧ Below W.heap.size W w') :
    Calls Try.prog 7 #[tree a b c, .int .i64 n, .int .i64 k] w fun e w' => e = .returned (.bool true) ∧ Below w.heap.size w w' := by
  have T := Lib.hid ht
  clear ht
  go_enter Try.func7, Try.ntmps7
  go_wp2_with fail
  refine (plrus_yes _).mono ?_; rintro e w1 ⟨rfl, hb⟩
  obtain ⟨hc, hf⟩ := bcell hb
  go_wp2_with fail
  with_reducible refine (T.out _).mono ?_
  rintro e w2 ⟨rfl, hb2⟩
  replace hb := gCall hb hb2
  clear hc hf hb2
  go_wp2_with fail
  go_ret
  exact ⟨rfl, gAlloc (gCall (gAlloc (Below.refl _ _) _) hb) _⟩

set_option maxHeartbeats 1000000 in
theorem walk_good (a b c : Bool) (n k : Int) (w : World) (h : treeE a b c n = 0) (h0 : 0 ≤ k) (h1 : k < n) :
    Calls Try.prog 7 #[tree a b c, .int .i64 n, .int .i64 k] w fun e w' => e = .returned (.bool true) ∧ Below w.heap.size w w' := by
  obtain ⟨s1, s2, s3, s4⟩ := spares a b c n k h h0 h1
  have T := Lib.hid fun W => touch_ok a b c n k W h h0 h1
  generalize touchT a b c n k = t at T s1 s2 s3 s4
  obtain ⟨x, y, z⟩ := t
  have S1 := Lib.hid s1
  clear h s1
  simp only at s2 s3 s4
  by_cases hn : n = 1
  · subst hn
    clear s4
    go_enter Try.func7, Try.ntmps7
    go_wp2_with fail
    refine (plrus_yes _).mono ?_; rintro e w1 ⟨rfl, hb⟩
    obtain ⟨hc, hf⟩ := bcell hb
    go_wp2_with fail
    with_reducible refine (T.out _).mono ?_
    rintro e w2 ⟨rfl, hb2⟩
    replace hb := gCall hb hb2
    clear hc hf hb2
    go_wp2_with fail
    with_reducible refine (victim_ok _ _ _ _ _ S1.out).mono ?_
    rintro e w3 ⟨rfl, hb3⟩
    obtain ⟨hc, hf⟩ := bcell hb3
    go_wp2_with fail
    with_reducible refine (plruCheck_zero _ _ _ _ _ S1.out).mono ?_
    rintro e w4 ⟨rfl, hb4⟩
    go_wp2_with fail
    go_ret
    exact ⟨rfl, gCall (gCall (gAlloc (gCall (gAlloc (Below.refl _ _) _) hb) _) hb3) hb4⟩
  · have hn' : (n == 1) = false := by simpa using hn
    have s5 := s4 hn'
    clear s4
    go_enter Try.func7, Try.ntmps7
    go_wp2_with fail
    refine (plrus_yes _).mono ?_; rintro e w1 ⟨rfl, hb⟩
    obtain ⟨hc, hf⟩ := bcell hb
    go_wp2_with fail
    with_reducible refine (T.out _).mono ?_
    rintro e w2 ⟨rfl, hb2⟩
    replace hb := gCall hb hb2
    clear hc hf hb2
    go_wp2_with fail
    with_reducible refine (victim_ok _ _ _ _ _ S1.out).mono ?_
    rintro e w3 ⟨rfl, hb3⟩
    obtain ⟨hc, hf⟩ := bcell hb3
    go_wp2_with fail
    with_reducible refine (plruCheck_zero _ _ _ _ _ S1.out).mono ?_
    rintro e w4 ⟨rfl, hb4⟩
    go_wp2_with fail
    go_ret
    exact ⟨rfl, gCall (gCall (gAlloc (gCall (gAlloc (Below.refl _ _) _) hb) _) hb3) hb4⟩

theorem walk (v0 v1 v2 : Value) (w : World) (h0 : IsTree v0) (h1 : IsInt v1) (h2 : IsInt v2) :
    Calls Try.prog 7 #[v0, v1, v2] w fun e w' => e = .returned (.bool true) ∧ Below w.heap.size w w' := by
  obtain ⟨a, b, c, rfl⟩ := h0
  obtain ⟨n, rfl, _⟩ := h1
  obtain ⟨k, rfl, _⟩ := h2
  by_cases h : treeE a b c n = 0
  · by_cases hk : 0 ≤ k ∧ k < n
    · exact walk_good a b c n k w h hk.1 hk.2
    · exact walk_bad a b c n k w 4 (by decide) fun W => touch_out a b c n k W h (by omega)
  · exact walk_bad a b c n k w (treeE a b c n) (by simpa using h) fun W => touch_bad a b c n k W h

set_option maxRecDepth 100000 in
theorem lifted (os : Os) (started : os.Started) (H : Type) (enc : TypeId × Value → H) :
    ReturnsInHanded {} Try.checked os 7 .any (Rows.plruSparesSpec.pre6 enc Try.prog Try.f7 Rows.plruSparesRow.domain false) (Rows.plruSparesSpec.post enc Try.prog Try.f7 false true false false) := by
  refine returnsInHanded_of_change (C := Try.checked) own started (by kernel_rfl) Try.func7
    (ChangeSpec.witness6 (enc := enc) (C := Try.checked) false ⟨#[], #[tree false false false, .int .i64 2, .int .i64 1], []⟩ 8 (by kernel_rfl) (by kernel_rfl) (by kernel_rfl) (by kernel_rfl)) ?_
  intro W base args ds gs before hval0 hW hcnd _
  have hval : ∀ (j : Nat) t v, Try.f7.params[j]? = some t → args[j]? = some v → Value.okWide Try.prog W .any base t v := hval0
  have hW' := hW
  obtain ⟨p, q, hA0, hV, rfl, hfz, hnd⟩ := hW
  have hA : DataW.TrodAll enc Try.prog W 0 (fun _ => true) true Try.f7.params.toList args.toList ds p := hA0
  rw [Try.params7] at hA hval
  obtain ⟨v0, vs0, d0, ds0, p0, q0, hargs, rfl, rfl, h0, r0⟩ := trodAll_cons hA
  obtain ⟨v1, vs1, d1, ds1, p1, q1, rfl, rfl, rfl, h1, r1⟩ := trodAll_cons r0
  obtain ⟨v2, vs2, d2, ds2, p2, q2, rfl, rfl, rfl, h2, r2⟩ := trodAll_cons r1
  obtain ⟨rfl, rfl, rfl⟩ := trodAll_nil r2
  obtain rfl : args = #[v0, v1, v2] := by cases args; simp_all
  have k0 := openTree (hval 0 40 v0 rfl rfl) h0
  have k1 := openInt (hval 1 3 v1 rfl rfl) h1
  have k2 := openInt (hval 2 3 v2 rfl rfl) h2
  obtain ⟨rfl, rfl⟩ := trodVars_none hV
  clear hA0 hval0
  refine (walk v0 v1 v2 W k0 k1 k2).mono fun e W' ⟨he, bel⟩ => ⟨_, he, ?_⟩
  exact law_post (by kernel_rfl) (by kernel_rfl) rfl hW' rfl rfl rfl bel

theorem over : Rows.plruSparesRow.holds Try.pinned (OpenSpec.ofChange Rows.plruSparesSpec) :=
  OpenClaim.holds_of_wide 7 Try.f7 rfl rfl rfl rfl rfl rfl rfl ⟨rfl, rfl, rfl, rfl, rfl⟩ rfl rfl rfl rfl rfl (by kernel_rfl) Try.func7 (by kernel_rfl)
    (of_decide_eq_true (by kernel_rfl)) (by unfold Func.isWrapper; first | (rw [if_pos (by decide +kernel)]; kernel_rfl) | (rw [if_neg (by decide +kernel)]; exact ⟨rfl, rfl⟩))
    (fun os started H enc _ => lifted os started H enc)

/-- The statement. -/
theorem plruSpares_holds : Rows.PlruSparesSaid := over
end Go.Proofs.Ytkicjcefghecgaa.plruSpares
namespace Go.Proofs.Ytkicjcefghecgaa
theorem plruSpares_holds : Rows.PlruSparesSaid := plruSpares.plruSpares_holds
#print axioms plruSpares_holds
end Go.Proofs.Ytkicjcefghecgaa
