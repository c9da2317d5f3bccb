/-
Proved: the law 'StateOne' returns true for every argument, and changes nothing that was there. No condition.
-/
import Derived.Test.YtjfnfijpjpffcaaState
namespace Go.Proofs.Ytjfnfijpjpffcaa.stateOne
open Go.ChangeShapes Go.WideShapes Go.ChangeAt Go.RowKit

theorem turned (s t : Int) : bsB t s = bsB s t := by
  unfold bsB
  by_cases h : (0 ≤ s ∧ s ≤ 4) ∧ (0 ≤ t ∧ t ≤ 4) ∧ (s = 0 ∨ t = 0 ∨ (s = 1 ∧ t = 1) ∨ (s = 1 ∧ t = 3) ∨ (s = 3 ∧ t = 1))
  · rw [decide_eq_true h]; exact decide_eq_true (by omega)
  · rw [decide_eq_false h]; exact decide_eq_false (by omega)

/-- The pairs that may be beside each other. -/
theorem pairs {s t : Int} (h : bsB s t = true) : (s = 0 ∧ (t = 0 ∨ t = 1 ∨ t = 2 ∨ t = 3 ∨ t = 4)) ∨ (t = 0 ∧ (s = 1 ∨ s = 2 ∨ s = 3 ∨ s = 4)) ∨ (s = 1 ∧ t = 1) ∨ (s = 1 ∧ t = 3) ∨ (s = 3 ∧ t = 1) := by
  have := of_decide_eq_true h
  omega

set_option maxHeartbeats 4000000 in
theorem walk_no (s t : Int) (w : World) (h : bsB s t = false) :
    Calls Try.prog 4 #[.int .i64 s, .int .i64 t] w fun e w' => e = .returned (.bool true) ∧ Below w.heap.size w w' := by
  have A := Lib.hid fun W => beside_any s t W
  have B := Lib.hid fun W => beside_any t s W
  rw [turned, h] at B
  rw [h] at A
  clear h
  have low := Below.refl w.heap.size w
  go_enter Try.func4, Try.ntmps4
  go_wp2_with fail
  (with_reducible refine (states_yes _).mono ?_); rintro e w' ⟨rfl, rfl⟩
  go_wp2_with fail
  (with_reducible refine (A.out _).mono ?_); rintro e w' ⟨rfl, rfl⟩
  go_wp2_with fail
  (with_reducible refine (B.out _).mono ?_); rintro e w' ⟨rfl, rfl⟩
  go_wp2_with fail
  go_ret
  exact ⟨rfl, low⟩

set_option maxHeartbeats 4000000 in
theorem walk_yes (s t : Int) (w : World) (h : bsB s t = true) :
    Calls Try.prog 4 #[.int .i64 s, .int .i64 t] w fun e w' => e = .returned (.bool true) ∧ Below w.heap.size w w' := by
  have h' := pairs h
  clear h
  rcases h' with ⟨rfl, rfl | rfl | rfl | rfl | rfl⟩ | ⟨rfl, rfl | rfl | rfl | rfl⟩ | ⟨rfl, rfl⟩ | ⟨rfl, rfl⟩ | ⟨rfl, rfl⟩
  all_goals
    have low := Below.refl w.heap.size w
    go_enter Try.func4, Try.ntmps4
    go_wp2_with fail
    (with_reducible refine (states_yes _).mono ?_); rintro e w' ⟨rfl, rfl⟩
    go_wp2
    go_wp2_with fail
    go_ret
    exact ⟨rfl, low⟩

theorem walk (v0 v1 : Value) (w : World) (h0 : IsInt v0) (h1 : IsInt v1) :
    Calls Try.prog 4 #[v0, v1] w fun e w' => e = .returned (.bool true) ∧ Below w.heap.size w w' := by
  obtain ⟨s, rfl, _⟩ := h0
  obtain ⟨t, rfl, _⟩ := h1
  by_cases h : bsB s t = true
  · exact walk_yes s t w h
  · exact walk_no s t w (by simpa using h)

set_option maxRecDepth 100000 in
theorem lifted (os : Os) (started : os.Started) (H : Type) (enc : TypeId × Value → H) :
    ReturnsInHanded {} Try.checked os 4 .any (Rows.stateOneSpec.pre6 enc Try.prog Try.f4 Rows.stateOneRow.domain false) (Rows.stateOneSpec.post enc Try.prog Try.f4 false true false false) := by
  refine returnsInHanded_of_change (C := Try.checked) own started (by kernel_rfl) Try.func4
    (ChangeSpec.witness6 (enc := enc) (C := Try.checked) false ⟨#[], #[.int .i64 0, .int .i64 1], []⟩ 8 (by kernel_rfl) (by kernel_rfl) (by kernel_rfl) (by kernel_rfl)) ?_
  intro W base args ds gs before hval0 hW hcnd _
  have hval : ∀ (j : Nat) t v, Try.f4.params[j]? = some t → args[j]? = some v → Value.okWide Try.prog W .any base t v := hval0
  have hW' := hW
  obtain ⟨p, q, hA0, hV, rfl, hfz, hnd⟩ := hW
  have hA : DataW.TrodAll enc Try.prog W 0 (fun _ => true) true Try.f4.params.toList args.toList ds p := hA0
  rw [Try.params4] at hA hval
  obtain ⟨v0, vs0, d0, ds0, p0, q0, hargs, rfl, rfl, h0, r0⟩ := trodAll_cons hA
  obtain ⟨v1, vs1, d1, ds1, p1, q1, rfl, rfl, rfl, h1, r1⟩ := trodAll_cons r0
  obtain ⟨rfl, rfl, rfl⟩ := trodAll_nil r1
  obtain rfl : args = #[v0, v1] := by cases args; simp_all
  have k0 := openState (hval 0 22 v0 rfl rfl) h0
  have k1 := openState (hval 1 22 v1 rfl rfl) h1
  obtain ⟨rfl, rfl⟩ := trodVars_none hV
  clear hA0 hval0
  refine (walk v0 v1 W k0 k1).mono fun e W' ⟨he, bel⟩ => ⟨_, he, ?_⟩
  exact law_post (by kernel_rfl) (by kernel_rfl) rfl hW' rfl rfl rfl bel

theorem over : Rows.stateOneRow.holds Try.pinned (OpenSpec.ofChange Rows.stateOneSpec) :=
  OpenClaim.holds_of_wide 4 Try.f4 rfl rfl rfl rfl rfl rfl rfl ⟨rfl, rfl, rfl, rfl, rfl⟩ rfl rfl rfl rfl rfl (by kernel_rfl) Try.func4 (by kernel_rfl)
    (of_decide_eq_true (by kernel_rfl)) (by unfold Func.isWrapper; first | (rw [if_pos (by decide +kernel)]; kernel_rfl) | (rw [if_neg (by decide +kernel)]; exact ⟨rfl, rfl⟩))
    (fun os started H enc _ => lifted os started H enc)

/-- The statement. -/
theorem stateOne_holds : Rows.StateOneSaid := over
end Go.Proofs.Ytjfnfijpjpffcaa.stateOne
namespace Go.Proofs.Ytjfnfijpjpffcaa
theorem stateOne_holds : Rows.StateOneSaid := stateOne.stateOne_holds
#print axioms stateOne_holds
end Go.Proofs.Ytjfnfijpjpffcaa
