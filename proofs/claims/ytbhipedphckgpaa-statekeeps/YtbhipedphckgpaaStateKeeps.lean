/-
Proved: the law 'StateKeeps' returns true for every argument, and changes nothing that was there. No condition.
-/
import Derived.Test.YtbhipedphckgpaaState
import Derived.Test.YtbhipedphckgpaaGood2
namespace Go.Proofs.Ytbhipedphckgpaa.stateKeeps
open Go.ChangeShapes Go.WideShapes Go.ChangeAt Go.RowKit

def Keeps (s t m k : Int) : Prop :=
  bsB s t = true → bsB s m = true → bsB t m = true →
    bsB (otS s k) (otS t k) = true ∧ bsB (ownS m k ((s == 0) && (t == 0))) (otS s k) = true ∧ bsB (ownS m k ((s == 0) && (t == 0))) (otS t k) = true

instance (s t m k : Int) : Decidable (Keeps s t m k) := by unfold Keeps; infer_instance

theorem keeps_all : ∀ s t m : Fin 5, ∀ k : Fin 4, Keeps s.val t.val m.val (k.val + 1) := by decide +kernel

theorem bs_in {s t : Int} (h : bsB s t = true) : (0 ≤ s ∧ s ≤ 4) ∧ (0 ≤ t ∧ t ≤ 4) := by
  have := of_decide_eq_true h
  omega

theorem keeps (s t m k : Int) (h1 : bsB s t = true) (h2 : bsB s m = true) (h3 : bsB t m = true) (k1 : 1 ≤ k) (k4 : k ≤ 4) :
    bsB (otS s k) (otS t k) = true ∧ bsB (ownS m k ((s == 0) && (t == 0))) (otS s k) = true ∧ bsB (ownS m k ((s == 0) && (t == 0))) (otS t k) = true := by
  obtain ⟨⟨a, b⟩, c, d⟩ := bs_in h1
  obtain ⟨_, e, f⟩ := bs_in h2
  have := keeps_all ⟨s.toNat, by omega⟩ ⟨t.toNat, by omega⟩ ⟨m.toNat, by omega⟩ ⟨(k - 1).toNat, by omega⟩
  simp only [Int.toNat_of_nonneg a, Int.toNat_of_nonneg c, Int.toNat_of_nonneg e, Int.toNat_of_nonneg (show 0 ≤ k - 1 by omega), Int.sub_add_cancel] at this
  exact this h1 h2 h3

theorem err_ok {s k : Int} (h : 0 ≤ s ∧ s ≤ 4) (k1 : 1 ≤ k) (k4 : k ≤ 4) : stE s k = 0 := if_pos ⟨decide_eq_true h, k1, k4⟩
theorem err_no {s k : Int} (h : ¬ (1 ≤ k ∧ k ≤ 4)) : stE s k = 1 := if_neg fun c => h c.2

set_option maxHeartbeats 4000000 in
theorem walk_out (s t m k : Int) (w : World) (h : bsB s t = false ∨ (bsB s t = true ∧ bsB s m = false) ∨ (bsB s t = true ∧ bsB s m = true ∧ bsB t m = false)) :
    Calls Try.prog 4 #[.int .i64 s, .int .i64 t, .int .i64 m, .int .i64 k] w fun e w' => e = .returned (.bool true) ∧ Below w.heap.size w w' := by
  have A := Lib.hid fun W => beside_any s t W
  have B := Lib.hid fun W => beside_any s m W
  have C := Lib.hid fun W => beside_any t m W
  rcases h with h | ⟨h1, h2⟩ | ⟨h1, h2, h3⟩
  · rw [h] at A
    clear h
    have low := Below.refl w.heap.size w
    go_enter Try.func4, Try.ntmps4
    go_wp2_with fail
    (with_reducible refine (states_yes _).mono ?_); rintro e w' ⟨rfl, rfl⟩
    go_wp2_with fail
    (with_reducible refine (A.out _).mono ?_); rintro e w' ⟨rfl, rfl⟩
    go_wp2_with fail
    go_ret
    exact ⟨rfl, low⟩
  · rw [h1] at A
    rw [h2] at B
    clear h1 h2
    have low := Below.refl w.heap.size w
    go_enter Try.func4, Try.ntmps4
    go_wp2_with fail
    (with_reducible refine (states_yes _).mono ?_); rintro e w' ⟨rfl, rfl⟩
    go_wp2_with fail
    (with_reducible refine (A.out _).mono ?_); rintro e w' ⟨rfl, rfl⟩
    go_wp2_with fail
    (with_reducible refine (B.out _).mono ?_); rintro e w' ⟨rfl, rfl⟩
    go_wp2_with fail
    go_ret
    exact ⟨rfl, low⟩
  · rw [h1] at A
    rw [h2] at B
    rw [h3] at C
    clear h1 h2 h3
    have low := Below.refl w.heap.size w
    go_enter Try.func4, Try.ntmps4
    go_wp2_with fail
    (with_reducible refine (states_yes _).mono ?_); rintro e w' ⟨rfl, rfl⟩
    go_wp2_with fail
    (with_reducible refine (A.out _).mono ?_); rintro e w' ⟨rfl, rfl⟩
    go_wp2_with fail
    (with_reducible refine (B.out _).mono ?_); rintro e w' ⟨rfl, rfl⟩
    go_wp2_with fail
    (with_reducible refine (C.out _).mono ?_); rintro e w' ⟨rfl, rfl⟩
    go_wp2_with fail
    go_ret
    exact ⟨rfl, low⟩

set_option maxHeartbeats 4000000 in
theorem walk_right (s t m k : Int) (w : World) (h1 : bsB s t = true) (h2 : bsB s m = true) (h3 : bsB t m = true) :
    Calls Try.prog 4 #[.int .i64 s, .int .i64 t, .int .i64 m, .int .i64 k] w fun e w' => e = .returned (.bool true) ∧ Below w.heap.size w w' := by
  obtain ⟨hs, ht⟩ := bs_in h1
  obtain ⟨_, hm⟩ := bs_in h2
  have A := Lib.hid fun W => beside_any s t W
  have B := Lib.hid fun W => beside_any s m W
  have C := Lib.hid fun W => beside_any t m W
  rw [h1] at A
  rw [h2] at B
  rw [h3] at C
  have O := Lib.hid fun W => own_any m k ((s == 0) && (t == 0)) W
  have X := Lib.hid fun W => other_any s k W
  have Y := Lib.hid fun W => other_any t k W
  by_cases hk : 1 ≤ k ∧ k ≤ 4
  · obtain ⟨g1, g2, g3⟩ := keeps s t m k h1 h2 h3 hk.1 hk.2
    rw [err_ok hm hk.1 hk.2] at O
    rw [err_ok hs hk.1 hk.2] at X
    rw [err_ok ht hk.1 hk.2] at Y
    generalize otS s k = x at *
    generalize otS t k = y at *
    generalize ownS m k ((s == 0) && (t == 0)) = o at *
    have D := Lib.hid fun W => beside_any x y W
    have E := Lib.hid fun W => beside_any o x W
    have F := Lib.hid fun W => beside_any o y W
    rw [g1] at D
    rw [g2] at E
    rw [g3] at F
    clear h1 h2 h3 hs ht hm hk g1 g2 g3
    generalize hb1 : (s == 0) = b1 at O
    generalize hb2 : (t == 0) = b2 at O
    cases b1 <;> cases b2
    all_goals
      simp only [Bool.and_true, Bool.and_false] at O
      have low := Below.refl w.heap.size w
      go_enter Try.func4, Try.ntmps4
      go_wp2_with fail
      (with_reducible refine (states_yes _).mono ?_); rintro e w' ⟨rfl, rfl⟩
      go_wp2_with fail
      (with_reducible refine (A.out _).mono ?_); rintro e w' ⟨rfl, rfl⟩
      go_wp2_with fail
      (with_reducible refine (B.out _).mono ?_); rintro e w' ⟨rfl, rfl⟩
      go_wp2_with fail
      (with_reducible refine (C.out _).mono ?_); rintro e w' ⟨rfl, rfl⟩
      go_wp2_with fail
      (with_reducible refine (O.out _).mono ?_); rintro e w' ⟨rfl, rfl⟩
      go_wp2_with fail
      (with_reducible refine (X.out _).mono ?_); rintro e w' ⟨rfl, rfl⟩
      go_wp2_with fail
      (with_reducible refine (Y.out _).mono ?_); rintro e w' ⟨rfl, rfl⟩
      go_wp2_with fail
      with_reducible refine (good_any _ 3 (fun _ => 0) _ (by omega) ?_).mono ?_
      · intro j hj
        have : j = 0 ∨ j = 1 ∨ j = 2 := by omega
        rcases this with rfl | rfl | rfl <;> go_simp
      rintro e w8 ⟨rfl, rfl⟩
      rw [show noneB (fun _ => 0) 3 = true from rfl]
      go_wp2_with fail
      (with_reducible refine (D.out _).mono ?_); rintro e w' ⟨rfl, rfl⟩
      go_wp2_with fail
      (with_reducible refine (E.out _).mono ?_); rintro e w' ⟨rfl, rfl⟩
      go_wp2_with fail
      (with_reducible refine (F.out _).mono ?_); rintro e w' ⟨rfl, rfl⟩
      go_wp2_with fail
      go_ret
      exact ⟨rfl, gAlloc low _⟩
  · rw [err_no hk] at O X Y
    generalize otS s k = x at *
    generalize otS t k = y at *
    generalize ownS m k ((s == 0) && (t == 0)) = o at *
    clear h1 h2 h3 hs ht hm hk
    generalize hb1 : (s == 0) = b1 at O
    generalize hb2 : (t == 0) = b2 at O
    cases b1 <;> cases b2
    all_goals
      simp only [Bool.and_true, Bool.and_false] at O
      have low := Below.refl w.heap.size w
      go_enter Try.func4, Try.ntmps4
      go_wp2_with fail
      (with_reducible refine (states_yes _).mono ?_); rintro e w' ⟨rfl, rfl⟩
      go_wp2_with fail
      (with_reducible refine (A.out _).mono ?_); rintro e w' ⟨rfl, rfl⟩
      go_wp2_with fail
      (with_reducible refine (B.out _).mono ?_); rintro e w' ⟨rfl, rfl⟩
      go_wp2_with fail
      (with_reducible refine (C.out _).mono ?_); rintro e w' ⟨rfl, rfl⟩
      go_wp2_with fail
      (with_reducible refine (O.out _).mono ?_); rintro e w' ⟨rfl, rfl⟩
      go_wp2_with fail
      (with_reducible refine (X.out _).mono ?_); rintro e w' ⟨rfl, rfl⟩
      go_wp2_with fail
      (with_reducible refine (Y.out _).mono ?_); rintro e w' ⟨rfl, rfl⟩
      go_wp2_with fail
      with_reducible refine (good_any _ 3 (fun _ => 1) _ (by omega) ?_).mono ?_
      · intro j hj
        have : j = 0 ∨ j = 1 ∨ j = 2 := by omega
        rcases this with rfl | rfl | rfl <;> go_simp
      rintro e w8 ⟨rfl, rfl⟩
      rw [show noneB (fun _ => 1) 3 = false from rfl]
      go_wp2_with fail
      go_ret
      exact ⟨rfl, gAlloc low _⟩

theorem walk (v0 v1 v2 v3 : Value) (w : World) (h0 : IsInt v0) (h1 : IsInt v1) (h2 : IsInt v2) (h3 : IsInt v3) :
    Calls Try.prog 4 #[v0, v1, v2, v3] w fun e w' => e = .returned (.bool true) ∧ Below w.heap.size w w' := by
  obtain ⟨s, rfl, _⟩ := h0
  obtain ⟨t, rfl, _⟩ := h1
  obtain ⟨m, rfl, _⟩ := h2
  obtain ⟨k, rfl, _⟩ := h3
  cases a : bsB s t
  · exact walk_out s t m k w (.inl a)
  cases b : bsB s m
  · exact walk_out s t m k w (.inr (.inl ⟨a, b⟩))
  cases c : bsB t m
  · exact walk_out s t m k w (.inr (.inr ⟨a, b, c⟩))
  exact walk_right s t m k w a b c

set_option maxRecDepth 100000 in
theorem lifted (os : Os) (started : os.Started) (H : Type) (enc : TypeId × Value → H) :
    ReturnsInHanded {} Try.checked os 4 .any (Rows.stateKeepsSpec.pre6 enc Try.prog Try.f4 Rows.stateKeepsRow.domain false) (Rows.stateKeepsSpec.post enc Try.prog Try.f4 false true false false) := by
  refine returnsInHanded_of_change (C := Try.checked) own started (by kernel_rfl) Try.func4
    (ChangeSpec.witness6 (enc := enc) (C := Try.checked) false ⟨#[], #[.int .i64 0, .int .i64 1, .int .i64 0, .int .i64 1], []⟩ 8 (by kernel_rfl) (by kernel_rfl) (by kernel_rfl) (by kernel_rfl)) ?_
  intro W base args ds gs before hval0 hW hcnd _
  have hval : ∀ (j : Nat) t v, Try.f4.params[j]? = some t → args[j]? = some v → Value.okWide Try.prog W .any base t v := hval0
  have hW' := hW
  obtain ⟨p, q, hA0, hV, rfl, hfz, hnd⟩ := hW
  have hA : DataW.TrodAll enc Try.prog W 0 (fun _ => true) true Try.f4.params.toList args.toList ds p := hA0
  rw [Try.params4] at hA hval
  obtain ⟨v0, vs0, d0, ds0, p0, q0, hargs, rfl, rfl, h0, r0⟩ := trodAll_cons hA
  obtain ⟨v1, vs1, d1, ds1, p1, q1, rfl, rfl, rfl, h1, r1⟩ := trodAll_cons r0
  obtain ⟨v2, vs2, d2, ds2, p2, q2, rfl, rfl, rfl, h2, r2⟩ := trodAll_cons r1
  obtain ⟨v3, vs3, d3, ds3, p3, q3, rfl, rfl, rfl, h3, r3⟩ := trodAll_cons r2
  obtain ⟨rfl, rfl, rfl⟩ := trodAll_nil r3
  obtain rfl : args = #[v0, v1, v2, v3] := by cases args; simp_all
  have k0 := openState (hval 0 33 v0 rfl rfl) h0
  have k1 := openState (hval 1 33 v1 rfl rfl) h1
  have k2 := openState (hval 2 33 v2 rfl rfl) h2
  have k3 := openKind (hval 3 34 v3 rfl rfl) h3
  obtain ⟨rfl, rfl⟩ := trodVars_none hV
  clear hA0 hval0
  refine (walk v0 v1 v2 v3 W k0 k1 k2 k3).mono fun e W' ⟨he, bel⟩ => ⟨_, he, ?_⟩
  exact law_post (by kernel_rfl) (by kernel_rfl) rfl hW' rfl rfl rfl bel

theorem over : Rows.stateKeepsRow.holds Try.pinned (OpenSpec.ofChange Rows.stateKeepsSpec) :=
  OpenClaim.holds_of_wide 4 Try.f4 rfl rfl rfl rfl rfl rfl rfl ⟨rfl, rfl, rfl, rfl, rfl⟩ rfl rfl rfl rfl rfl (by kernel_rfl) Try.func4 (by kernel_rfl)
    (of_decide_eq_true (by kernel_rfl)) (by unfold Func.isWrapper; first | (rw [if_pos (by decide +kernel)]; kernel_rfl) | (rw [if_neg (by decide +kernel)]; exact ⟨rfl, rfl⟩))
    (fun os started H enc _ => lifted os started H enc)

/-- The statement. -/
theorem stateKeeps_holds : Rows.StateKeepsSaid := over
end Go.Proofs.Ytbhipedphckgpaa.stateKeeps
namespace Go.Proofs.Ytbhipedphckgpaa
theorem stateKeeps_holds : Rows.StateKeepsSaid := stateKeeps.stateKeeps_holds
#print axioms stateKeeps_holds
end Go.Proofs.Ytbhipedphckgpaa
