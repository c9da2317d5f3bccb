/-
Proved: the law 'AddrRound' returns true for every argument, and changes nothing that was there. No condition.
-/
import Derived.Test.YtajhffddpgfeaaaAddr
import Derived.Test.YtajhffddpgfeaaaGood
namespace Go.Proofs.Ytajhffddpgfeaaa.addrRound
open Go.ChangeShapes Go.WideShapes Go.ChangeAt Go.RowKit

theorem addrs_yes (w : World) : Calls Try.prog 15 #[] w fun e w' => e = .returned (.bool true) ∧ w = w' := by
  go_enter Try.func15, Try.ntmps15
  go_wp2_with fail
  refine (line_ok 7 _ (by omega) (by omega)).mono ?_; rintro e w' ⟨rfl, rfl⟩
  go_wp2
  go_ret
  exact ⟨rfl, rfl⟩

/-- As often on as there are nodes is where one was. -/
theorem round_eq {f n : Int} (h0 : 0 ≤ f) (h1 : f < n) : nodeAt n f n = f := by
  rw [nodeAt, Int.emod_self, Int.add_zero]; exact Int.emod_eq_of_lt h0 h1

/-- Moves add up. -/
theorem add_eq (f a b n : Int) : nodeAt n (nodeAt n f a) b = nodeAt n f (a + b) := by
  rw [nodeAt, nodeAt, nodeAt, Int.emod_add_emod, Int.add_emod_emod, Int.add_emod_emod, Int.add_right_comm, Int.add_emod_emod]
  congr 1; omega

set_option maxHeartbeats 1000000 in
theorem walk_bad (n s y b f a k : Int) (w : World) (h : cfgB n s y b = false ∨ f < 0 ∨ n ≤ f) :
    Calls Try.prog 5 #[cfg n s y b, .int .i64 f, .int .i64 a, .int .i64 k] w fun e w' => e = .returned (.bool true) ∧ Below w.heap.size w w' := by
  have c : ∀ W, Calls Try.prog 10 #[cfg n s y b, .int .i64 f, .int .i64 n] W fun e w' => e = .returned (.tuple #[.int .i64 0, .int .i64 4]) ∧ Below W.heap.size W w' := by
    intro W
    cases hB : cfgB n s y b with
    | false => exact node_bad n s y b f n W hB
    | true => exact node_out n s y b f n W hB (by rcases h with h | h; rw [hB] at h; cases h; omega)
  have C := Lib.hid c
  clear c h
  go_enter Try.func5, Try.ntmps5
  go_wp2_with fail
  refine (addrs_yes _).mono ?_; rintro e w' ⟨rfl, rfl⟩
  go_wp2_with fail
  refine (C.out _).mono ?_; rintro e w1 ⟨rfl, hb⟩
  obtain ⟨hc, hf⟩ := bcell hb
  go_wp2_with fail
  go_ret
  exact ⟨rfl, gCall (gAlloc (Below.refl _ _) _) hb⟩

set_option maxHeartbeats 1000000 in
theorem walk_large (n s y b f a k : Int) (w : World) (hB : cfgB n s y b = true) (h0 : 0 ≤ f) (h1 : f < n) (h : a < 0 ∨ k < 0 ∨ 1099511627776 < a ∨ 1099511627776 < k) :
    Calls Try.prog 5 #[cfg n s y b, .int .i64 f, .int .i64 a, .int .i64 k] w fun e w' => e = .returned (.bool true) ∧ Below w.heap.size w w' := by
  have hs : 2 ≤ n ∧ n ≤ 8 := by have := cfgB_iff.1 hB; omega
  obtain ⟨hs1, hs2⟩ := hs
  have c : ∀ W, Calls Try.prog 10 #[cfg n s y b, .int .i64 f, .int .i64 n] W fun e w' => e = .returned (.tuple #[.int .i64 f, .int .i64 0]) ∧ Below W.heap.size W w' := by
    intro W
    refine (node_ok n s y b f n W hB h0 h1 (by omega) (by omega)).mono ?_
    rw [round_eq h0 h1]; exact fun _ _ hh => hh
  have C := Lib.hid c
  clear c hB
  by_cases c1 : a < 0
  · go_enter Try.func5, Try.ntmps5
    go_wp2_with fail
    refine (addrs_yes _).mono ?_; rintro e w' ⟨rfl, rfl⟩
    go_wp2_with fail
    refine (C.out _).mono ?_; rintro e w1 ⟨rfl, hb⟩
    obtain ⟨hc, hf⟩ := bcell hb
    go_wp2_with fail
    go_ret
    exact ⟨rfl, gCall (gAlloc (Below.refl _ _) _) hb⟩
  by_cases c2 : k < 0
  · go_enter Try.func5, Try.ntmps5
    go_wp2_with fail
    refine (addrs_yes _).mono ?_; rintro e w' ⟨rfl, rfl⟩
    go_wp2_with fail
    refine (C.out _).mono ?_; rintro e w1 ⟨rfl, hb⟩
    obtain ⟨hc, hf⟩ := bcell hb
    go_wp2_with fail
    go_ret
    exact ⟨rfl, gCall (gAlloc (Below.refl _ _) _) hb⟩
  by_cases c3 : 1099511627776 < a
  · go_enter Try.func5, Try.ntmps5
    go_wp2_with fail
    refine (addrs_yes _).mono ?_; rintro e w' ⟨rfl, rfl⟩
    go_wp2_with fail
    refine (C.out _).mono ?_; rintro e w1 ⟨rfl, hb⟩
    obtain ⟨hc, hf⟩ := bcell hb
    go_wp2_with fail
    go_ret
    exact ⟨rfl, gCall (gAlloc (Below.refl _ _) _) hb⟩
  have c4 : 1099511627776 < k := by omega
  clear h
  go_enter Try.func5, Try.ntmps5
  go_wp2_with fail
  refine (addrs_yes _).mono ?_; rintro e w' ⟨rfl, rfl⟩
  go_wp2_with fail
  refine (C.out _).mono ?_; rintro e w1 ⟨rfl, hb⟩
  obtain ⟨hc, hf⟩ := bcell hb
  go_wp2_with fail
  go_ret
  exact ⟨rfl, gCall (gAlloc (Below.refl _ _) _) hb⟩

set_option maxHeartbeats 1000000 in
theorem walk_sum (n s y b f a k : Int) (w : World) (hB : cfgB n s y b = true) (h0 : 0 ≤ f) (h1 : f < n) (a0 : 0 ≤ a) (a1 : a ≤ 1099511627776) (k0 : 0 ≤ k) (k1 : k ≤ 1099511627776) :
    Calls Try.prog 5 #[cfg n s y b, .int .i64 f, .int .i64 a, .int .i64 k] w fun e w' => e = .returned (.bool true) ∧ Below w.heap.size w w' := by
  have hs : 2 ≤ n ∧ n ≤ 8 := by have := cfgB_iff.1 hB; omega
  obtain ⟨hs1, hs2⟩ := hs
  have c : ∀ W, Calls Try.prog 10 #[cfg n s y b, .int .i64 f, .int .i64 n] W fun e w' => e = .returned (.tuple #[.int .i64 f, .int .i64 0]) ∧ Below W.heap.size W w' := by
    intro W
    refine (node_ok n s y b f n W hB h0 h1 (by omega) (by omega)).mono ?_
    rw [round_eq h0 h1]; exact fun _ _ hh => hh
  have C := Lib.hid c
  have d0 : 0 ≤ nodeAt n f a := nodeAt_nonneg (by omega)
  have d1 : nodeAt n f a < n := nodeAt_lt (by omega)
  have E := Lib.hid (add_eq f a k n)
  have HB := Lib.hid hB
  clear c hB
  go_enter Try.func5, Try.ntmps5
  go_wp2_with fail
  refine (addrs_yes _).mono ?_; rintro e w' ⟨rfl, rfl⟩
  go_wp2_with fail
  refine (C.out _).mono ?_; rintro e w1 ⟨rfl, hb⟩
  obtain ⟨hc, hf⟩ := bcell hb
  go_wp2_with fail
  (with_reducible refine (node_ok n s y b f a _ HB.out h0 h1 (by omega) (by omega)).mono ?_); rintro e w2 ⟨rfl, hb2⟩
  replace hb := gCall hb hb2
  clear hc hf hb2
  obtain ⟨hc, hf⟩ := bcell hb
  go_wp2_with fail
  (with_reducible refine (node_ok n s y b _ k _ HB.out d0 d1 (by omega) (by omega)).mono ?_); rintro e w3 ⟨rfl, hb3⟩
  replace hb := gCall hb hb3
  clear hc hf hb3
  obtain ⟨hc, hf⟩ := bcell hb
  go_wp2_with fail
  (with_reducible refine (node_ok n s y b f (a + k) _ HB.out h0 h1 (by omega) (by omega)).mono ?_); rintro e w4 ⟨rfl, hb4⟩
  replace hb := gCall hb hb4
  clear hc hf hb4
  have E1 : (nodeAt n (nodeAt n f a) k == nodeAt n f (a + k)) = true := by rw [E.out]; exact beq_self_eq_true _
  go_wp2_with fail
  with_reducible refine (good_yes _ 3 _ (by omega) ?_).mono ?_
  · intro j hj
    have : j = 0 ∨ j = 1 ∨ j = 2 := by omega
    rcases this with rfl | rfl | rfl <;> go_simp
  rintro e w5 ⟨rfl, rfl⟩
  go_wp2_with fail
  go_ret
  exact ⟨rfl, gAlloc (gCall (gAlloc (Below.refl _ _) _) hb) _⟩

theorem walk (v0 v1 v2 v3 : Value) (w : World) (h0 : IsCfg v0) (h1 : IsInt v1) (h2 : IsInt v2) (h3 : IsInt v3) :
    Calls Try.prog 5 #[v0, v1, v2, v3] w fun e w' => e = .returned (.bool true) ∧ Below w.heap.size w w' := by
  obtain ⟨n, s, y, b, rfl, _, _, _, _⟩ := h0
  obtain ⟨f, rfl, _⟩ := h1
  obtain ⟨a, rfl, _⟩ := h2
  obtain ⟨k, rfl, _⟩ := h3
  by_cases c : cfgB n s y b = false ∨ f < 0 ∨ n ≤ f
  · exact walk_bad n s y b f a k w c
  · have cB : cfgB n s y b = true := by cases hB : cfgB n s y b with | true => rfl | false => exact (c (.inl hB)).elim
    by_cases c2 : a < 0 ∨ k < 0 ∨ 1099511627776 < a ∨ 1099511627776 < k
    · exact walk_large n s y b f a k w cB (by omega) (by omega) c2
    · exact walk_sum n s y b f a k w cB (by omega) (by omega) (by omega) (by omega) (by omega) (by omega)

set_option maxRecDepth 100000 in
theorem lifted (os : Os) (started : os.Started) (H : Type) (enc : TypeId × Value → H) :
    ReturnsInHanded {} Try.checked os 5 .any (Rows.addrRoundSpec.pre6 enc Try.prog Try.f5 Rows.addrRoundRow.domain false) (Rows.addrRoundSpec.post enc Try.prog Try.f5 false true false false) := by
  refine returnsInHanded_of_change (C := Try.checked) own started (by kernel_rfl) Try.func5
    (ChangeSpec.witness6 (enc := enc) (C := Try.checked) false ⟨#[], #[cfg 0 0 0 0, .int .i64 0, .int .i64 0, .int .i64 0], []⟩ 8 (by kernel_rfl) (by kernel_rfl) (by kernel_rfl) (by kernel_rfl)) ?_
  intro W base args ds gs before hval0 hW hcnd _
  have hval : ∀ (j : Nat) t v, Try.f5.params[j]? = some t → args[j]? = some v → Value.okWide Try.prog W .any base t v := hval0
  have hW' := hW
  obtain ⟨p, q, hA0, hV, rfl, hfz, hnd⟩ := hW
  have hA : DataW.TrodAll enc Try.prog W 0 (fun _ => true) true Try.f5.params.toList args.toList ds p := hA0
  rw [Try.params5] at hA hval
  obtain ⟨v0, vs0, d0, ds0, p0, q0, hargs, rfl, rfl, h0, r0⟩ := trodAll_cons hA
  obtain ⟨v1, vs1, d1, ds1, p1, q1, rfl, rfl, rfl, h1, r1⟩ := trodAll_cons r0
  obtain ⟨v2, vs2, d2, ds2, p2, q2, rfl, rfl, rfl, h2, r2⟩ := trodAll_cons r1
  obtain ⟨v3, vs3, d3, ds3, p3, q3, rfl, rfl, rfl, h3, r3⟩ := trodAll_cons r2
  obtain ⟨rfl, rfl, rfl⟩ := trodAll_nil r3
  obtain rfl : args = #[v0, v1, v2, v3] := by cases args; simp_all
  have k0 := openCfg (hval 0 28 v0 rfl rfl) h0
  have k1 := openInt (hval 1 3 v1 rfl rfl) h1
  have k2 := openInt (hval 2 3 v2 rfl rfl) h2
  have k3 := openInt (hval 3 3 v3 rfl rfl) h3
  obtain ⟨rfl, rfl⟩ := trodVars_none hV
  clear hA0 hval0
  refine (walk v0 v1 v2 v3 W k0 k1 k2 k3).mono fun e W' ⟨he, bel⟩ => ⟨_, he, ?_⟩
  exact law_post (by kernel_rfl) (by kernel_rfl) rfl hW' rfl rfl rfl bel

theorem over : Rows.addrRoundRow.holds Try.pinned (OpenSpec.ofChange Rows.addrRoundSpec) :=
  OpenClaim.holds_of_wide 5 Try.f5 rfl rfl rfl rfl rfl rfl rfl ⟨rfl, rfl, rfl, rfl, rfl⟩ rfl rfl rfl rfl rfl (by kernel_rfl) Try.func5 (by kernel_rfl)
    (of_decide_eq_true (by kernel_rfl)) (by unfold Func.isWrapper; first | (rw [if_pos (by decide +kernel)]; kernel_rfl) | (rw [if_neg (by decide +kernel)]; exact ⟨rfl, rfl⟩))
    (fun os started H enc _ => lifted os started H enc)

/-- The statement. -/
theorem addrRound_holds : Rows.AddrRoundSaid := over
end Go.Proofs.Ytajhffddpgfeaaa.addrRound
namespace Go.Proofs.Ytajhffddpgfeaaa
theorem addrRound_holds : Rows.AddrRoundSaid := addrRound.addrRound_holds
#print axioms addrRound_holds
end Go.Proofs.Ytajhffddpgfeaaa
