/-
Proved: the law 'ProgMerges' returns true for every argument, and changes nothing that was there. No condition.
-/
import Derived.Test.YtckmcfpeemkdoaaProgMerge
import Derived.Test.YtckmcfpeemkdoaaProgSplit
import Derived.Test.YtckmcfpeemkdoaaProgsYes
import Derived.Test.YtckmcfpeemkdoaaOpsEqual
import Derived.Test.YtckmcfpeemkdoaaOpsCut
namespace Go.Proofs.Ytckmcfpeemkdoaa.progMerges
open Go.ChangeShapes Go.WideShapes Go.ChangeAt Go.RowKit Go.Joins

theorem walk_bad (n s y b : Int) (v pv : Value) (p : List (List Dd)) (picks : List Int) (w : World) (h : Ps w v p) (hpk : Sl w w.heap.size 1 pv picks.length (picks.map (Value.int .i64))) (hE : mergeE n s y b p picks.length ≠ 0) :
    Calls Try.prog 4 #[cfg n s y b, v, pv] w fun e w' => e = .returned (.bool true) ∧ Below w.heap.size w w' := by
  obtain ⟨A', c', rfl⟩ := h.shape
  obtain ⟨_, A, c, rfl, _⟩ := hpk
  have M := Lib.hid fun w h => merge_bad n s y b (.slice A' p.length c') p A picks.length c w h hE
  have hE' : (mergeE n s y b p picks.length != 0) = true := by simpa using hE
  generalize mergeE n s y b p picks.length = E at *
  clear hE
  have low := Below.refl w.heap.size w
  have cb := boxNext low 23 #[.int .i64 n, .int .i64 s, .int .i64 y, .int .i64 b]
  replace low := gAlloc low (.cells #[.int .i64 n, .int .i64 s, .int .i64 y, .int .i64 b] 23)
  replace h := h.alloc (.cells #[.int .i64 n, .int .i64 s, .int .i64 y, .int .i64 b] 23)
  try simp only [World.size_alloc] at cb
  go_enter Try.func4, Try.ntmps4
  go_wp2_with fail
  (with_reducible refine (progs_yes _).mono ?_); rintro e w1 ⟨rfl, hb⟩
  replace cb := cb.call hb
  replace h := h.call hb
  replace low := gCall low hb
  clear hb
  have cb_0 := cb.at_ 0 rfl
  have cb_1 := cb.at_ 1 rfl
  have cb_2 := cb.at_ 2 rfl
  have cb_3 := cb.at_ 3 rfl
  go_wp2_with fail
  (with_reducible refine (M.out _ h).mono ?_); rintro e w2 ⟨rfl, hb⟩
  replace low := gCall low hb
  clear hb cb_0 cb_1 cb_2 cb_3
  go_wp2_with fail
  go_ret
  exact ⟨rfl, low⟩

set_option maxRecDepth 10000 in
set_option maxHeartbeats 8000000 in
theorem walk_good (n s y b : Int) (v pv : Value) (p : List (List Dd)) (picks : List Int) (w : World) (h : Ps w v p) (hpk : Sl w w.heap.size 1 pv picks.length (picks.map (Value.int .i64))) (hE : mergeE n s y b p picks.length = 0) :
    Calls Try.prog 4 #[cfg n s y b, v, pv] w fun e w' => e = .returned (.bool true) ∧ Below w.heap.size w w' := by
  have M := Lib.hid fun w h hp => merge_ok n s y b v pv p picks w h hp hE
  obtain ⟨hE0, hq⟩ : progsE n s y b p = 0 ∧ picks.length ≤ 200 := by
    unfold mergeE at hE
    by_cases h0 : progsE n s y b p = 0
    · rw [if_neg (by simpa using h0)] at hE
      refine ⟨h0, ?_⟩
      rcases Nat.lt_or_ge 200 picks.length with h | h
      · rw [if_pos h] at hE; cases hE
      · exact h
    · rw [if_pos h0] at hE
      exact absurd hE h0
  obtain ⟨hcf, hpn, hl0⟩ := progsE_zero hE0
  have mine := mergeL_mine hl0 picks
  have few : (mergeL p picks).1.length ≤ 200 := by
    have := mergeL_few p picks picks.length
    rw [List.take_length] at this
    omega
  generalize mergeL p picks = S at *
  have SP := Lib.hid fun v w h => split_any n s y b v S.1 w h hcf few
  have e0 : splitE n s y b S.1 = 0 := by
    unfold splitE
    rw [if_neg (by rw [hcf]; simp), if_neg (by omega), errS_zero]
    intro d hd
    obtain ⟨h1, _, h2⟩ := mine.right d hd
    exact ⟨h1, by omega⟩
  rw [e0] at SP
  subst hpn
  simp only [Int.toNat_natCast] at SP
  have TL := Lib.hid mine.good.len
  have HW := Lib.hid h
  obtain ⟨A', c', hv, p1, p2, p3⟩ := h.ex
  subst hv
  have P3 := Lib.hid p3
  unfold maxLen at p2
  have PK := Lib.hid hpk
  obtain ⟨_, A, c, rfl, _⟩ := hpk
  have MINE := Lib.hid mine
  have FEW := Lib.hid few
  clear hE hE0 hcf hl0 mine few e0 p3
  have low := Below.refl w.heap.size w
  have cb := boxNext low 23 #[.int .i64 p.length, .int .i64 s, .int .i64 y, .int .i64 b]
  replace low := gAlloc low (.cells #[.int .i64 p.length, .int .i64 s, .int .i64 y, .int .i64 b] 23)
  replace h := h.alloc (.cells #[.int .i64 p.length, .int .i64 s, .int .i64 y, .int .i64 b] 23)
  try simp only [World.size_alloc] at cb
  go_enter Try.func4, Try.ntmps4
  go_wp2_with fail
  (with_reducible refine (progs_yes _).mono ?_); rintro e w1 ⟨rfl, hb⟩
  replace cb := cb.call hb
  replace h := h.call hb
  replace low := gCall low hb
  clear hb
  have cb_0 := cb.at_ 0 rfl
  have cb_1 := cb.at_ 1 rfl
  have cb_2 := cb.at_ 2 rfl
  have cb_3 := cb.at_ 3 rfl
  go_wp2_with fail
  (with_reducible refine (M.out _ h (PK.out.call low)).mono ?_); rintro e w2 ⟨⟨u1, u2, rfl, mg⟩, hb⟩
  obtain ⟨⟨A1, c1, rfl⟩, A2, c2, rfl⟩ := mg.shape
  replace cb := cb.call hb
  replace low := gCall low hb
  have MG := Lib.hid mg
  clear hb mg M h
  clear cb_0 cb_1 cb_2 cb_3
  have cb_0 := cb.at_ 0 rfl
  have cb_1 := cb.at_ 1 rfl
  have cb_2 := cb.at_ 2 rfl
  have cb_3 := cb.at_ 3 rfl
  go_wp2_with fail
  (with_reducible refine (SP.out _ _ MG.out.ds).mono ?_); rintro e w3 ⟨hs, hb⟩
  rcases hs with ⟨h, _⟩ | ⟨_, sv, rfl, ps⟩
  · exact absurd rfl h
  replace low := gCall low hb
  replace MG := Lib.hid (MG.out.call hb)
  obtain ⟨A3, c3, hv3, q1, q2, q3⟩ := ps.ex
  subst hv3
  rw [splitL_length] at q1 q3
  have Q3 := Lib.hid q3
  have SA := Lib.hid fun k (hk : k < p.length) => splitL_at S.1 hk
  rw [splitL_length]
  clear hb cb ps q3 SP PK
  obtain ⟨_, A4, c4, e4, r1, r2, r3⟩ := MG.out.sl
  obtain ⟨rfl, rfl⟩ : A2 = A4 ∧ c2 = c4 := by injection e4 with e5 _ e6; exact ⟨e5, e6⟩
  rw [TL.out] at r1 r3 ⊢
  have R3 := Lib.hid r3
  unfold maxLen at q2 r2
  clear r3 e4
  go_wp2_with fail
  go_loopw [55] (fun i wr => ∃ k : Nat, k ≤ p.length ∧ i = .int .i64 k ∧ Below w3.heap.size w3 wr) (fun i _ => p.length - (intOf i).toNat)
  case atStart => exact ⟨0, Nat.zero_le _, rfl, Below.refl _ _⟩
  case round =>
    obtain ⟨k, hk, rfl, near⟩ := hrel
    by_cases hlt : k < p.length
    · obtain ⟨b1, o1, rfl, hb1, hc1⟩ := P3.out (by omega)
      obtain ⟨b3, o3, rfl, hb3, hc3⟩ := Q3.out (by omega)
      obtain ⟨b4, o4, rfl, hb4, hc4⟩ := R3.out (by omega)
      have hp : p[k]? = some p[k] := List.getElem?_eq_getElem _
      generalize p[k] = l at hp
      obtain ⟨j, hj, hjl⟩ := MINE.out.good.at_ k l hp
      have hm := MINE.out.mine k l j hp hj
      have hl20 := hjl
      obtain ⟨A5, c5, e5, d5⟩ := hc1 k l hp
      obtain ⟨A6, c6, e6, d6⟩ := hc3 k _ (SA.out k hlt)
      have c7 := int_at hc4 hb4 near hj
      replace e5 := ((gCall low near).cell (p := ⟨b1, o1 + k, none⟩) hb1).trans e5
      replace e6 := (near.cell (p := ⟨b3, o3 + k, none⟩) hb3).trans e6
      replace d5 := d5.call (gCall low near)
      replace d6 := d6.call near
      rw [show onD k S.1 = l.take j from hm] at e6 d6
      have d7 := ds_front d5 j hjl
      have hlj : (l.take j).length = j := by rw [List.length_take]; omega
      have hc5 : j ≤ c5 := by
        obtain ⟨_, _, _, e, h, _⟩ := d5
        injection e with _ _ e
        subst e
        omega
      generalize l.take j = lj at *
      subst hlj
      have CON := Lib.hid fun nn => Calls.quiet_of (equalDeeds_quiet (.slice A6 lj.length c6) (.slice A5 lj.length c5) lj (wr.drewN nn) (d6.call (gDrewN (Below.refl _ _) nn)) (d7.call (gDrewN (Below.refl _ _) nn)))
      have g0 : decide ((lj.length : Int) < 0) = false := decide_eq_false (by omega)
      have g1 : decide ((l.length : Int) < (lj.length : Int)) = false := decide_eq_false (by omega)
      have g1n : decide (l.length < lj.length) = false := decide_eq_false (by omega)
      have k0 : (0 : Int) ≤ k := by omega
      have k1 : (k : Int) < p.length := by omega
      clear hp hj hm hl20 d5 d6 d7 hc1 hc3 hc4
      go_wp2_with fail
      go_quiet (first | (go_at_call 10; exact CON.out _))
      go_wp2_with fail
      go_roundw
      case rel => exact ⟨k + 1, by omega, by go_num, gDrewN near _⟩
      case measure => simp [intOf]; omega
    · obtain rfl : k = p.length := by omega
      replace low := gCall low near
      go_wp2_with fail
      go_ret
      exact ⟨rfl, low⟩

theorem walk (v0 v1 v2 : Value) (w : World) (h0 : IsCfg v0) (h1 : IsProgs w v1) (h2 : IsInts w v2) :
    Calls Try.prog 4 #[v0, v1, v2] w fun e w' => e = .returned (.bool true) ∧ Below w.heap.size w w' := by
  obtain ⟨n, s, y, b, rfl, -, -, -, -⟩ := h0
  obtain ⟨p, h⟩ := h1
  obtain ⟨xs, hx, -⟩ := h2
  by_cases hE : mergeE n s y b p xs.length = 0
  · exact walk_good n s y b v1 v2 p xs w h hx hE
  · exact walk_bad n s y b v1 v2 p xs w h hx hE

set_option maxRecDepth 100000 in
theorem lifted (os : Os) (started : os.Started) (H : Type) (enc : TypeId × Value → H) :
    ReturnsInHanded {} Try.checked os 4 .any (Rows.progMergesSpec.pre6 enc Try.prog Try.f4 Rows.progMergesRow.domain false) (Rows.progMergesSpec.post enc Try.prog Try.f4 false true false false) := by
  refine returnsInHanded_of_change (C := Try.checked) own started (by kernel_rfl) Try.func4
    (ChangeSpec.witness6 (enc := enc) (C := Try.checked) false ⟨#[], #[.agg #[.int .i64 0, .int .i64 0, .int .i64 0, .int .i64 0], .slice none 0 0, .slice none 0 0], []⟩ 8 (by kernel_rfl) (by kernel_rfl) (by kernel_rfl) (by kernel_rfl)) ?_
  intro W base args ds gs before hval0 hW hcnd _
  have hval : ∀ (j : Nat) t v, Try.f4.params[j]? = some t → args[j]? = some v → Value.okWide Try.prog W .any base t v := hval0
  have hW' := hW
  obtain ⟨p, q, hA0, hV, rfl, hfz, hnd⟩ := hW
  have hA : DataW.TrodAll enc Try.prog W 0 (fun _ => true) true Try.f4.params.toList args.toList ds p := hA0
  rw [Try.params4] at hA hval
  obtain ⟨v0, vs0, d0, ds0, p0, q0, hargs, rfl, rfl, h0, r0⟩ := trodAll_cons hA
  obtain ⟨v1, vs1, d1, ds1, p1, q1, rfl, rfl, rfl, h1, r1⟩ := trodAll_cons r0
  obtain ⟨v2, vs2, d2, ds2, p2, q2, rfl, rfl, rfl, h2, r2⟩ := trodAll_cons r1
  obtain ⟨rfl, rfl, rfl⟩ := trodAll_nil r2
  obtain rfl : args = #[v0, v1, v2] := by cases args; simp_all
  have k0 := openCfg (hval 0 23 v0 rfl rfl) h0
  have k1 := openProgs (hval 1 24 v1 rfl rfl) h1
  have k2 := openInts (hval 2 25 v2 rfl rfl) h2
  obtain ⟨rfl, rfl⟩ := trodVars_none hV
  clear hA0 hval0
  refine (walk v0 v1 v2 W k0 k1 k2).mono fun e W' ⟨he, bel⟩ => ⟨_, he, ?_⟩
  exact law_post (by kernel_rfl) (by kernel_rfl) rfl hW' rfl rfl rfl bel

theorem over : Rows.progMergesRow.holds Try.pinned (OpenSpec.ofChange Rows.progMergesSpec) :=
  OpenClaim.holds_of_wide 4 Try.f4 rfl rfl rfl rfl rfl rfl rfl ⟨rfl, rfl, rfl, rfl, rfl⟩ rfl rfl rfl rfl rfl (by kernel_rfl) Try.func4 (by kernel_rfl)
    (of_decide_eq_true (by kernel_rfl)) (by unfold Func.isWrapper; first | (rw [if_pos (by decide +kernel)]; kernel_rfl) | (rw [if_neg (by decide +kernel)]; exact ⟨rfl, rfl⟩))
    (fun os started H enc _ => lifted os started H enc)

/-- The statement. -/
theorem progMerges_holds : Rows.ProgMergesSaid := over
end Go.Proofs.Ytckmcfpeemkdoaa.progMerges
namespace Go.Proofs.Ytckmcfpeemkdoaa
theorem progMerges_holds : Rows.ProgMergesSaid := progMerges.progMerges_holds
#print axioms progMerges_holds
end Go.Proofs.Ytckmcfpeemkdoaa
