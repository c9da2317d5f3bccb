/-
Proved: the law 'RingComes' returns true for every argument, and changes nothing that was there. No condition.
-/
import Derived.Test.YtiefeeondeablaaRingFacts
import Derived.Test.YtiefeeondeablaaRings
import Derived.Test.YtiefeeondeablaaSlices
namespace Go.Proofs.Ytiefeeondeablaa.ringComes
open Go.ChangeShapes Go.WideShapes Go.ChangeAt Go.RowKit Go.Joins

set_option maxHeartbeats 1000000 in
theorem walk_bad (n s y b : Int) (v : Value) (l : List Sw) (node t : Int) (w : World) (h : Rs w v l) (hE : rputE n s y b l node t ≠ 0) :
    Calls Try.prog 4 #[cfg n s y b, v, .int .i64 node, .int .i64 t] w fun e w' => e = .returned (.bool true) ∧ Below w.heap.size w w' := by
  have P := Lib.hid fun w hw => ringPut_bad n s y b v l node t w hw hE
  generalize rputE n s y b l node t = E at *
  have hE' : (E != 0) = true := by simpa using hE
  have hE2 : (E == 0) = false := by simpa using hE
  clear hE
  obtain ⟨A, c, rfl⟩ := h.shape
  have low := Below.refl w.heap.size w
  have cb := boxNext low 23 #[.int .i64 n, .int .i64 s, .int .i64 y, .int .i64 b]
  replace low := gAlloc low (.cells #[.int .i64 n, .int .i64 s, .int .i64 y, .int .i64 b] 23)
  replace h := h.alloc (.cells #[.int .i64 n, .int .i64 s, .int .i64 y, .int .i64 b] 23)
  try simp only [World.size_alloc] at cb
  go_enter Try.func4, Try.ntmps4
  go_wp2_with fail
  (with_reducible refine (rings_yes _).mono ?_); rintro e w1 ⟨rfl, hb⟩
  replace cb := cb.call hb
  replace h := h.call hb
  replace low := gCall low hb
  clear hb
  have cb_0 := cb.at_ 0 rfl
  have cb_1 := cb.at_ 1 rfl
  have cb_2 := cb.at_ 2 rfl
  have cb_3 := cb.at_ 3 rfl
  go_wp2_with fail
  (with_reducible refine (P.out _ h).mono ?_); rintro e w2 ⟨rfl, hb⟩
  replace low := gCall low hb
  clear hb cb_0 cb_1 cb_2 cb_3
  go_wp2_with fail
  go_ret
  exact ⟨rfl, low⟩

set_option maxHeartbeats 1000000 in
theorem walk_none (n s y b : Int) (v : Value) (l : List Sw) (node t : Int) (w : World) (h : Rs w v l) (hE : rputE n s y b l node t = 0) (hf : l.any (freS node) = false) :
    Calls Try.prog 4 #[cfg n s y b, v, .int .i64 node, .int .i64 t] w fun e w' => e = .returned (.bool true) ∧ Below w.heap.size w w' := by
  have P := Lib.hid fun w hw => ringPut_ok n s y b v l node t w hw hE
  rw [hf] at P
  clear hE hf
  obtain ⟨A, c, rfl⟩ := h.shape
  have low := Below.refl w.heap.size w
  have cb := boxNext low 23 #[.int .i64 n, .int .i64 s, .int .i64 y, .int .i64 b]
  replace low := gAlloc low (.cells #[.int .i64 n, .int .i64 s, .int .i64 y, .int .i64 b] 23)
  replace h := h.alloc (.cells #[.int .i64 n, .int .i64 s, .int .i64 y, .int .i64 b] 23)
  try simp only [World.size_alloc] at cb
  go_enter Try.func4, Try.ntmps4
  go_wp2_with fail
  (with_reducible refine (rings_yes _).mono ?_); rintro e w1 ⟨rfl, hb⟩
  replace cb := cb.call hb
  replace h := h.call hb
  replace low := gCall low hb
  clear hb
  have cb_0 := cb.at_ 0 rfl
  have cb_1 := cb.at_ 1 rfl
  have cb_2 := cb.at_ 2 rfl
  have cb_3 := cb.at_ 3 rfl
  go_wp2_with fail
  (with_reducible refine (P.out _ h).mono ?_); rintro e w2 ⟨⟨v', rfl, fr⟩, hb⟩
  obtain ⟨A', c', rfl⟩ := fr.shape
  replace low := gCall low hb
  clear hb fr
  go_wp2_with fail
  go_ret
  exact ⟨rfl, low⟩

set_option maxHeartbeats 4000000 in
theorem walk_way (n s y b : Int) (v : Value) (l : List Sw) (node t : Int) (w : World) (h : Rs w v l) (hE : rputE n s y b l node t = 0) (hf : l.any (freS node) = true) :
    Calls Try.prog 4 #[cfg n s y b, v, .int .i64 node, .int .i64 t] w fun e w' => e = .returned (.bool true) ∧ Below w.heap.size w w' := by
  have P := Lib.hid fun w hw => ringPut_ok n s y b v l node t w hw hE
  rw [hf] at P
  obtain ⟨e1, e2, e3, e4⟩ := rputE_ok hE
  obtain ⟨g1, m1, m8, _⟩ := ringE_zero.1 e1
  obtain ⟨n0, n1⟩ := nodB_iff.1 e2
  obtain ⟨t0, t9⟩ := waitB_iff.1 e3
  have hn : 2 ≤ n ∧ n ≤ 8 := by have := cfgB_iff.1 g1; omega
  obtain ⟨nn2, nn8⟩ := hn
  have W0 := Lib.hid (OnWay.start hE hf)
  have LP := Lib.hid (OnWay.start hE hf).len
  have LO := Lib.hid fun w => longest_any n s y b l.length w
  rw [ringE_cnt e1] at LO
  simp only [if_pos] at LO
  have ST := Lib.hid fun w v (r : List Sw) hw (j : Nat) (k : OnWay n node t l.length j r) => ringStep_ok n s y b v r w hw (ringE_zero.2 ⟨g1, by rw [k.len]; exact m1, by rw [k.len]; exact m8, k.ok⟩)
  clear hE hf e1 e2 e3 e4 g1
  obtain ⟨A, c, rfl⟩ := h.shape
  have low := Below.refl w.heap.size w
  have cb := boxNext low 23 #[.int .i64 n, .int .i64 s, .int .i64 y, .int .i64 b]
  replace low := gAlloc low (.cells #[.int .i64 n, .int .i64 s, .int .i64 y, .int .i64 b] 23)
  replace h := h.alloc (.cells #[.int .i64 n, .int .i64 s, .int .i64 y, .int .i64 b] 23)
  try simp only [World.size_alloc] at cb
  go_enter Try.func4, Try.ntmps4
  go_wp2_with fail
  (with_reducible refine (rings_yes _).mono ?_); rintro e w1 ⟨rfl, hb⟩
  replace cb := cb.call hb
  replace h := h.call hb
  replace low := gCall low hb
  clear hb
  have cb_0 := cb.at_ 0 rfl
  have cb_1 := cb.at_ 1 rfl
  have cb_2 := cb.at_ 2 rfl
  have cb_3 := cb.at_ 3 rfl
  go_wp2_with fail
  (with_reducible refine (P.out _ h).mono ?_); rintro e w2 ⟨⟨v', rfl, fr⟩, hb⟩
  obtain ⟨A', c', rfl⟩ := fr.shape
  rw [LP.out] at fr ⊢
  have R0 := Lib.hid fr.rs
  replace low := gCall low hb
  replace cb := cb.call hb
  clear hb fr P
  clear cb_0 cb_1 cb_2 cb_3
  have cb_0 := cb.at_ 0 rfl
  have cb_1 := cb.at_ 1 rfl
  have cb_2 := cb.at_ 2 rfl
  have cb_3 := cb.at_ 3 rfl
  go_wp2_with fail
  (with_reducible refine (LO.out _).mono ?_); rintro e w3 ⟨rfl, hb⟩
  replace R0 := Lib.hid (R0.out.call hb)
  replace low := gCall low hb
  replace cb := cb.call hb
  clear hb LO
  clear cb_0 cb_1 cb_2 cb_3
  go_wp2_with fail
  have u1 : decide (n + t ≤ n + 9) = true := decide_eq_true (by omega)
  have N2 := Lib.hid (show n + t = ((n + t).toNat : Nat) by omega)
  go_loopw [1, 13] (fun rv i wr => ∃ q : Nat, (q : Int) ≤ n + t ∧ i = .int .i64 ((q : Int) + 1) ∧ Hid (∃ R, Rs wr rv R ∧ ((q : Int) < n + t → OnWay n node t l.length q R)) ∧
      Box wr w.heap.size 23 #[.int .i64 n, .int .i64 s, .int .i64 y, .int .i64 b] ∧ Below w.heap.size w wr) (fun _ i _ => (n + t + 1 - intOf i).toNat)
  case atStart => exact ⟨0, by omega, by go_num, Lib.hid ⟨_, R0.out, fun _ => W0.out⟩, cb, low⟩
  case round =>
    clear R0 W0 cb low
    obtain ⟨q, hq, rfl, HR, cb, low⟩ := hrel
    have cb_0 := cb.at_ 0 rfl
    have cb_1 := cb.at_ 1 rfl
    have cb_2 := cb.at_ 2 rfl
    have cb_3 := cb.at_ 3 rfl
    by_cases hlt : (q : Int) < n + t
    · obtain ⟨R, rs, way⟩ := HR.out
      have WAY := Lib.hid (way hlt)
      have S := Lib.hid (ST.out wr _ R rs q (way hlt))
      have TOLD := Lib.hid ((way hlt).told nn2 n0 n1 t0 hlt)
      have q1 : (q : Int) + 1 ≤ n + t := by omega
      have q2 : decide ((q : Int) + 1 ≤ n + t) = true := decide_eq_true q1
      clear rs way HR
      go_wp2_with fail
      (with_reducible refine S.out.mono ?_); rintro e w4 ⟨⟨v4, bv, ts, rfl, fr, hp, hu, row⟩, hb⟩
      replace cb := cb.call hb
      replace low := gCall low hb
      have R4 := Lib.hid fr.rs
      have TS := Lib.hid (show decide (node ∈ ts) = decide ((q : Int) + 1 = n + t) by
        rw [← TOLD.out]
        exact decide_eq_decide.2 (hp.mem_iff))
      have SL := Lib.hid (Sl.ofOwn row)
      have CON2 := Lib.hid fun nn => Calls.quiet_of_same ((contains_any bv ts.length ts node (w4.drewN nn) SL.out).mono fun e w' ⟨h1, h2⟩ => ⟨h1, h2.symm⟩)
      obtain ⟨Ab, cb', rfl⟩ : ∃ A c, bv = .slice A ts.length c := by obtain ⟨_, A, c, e, _⟩ := SL.out; exact ⟨A, c, e⟩
      clear fr hp hu row hb S TOLD
      clear cb_0 cb_1 cb_2 cb_3
      have cb_0 := cb.at_ 0 rfl
      have cb_1 := cb.at_ 1 rfl
      have cb_2 := cb.at_ 2 rfl
      have cb_3 := cb.at_ 3 rfl
      by_cases hl : (q : Int) + 1 = n + t
      · rw [TS.out, decide_eq_true hl] at CON2
        have hl2 : ((q : Int) + 1 == n + t) = true := by simpa using hl
        have HL := Lib.hid hl
        clear hl TS
        go_wp2_with fail
        go_quiet (first | (go_at_call 19; exact CON2.out _))
        go_wp2_with fail
        go_roundw
        case rel => exact ⟨q + 1, by have := HL.out; push_cast; omega, by go_num, Lib.hid ⟨_, R4.out.call (gDrewN (Below.refl _ _) _), fun k => by have := HL.out; push_cast at k; omega⟩, cb, gDrewN low _⟩
        case measure => simp [intOf]; omega
      · rw [TS.out, decide_eq_false hl] at CON2
        have hl2 : ((q : Int) + 1 == n + t) = false := by simpa using hl
        have NX := Lib.hid (WAY.out.next nn2 n0 n1 t0 (by omega))
        have HL := Lib.hid hl
        clear hl TS
        go_wp2_with fail
        go_quiet (first | (go_at_call 19; exact CON2.out _))
        go_wp2_with fail
        go_roundw
        case rel => exact ⟨q + 1, by have := HL.out; push_cast; omega, by go_num, Lib.hid ⟨_, R4.out.call (gDrewN (Below.refl _ _) _), fun _ => NX.out⟩, cb, gDrewN low _⟩
        case measure => simp [intOf]; omega
    · have q2 : decide ((q : Int) + 1 ≤ n + t) = false := decide_eq_false (by omega)
      clear hlt HR
      go_wp2_with fail
      go_ret
      exact ⟨rfl, low⟩

theorem walk (v0 v1 v2 v3 : Value) (w : World) (h0 : IsCfg v0) (h1 : IsRing w v1) (h2 : IsInt v2) (h3 : IsInt v3) :
    Calls Try.prog 4 #[v0, v1, v2, v3] w fun e w' => e = .returned (.bool true) ∧ Below w.heap.size w w' := by
  obtain ⟨n, s, y, b, rfl, _, _, _, _⟩ := h0
  obtain ⟨l, h⟩ := h1
  obtain ⟨node, rfl, _⟩ := h2
  obtain ⟨t, rfl, _⟩ := h3
  by_cases c : rputE n s y b l node t = 0
  · cases f : l.any (freS node)
    · exact walk_none n s y b v1 l node t w h c f
    · exact walk_way n s y b v1 l node t w h c f
  · exact walk_bad n s y b v1 l node t w h c

set_option maxRecDepth 100000 in
theorem lifted (os : Os) (started : os.Started) (H : Type) (enc : TypeId × Value → H) :
    ReturnsInHanded {} Try.checked os 4 .any (Rows.ringComesSpec.pre6 enc Try.prog Try.f4 Rows.ringComesRow.domain false) (Rows.ringComesSpec.post enc Try.prog Try.f4 false true false false) := by
  refine returnsInHanded_of_change (C := Try.checked) own started (by kernel_rfl) Try.func4
    (ChangeSpec.witness6 (enc := enc) (C := Try.checked) false ⟨#[], #[cfg 0 0 0 0, .slice none 0 0, .int .i64 0, .int .i64 0], []⟩ 8 (by kernel_rfl) (by kernel_rfl) (by kernel_rfl) (by kernel_rfl)) ?_
  intro W base args ds gs before hval0 hW hcnd _
  have hval : ∀ (j : Nat) t v, Try.f4.params[j]? = some t → args[j]? = some v → Value.okWide Try.prog W .any base t v := hval0
  have hW' := hW
  obtain ⟨p, q, hA0, hV, rfl, hfz, hnd⟩ := hW
  have hA : DataW.TrodAll enc Try.prog W 0 (fun _ => true) true Try.f4.params.toList args.toList ds p := hA0
  rw [Try.params4] at hA hval
  obtain ⟨v0, vs0, d0, ds0, p0, q0, hargs, rfl, rfl, h0, r0⟩ := trodAll_cons hA
  obtain ⟨v1, vs1, d1, ds1, p1, q1, rfl, rfl, rfl, h1, r1⟩ := trodAll_cons r0
  obtain ⟨v2, vs2, d2, ds2, p2, q2, rfl, rfl, rfl, h2, r2⟩ := trodAll_cons r1
  obtain ⟨v3, vs3, d3, ds3, p3, q3, rfl, rfl, rfl, h3, r3⟩ := trodAll_cons r2
  obtain ⟨rfl, rfl, rfl⟩ := trodAll_nil r3
  obtain rfl : args = #[v0, v1, v2, v3] := by cases args; simp_all
  have k0 := openCfg (hval 0 23 v0 rfl rfl) h0
  have k1 := openRing (hval 1 25 v1 rfl rfl) h1
  have k2 := openInt (hval 2 3 v2 rfl rfl) h2
  have k3 := openInt (hval 3 3 v3 rfl rfl) h3
  obtain ⟨rfl, rfl⟩ := trodVars_none hV
  clear hA0 hval0
  refine (walk v0 v1 v2 v3 W k0 k1 k2 k3).mono fun e W' ⟨he, bel⟩ => ⟨_, he, ?_⟩
  exact law_post (by kernel_rfl) (by kernel_rfl) rfl hW' rfl rfl rfl bel

theorem over : Rows.ringComesRow.holds Try.pinned (OpenSpec.ofChange Rows.ringComesSpec) :=
  OpenClaim.holds_of_wide 4 Try.f4 rfl rfl rfl rfl rfl rfl rfl ⟨rfl, rfl, rfl, rfl, rfl⟩ rfl rfl rfl rfl rfl (by kernel_rfl) Try.func4 (by kernel_rfl)
    (of_decide_eq_true (by kernel_rfl)) (by unfold Func.isWrapper; first | (rw [if_pos (by decide +kernel)]; kernel_rfl) | (rw [if_neg (by decide +kernel)]; exact ⟨rfl, rfl⟩))
    (fun os started H enc _ => lifted os started H enc)

/-- The statement. -/
theorem ringComes_holds : Rows.RingComesSaid := over
end Go.Proofs.Ytiefeeondeablaa.ringComes
namespace Go.Proofs.Ytiefeeondeablaa
theorem ringComes_holds : Rows.RingComesSaid := ringComes.ringComes_holds
#print axioms ringComes_holds
end Go.Proofs.Ytiefeeondeablaa
