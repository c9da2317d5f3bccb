/-
Proved: the law 'CacheTurns' returns true for every argument, and changes nothing that was there. No condition.
-/
import Derived.Test.YtmodajmjmdigfaaCacheFacts
import Derived.Test.YtmodajmjmdigfaaCacheOpen
import Derived.Test.YtmodajmjmdigfaaCaches
import Derived.Test.YtmodajmjmdigfaaCacheSpec
namespace Go.Proofs.Ytmodajmjmdigfaa.cacheTurns
open Go.ChangeShapes Go.WideShapes Go.ChangeAt Go.RowKit Go.Joins

/-- The law's first part, where Put gives an error. -/
theorem walk_bad (n s y b : Int) (v : Value) (ss : List St) (x : Wy) (m : Int) (E : Int) (w : World) (h : Cs w v ss) (he : E ≠ 0)
    (P : ∀ w, Cs w v ss → Calls Try.prog 16 #[cfg n s y b, v, x.val] w fun e w' => e = .returned (.tuple #[.slice none 0 0, zeroV, .int .i64 E]) ∧ Below w.heap.size w w') :
    Calls Try.prog 5 #[cfg n s y b, v, x.val, .int .i64 m] w fun e w' => e = .returned (.bool true) ∧ Below w.heap.size w w' := by
  replace P := Lib.hid P
  have he' : (E != 0) = true := by simpa using he
  clear he
  have eq0 := fun w => eqWay wy0 wy0 w
  simp only [Wy.val, wy0, show eqW ⟨0, 0, 0, 0, 0, 0⟩ ⟨0, 0, 0, 0, 0, 0⟩ = true from rfl] at eq0
  have low := Below.refl w.heap.size w
  have cb := boxNext low 44 (cfgA n s y b)
  replace low := gAlloc low (.cells (cfgA n s y b) 44)
  replace h := h.alloc (.cells (cfgA n s y b) 44)
  try simp only [World.size_alloc] at cb
  have xb := boxNext low 32 x.arr
  replace low := gAlloc low (.cells x.arr 32)
  replace h := h.alloc (.cells x.arr 32)
  replace cb := cb.alloc (.cells x.arr 32)
  try simp only [World.size_alloc] at xb
  simp only [Wy.arr] at xb
  go_enter Try.func5, Try.ntmps5
  go_wp2_with fail
  (with_reducible refine (caches_yes _).mono ?_); rintro e w1 ⟨rfl, hb⟩
  replace h := h.call hb
  replace cb := cb.call hb
  replace xb := xb.call hb
  replace low := gCall low hb
  clear hb
  have cb_0 := cb.at_ 0 rfl
  have cb_1 := cb.at_ 1 rfl
  have cb_2 := cb.at_ 2 rfl
  have cb_3 := cb.at_ 3 rfl
  have xb_0 := xb.at_ 0 rfl
  have xb_1 := xb.at_ 1 rfl
  have xb_2 := xb.at_ 2 rfl
  have xb_3 := xb.at_ 3 rfl
  have xb_4 := xb.at_ 4 rfl
  have xb_5 := xb.at_ 5 rfl
  go_wp2_with fail
  (with_reducible refine (P.out _ h).mono ?_); rintro e w2 ⟨rfl, hb⟩
  replace h := h.call hb
  replace low := gCall low hb
  clear hb cb_0 cb_1 cb_2 cb_3 xb_0 xb_1 xb_2 xb_3 xb_4 xb_5
  go_wp2_with fail
  go_ret
  exact ⟨rfl, gAlloc low _⟩

set_option maxRecDepth 100000 in
set_option maxHeartbeats 4000000 in
theorem walk_good (n s y b : Int) (v : Value) (ss sa : List St) (x old : Wy) (m : Int) (w : World) (h : Cs w v ss)
    (P : ∀ w, Cs w v ss → Calls Try.prog 16 #[cfg n s y b, v, x.val] w fun e w' => (∃ A c, e = .returned (.tuple #[.slice A ss.length c, old.val, .int .i64 0]) ∧ Cs w' (.slice A ss.length c) sa) ∧ Below w.heap.size w w')
    (F1 : ∀ v w, Cs w v sa → Calls Try.prog 15 #[cfg n s y b, v, .int .i64 x.ln] w fun e w' => e = .returned (.tuple #[x.val, .bool true, .int .i64 0]) ∧ Below w.heap.size w w')
    (z1 z2 : Wy) (p1 p2 : Bool) (E : Int)
    (F2 : ∀ v w, Cs w v sa → Calls Try.prog 15 #[cfg n s y b, v, .int .i64 m] w fun e w' => e = .returned (.tuple #[z1.val, .bool p1, .int .i64 E]) ∧ Below w.heap.size w w')
    (F3 : ∀ w, Cs w v ss → Calls Try.prog 15 #[cfg n s y b, v, .int .i64 m] w fun e w' => e = .returned (.tuple #[z2.val, .bool p2, .int .i64 E]) ∧ Below w.heap.size w w')
    (C : ∀ v w, Cs w v sa → Calls Try.prog 24 #[cfg n s y b, v] w fun e w' => e = .returned (.int .i64 0) ∧ Below w.heap.size w w')
    (hz : m = x.ln ∨ (old.st ≠ 0 ∧ m = old.ln ∧ p1 = false ∧ p2 = true) ∨ (z1 = z2 ∧ p1 = p2)) :
    Calls Try.prog 5 #[cfg n s y b, v, x.val, .int .i64 m] w fun e w' => e = .returned (.bool true) ∧ Below w.heap.size w w' := by
  replace P := Lib.hid P
  replace F1 := Lib.hid F1
  replace F2 := Lib.hid F2
  replace F3 := Lib.hid F3
  replace C := Lib.hid C
  have HZ := Lib.hid hz
  clear hz
  have eqx := fun w => eqWay x x w
  rw [(eqW_iff x x).2 rfl] at eqx
  have eqz := fun w => eqWay z1 z2 w
  have EZ := Lib.hid (eqW_iff z1 z2)
  generalize eqW z1 z2 = q at eqz EZ
  simp only [Wy.val] at eqx eqz
  obtain ⟨A, cp, rfl⟩ : ∃ A cp, v = .slice A ss.length cp := by obtain ⟨A, c, e, _⟩ := h; exact ⟨A, c, e⟩
  have low := Below.refl w.heap.size w
  have cb := boxNext low 44 (cfgA n s y b)
  replace low := gAlloc low (.cells (cfgA n s y b) 44)
  replace h := h.alloc (.cells (cfgA n s y b) 44)
  try simp only [World.size_alloc] at cb
  have xb := boxNext low 32 x.arr
  replace low := gAlloc low (.cells x.arr 32)
  replace h := h.alloc (.cells x.arr 32)
  replace cb := cb.alloc (.cells x.arr 32)
  try simp only [World.size_alloc] at xb
  simp only [Wy.arr] at xb
  go_enter Try.func5, Try.ntmps5
  go_wp2_with fail
  (with_reducible refine (caches_yes _).mono ?_); rintro e w1 ⟨rfl, hb⟩
  replace h := h.call hb
  replace cb := cb.call hb
  replace xb := xb.call hb
  replace low := gCall low hb
  clear hb
  have cb_0 := cb.at_ 0 rfl
  have cb_1 := cb.at_ 1 rfl
  have cb_2 := cb.at_ 2 rfl
  have cb_3 := cb.at_ 3 rfl
  have xb_0 := xb.at_ 0 rfl
  have xb_1 := xb.at_ 1 rfl
  have xb_2 := xb.at_ 2 rfl
  have xb_3 := xb.at_ 3 rfl
  have xb_4 := xb.at_ 4 rfl
  have xb_5 := xb.at_ 5 rfl
  go_wp2_with fail
  (with_reducible refine (P.out _ h).mono ?_); rintro e w2 ⟨⟨Aa, ca, rfl, ha⟩, hb⟩
  clear cb_0 cb_1 cb_2 cb_3 xb_0 xb_1 xb_2 xb_3 xb_4 xb_5
  replace h := h.call hb
  replace cb := cb.call hb
  replace xb := xb.call hb
  replace low := gCall low hb
  clear hb
  have ob := boxNext low 32 old.arr
  replace low := gAlloc low (.cells old.arr 32)
  replace h := h.alloc (.cells old.arr 32)
  replace cb := cb.alloc (.cells old.arr 32)
  replace xb := xb.alloc (.cells old.arr 32)
  replace ha := ha.alloc (.cells old.arr 32)
  try simp only [World.size_alloc] at ob
  simp only [Wy.arr] at ob
  have cb_0 := cb.at_ 0 rfl
  have cb_1 := cb.at_ 1 rfl
  have cb_2 := cb.at_ 2 rfl
  have cb_3 := cb.at_ 3 rfl
  have xb_1 := xb.at_ 1 rfl
  go_wp2_with fail
  (with_reducible refine (F1.out _ _ ha).mono ?_); rintro e w3 ⟨rfl, hb⟩
  replace h := h.call hb
  replace cb := cb.call hb
  replace xb := xb.call hb
  replace ha := ha.call hb
  replace ob := ob.call hb
  replace low := gCall low hb
  clear hb cb_0 cb_1 cb_2 cb_3 xb_1
  have fb := boxNext low 32 x.arr
  replace low := gAlloc low (.cells x.arr 32)
  replace h := h.alloc (.cells x.arr 32)
  replace cb := cb.alloc (.cells x.arr 32)
  replace xb := xb.alloc (.cells x.arr 32)
  replace ha := ha.alloc (.cells x.arr 32)
  replace ob := ob.alloc (.cells x.arr 32)
  try simp only [World.size_alloc] at fb
  simp only [Wy.arr] at fb
  have cb_0 := cb.at_ 0 rfl
  have cb_1 := cb.at_ 1 rfl
  have cb_2 := cb.at_ 2 rfl
  have cb_3 := cb.at_ 3 rfl
  go_wp2_with fail
  (with_reducible refine (F2.out _ _ ha).mono ?_); rintro e w4 ⟨rfl, hb⟩
  replace h := h.call hb
  replace cb := cb.call hb
  replace xb := xb.call hb
  replace ha := ha.call hb
  replace ob := ob.call hb
  replace fb := fb.call hb
  replace low := gCall low hb
  clear hb cb_0 cb_1 cb_2 cb_3
  have gb := boxNext low 32 z1.arr
  replace low := gAlloc low (.cells z1.arr 32)
  replace h := h.alloc (.cells z1.arr 32)
  replace cb := cb.alloc (.cells z1.arr 32)
  replace xb := xb.alloc (.cells z1.arr 32)
  replace ha := ha.alloc (.cells z1.arr 32)
  replace ob := ob.alloc (.cells z1.arr 32)
  replace fb := fb.alloc (.cells z1.arr 32)
  try simp only [World.size_alloc] at gb
  simp only [Wy.arr] at gb
  have cb_0 := cb.at_ 0 rfl
  have cb_1 := cb.at_ 1 rfl
  have cb_2 := cb.at_ 2 rfl
  have cb_3 := cb.at_ 3 rfl
  go_wp2_with fail
  (with_reducible refine (F3.out _ h).mono ?_); rintro e w5 ⟨rfl, hb⟩
  replace cb := cb.call hb
  replace xb := xb.call hb
  replace ha := ha.call hb
  replace ob := ob.call hb
  replace fb := fb.call hb
  replace gb := gb.call hb
  replace low := gCall low hb
  clear hb cb_0 cb_1 cb_2 cb_3
  have hb2 := boxNext low 32 z2.arr
  replace low := gAlloc low (.cells z2.arr 32)
  replace cb := cb.alloc (.cells z2.arr 32)
  replace xb := xb.alloc (.cells z2.arr 32)
  replace ha := ha.alloc (.cells z2.arr 32)
  replace ob := ob.alloc (.cells z2.arr 32)
  replace fb := fb.alloc (.cells z2.arr 32)
  replace gb := gb.alloc (.cells z2.arr 32)
  try simp only [World.size_alloc] at hb2
  simp only [Wy.arr] at hb2
  have cb_0 := cb.at_ 0 rfl
  have cb_1 := cb.at_ 1 rfl
  have cb_2 := cb.at_ 2 rfl
  have cb_3 := cb.at_ 3 rfl
  have xb_0 := xb.at_ 0 rfl
  have xb_1 := xb.at_ 1 rfl
  have xb_2 := xb.at_ 2 rfl
  have xb_3 := xb.at_ 3 rfl
  have xb_4 := xb.at_ 4 rfl
  have xb_5 := xb.at_ 5 rfl
  have fb_0 := fb.at_ 0 rfl
  have fb_1 := fb.at_ 1 rfl
  have fb_2 := fb.at_ 2 rfl
  have fb_3 := fb.at_ 3 rfl
  have fb_4 := fb.at_ 4 rfl
  have fb_5 := fb.at_ 5 rfl
  go_wp2_with fail
  (with_reducible refine (C.out _ _ ha).mono ?_); rintro e w6 ⟨rfl, hb6⟩
  clear cb_0 cb_1 cb_2 cb_3 xb_0 xb_1 xb_2 xb_3 xb_4 xb_5 fb_0 fb_1 fb_2 fb_3 fb_4 fb_5
  replace xb := xb.call hb6
  replace ob := ob.call hb6
  replace gb := gb.call hb6
  replace hb2 := hb2.call hb6
  replace low := gCall low hb6
  clear hb6 ha cb fb P F1 F2 F3 C
  have ee : (E != E) = false := by simp
  have xb_1 := xb.at_ 1 rfl
  have ob_0 := ob.at_ 0 rfl
  have ob_1 := ob.at_ 1 rfl
  cases hm : (m == x.ln)
  rotate_left
  · go_wp2_with fail
    go_ret
    exact ⟨rfl, low⟩
  have hm' : m ≠ x.ln := by simpa using hm
  rcases HZ.out with c | ⟨c1, c2, rfl, rfl⟩ | ⟨c1, rfl⟩
  · exact absurd c hm'
  · have c1' : (old.st != 0) = true := by simpa using c1
    have c2' : (m == old.ln) = true := by simpa using c2
    clear hm' c1 c2 HZ EZ
    go_wp2_with fail
    go_ret
    exact ⟨rfl, low⟩
  · have hq : q = true := EZ.out.2 c1
    subst hq
    have gb_0 := gb.at_ 0 rfl
    have gb_1 := gb.at_ 1 rfl
    have gb_2 := gb.at_ 2 rfl
    have gb_3 := gb.at_ 3 rfl
    have gb_4 := gb.at_ 4 rfl
    have gb_5 := gb.at_ 5 rfl
    have hb2_0 := hb2.at_ 0 rfl
    have hb2_1 := hb2.at_ 1 rfl
    have hb2_2 := hb2.at_ 2 rfl
    have hb2_3 := hb2.at_ 3 rfl
    have hb2_4 := hb2.at_ 4 rfl
    have hb2_5 := hb2.at_ 5 rfl
    clear hm' c1 HZ EZ
    have pp : (p1 == p1) = true := by simp
    cases c1 : (old.st != 0)
    · go_wp2_with fail
      go_ret
      exact ⟨rfl, low⟩
    · cases c2 : (m == old.ln)
      · go_wp2_with fail
        go_ret
        exact ⟨rfl, low⟩
      · cases p1
        · go_wp2_with fail
          go_ret
          exact ⟨rfl, low⟩
        · go_wp2_with fail
          go_ret
          exact ⟨rfl, low⟩

theorem walk (v0 v1 v2 v3 : Value) (w : World) (h0 : IsCfg v0) (h1 : IsCache w v1) (h2 : IsWay v2) (h3 : IsInt v3) :
    Calls Try.prog 5 #[v0, v1, v2, v3] w fun e w' => e = .returned (.bool true) ∧ Below w.heap.size w w' := by
  obtain ⟨n, s, y, b, rfl, _⟩ := h0
  obtain ⟨ss, cs⟩ := h1
  obtain ⟨x, rfl⟩ := h2
  obtain ⟨m, rfl, _⟩ := h3
  by_cases he : wayCE n s y b ss x = 0
  · obtain ⟨g1, g2⟩ := wayCE_ok he
    obtain ⟨k, t, hk, ht⟩ := (goodC_iff.1 g1).set_ x.ln
    by_cases hp : putE t.l t.a t.b t.c y x = 0
    · obtain ⟨j, old, hr, hj⟩ := room_in (putE_ok hp).1
      obtain ⟨sa, hsa⟩ : ∃ sa, sa = ss.set k ⟨t.l.set j x, (touchT t.a t.b t.c y j).1, (touchT t.a t.b t.c y j).2.1, (touchT t.a t.b t.c y j).2.2⟩ := ⟨_, rfl⟩
      obtain ⟨f1, f2, f3⟩ := cput_facts he hk ht hp hj sa hsa
      obtain ⟨z1, p1, E1, i1, _⟩ := cacheFind_is n s y b v1 sa m
      obtain ⟨z2, p2, E2, i2, c2⟩ := cacheFind_is n s y b v1 ss m
      obtain ⟨rfl, hz⟩ := f3 m z1 p1 E1 z2 p2 E2 i1 i2
      refine walk_good n s y b v1 ss sa x old m w cs (fun w h => ?_) (fun v w h => ?_) z1 z2 p1 p2 E1 (fun v w h => ?_) c2 (fun v w h => ?_) hz
      · refine (cachePut_ok n s y b v1 ss x k t j old w h he hk ht hp hr hj).mono ?_
        rintro e w' ⟨⟨A, c, rfl, cf⟩, hb⟩
        rw [← hsa] at cf
        exact ⟨⟨A, c, rfl, cf.cs⟩, hb⟩
      · obtain ⟨z, p, E, i, c⟩ := cacheFind_is n s y b v sa x.ln
        obtain ⟨rfl, rfl, rfl⟩ := f2 z p E i
        exact c w h
      · obtain ⟨z, p, E, i, c⟩ := cacheFind_is n s y b v sa m
        obtain ⟨rfl, rfl, rfl⟩ := i1.only i
        exact c w h
      · have := cacheCheck_any n s y b v sa w h
        rwa [f1] at this
    · exact walk_bad n s y b v1 ss x m _ w cs hp fun w h => cachePut_err n s y b v1 ss x k t w h he hk ht hp
  · exact walk_bad n s y b v1 ss x m _ w cs he fun w h => cachePut_bad n s y b v1 ss x w h he

set_option maxRecDepth 100000 in
theorem lifted (os : Os) (started : os.Started) (H : Type) (enc : TypeId × Value → H) :
    ReturnsInHanded {} Try.checked os 5 .any (Rows.cacheTurnsSpec.pre6 enc Try.prog Try.f5 Rows.cacheTurnsRow.domain false) (Rows.cacheTurnsSpec.post enc Try.prog Try.f5 false true false false) := by
  refine returnsInHanded_of_change (C := Try.checked) own started (by kernel_rfl) Try.func5
    (ChangeSpec.witness6 (enc := enc) (C := Try.checked) false ⟨#[], #[cfg 2 1 1 1, .slice none 0 0, zeroV, .int .i64 3], []⟩ 8 (by kernel_rfl) (by kernel_rfl) (by kernel_rfl) (by kernel_rfl)) ?_
  intro W base args ds gs before hval0 hW hcnd _
  have hval : ∀ (j : Nat) t v, Try.f5.params[j]? = some t → args[j]? = some v → Value.okWide Try.prog W .any base t v := hval0
  have hW' := hW
  obtain ⟨p, q, hA0, hV, rfl, hfz, hnd⟩ := hW
  have hA : DataW.TrodAll enc Try.prog W 0 (fun _ => true) true Try.f5.params.toList args.toList ds p := hA0
  rw [Try.params5] at hA hval
  obtain ⟨v0, vs0, d0, ds0, p0, q0, hargs, rfl, rfl, h0, r0⟩ := trodAll_cons hA
  obtain ⟨v1, vs1, d1, ds1, p1, q1, rfl, rfl, rfl, h1, r1⟩ := trodAll_cons r0
  obtain ⟨v2, vs2, d2, ds2, p2, q2, rfl, rfl, rfl, h2, r2⟩ := trodAll_cons r1
  obtain ⟨v3, vs3, d3, ds3, p3, q3, rfl, rfl, rfl, h3, r3⟩ := trodAll_cons r2
  obtain ⟨rfl, rfl, rfl⟩ := trodAll_nil r3
  obtain rfl : args = #[v0, v1, v2, v3] := by cases args; simp_all
  have k0 := openCfg (hval 0 44 v0 rfl rfl) h0
  have k1 := openCache (hval 1 46 v1 rfl rfl) h1
  have k2 := openWay (hval 2 32 v2 rfl rfl) h2
  have k3 := openInt (hval 3 3 v3 rfl rfl) h3
  obtain ⟨rfl, rfl⟩ := trodVars_none hV
  clear hA0 hval0
  refine (walk v0 v1 v2 v3 W k0 k1 k2 k3).mono fun e W' ⟨he, bel⟩ => ⟨_, he, ?_⟩
  exact law_post (by kernel_rfl) (by kernel_rfl) rfl hW' rfl rfl rfl bel

theorem over : Rows.cacheTurnsRow.holds Try.pinned (OpenSpec.ofChange Rows.cacheTurnsSpec) :=
  OpenClaim.holds_of_wide 5 Try.f5 rfl rfl rfl rfl rfl rfl rfl ⟨rfl, rfl, rfl, rfl, rfl⟩ rfl rfl rfl rfl rfl (by kernel_rfl) Try.func5 (by kernel_rfl)
    (of_decide_eq_true (by kernel_rfl)) (by unfold Func.isWrapper; first | (rw [if_pos (by decide +kernel)]; kernel_rfl) | (rw [if_neg (by decide +kernel)]; exact ⟨rfl, rfl⟩))
    (fun os started H enc _ => lifted os started H enc)

/-- The statement. -/
theorem cacheTurns_holds : Rows.CacheTurnsSaid := over
end Go.Proofs.Ytmodajmjmdigfaa.cacheTurns
namespace Go.Proofs.Ytmodajmjmdigfaa
theorem cacheTurns_holds : Rows.CacheTurnsSaid := cacheTurns.cacheTurns_holds
#print axioms cacheTurns_holds
end Go.Proofs.Ytmodajmjmdigfaa
