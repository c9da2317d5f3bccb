/-
Proved: the given statement MachineExplains: of what few operations told to each node an order is found without knowing when what was done. No condition.
-/
import Derived.Test.YtcegjehoejgofaaGreatMachBegun
import Derived.Test.YtcegjehoejgofaaGreatTallyLogs
import Derived.Test.YtcegjehoejgofaaGreatGood
import Derived.Test.YtcegjehoejgofaaGreatJoined8
import Derived.Test.YtcegjehoejgofaaGreatExplains
namespace Go.Proofs.YtcegjehoejgofaaGreat.machineExplains
open Go.ChangeShapes Go.WideShapes Go.ChangeAt Go.RowKit Go.Joins
set_option maxRecDepth 10000 in
set_option maxHeartbeats 8000000 in
theorem walk_any (n s y b k c : Int) (pv tv : Value) (p : List (List Dd)) (wts : List Int) (w : World) (hp : Ps w pv p) (ht : Sl w w.heap.size 1 tv wts.length (wts.map (Value.int .i64))) :
  Calls Tryz.prog 5 #[cfg n s y b, .int .i64 k, pv, tv, .int .i64 c] w fun e w' => e = .returned (.bool true) ∧ Below w.heap.size w w' := by
 have BG := Lib.hid fun w hp ht => begun_is machNew_is n s y b k c pv tv p wts w hp ht
 have EX := Lib.hid orderExplains.explain_is
 unfold orderExplains.ExplainIs at EX
 have HP := Lib.hid hp
 have HT := Lib.hid ht
 clear hp ht
 have low := Below.refl w.heap.size w
 have cb := boxNext low 23 #[.int .i64 n, .int .i64 s, .int .i64 y, .int .i64 b]
 replace low := gAlloc low (.cells #[.int .i64 n, .int .i64 s, .int .i64 y, .int .i64 b] 23)
 try simp only [World.size_alloc] at cb
 go_enter Tryz.func5, Tryz.ntmps5
 go_wp2_with fail
 (with_reducible refine (machines_true _).mono ?_); rintro e w1 ⟨rfl, hb⟩
 replace cb := cb.call hb
 replace low := gCall low hb
 clear hb
 have cb_0 := cb.at_ 0 rfl
 have cb_1 := cb.at_ 1 rfl
 have cb_2 := cb.at_ 2 rfl
 have cb_3 := cb.at_ 3 rfl
 go_wp2_with fail
 (with_reducible refine (BG.out _ (HP.out.call low) (Sl.call HT.out low)).mono ?_); rintro e w2 ⟨⟨XA, Au, nu, cu, B, rfl, sx, ox, gv⟩, hb⟩
 clear cb_0 cb_1 cb_2 cb_3
 replace cb := cb.call hb
 replace low := gCall low hb
 have GV := Lib.hid gv
 clear hb BG HT gv HP
 have xb := Box.new w2 37 XA
 replace cb := cb.alloc (.cells XA 37)
 replace low := gAlloc low (.cells XA 37)
 cases B with
 | false =>
  clear GV xb
  go_wp2_with (first | (with_reducible refine wp_newW (tyMach) ?_) | ((with_reducible refine wp_freshW (tyMach) (rfl) (sx) (ox) ?_ ?_ ?_); rfl; rfl))
  go_ret
  exact ⟨rfl, low⟩
 | true =>
  obtain ⟨X, bg, rd, el, rfl⟩ := GV.out rfl
  have ok := bg.ok
  have EL := Lib.hid (el.call (gAlloc (Below.refl w2.heap.size w2) (.cells XA 37)))
  clear GV bg rd el xb
  by_cases h12 : X.2.length ≤ 12
  ·obtain ⟨t0, x0, xs, xf⟩ := ok.explained h12
   have k12 : decide ((12 : Int) < (X.2.length : Int)) = false := decide_eq_false (by omega)
   have TL := Lib.hid fun u W h => tallyLogs_is n s y b u X.2 W h
   rw [t0] at TL
   have EX2 := Lib.hid fun u W h => EX.out zeroL u (logsL n X.2) W zeroL_length xf h
   rw [x0] at EX2
   have XS := Lib.hid xs
   clear ok t0 x0 xs xf EX h12
   have cb_0 := cb.at_ 0 rfl
   have cb_1 := cb.at_ 1 rfl
   have cb_2 := cb.at_ 2 rfl
   have cb_3 := cb.at_ 3 rfl
   go_wp2_with (first | (with_reducible refine wp_newW (tyMach) ?_) | ((with_reducible refine wp_freshW (tyMach) (rfl) (sx) (ox) ?_ ?_ ?_); rfl; rfl))
   (with_reducible refine (TL.out _ _ EL.out).mono ?_); rintro e w3 ⟨⟨A2, m2, c2, rfl, lg⟩, hb⟩
   clear cb_0 cb_1 cb_2 cb_3
   replace low := gCall low hb
   rcases lg with ⟨h, _⟩ | ⟨_, rfl, lr⟩
   ·exact absurd rfl h
   have LR := Lib.hid lr
   clear hb TL EL lr cb
   go_wp2_with fail
   (with_reducible refine (bankNew_any _).mono ?_); rintro e w4 ⟨rfl, hb⟩
   replace low := gCall low hb
   replace LR := Lib.hid (LR.out.call hb)
   clear hb
   go_wp2_with fail
   (with_reducible refine (EX2.out _ _ LR.out).mono ?_); rintro e w5 ⟨⟨A7, n7, c7, B7, rfl, ex7⟩, hb⟩
   replace low := gCall low hb
   rcases ex7 with ⟨h, _⟩ | ⟨_, hB, _, _⟩
   ·exact absurd rfl h
   obtain rfl : B7 = true := by rw [hB]; exact XS.out
   clear hb EX2 LR hB
   go_wp2_with fail
   with_reducible refine (good_yes _ 2 _ (by omega) ?_).mono ?_
   ·intro j hj
    have : j = 0 ∨ j = 1 := by omega
    rcases this with rfl | rfl <;> go_simp
   rintro e w10 ⟨rfl, rfl⟩
   replace low := gAlloc low (.cells #[.int .i64 0, .int .i64 0] 39)
   go_wp2_with fail
   go_ret
   exact ⟨rfl, low⟩
  ·have k12 : decide ((12 : Int) < (X.2.length : Int)) = true := decide_eq_true (by omega)
   have k12' : (12 : Int) < (X.2.length : Int) := by omega
   clear ok h12 EX EL
   go_wp2_with (first | (with_reducible refine wp_newW (tyMach) ?_) | ((with_reducible refine wp_freshW (tyMach) (rfl) (sx) (ox) ?_ ?_ ?_); rfl; rfl))
   go_ret
   exact ⟨rfl, low⟩
theorem walk (c k pv tv q : Value) (w : World) (hc : IsCfg c) (hk : IsInt k) (hp : IsProgs w pv) (ht : IsInts w tv) (hq : IsInt q) :
  Calls Tryz.prog 5 #[c, k, pv, tv, q] w fun e w' => e = .returned (.bool true) ∧ Below w.heap.size w w' := by
 obtain ⟨n, s, y, b, rfl, _⟩ := hc
 obtain ⟨k, rfl, _⟩ := hk
 obtain ⟨p, hp⟩ := hp
 obtain ⟨ts, ht, _⟩ := ht
 obtain ⟨q, rfl, _⟩ := hq
 exact walk_any n s y b k q pv tv p ts w hp ht
set_option maxRecDepth 100000 in
theorem lifted (os : Os) (started : os.Started) (H : Type) (enc : TypeId × Value → H) :
  ReturnsInHanded {} Tryz.checked os 5 .any (Rows.machineExplainsSpec.pre6 enc Tryz.prog Tryz.f5 Rows.machineExplainsRow.domain false) (Rows.machineExplainsSpec.post enc Tryz.prog Tryz.f5 false true false false) := by
 refine returnsInHanded_of_change (C := Tryz.checked) own started (by kernel_rfl) Tryz.func5
  (ChangeSpec.witness6 (enc := enc) (C := Tryz.checked) false ⟨#[], #[cfg 2 1 1 1, .int .i64 1, .slice none 0 0, .slice none 0 0, .int .i64 0], []⟩ 8 (by kernel_rfl) (by kernel_rfl) (by kernel_rfl) (by kernel_rfl)) ?_
 intro W base args ds gs before hval0 hW hcnd _
 have hval : ∀ (j : Nat) t v, Tryz.f5.params[j]? = some t → args[j]? = some v → Value.okWide Tryz.prog W .any base t v := hval0
 have hW' := hW
 obtain ⟨p, q, hA0, hV, rfl, hfz, hnd⟩ := hW
 have hA : DataW.TrodAll enc Tryz.prog W 0 (fun _ => true) true Tryz.f5.params.toList args.toList ds p := hA0
 rw [Tryz.params5] at hA hval
 obtain ⟨v0, vs0, d0, ds0, p0, q0, hargs, rfl, rfl, h0, r0⟩ := trodAll_cons hA
 obtain ⟨v1, vs1, d1, ds1, p1, q1, rfl, rfl, rfl, h1, r1⟩ := trodAll_cons r0
 obtain ⟨v2, vs2, d2, ds2, p2, q2, rfl, rfl, rfl, h2, r2⟩ := trodAll_cons r1
 obtain ⟨v3, vs3, d3, ds3, p3, q3, rfl, rfl, rfl, h3, r3⟩ := trodAll_cons r2
 obtain ⟨v4, vs4, d4, ds4, p4, q4, rfl, rfl, rfl, h4, r4⟩ := trodAll_cons r3
 obtain ⟨rfl, rfl, rfl⟩ := trodAll_nil r4
 obtain rfl : args = #[v0, v1, v2, v3, v4] := by cases args; simp_all
 have k0 := openCfg (hval 0 23 v0 rfl rfl) h0
 have k1 := openInt (hval 1 3 v1 rfl rfl) h1
 have k2 := openProgs (hval 2 34 v2 rfl rfl) h2
 have k3 := openInts (hval 3 35 v3 rfl rfl) h3
 have k4 := openInt (hval 4 3 v4 rfl rfl) h4
 obtain ⟨rfl, rfl⟩ := trodVars_none hV
 clear hA0 hval0
 refine (walk v0 v1 v2 v3 v4 W k0 k1 k2 k3 k4).mono fun e W' ⟨he, bel⟩ => ⟨_, he, ?_⟩
 exact law_post (by kernel_rfl) (by kernel_rfl) rfl hW' rfl rfl rfl bel
theorem over : Rows.machineExplainsRow.holds Tryz.pinned (OpenSpec.ofChange Rows.machineExplainsSpec) :=
 OpenClaim.holds_of_wide 5 Tryz.f5 rfl rfl rfl rfl rfl rfl rfl ⟨rfl, rfl, rfl, rfl, rfl⟩ rfl rfl rfl rfl rfl (by kernel_rfl) Tryz.func5 (by kernel_rfl)
  (of_decide_eq_true (by kernel_rfl)) (by unfold Func.isWrapper; first | (rw [if_pos (by decide +kernel)]; kernel_rfl) | (rw [if_neg (by decide +kernel)]; exact ⟨rfl, rfl⟩))
  (fun os started H enc _ => lifted os started H enc)
theorem machineExplains_holds : Rows.MachineExplainsSaid := over
end Go.Proofs.YtcegjehoejgofaaGreat.machineExplains
namespace Go.Proofs.YtcegjehoejgofaaGreat
theorem machineExplains_holds : Rows.MachineExplainsSaid := machineExplains.machineExplains_holds
#print axioms machineExplains_holds
end Go.Proofs.YtcegjehoejgofaaGreat
