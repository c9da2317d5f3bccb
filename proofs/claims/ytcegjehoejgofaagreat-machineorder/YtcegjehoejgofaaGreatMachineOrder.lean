/-
Proved: the given statement MachineOrder: whatever the ring and its waits are, what happened from the beginning on is one order of plain memory that keeps each program. No condition.
-/
import Derived.Test.YtcegjehoejgofaaGreatMachBegun
import Derived.Test.YtcegjehoejgofaaGreatMachTold
import Derived.Test.YtcegjehoejgofaaGreatJoined8
import Derived.Test.YtcegjehoejgofaaGreatOrderKeeps
namespace Go.Proofs.YtcegjehoejgofaaGreat.machineOrder
open Go.ChangeShapes Go.WideShapes Go.ChangeAt Go.RowKit Go.Joins
set_option maxRecDepth 10000 in
set_option maxHeartbeats 8000000 in
theorem walk_any (n s y b k c : Int) (pv tv : Value) (p : List (List Dd)) (wts : List Int) (w : World) (hp : Ps w pv p) (ht : Sl w w.heap.size 1 tv wts.length (wts.map (Value.int .i64))) :
  Calls Tryz.prog 4 #[cfg n s y b, .int .i64 k, pv, tv, .int .i64 c] w fun e w' => e = .returned (.bool true) ∧ Below w.heap.size w w' := by
 have BG := Lib.hid fun w hp ht => begun_is machNew_is n s y b k c pv tv p wts w hp ht
 have LG := Lib.hid legal_is
 unfold orderTells.LegalIs at LG
 have KP := Lib.hid keeps_is
 unfold orderTells.KeepsIs at KP
 have HP := Lib.hid hp
 have HT := Lib.hid ht
 obtain ⟨i0, hi, hz0, hz1, hz2⟩ := info_parts info_told
 have HI := Lib.hid hi
 have HZ := Lib.hid (And.intro hz0 (And.intro hz1 hz2))
 clear hp ht hi hz0 hz1 hz2
 have low := Below.refl w.heap.size w
 have cb := boxNext low 23 #[.int .i64 n, .int .i64 s, .int .i64 y, .int .i64 b]
 replace low := gAlloc low (.cells #[.int .i64 n, .int .i64 s, .int .i64 y, .int .i64 b] 23)
 try simp only [World.size_alloc] at cb
 go_enter Tryz.func4, Tryz.ntmps4
 go_wp2_with fail
 (with_reducible refine (machines_true _).mono ?_); rintro e w1 ⟨rfl, hb⟩
 replace cb := cb.call hb
 replace low := gCall low hb
 clear hb
 have cb_0 := cb.at_ 0 rfl
 have cb_1 := cb.at_ 1 rfl
 have cb_2 := cb.at_ 2 rfl
 have cb_3 := cb.at_ 3 rfl
 go_wp2_with fail
 (with_reducible refine (BG.out _ (HP.out.call low) (Sl.call HT.out low)).mono ?_); rintro e w2 ⟨⟨XA, Au, nu, cu, B, rfl, sx, ox, gv⟩, hb⟩
 clear cb_0 cb_1 cb_2 cb_3
 replace low := gCall low hb
 have GV := Lib.hid gv
 clear hb BG HT cb gv
 have xb := Box.new w2 37 XA
 replace low := gAlloc low (.cells XA 37)
 cases B with
 | false =>
  clear GV xb
  go_wp2_with (first | (with_reducible refine wp_newW (tyMach) ?_) | ((with_reducible refine wp_freshW (tyMach) (rfl) (sx) (ox) ?_ ?_ ?_); rfl; rfl))
  go_ret
  exact ⟨rfl, low⟩
 | true =>
  obtain ⟨X, bg, rd, el, rfl⟩ := GV.out rfl
  have ok := bg.ok
  obtain ⟨XA', A1, c1, e1, _, _, ks, view⟩ := machView rd
  obtain rfl : XA = XA' := by injection e1
  have M64 := Lib.hid ok.m64
  have FL := Lib.hid fun W hk => flat_ok X.1.n X.1.s X.1.y X.1.b (.slice A1 X.1.css.length c1) X.1.mem X.1.css W hk ok.m64 ok.coh
  have hG : (flatW X.1.css X.1.mem).length = 64 := flatN_length _ _ _
  replace FL : Hid (∀ W, Ks W (.slice A1 X.1.css.length c1) X.1.css → Calls Tryz.prog 7 #[cfg X.1.n X.1.s X.1.y X.1.b, wldV (.slice A1 X.1.css.length c1) X.1.mem] W fun e w' => e = .returned (.tuple #[memV (flatW X.1.css X.1.mem), .int .i64 0]) ∧ Below W.heap.size W w') := FL
  have TM := Lib.hid fun u W h => tallyMem_is zeroL zeroL_length u X.2 W h
  rw [← ok.flat, ok.fine] at TM
  generalize flatW X.1.css X.1.mem = G at *
  have EFEW := Lib.hid (Nat.le_trans ok.few (by decide : 160 ≤ 200))
  have LT := Lib.hid ok.told
  have LB := Lib.hid ok.legal
  have KE := Lib.hid ok.keepsE
  have KB := Lib.hid ok.keeps
  have VIEW := Lib.hid view
  have hL := gAlloc (Below.refl w2.heap.size w2) (.cells XA 37)
  have EL := Lib.hid (el.call hL)
  have KS := Lib.hid (ks.call hL)
  clear GV bg rd el ok ks view e1 hL
  go_wp2_with (first | (with_reducible refine wp_newW (tyMach) ?_) | ((with_reducible refine wp_freshW (tyMach) (rfl) (sx) (ox) ?_ ?_ ?_); rfl; rfl))
  generalize hw : w2.alloc (.cells XA 37) = wL at *
  clear hw
  have hL := Below.refl wL.heap.size wL
  obtain ⟨_, A9, c9, e9, q1, q2, q3⟩ := EL.out
  simp only [Value.slice.injEq, true_and] at e9
  obtain ⟨rfl, rfl⟩ := e9
  have E3 := Lib.hid q3
  unfold maxLen at q2
  clear q3
  go_loopw [14, 41] (fun mv i wr => ∃ j : Nat, j ≤ X.2.length ∧ i = .int .i64 j ∧ Hid (wr.ownsRow wL.heap.size 53 5 mv (evTd (X.2.take j)).length (elT.C (evTd (X.2.take j)))) ∧ Below wL.heap.size wL wr) (fun _ i _ => X.2.length - (intOf i).toNat)
  case atStart => exact ⟨0, Nat.zero_le _, rfl, Lib.hid (by rw [List.take_zero]; exact World.ownsRow_nil _ _ _ _), Below.refl _ _⟩
  case round =>
   obtain ⟨j, hj, rfl, hown, near⟩ := hrel
   rename World => wr
   by_cases hlt : j < X.2.length
   ·obtain ⟨b2, o2, rfl, hb2, hc2⟩ := E3.out (by omega)
    have hx : X.2[j]? = some X.2[j] := List.getElem?_eq_getElem _
    generalize X.2[j] = x at hx
    obtain ⟨c0, c1, c2, c3, c4, c5⟩ := evAt_of hc2 hb2 near hx
    have TK := Lib.hid (evTd_more hx)
    have PL0 := Lib.hid (show (evTd (X.2.take j)).length ≤ 200 by rw [evTd_length, List.length_take]; have := EFEW.out; omega)
    have j0 : (0 : Int) ≤ j := by omega
    have j1 : (j : Int) < X.2.length := by omega
    clear hx hc2
    obtain ⟨⟨dn, dk, da, dv⟩, tv, bv⟩ := x
    simp only at c0 c1 c2 c3 c4 c5 TK
    generalize evTd (X.2.take j) = P at *
    have db := Box.new wr 51 #[.int .i64 dn, .int .i64 dk, .int .i64 da, .int .u64 dv, .int .u64 tv, .bool bv]
    have ow3 := hown.out.alloc (.cells #[.int .i64 dn, .int .i64 dk, .int .i64 da, .int .u64 dv, .int .u64 tv, .bool bv] 51)
    replace near := gAlloc near (.cells #[.int .i64 dn, .int .i64 dk, .int .i64 da, .int .u64 dv, .int .u64 tv, .bool bv] 51)
    clear hown
    have db_0 := db.at_ 0 rfl
    have db_1 := db.at_ 1 rfl
    have db_2 := db.at_ 2 rfl
    have db_3 := db.at_ 3 rfl
    have db_4 := db.at_ 4 rfl
    have db_5 := db.at_ 5 rfl
    go_wp2_with (at_builtin; refine wpList_append_own _ rfl _ _ 46 rfl wL.heap.size 53 i0 (.agg #[.int .i64 0, .int .i64 0, .int .i64 0, .int .u64 0, .int .u64 0]) 5 40 Tryz.underlying46 HI.out HZ.out.1 HZ.out.2.1 HZ.out.2.2 rfl (by decide) _ _ _ rfl (ow3.alloc _) ⟨wr.heap.size + 1, 0, none⟩ 1 1 (Td.cells ⟨⟨dn, dk, da, dv⟩, tv⟩) rfl rfl ?g1 ?g2 ?g3 ?g4 ?g5 ?_)
    case g1 => exact fun q u hu => told_new2 (wr.alloc (.cells #[.int .i64 dn, .int .i64 dk, .int .i64 da, .int .u64 dv, .int .u64 tv, .bool bv] 51)) 53 ⟨⟨dn, dk, da, dv⟩, tv⟩ _ q u (by simp) hu
    case g2 => exact elT.one _
    case g3 => have := PL0.out; unfold maxLen; omega
    case g4 => have := PL0.out; omega
    case g5 => have := near.size; simp at this ⊢; omega
    intro v10 w10 own10 grow10 _
    clear db_0 db_1 db_2 db_3 db_4 db_5
    have ol := (ow3.alloc (.cells #[.int .i64 dn, .int .i64 dk, .int .i64 da, .int .u64 dv, .int .u64 tv] 53)).lt
    have near10 : Below wL.heap.size wL w10 := (gAlloc near (.cells #[.int .i64 dn, .int .i64 dk, .int .i64 da, .int .u64 dv, .int .u64 tv] 53)).grown grow10 (by have := near.size; simp at this ⊢; omega) (fun g e => (ol g e).1)
    have OW10 := Lib.hid own10
    clear ol own10 grow10 ow3 near db c0 c1 c2 c3 c4 c5
    go_wp2_with fail
    go_roundw
    case rel => exact ⟨j + 1, by omega, by go_num, Lib.hid (by rw [TK.out, List.length_append, elT.C_snoc]; exact OW10.out), near10⟩
    case measure => simp [intOf]; omega
   ·obtain rfl : j = X.2.length := by omega
    rw [List.take_length] at hown
    have TR := Lib.hid (show elT.R wr _ (evTd X.2) from Sl.ofOwn hown.out)
    obtain ⟨A7, c7, rfl⟩ := own_shape hown.out
    clear hown
    replace xb := xb.call near
    replace low := gCall low near
    replace hL := gCall hL near
    clear near E3
    have few := EFEW.out
    have k200 : decide ((200 : Int) < ((evTd X.2).length : Int)) = false := decide_eq_false (by rw [evTd_length]; omega)
    clear few EFEW
    go_wp2_with fail
    (with_reducible refine (bankNew_any _).mono ?_); rintro e w4 ⟨rfl, hb⟩
    replace xb := xb.call hb
    replace low := gCall low hb
    replace hL := gCall hL hb
    replace TR := Lib.hid (TR.out.call hb)
    clear hb
    go_wp2_with fail
    (with_reducible refine (LG.out _ _ _ _ zeroL_length TR.out).mono ?_); rintro e w5 ⟨rfl, hb⟩
    replace xb := xb.call hb
    replace low := gCall low hb
    replace hL := gCall hL hb
    replace TR := Lib.hid (TR.out.call hb)
    clear hb LG
    rw [LT.out, LB.out]
    go_wp2_with fail
    (with_reducible refine (KP.out _ _ _ _ _ (HP.out.call low) TR.out).mono ?_); rintro e w6 ⟨rfl, hb⟩
    replace xb := xb.call hb
    replace low := gCall low hb
    replace hL := gCall hL hb
    clear hb KP TR HP
    rw [KE.out, KB.out]
    obtain ⟨⟨z0, z1, z2, z3⟩, zw⟩ := VIEW.out _ _ xb
    go_wp2_with ((with_reducible refine wp_loadW (tyWorld) (zw) (wld_size M64.out) ?_ ?_ ?_); rfl; rfl)
    (with_reducible refine (FL.out _ (KS.out.call hL)).mono ?_); rintro e w7 ⟨rfl, hb⟩
    replace low := gCall low hb
    replace hL := gCall hL hb
    clear hb FL z0 z1 z2 z3 zw xb VIEW KS
    have ib := Mb.new (l := G) w7 hG
    replace low := gAlloc low (.cells (memA G) 29)
    replace hL := gAlloc hL (.cells (memA G) 29)
    go_wp2_with (first | (with_reducible refine wp_newMem ?_) | ((with_reducible refine wp_storeNew (zeroL_length) (hG) ?_ ?_ ?_); rfl; rfl))
    (with_reducible refine (bankNew_any _).mono ?_); rintro e w8 ⟨rfl, hb⟩
    replace ib := ib.call hb
    replace low := gCall low hb
    replace hL := gCall hL hb
    clear hb
    go_wp2_with fail
    (with_reducible refine (TM.out _ _ (EL.out.call hL)).mono ?_); rintro e w9 ⟨rfl, hb⟩
    replace ib := ib.call hb
    replace low := gCall low hb
    clear hb TM EL hL
    have gb := Mb.new (l := G) w9 hG
    replace ib := ib.alloc (.cells (memA G) 29)
    replace low := gAlloc low (.cells (memA G) 29)
    go_wp2_with (first | (with_reducible refine wp_newMem ?_) | ((with_reducible refine wp_storeNew (zeroL_length) (hG) ?_ ?_ ?_); rfl; rfl))
    with_reducible refine (good_yes _ 4 _ (by omega) ?_).mono ?_
    ·intro j hj
     have : j = 0 ∨ j = 1 ∨ j = 2 ∨ j = 3 := by omega
     rcases this with rfl | rfl | rfl | rfl <;> go_simp
    rintro e w10 ⟨rfl, rfl⟩
    have eqM := fun w => eqMem G G hG hG w
    have em : sameM G G = true := decide_eq_true rfl
    rw [em] at eqM
    replace ib := ib.alloc (.cells #[.int .i64 0, .int .i64 0, .int .i64 0, .int .i64 0] 39)
    replace gb := gb.alloc (.cells #[.int .i64 0, .int .i64 0, .int .i64 0, .int .i64 0] 39)
    replace low := gAlloc low (.cells #[.int .i64 0, .int .i64 0, .int .i64 0, .int .i64 0] 39)
    go_wp2_with (first | ((with_reducible refine wp_loadMem (ib) ?_ ?_ ?_); rfl; rfl) | ((with_reducible refine wp_loadMem (gb) ?_ ?_ ?_); rfl; rfl))
    go_ret
    exact ⟨rfl, low⟩
theorem walk (c k pv tv q : Value) (w : World) (hc : IsCfg c) (hk : IsInt k) (hp : IsProgs w pv) (ht : IsInts w tv) (hq : IsInt q) :
  Calls Tryz.prog 4 #[c, k, pv, tv, q] w fun e w' => e = .returned (.bool true) ∧ Below w.heap.size w w' := by
 obtain ⟨n, s, y, b, rfl, _⟩ := hc
 obtain ⟨k, rfl, _⟩ := hk
 obtain ⟨p, hp⟩ := hp
 obtain ⟨ts, ht, _⟩ := ht
 obtain ⟨q, rfl, _⟩ := hq
 exact walk_any n s y b k q pv tv p ts w hp ht
set_option maxRecDepth 100000 in
theorem lifted (os : Os) (started : os.Started) (H : Type) (enc : TypeId × Value → H) :
  ReturnsInHanded {} Tryz.checked os 4 .any (Rows.machineOrderSpec.pre6 enc Tryz.prog Tryz.f4 Rows.machineOrderRow.domain false) (Rows.machineOrderSpec.post enc Tryz.prog Tryz.f4 false true false false) := by
 refine returnsInHanded_of_change (C := Tryz.checked) own started (by kernel_rfl) Tryz.func4
  (ChangeSpec.witness6 (enc := enc) (C := Tryz.checked) false ⟨#[], #[cfg 2 1 1 1, .int .i64 1, .slice none 0 0, .slice none 0 0, .int .i64 0], []⟩ 8 (by kernel_rfl) (by kernel_rfl) (by kernel_rfl) (by kernel_rfl)) ?_
 intro W base args ds gs before hval0 hW hcnd _
 have hval : ∀ (j : Nat) t v, Tryz.f4.params[j]? = some t → args[j]? = some v → Value.okWide Tryz.prog W .any base t v := hval0
 have hW' := hW
 obtain ⟨p, q, hA0, hV, rfl, hfz, hnd⟩ := hW
 have hA : DataW.TrodAll enc Tryz.prog W 0 (fun _ => true) true Tryz.f4.params.toList args.toList ds p := hA0
 rw [Tryz.params4] at hA hval
 obtain ⟨v0, vs0, d0, ds0, p0, q0, hargs, rfl, rfl, h0, r0⟩ := trodAll_cons hA
 obtain ⟨v1, vs1, d1, ds1, p1, q1, rfl, rfl, rfl, h1, r1⟩ := trodAll_cons r0
 obtain ⟨v2, vs2, d2, ds2, p2, q2, rfl, rfl, rfl, h2, r2⟩ := trodAll_cons r1
 obtain ⟨v3, vs3, d3, ds3, p3, q3, rfl, rfl, rfl, h3, r3⟩ := trodAll_cons r2
 obtain ⟨v4, vs4, d4, ds4, p4, q4, rfl, rfl, rfl, h4, r4⟩ := trodAll_cons r3
 obtain ⟨rfl, rfl, rfl⟩ := trodAll_nil r4
 obtain rfl : args = #[v0, v1, v2, v3, v4] := by cases args; simp_all
 have k0 := openCfg (hval 0 23 v0 rfl rfl) h0
 have k1 := openInt (hval 1 3 v1 rfl rfl) h1
 have k2 := openProgs (hval 2 34 v2 rfl rfl) h2
 have k3 := openInts (hval 3 35 v3 rfl rfl) h3
 have k4 := openInt (hval 4 3 v4 rfl rfl) h4
 obtain ⟨rfl, rfl⟩ := trodVars_none hV
 clear hA0 hval0
 refine (walk v0 v1 v2 v3 v4 W k0 k1 k2 k3 k4).mono fun e W' ⟨he, bel⟩ => ⟨_, he, ?_⟩
 exact law_post (by kernel_rfl) (by kernel_rfl) rfl hW' rfl rfl rfl bel
theorem over : Rows.machineOrderRow.holds Tryz.pinned (OpenSpec.ofChange Rows.machineOrderSpec) :=
 OpenClaim.holds_of_wide 4 Tryz.f4 rfl rfl rfl rfl rfl rfl rfl ⟨rfl, rfl, rfl, rfl, rfl⟩ rfl rfl rfl rfl rfl (by kernel_rfl) Tryz.func4 (by kernel_rfl)
  (of_decide_eq_true (by kernel_rfl)) (by unfold Func.isWrapper; first | (rw [if_pos (by decide +kernel)]; kernel_rfl) | (rw [if_neg (by decide +kernel)]; exact ⟨rfl, rfl⟩))
  (fun os started H enc _ => lifted os started H enc)
theorem machineOrder_holds : Rows.MachineOrderSaid := over
end Go.Proofs.YtcegjehoejgofaaGreat.machineOrder
namespace Go.Proofs.YtcegjehoejgofaaGreat
theorem machineOrder_holds : Rows.MachineOrderSaid := machineOrder.machineOrder_holds
#print axioms machineOrder_holds
end Go.Proofs.YtcegjehoejgofaaGreat
