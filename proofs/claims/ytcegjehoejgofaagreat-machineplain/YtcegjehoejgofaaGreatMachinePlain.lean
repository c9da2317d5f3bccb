/-
Proved: the given statement MachinePlain: what a step's operations tell, and the flat memory behind them, are those of the operations one after the other on plain memory. No condition.
-/
import Derived.Test.YtcegjehoejgofaaGreatMachGives
import Derived.Test.YtcegjehoejgofaaGreatMachLegal
import Derived.Test.YtcegjehoejgofaaGreatMachTold
import Derived.Test.YtcegjehoejgofaaGreatJoined8
import Derived.Test.YtcegjehoejgofaaGreatOrderFns
namespace Go.Proofs.YtcegjehoejgofaaGreat.machinePlain
open Go.ChangeShapes Go.WideShapes Go.ChangeAt Go.RowKit Go.Joins

/-- A step that goes through. -/
theorem plain_step {M : Mc} (m64 : M.mem.length = 64) (h0 : stepE M = 0) : cohE (cyc M).1.n (cyc M).1.s (cyc M).1.y (cyc M).1.b (cyc M).1.css (cyc M).1.mem = 0 ∧ (cyc M).1.mem.length = 64 ∧ (cyc M).2.length ≤ 160 ∧
    memF (cyc M).2 = 0 ∧ flatW (cyc M).1.css (cyc M).1.mem = runM (flatW M.css M.mem) (evD (cyc M).2) ∧ toldE 200 (evTd (cyc M).2) = 0 ∧ legB (flatW M.css M.mem) (evTd (cyc M).2) = true := by
  unfold stepE at h0
  by_cases hE : mcE M = 0
  · rw [if_neg (by simpa using hE)] at h0
    by_cases hf : 999991 < M.had
    · rw [if_pos hf] at h0; cases h0
    · have ok := mcE_zero.1 hE
      have mid := cyc_mid didF_ok ok m64 (by omega)
      have inv := cyc_inv didF_ok ok m64 (by omega)
      have r1 : runF didF 1 M = 0 ∨ endB M = true := by
        by_cases he : endB M = true
        · exact .inr he
        · refine .inl ?_
          unfold runF
          rw [if_neg he, if_neg hf]
          rfl
      have few : (cyc M).2.length ≤ 160 := by
        have c := cyc_left didF_ok ok m64 (by omega)
        have l1 := left_nonneg ok
        have l2 := left_nonneg mid.ok
        unfold cyc
        omega
      refine ⟨mid.ok.coh, mid.m64, few, ?_, inv.flat, inv.errs (by unfold cyc at few; omega), inv.legal⟩
      unfold memF
      rw [if_neg (by omega)]
      exact inv.good
  · rw [if_pos hE] at h0
    exact absurd h0 hE
theorem step_coh {M : Mc} (h : cohE M.n M.s M.y M.b M.css M.mem ≠ 0) : stepE M ≠ 0 := by
  have e : mcE M = cohE M.n M.s M.y M.b M.css M.mem := by
    unfold mcE
    rw [if_pos h]
  unfold stepE
  rw [e, if_pos h]
  exact h
set_option maxRecDepth 10000 in
set_option maxHeartbeats 8000000 in
theorem walk_bad (v : Value) (M : Mc) (w : World) (h : MRead w v M) (E : Int) (F : List Int) (hF : F.length = 64) (FL : Hid (∀ A c W, Ks W (.slice A M.css.length c) M.css → Calls Tryz.prog 7 #[cfg M.n M.s M.y M.b, wldV (.slice A M.css.length c) M.mem] W fun e w' => e = .returned (.tuple #[memV F, .int .i64 E]) ∧ Below W.heap.size W w'))
    (hS : stepE M ≠ 0) :
    Calls Tryz.prog 3 #[v] w fun e w' => e = .returned (.bool true) ∧ Below w.heap.size w w' := by
  have ST := Lib.hid fun w h => step_is v M w h
  have HR := Lib.hid h
  have m64 := h.m64
  obtain ⟨VA, A, c, rfl, sv, ov, ks, view⟩ := machView h
  have VIEW := Lib.hid view
  have KS := Lib.hid ks
  replace FL := Lib.hid (FL.out A c)
  clear h view ks
  have low := Below.refl w.heap.size w
  have mb := boxNext low 37 VA
  replace low := gAlloc low (.cells VA 37)
  try simp only [World.size_alloc] at mb
  go_enter Tryz.func3, Tryz.ntmps3
  go_wp2_with fail
  (with_reducible refine (machines_true _).mono ?_); rintro e w1 ⟨rfl, hb⟩
  replace mb := mb.call hb
  replace low := gCall low hb
  clear hb
  obtain ⟨⟨z0, z1, z2, z3⟩, zw⟩ := VIEW.out _ _ mb
  go_wp2_with ((with_reducible refine wp_loadW (tyWorld) (zw) (wld_size m64) ?_ ?_ ?_); rfl; rfl)
  (with_reducible refine (FL.out _ (KS.out.call low)).mono ?_); rintro e w2 ⟨rfl, hb⟩
  replace mb := mb.call hb
  replace low := gCall low hb
  clear hb FL z0 z1 z2 z3 zw
  have fb := Mb.new (l := F) w2 hF
  replace mb := mb.alloc (.cells (memA F) 29)
  replace low := gAlloc low (.cells (memA F) 29)
  have mr := mb.range
  go_wp2_with (first | (with_reducible refine wp_newMem ?_) | ((with_reducible refine wp_storeNew (zeroL_length) (hF) ?_ ?_ ?_); rfl; rfl) | ((with_reducible refine wp_loadW (tyMach) (mr) (sv) ?_ ?_ ?_); rfl; rfl))
  (with_reducible refine (ST.out _ (HR.out.call low)).mono ?_); rintro e w3 ⟨gv, hb⟩
  clear mr ST
  obtain ⟨XA, Au, nu, cu, rfl, sx, ox, ne1, _, _⟩ := gives gv
  obtain rfl : nu = 0 := ne1 hS
  have hS' : (stepE M != 0) = true := by simpa using hS
  replace low := gCall low hb
  generalize stepE M = SE at *
  clear hb gv hS ne1 mb fb
  replace low := gAlloc low (.cells XA 37)
  by_cases hE : E = 0
  · subst hE
    go_wp2_with (first | (with_reducible refine wp_newW (tyMach) ?_) | ((with_reducible refine wp_freshW (tyMach) (rfl) (sx) (ox) ?_ ?_ ?_); rfl; rfl))
    go_ret
    exact ⟨rfl, low⟩
  · have hE' : (E != 0) = true := by simpa using hE
    clear hE
    go_wp2_with (first | (with_reducible refine wp_newW (tyMach) ?_) | ((with_reducible refine wp_freshW (tyMach) (rfl) (sx) (ox) ?_ ?_ ?_); rfl; rfl))
    go_ret
    exact ⟨rfl, low⟩
set_option maxRecDepth 10000 in
set_option maxHeartbeats 8000000 in
theorem walk_good (v : Value) (M : Mc) (w : World) (h : MRead w v M) (F : List Int) (hF : F.length = 64) (eF : F = flatW M.css M.mem) (FL : Hid (∀ A c W, Ks W (.slice A M.css.length c) M.css → Calls Tryz.prog 7 #[cfg M.n M.s M.y M.b, wldV (.slice A M.css.length c) M.mem] W fun e w' => e = .returned (.tuple #[memV F, .int .i64 0]) ∧ Below W.heap.size W w'))
    (hS : stepE M = 0) :
    Calls Tryz.prog 3 #[v] w fun e w' => e = .returned (.bool true) ∧ Below w.heap.size w w' := by
  have ST := Lib.hid fun w h => step_is v M w h
  have HR := Lib.hid h
  have m64 := h.m64
  obtain ⟨VA, A, c, rfl, sv, ov, ks, view⟩ := machView h
  have VIEW := Lib.hid view
  have KS := Lib.hid ks
  replace FL := Lib.hid (FL.out A c)
  have LG := Lib.hid legal_is
  unfold orderTells.LegalIs at LG
  obtain ⟨p1, p2, p3, p4, p5, p6, p7⟩ := plain_step m64 hS
  rw [← eF] at p5 p7
  generalize hX : cyc M = X at *
  have P1 := Lib.hid p1
  have EFEW := Lib.hid (Nat.le_trans p3 (by decide : 160 ≤ 200))
  have LT := Lib.hid p6
  have LB := Lib.hid p7
  have ME := Lib.hid (show memE F X.2 = flatW X.1.css X.1.mem by unfold memE; rw [if_pos p4, p5])
  have MF := Lib.hid p4
  rw [hS] at ST
  obtain ⟨i0, hi, hz0, hz1, hz2⟩ := info_parts info_told
  have HI := Lib.hid hi
  have HZ := Lib.hid (And.intro hz0 (And.intro hz1 hz2))
  clear h view ks p1 p3 p4 p5 p6 p7 hX eF hS hi hz0 hz1 hz2
  have low := Below.refl w.heap.size w
  have mb := boxNext low 37 VA
  replace low := gAlloc low (.cells VA 37)
  try simp only [World.size_alloc] at mb
  go_enter Tryz.func3, Tryz.ntmps3
  go_wp2_with fail
  (with_reducible refine (machines_true _).mono ?_); rintro e w1 ⟨rfl, hb⟩
  replace mb := mb.call hb
  replace low := gCall low hb
  clear hb
  obtain ⟨⟨z0, z1, z2, z3⟩, zw⟩ := VIEW.out _ _ mb
  go_wp2_with ((with_reducible refine wp_loadW (tyWorld) (zw) (wld_size m64) ?_ ?_ ?_); rfl; rfl)
  (with_reducible refine (FL.out _ (KS.out.call low)).mono ?_); rintro e w2 ⟨rfl, hb⟩
  replace mb := mb.call hb
  replace low := gCall low hb
  clear hb FL z0 z1 z2 z3 zw
  have fb := Mb.new (l := F) w2 hF
  replace mb := mb.alloc (.cells (memA F) 29)
  replace low := gAlloc low (.cells (memA F) 29)
  have mr := mb.range
  go_wp2_with (first | (with_reducible refine wp_newMem ?_) | ((with_reducible refine wp_storeNew (zeroL_length) (hF) ?_ ?_ ?_); rfl; rfl) | ((with_reducible refine wp_loadW (tyMach) (mr) (sv) ?_ ?_ ?_); rfl; rfl))
  (with_reducible refine (ST.out _ (HR.out.call low)).mono ?_); rintro e w3 ⟨gv, hb⟩
  clear mr ST
  obtain ⟨u, v', e1, ⟨h0, _⟩ | ⟨_, rd, el⟩⟩ := gv
  · exact absurd rfl h0
  obtain ⟨XA, A1, c1, rfl, sx, ox, ks1, view1⟩ := machView rd
  obtain ⟨Au, cu, rfl⟩ := el.shape
  subst e1
  replace fb := fb.call hb
  replace low := gCall low hb
  have VIEW1 := Lib.hid view1
  have KS1 := Lib.hid ks1
  have EL := Lib.hid el
  have FL1 := Lib.hid fun W hk => flat_ok X.1.n X.1.s X.1.y X.1.b (.slice A1 X.1.css.length c1) X.1.mem X.1.css W hk p2 P1.out
  have hG : (flatW X.1.css X.1.mem).length = 64 := flatN_length _ _ _
  replace FL1 : Hid (∀ W, Ks W (.slice A1 X.1.css.length c1) X.1.css → Calls Tryz.prog 7 #[cfg X.1.n X.1.s X.1.y X.1.b, wldV (.slice A1 X.1.css.length c1) X.1.mem] W fun e w' => e = .returned (.tuple #[memV (flatW X.1.css X.1.mem), .int .i64 0]) ∧ Below W.heap.size W w') := FL1
  have TM := Lib.hid fun u W h => tallyMem_is F hF u X.2 W h
  rw [ME.out, MF.out] at TM
  generalize flatW X.1.css X.1.mem = G at *
  clear hb view1 ks1 el mb VIEW KS P1 rd ME MF HR
  have xb := Box.new w3 37 XA
  have hL := gAlloc (Below.refl w3.heap.size w3) (.cells XA 37)
  replace fb := fb.alloc (.cells XA 37)
  replace low := gAlloc low (.cells XA 37)
  obtain ⟨⟨z0, z1, z2, z3⟩, zw⟩ := VIEW1.out _ _ xb
  go_wp2_with (first | (with_reducible refine wp_newW (tyMach) ?_) | ((with_reducible refine wp_freshW (tyMach) (rfl) (sx) (ox) ?_ ?_ ?_); rfl; rfl) | ((with_reducible refine wp_loadW (tyWorld) (zw) (wld_size p2) ?_ ?_ ?_); rfl; rfl))
  (with_reducible refine (FL1.out _ (KS1.out.call hL)).mono ?_); rintro e w4 ⟨rfl, hb⟩
  replace fb := fb.call hb
  replace low := gCall low hb
  replace hL := gCall hL hb
  clear hb FL1 z0 z1 z2 z3 zw xb VIEW1 KS1
  have ib := Mb.new (l := G) w4 hG
  replace fb := fb.alloc (.cells (memA G) 29)
  replace low := gAlloc low (.cells (memA G) 29)
  replace hL := gAlloc hL (.cells (memA G) 29)
  go_wp2_with (first | (with_reducible refine wp_newMem ?_) | ((with_reducible refine wp_storeNew (zeroL_length) (hG) ?_ ?_ ?_); rfl; rfl) | ((with_reducible refine wp_loadMem (fb) ?_ ?_ ?_); rfl; rfl))
  (with_reducible refine (TM.out _ _ (EL.out.call hL)).mono ?_); rintro e w5 ⟨rfl, hb⟩
  replace fb := fb.call hb
  replace ib := ib.call hb
  replace low := gCall low hb
  replace hL := gCall hL hb
  clear hb TM
  have gb := Mb.new (l := G) w5 hG
  replace fb := fb.alloc (.cells (memA G) 29)
  replace ib := ib.alloc (.cells (memA G) 29)
  replace low := gAlloc low (.cells (memA G) 29)
  replace hL := gAlloc hL (.cells (memA G) 29)
  have EL2 := EL.out.call hL
  go_wp2_with (first | (with_reducible refine wp_newMem ?_) | ((with_reducible refine wp_storeNew (zeroL_length) (hG) ?_ ?_ ?_); rfl; rfl))
  generalize w5.alloc (.cells (memA G) 29) = wL at *
  clear EL hL
  obtain ⟨_, A9, c9, e9, q1, q2, q3⟩ := EL2
  simp only [Value.slice.injEq, true_and] at e9
  obtain ⟨rfl, rfl⟩ := e9
  have E3 := Lib.hid q3
  unfold maxLen at q2
  clear q3
  go_loopw [12, 58] (fun mv i wr => ∃ j : Nat, j ≤ X.2.length ∧ i = .int .i64 j ∧ Hid (wr.ownsRow wL.heap.size 53 5 mv (evTd (X.2.take j)).length (elT.C (evTd (X.2.take j)))) ∧ Below wL.heap.size wL wr) (fun _ i _ => X.2.length - (intOf i).toNat)
  case atStart => exact ⟨0, Nat.zero_le _, rfl, Lib.hid (by rw [List.take_zero]; exact World.ownsRow_nil _ _ _ _), Below.refl _ _⟩
  case round =>
    obtain ⟨j, hj, rfl, hown, near⟩ := hrel
    rename World => wr
    by_cases hlt : j < X.2.length
    · obtain ⟨b2, o2, rfl, hb2, hc2⟩ := E3.out (by omega)
      have hx : X.2[j]? = some X.2[j] := List.getElem?_eq_getElem _
      generalize X.2[j] = x at hx
      obtain ⟨c0, c1, c2, c3, c4, c5⟩ := evAt_of hc2 hb2 near hx
      have TK := Lib.hid (evTd_more hx)
      have PL0 := Lib.hid (show (evTd (X.2.take j)).length ≤ 200 by rw [evTd_length, List.length_take]; have := EFEW.out; omega)
      have j0 : (0 : Int) ≤ j := by omega
      have j1 : (j : Int) < X.2.length := by omega
      clear hx hc2
      obtain ⟨⟨dn, dk, da, dv⟩, tv, bv⟩ := x
      simp only at c0 c1 c2 c3 c4 c5 TK
      generalize evTd (X.2.take j) = P at *
      have db := Box.new wr 51 #[.int .i64 dn, .int .i64 dk, .int .i64 da, .int .u64 dv, .int .u64 tv, .bool bv]
      have ow3 := hown.out.alloc (.cells #[.int .i64 dn, .int .i64 dk, .int .i64 da, .int .u64 dv, .int .u64 tv, .bool bv] 51)
      replace near := gAlloc near (.cells #[.int .i64 dn, .int .i64 dk, .int .i64 da, .int .u64 dv, .int .u64 tv, .bool bv] 51)
      clear hown
      have db_0 := db.at_ 0 rfl
      have db_1 := db.at_ 1 rfl
      have db_2 := db.at_ 2 rfl
      have db_3 := db.at_ 3 rfl
      have db_4 := db.at_ 4 rfl
      have db_5 := db.at_ 5 rfl
      go_wp2_with (at_builtin; refine wpList_append_own _ rfl _ _ 46 rfl wL.heap.size 53 i0 (.agg #[.int .i64 0, .int .i64 0, .int .i64 0, .int .u64 0, .int .u64 0]) 5 40 Tryz.underlying46 HI.out HZ.out.1 HZ.out.2.1 HZ.out.2.2 rfl (by decide) _ _ _ rfl (ow3.alloc _) ⟨wr.heap.size + 1, 0, none⟩ 1 1 (Td.cells ⟨⟨dn, dk, da, dv⟩, tv⟩) rfl rfl ?g1 ?g2 ?g3 ?g4 ?g5 ?_)
      case g1 => exact fun q u hu => told_new2 (wr.alloc (.cells #[.int .i64 dn, .int .i64 dk, .int .i64 da, .int .u64 dv, .int .u64 tv, .bool bv] 51)) 53 ⟨⟨dn, dk, da, dv⟩, tv⟩ _ q u (by simp) hu
      case g2 => exact elT.one _
      case g3 => have := PL0.out; unfold maxLen; omega
      case g4 => have := PL0.out; omega
      case g5 => have := near.size; simp at this ⊢; omega
      intro v10 w10 own10 grow10 _
      clear db_0 db_1 db_2 db_3 db_4 db_5
      have ol := (ow3.alloc (.cells #[.int .i64 dn, .int .i64 dk, .int .i64 da, .int .u64 dv, .int .u64 tv] 53)).lt
      have near10 : Below wL.heap.size wL w10 := (gAlloc near (.cells #[.int .i64 dn, .int .i64 dk, .int .i64 da, .int .u64 dv, .int .u64 tv] 53)).grown grow10 (by have := near.size; simp at this ⊢; omega) (fun g e => (ol g e).1)
      have OW10 := Lib.hid own10
      clear ol own10 grow10 ow3 near db c0 c1 c2 c3 c4 c5
      go_wp2_with fail
      go_roundw
      case rel => exact ⟨j + 1, by omega, by go_num, Lib.hid (by rw [TK.out, List.length_append, elT.C_snoc]; exact OW10.out), near10⟩
      case measure => simp [intOf]; omega
    · obtain rfl : j = X.2.length := by omega
      rw [List.take_length] at hown
      have TR := Lib.hid (show elT.R wr _ (evTd X.2) from Sl.ofOwn hown.out)
      obtain ⟨A7, c7, rfl⟩ := own_shape hown.out
      clear hown
      replace fb := fb.call near
      replace ib := ib.call near
      replace gb := gb.call near
      replace low := gCall low near
      clear near E3 EFEW
      go_wp2_with ((with_reducible refine wp_loadMem (fb) ?_ ?_ ?_); rfl; rfl)
      (with_reducible refine (LG.out F _ _ wr hF TR.out).mono ?_); rintro e w8 ⟨rfl, hb⟩
      replace ib := ib.call hb
      replace gb := gb.call hb
      replace low := gCall low hb
      clear hb fb TR
      rw [LT.out, LB.out]
      go_wp2_with fail
      with_reducible refine (good_yes _ 3 _ (by omega) ?_).mono ?_
      · intro j hj
        have : j = 0 ∨ j = 1 ∨ j = 2 := by omega
        rcases this with rfl | rfl | rfl <;> go_simp
      rintro e w9 ⟨rfl, rfl⟩
      have eqM := fun w => eqMem G G hG hG w
      have em : sameM G G = true := decide_eq_true rfl
      rw [em] at eqM
      replace ib := ib.alloc (.cells #[.int .i64 0, .int .i64 0, .int .i64 0] 39)
      replace gb := gb.alloc (.cells #[.int .i64 0, .int .i64 0, .int .i64 0] 39)
      replace low := gAlloc low (.cells #[.int .i64 0, .int .i64 0, .int .i64 0] 39)
      go_wp2_with (first | ((with_reducible refine wp_loadMem (ib) ?_ ?_ ?_); rfl; rfl) | ((with_reducible refine wp_loadMem (gb) ?_ ?_ ?_); rfl; rfl))
      go_ret
      exact ⟨rfl, low⟩
theorem walk (v : Value) (w : World) (h : IsMach w v) : Calls Tryz.prog 3 #[v] w fun e w' => e = .returned (.bool true) ∧ Below w.heap.size w w' := by
  obtain ⟨M, h, _⟩ := h
  have m64 := h.m64
  by_cases hc : cohE M.n M.s M.y M.b M.css M.mem = 0
  · have FL := Lib.hid fun A c W hk => flat_ok M.n M.s M.y M.b (.slice A M.css.length c) M.mem M.css W hk m64 hc
    by_cases hS : stepE M = 0
    · exact walk_good v M w h _ (flatN_length _ _ _) rfl FL hS
    · exact walk_bad v M w h 0 _ (flatN_length _ _ _) FL hS
  · exact walk_bad v M w h _ zeroL zeroL_length (Lib.hid fun A c W hk => flat_bad M.n M.s M.y M.b (.slice A M.css.length c) M.mem M.css W hk m64 hc) (step_coh hc)
set_option maxRecDepth 100000 in
theorem lifted (os : Os) (started : os.Started) (H : Type) (enc : TypeId × Value → H) :
    ReturnsInHanded {} Tryz.checked os 3 .any (Rows.machinePlainSpec.pre6 enc Tryz.prog Tryz.f3 Rows.machinePlainRow.domain false) (Rows.machinePlainSpec.post enc Tryz.prog Tryz.f3 false true false false) := by
  refine returnsInHanded_of_change (C := Tryz.checked) own started (by kernel_rfl) Tryz.func3
    (ChangeSpec.witness6 (enc := enc) (C := Tryz.checked) false ⟨#[], #[mc0], []⟩ 8 (by kernel_rfl) (by kernel_rfl) (by kernel_rfl) (by kernel_rfl)) ?_
  intro W base args ds gs before hval0 hW hcnd _
  have hval : ∀ (j : Nat) t v, Tryz.f3.params[j]? = some t → args[j]? = some v → Value.okWide Tryz.prog W .any base t v := hval0
  have hW' := hW
  obtain ⟨p, q, hA0, hV, rfl, hfz, hnd⟩ := hW
  have hA : DataW.TrodAll enc Tryz.prog W 0 (fun _ => true) true Tryz.f3.params.toList args.toList ds p := hA0
  rw [Tryz.params3] at hA hval
  obtain ⟨v0, vs0, d0, ds0, p0, q0, hargs, rfl, rfl, h0, r0⟩ := trodAll_cons hA
  obtain ⟨rfl, rfl, rfl⟩ := trodAll_nil r0
  obtain rfl : args = #[v0] := by cases args; simp_all
  have k0 := openMach (hval 0 37 v0 rfl rfl) h0
  obtain ⟨rfl, rfl⟩ := trodVars_none hV
  clear hA0 hval0
  refine (walk v0 W k0).mono fun e W' ⟨he, bel⟩ => ⟨_, he, ?_⟩
  exact law_post (by kernel_rfl) (by kernel_rfl) rfl hW' rfl rfl rfl bel

theorem over : Rows.machinePlainRow.holds Tryz.pinned (OpenSpec.ofChange Rows.machinePlainSpec) :=
  OpenClaim.holds_of_wide 3 Tryz.f3 rfl rfl rfl rfl rfl rfl rfl ⟨rfl, rfl, rfl, rfl, rfl⟩ rfl rfl rfl rfl rfl (by kernel_rfl) Tryz.func3 (by kernel_rfl)
    (of_decide_eq_true (by kernel_rfl)) (by unfold Func.isWrapper; first | (rw [if_pos (by decide +kernel)]; kernel_rfl) | (rw [if_neg (by decide +kernel)]; exact ⟨rfl, rfl⟩))
    (fun os started H enc _ => lifted os started H enc)

/-- The statement. -/
theorem machinePlain_holds : Rows.MachinePlainSaid := over
end Go.Proofs.YtcegjehoejgofaaGreat.machinePlain
namespace Go.Proofs.YtcegjehoejgofaaGreat
theorem machinePlain_holds : Rows.MachinePlainSaid := machinePlain.machinePlain_holds
#print axioms machinePlain_holds
end Go.Proofs.YtcegjehoejgofaaGreat
