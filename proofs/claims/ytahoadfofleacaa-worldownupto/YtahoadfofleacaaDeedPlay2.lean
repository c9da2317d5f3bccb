/-
Proved: what Play of package deed returns where the list is short enough and the world is right; it changes nothing that was there, and what it returns is new. No other condition.
-/
import Derived.Test.YtahoadfofleacaaDeedPlay
namespace Go.Proofs.Ytahoadfofleacaa
open Go.ChangeShapes Go.WideShapes Go.ChangeAt Go.RowKit Go.Joins


/-- What holds between two operations. -/
structure Between (n s y b : Int) (F : List Int) (l : List Dd) (base gN : Nat) (k : Nat) (w : World) : Prop where
  ex : ∃ css m v B C cur, RunW n s y b F l k css m ∧ KFr w B C v css ∧ base < B ∧ C ≤ w.heap.size ∧ (gN + 1 < B ∨ C ≤ gN) ∧ Box w gN 31 (wldA v m) ∧ Box w (gN + 1) 37 cur ∧ cur.size = l.length * 5 ∧ ToldIn cur (runV F (l.take k))

set_option maxRecDepth 10000 in
set_option maxHeartbeats 1500000 in
theorem play_run (n s y b : Int) (v lv : Value) (m : List Int) (css : List (List St)) (l : List Dd) (w : World) (h : Ks w v css) (hd : Ds w lv l) (hm : m.length = 64) (hl : l.length ≤ 200) (hE : cohE n s y b css m = 0) :
    Calls Try.prog 20 #[cfg n s y b, wldV v m, lv] w (PlayD n s y b (flatW css m) l w) := by
  have C := Lib.hid fun w hw => agreeCheck_any n s y b v m css w hw hm
  rw [hE] at C
  obtain ⟨g1, g2, g3⟩ := (cohE_iff.1 hE).1
  have hcf := cfgB_iff.1 g1
  have CW := Lib.hid fun w hw => copyWorld_ok v m css w hw hm (by omega) fun ss hs => by
    have good := goodC_iff.1 (g3 ss hs)
    obtain ⟨q1, q2⟩ := good.small
    have := good.2.1
    exact ⟨by omega, q1, q2⟩
  have R0 := Lib.hid (show RunW n s y b (flatW css m) l 0 css m from ⟨hE, hm, by rw [List.take_zero]; unfold runM; rw [List.foldl_nil], by rw [List.take_zero]; unfold runE; rfl⟩)
  generalize flatW css m = F at R0 ⊢
  generalize cohL n s y b css m = L at C
  obtain ⟨hl4, A, c, rfl, d1, d2, d3⟩ := hd
  have D3 := Lib.hid d3
  unfold maxLen at d2
  have e1 : decide (200 < l.length) = false := decide_eq_false (by omega)
  have e2 : decide ((200 : Int) < l.length) = false := decide_eq_false (by omega)
  have MD := fun w => make_dones l.length hl w
  clear hE g1 g2 g3 hcf d3 hl4
  have low := Below.refl w.heap.size w
  have cb := boxNext low 23 (cfgA n s y b)
  replace low := gAlloc low (.cells (cfgA n s y b) 23)
  replace h := h.alloc (.cells (cfgA n s y b) 23)
  try simp only [World.size_alloc] at cb
  have wb := boxNext low 31 (wldA v m)
  replace low := gAlloc low (.cells (wldA v m) 31)
  replace cb := cb.alloc (.cells (wldA v m) 31)
  replace h := h.alloc (.cells (wldA v m) 31)
  try simp only [World.size_alloc] at wb
  have ob := boxNext low 31 nilW
  replace low := gAlloc low (.cells nilW 31)
  replace cb := cb.alloc (.cells nilW 31)
  replace wb := wb.alloc (.cells nilW 31)
  replace h := h.alloc (.cells nilW 31)
  try simp only [World.size_alloc] at ob
  have wr := wb.range
  go_enter Try.func20, Try.ntmps20
  go_wp2_with (first | (with_reducible refine wp_newW (tyWorld) ?_) | ((with_reducible refine wp_loadW (tyWorld) (wr) (wld_size hm) ?_ ?_ ?_); rfl; rfl))
  (with_reducible refine (C.out _ h).mono ?_); rintro e w0 ⟨rfl, hb⟩
  replace cb := cb.call hb
  replace wb := wb.call hb
  replace ob := ob.call hb
  replace h := h.call hb
  replace low := gCall low hb
  clear hb wr C
  have z0 := ob.lt
  have wr := wb.range
  go_wp2_with (first | ((with_reducible refine wp_loadW (tyWorld) (wr) (wld_size hm) ?_ ?_ ?_); rfl; rfl))
  (with_reducible refine (CW.out _ h).mono ?_); rintro e w1 ⟨⟨v', rfl, kf⟩, hb⟩
  obtain ⟨Av, cv, rfl⟩ := kf.shape
  replace cb := cb.call hb
  replace ob := ob.call hb
  replace low := gCall low hb
  have KF := Lib.hid kf
  have z01 := hb.size
  clear hb wr wb h CW kf
  have s1 : (wldA (.slice Av css.length cv) m).size = nilW.size := wld_size hm
  have one : (wldA (.slice Av css.length cv) m).all (·.oneCell') = true := wldA_one _
  have nb := boxNext low 31 (wldA (.slice Av css.length cv) m)
  replace low := gAlloc low (.cells (wldA (.slice Av css.length cv) m) 31)
  replace cb := cb.alloc (.cells (wldA (.slice Av css.length cv) m) 31)
  replace ob := ob.alloc (.cells (wldA (.slice Av css.length cv) m) 31)
  try simp only [World.size_alloc] at nb
  have fb := boxNext low 37 (newD l.length)
  replace low := gAlloc low (.cells (newD l.length) 37)
  replace cb := cb.alloc (.cells (newD l.length) 37)
  replace ob := ob.alloc (.cells (newD l.length) 37)
  replace nb := nb.alloc (.cells (newD l.length) 37)
  try simp only [World.size_alloc] at fb
  have BT := Lib.hid (show Between n s y b F l (w.heap.size + 1 + 1) w1.heap.size 0 ((w1.alloc (.cells (wldA (.slice Av css.length cv) m) 31)).alloc (.cells (newD l.length) 37)) from
    ⟨css, m, _, _, _, _, R0.out, (KF.out.alloc _).alloc _, z0, by simp; omega, .inr (Nat.le_refl _), nb, fb, newD_size _, fun j x hx => by simp [runV] at hx⟩)
  clear R0 KF nb fb
  go_wp2_with (first | (with_reducible refine wp_newW (tyWorld) ?_) | ((with_reducible refine wp_freshW (tyWorld) (rfl) (s1) (one) ?_ ?_ ?_); rfl; rfl))
  clear MD s1 one
  have z1 : w.heap.size + 1 + 1 < w1.heap.size := by omega
  go_loopw [39] (fun a wr => ∃ k : Nat, k ≤ l.length ∧ a = .int .i64 k ∧ Hid (Between n s y b F l (w.heap.size + 1 + 1) w1.heap.size k wr) ∧ Box wr w.heap.size 23 (cfgA n s y b) ∧ Box wr (w.heap.size + 1 + 1) 31 nilW ∧ Below w.heap.size w wr) (fun a _ => l.length - (intOf a).toNat)
  case atStart => exact ⟨0, Nat.zero_le _, rfl, BT, cb, ob, low⟩
  case round =>
    clear BT cb ob low
    obtain ⟨k, hk, rfl, BT, cb, ob, low⟩ := hrel
    simp only [cfgA] at cb
    obtain ⟨css2, m2, v2, B, C, cur, run, kf, hB, hC, hgN, nb, fb, csz, told⟩ := BT.out
    obtain ⟨Av2, cv2, rfl⟩ := kf.shape
    have RUN := Lib.hid run
    have KF := Lib.hid kf
    have TOLD := Lib.hid told
    have CSZ := Lib.hid csz
    have hm2 := run.len
    clear BT run kf told csz
    have s2 : (wldA (.slice Av2 css2.length cv2) m2).size = (wldA (.slice none 0 0) zeroL).size := wld_size hm2
    have nz := nb.lt
    have fz := fb.lt
    have lz := low.size
    have oz := ob.lt
    by_cases hlt : k < l.length
    · obtain ⟨bb, o, rfl, hbb, hc⟩ := D3.out (by omega)
      have hx : l[k]? = some l[k] := List.getElem?_eq_getElem _
      generalize l[k] = d at hx
      obtain ⟨c0, c1, c2, c3⟩ := deedAt_of hc hbb low hx
      have HX := Lib.hid hx
      obtain ⟨dn, dk, da, dv⟩ := d
      simp only at c0 c1 c2 c3
      have k0 : (0 : Int) ≤ k := by omega
      have k1 : (k : Int) < l.length := by omega
      have DC := Lib.hid (do_cases (n := n) (s := s) (y := y) (b := b) (css := css2) hm2 ⟨dn, dk, da, dv⟩)
      clear hx hc
      replace KF := Lib.hid (KF.out.alloc (.cells #[.int .i64 dn, .int .i64 dk, .int .i64 da, .int .u64 dv] 34))
      have db := boxNext low 34 #[.int .i64 dn, .int .i64 dk, .int .i64 da, .int .u64 dv]
      replace low := gAlloc low (.cells #[.int .i64 dn, .int .i64 dk, .int .i64 da, .int .u64 dv] 34)
      replace cb := cb.alloc (.cells #[.int .i64 dn, .int .i64 dk, .int .i64 da, .int .u64 dv] 34)
      replace ob := ob.alloc (.cells #[.int .i64 dn, .int .i64 dk, .int .i64 da, .int .u64 dv] 34)
      replace nb := nb.alloc (.cells #[.int .i64 dn, .int .i64 dk, .int .i64 da, .int .u64 dv] 34)
      replace fb := fb.alloc (.cells #[.int .i64 dn, .int .i64 dk, .int .i64 da, .int .u64 dv] 34)
      try simp only [World.size_alloc] at db
      have ks := KF.out.ks
      have nr := nb.range
      have cb_0 := cb.at_ 0 rfl
      have cb_1 := cb.at_ 1 rfl
      have cb_2 := cb.at_ 2 rfl
      have cb_3 := cb.at_ 3 rfl
      have db_0 := db.at_ 0 rfl
      have db_1 := db.at_ 1 rfl
      have db_2 := db.at_ 2 rfl
      have db_3 := db.at_ 3 rfl
      rcases DC.out with ⟨E, hE, D⟩ | ⟨he, i0, L0, css3, out, pl, did, D⟩
      · have HE := Lib.hid hE
        have g0 : (E != 0) = true := by simpa using hE
        have D := Lib.hid (D (.slice Av2 css2.length cv2))
        clear hE DC
        go_wp2_with (first | ((with_reducible refine wp_loadW (tyWorld) (nr) (s2) ?_ ?_ ?_); rfl; rfl))
        (with_reducible refine (D.out _ ks).mono ?_); rintro e w2 ⟨rfl, hb2⟩
        replace ob := ob.call hb2
        replace low := gCall low hb2
        have ozz := ob.lt
        clear hb2 c0 c1 c2 c3 nr nb fb cb db ks D
        clear cb_0 cb_1 cb_2 cb_3 db_0 db_1 db_2 db_3
        have lz2 := low.size
        have xb := boxNext low 31 nilW
        replace low := gAlloc low (.cells nilW 31)
        try simp only [World.size_alloc] at xb
        have eb := boxNext low 37 done0
        replace low := gAlloc low (.cells done0 37)
        replace xb := xb.alloc (.cells done0 37)
        try simp only [World.size_alloc] at eb
        go_wp2_with (first | (with_reducible refine wp_newW (tyWorld) ?_) | (with_reducible refine wp_newW (tyDone) ?_) | ((with_reducible refine wp_storeW (tyWorld) (xb) (rfl) (nilW_size) (nilW_one) ?_ ?_ ?_); rfl; rfl))
        intro w3 xb3 st3
        have near := st3.low (gAlloc (gAlloc (Below.refl w2.heap.size w2) (.cells nilW 31)) (.cells done0 37)) (by omega)
        replace eb := st3.box eb (by omega)
        replace low := st3.low low (by omega)
        clear st3 xb
        have eb9 : Box w3 (w2.alloc (.cells nilW 31)).heap.size 37 done0 := by simpa using eb
        go_wp2_with ((with_reducible refine wp_storeW (tyDone) (eb9) (rfl) (done0_size) (done0_one) ?_ ?_ ?_); rfl; rfl)
        intro w4 eb4 st4
        simp only [World.size_alloc] at eb4
        replace st4 : Stored w3 (w2.heap.size + 1) w4 := by simpa using st4
        clear eb9
        have xb := st4.box xb3 (by omega)
        replace near := st4.low near (by omega)
        replace low := st4.low low (by omega)
        clear st4 eb xb3
        have eb := eb4
        clear eb4
        replace ob := ob.call near
        clear xb eb near
        go_wp2_with (first | (with_reducible refine wp_zeroW (tyWorld) ?_) | ((with_reducible refine wp_storeW (tyWorld) (ob) (rfl) (nilW_size) (nilW_one) ?_ ?_ ?_); rfl; rfl))
        intro w8 ob8 st8
        replace low := st8.low low (by omega)
        clear st8 ob
        go_wp2_with fail
        exact bodyPost_ret (v := .tuple #[.agg nilW, .slice none 0 0, .int .i64 (E)]) (results_first3 tyWorld Try.results20 rfl rfl rfl ob8 rfl) rfl ⟨.inl ⟨E, HE.out, rfl⟩, low⟩
      · have D3' := D (.slice Av2 css2.length cv2)
        unfold GaveW at D3'
        obtain ⟨run3, rv3⟩ := RUN.out.next HX.out he did
        have hm3 := run3.len
        generalize keepM m2 out = m3 at D3' run3 hm3
        generalize doV (flatW css2 m2) ⟨dn, dk, da, dv⟩ = u at D3' rv3
        generalize locB (stO (fnd (css2.getD i0 []) L0)) (⟨dn, dk, da, dv⟩ : Dd).kd = f1 at D3'
        generalize (if stO (fnd (css2.getD i0 []) L0) = 0 then ownW css2 L0 else -1) = f2 at D3'
        generalize (if out.st ≠ 0 then out.ln else -1) = f3 at D3'
        generalize owB out.st = f4 at D3'
        have D4 := Lib.hid D3'
        have RUN3 := Lib.hid run3
        have RV3 := Lib.hid rv3
        clear D D3' run3 rv3 DC he pl did
        have kz := KF.out
        go_wp2_with (first | ((with_reducible refine wp_loadW (tyWorld) (nr) (s2) ?_ ?_ ?_); rfl; rfl))
        (with_reducible refine (D4.out _ ks).mono ?_); rintro e w2 ⟨⟨v3, rfl, kf3⟩, hb2⟩
        obtain ⟨A3, c3', rfl⟩ := kf3.shape
        simp only [World.size_alloc] at kf3
        have KF3 := Lib.hid kf3
        replace cb := cb.call hb2
        replace ob := ob.call hb2
        replace nb := nb.call hb2
        replace fb := fb.call hb2
        have w2z : wr.heap.size + 1 ≤ w2.heap.size := by have := hb2.size; simpa using this
        replace low := gCall low hb2
        clear hb2 c0 c1 c2 c3 nr db ks D4 kf3 kz KF
        have xs : (wldA (.slice A3 css3.length c3') m3).size = (wldA (.slice none 0 0) zeroL).size := wld_size hm3
        have xo : (wldA (.slice A3 css3.length c3') m3).all (·.oneCell') = true := wldA_one _
        have ds := done_size u f1 f2 f3 f4
        have dn1 := done_one u f1 f2 f3 f4
        have lz2 := low.size
        have xb := boxNext low 31 nilW
        replace low := gAlloc low (.cells nilW 31)
        try simp only [World.size_alloc] at xb
        have eb := boxNext low 37 done0
        replace low := gAlloc low (.cells done0 37)
        replace xb := xb.alloc (.cells done0 37)
        try simp only [World.size_alloc] at eb
        go_wp2_with (first | (with_reducible refine wp_newW (tyWorld) ?_) | (with_reducible refine wp_newW (tyDone) ?_) | ((with_reducible refine wp_storeW (tyWorld) (xb) (rfl) (xs) (xo) ?_ ?_ ?_); rfl; rfl))
        intro w3 xb3 st3
        have near := st3.low (gAlloc (gAlloc (Below.refl w2.heap.size w2) (.cells nilW 31)) (.cells done0 37)) (by omega)
        replace eb := st3.box eb (by omega)
        replace low := st3.low low (by omega)
        clear st3 xb
        have eb9 : Box w3 (w2.alloc (.cells nilW 31)).heap.size 37 done0 := by simpa using eb
        go_wp2_with ((with_reducible refine wp_storeW (tyDone) (eb9) (rfl) (ds) (dn1) ?_ ?_ ?_); rfl; rfl)
        intro w4 eb4 st4
        simp only [World.size_alloc] at eb4
        replace st4 : Stored w3 (w2.heap.size + 1) w4 := by simpa using st4
        clear eb9
        have xb := st4.box xb3 (by omega)
        replace near := st4.low near (by omega)
        replace low := st4.low low (by omega)
        clear st4 eb xb3
        have eb := eb4
        clear eb4
        replace cb := cb.call near
        replace ob := ob.call near
        replace nb := nb.call near
        replace fb := fb.call near
        replace KF3 := Lib.hid (KF3.out.call near)
        have nsz := near.size
        clear near
        go_wp2_with fail
        refine wp_region_noPanic ?_
        refine wp_region_held_drew (S := fun w' => Box w' w2.heap.size 31 (wldA (.slice A3 css3.length c3') m3) ∧ Box w' (w2.heap.size + 1) 37 (doneA u f1 f2 f3 f4)) (by kernel_rfl) ⟨xb.drew, eb.drew⟩ (fun hHeld => ?_)
        replace cb := cb.drew
        replace ob := ob.drew
        replace nb := nb.drew
        replace fb := fb.drew
        replace low := low.drew
        replace KF3 := Lib.hid (KF3.out.call (Below.refl _ _).drew)
        clear xb eb
        refine takeFirst (i := 0) (v := ?_) rfl (by kernel_rfl) (by kernel_rfl) (by kernel_rfl) (by rfl) (fun _ _ _ h => h) ?_ (by assumption) ?_
        rotate_left
        · (intro w hSw; go_simp; try (with_reducible rfl))
        try simp only [Act.put, List.setIfInBounds_toArray, List.set_cons_zero, List.set_cons_succ]
        refine takeFirst (i := 1) (v := ?_) rfl (by kernel_rfl) (by kernel_rfl) (by kernel_rfl) (by rfl) (fun _ _ _ h => h) ?_ (by assumption) ?_
        rotate_left
        · (intro w hSw; go_simp; try (with_reducible rfl))
        try simp only [Act.put, List.setIfInBounds_toArray, List.set_cons_zero, List.set_cons_succ]
        refine takeFirst (i := 2) (v := wldV (.slice A3 css3.length c3') m3) rfl (by kernel_rfl) (by kernel_rfl) (by kernel_rfl) (by rfl) (fun _ _ _ h => h) (fun _ hSw => exec_loadW tyWorld rfl (Box.range hSw.1) xs) (by assumption) ?_
        try simp only [Act.put]
        try simp only [List.setIfInBounds_toArray, List.set_cons_zero, List.set_cons_succ]
        refine takeFirst (i := 3) (v := doneV u f1 f2 f3 f4) rfl (by kernel_rfl) (by kernel_rfl) (by kernel_rfl) (by rfl) (fun _ _ _ h => h) (fun _ hSw => exec_loadW tyDone rfl (Box.range hSw.2) ds) (by assumption) ?_
        try simp only [Act.put]
        try simp only [List.setIfInBounds_toArray, List.set_cons_zero, List.set_cons_succ]
        have w4d : w4.drew.heap.size = w4.heap.size := by simp
        generalize w4.drew = wN at *
        refine stepNext (i := 4) (by kernel_rfl) rfl (by rfl) (fun K hK => ?_)
        refine wp_store_box 31 (.tmp 11) (.tmp 58) rfl _ _ rfl rfl nb (tyWorld.size.trans (congrArg some xs.symm)) (s2.trans xs.symm) xo ?_
        intro w5 nb5 st5
        replace cb := st5.box cb (by omega)
        replace ob := st5.box ob (by omega)
        replace fb := st5.box fb (by omega)
        replace low := st5.low low (by omega)
        replace KF3 := Lib.hid (KF3.out.out st5 (.inl (by omega)))
        have sz5 := st5.size
        have hN5 := And.intro (st5.box hHeld.1 (by omega)) (st5.box hHeld.2 (by omega))
        refine hK.out _ _ hN5 ?_
        clear hK K st5 nb hHeld
        try simp only [Act.put]
        try simp only [List.setIfInBounds_toArray, List.set_cons_zero, List.set_cons_succ]
        refine takeFirst (i := 5) (v := ?_) rfl (by kernel_rfl) (by kernel_rfl) (by kernel_rfl) (by rfl) (fun _ _ _ h => h) ?_ (by assumption) ?_
        rotate_left
        · (intro w hSw; go_simp; try (with_reducible rfl))
        try simp only [Act.put, List.setIfInBounds_toArray, List.set_cons_zero, List.set_cons_succ]
        refine stepNext (i := 6) (by kernel_rfl) rfl (by rfl) (fun K hK => ?_)
        refine wp_storeD (.tmp 60) (.tmp 59) rfl (w1.heap.size + 1) k l.length cur fb CSZ.out hlt u f1 f4 f2 f3 rfl rfl ?_
        intro w6 cur6 fb6 csz6 told6 st6
        replace cb := st6.box cb (by omega)
        replace ob := st6.box ob (by omega)
        replace nb5 := st6.box nb5 (by omega)
        replace low := st6.low low (by omega)
        replace KF3 := Lib.hid (KF3.out.out st6 (.inl (by omega)))
        have sz6 := st6.size
        have hN6 := And.intro (st6.box hN5.1 (by omega)) (st6.box hN5.2 (by omega))
        refine hK.out _ _ hN6 ?_
        clear hK K st6 fb hN5
        try simp only [Act.put]
        try simp only [List.setIfInBounds_toArray, List.set_cons_zero, List.set_cons_succ]
        refine wpAnyH_done (by kernel_rfl) ?_ _
        refine NoPanic.normal ?_
        have BT3 := Lib.hid (show Between n s y b F l (w.heap.size + 1 + 1) w1.heap.size (k + 1) w6 from
          ⟨css3, m3, _, _, _, cur6, RUN3.out, KF3.out, by omega, by omega, .inl (by omega), nb5, fb6, csz6, by
            rw [RV3.out]
            exact told6 _ (by rw [runV_length, List.length_take]; omega) TOLD.out⟩)
        clear nb5 fb6 csz6 told6 KF3 RUN3 RV3 hN6
        go_wp2_with fail
        go_roundw
        case rel => exact ⟨k + 1, by omega, by go_num, BT3, cb, ob, low⟩
        case measure => simp [intOf]; omega
    · obtain rfl : k = l.length := by omega
      have nr := nb.range
      have one2 : (wldA (.slice Av2 css2.length cv2) m2).all (·.oneCell') = true := wldA_one _
      go_wp2_with (first | ((with_reducible refine wp_loadW (tyWorld) (nr) (s2) ?_ ?_ ?_); rfl; rfl) | ((with_reducible refine wp_storeW (tyWorld) (ob) (rfl) (s2) (one2) ?_ ?_ ?_); rfl; rfl))
      intro w8 ob8 st8
      replace low := st8.low low (by omega)
      have KF8 := Lib.hid ((KF.out.out st8 (.inl hB)).more (B' := w.heap.size) (C' := w8.heap.size) (by omega) (by rw [st8.size]; exact hC))
      replace fb := st8.box fb (by omega)
      have PO := Lib.hid (show PlayOk n s y b F l w (.returned (.tuple #[wldV (.slice Av2 css2.length cv2) m2, .slice (some ⟨w1.heap.size + 1, 0, none⟩) l.length l.length, .int .i64 0])) w8 from
        ⟨_, css2, m2, _, cur, rfl, RUN.out, KF8.out, fb, CSZ.out, by have := TOLD.out; rwa [List.take_length] at this⟩)
      clear st8 ob nb fb nr cb
      go_wp2_with fail
      exact bodyPost_ret (v := .tuple #[wldV (.slice Av2 css2.length cv2) m2, .slice (some ⟨w1.heap.size + 1, 0, none⟩) l.length l.length, .int .i64 0]) (results_first3 tyWorld Try.results20 rfl rfl rfl ob8 s2) rfl ⟨.inr PO.out, low⟩

theorem deedPlay_is (n s y b : Int) (v lv : Value) (m : List Int) (css : List (List St)) (l : List Dd) (w : World) (h : Ks w v css) (hd : Ds w lv l) (hm : m.length = 64) :
    Calls Try.prog 20 #[cfg n s y b, wldV v m, lv] w (PlayD n s y b (flatW css m) l w) := by
  by_cases hl : 200 < l.length
  · exact play_early n s y b v lv m css l w h hd hm (.inl hl)
  · by_cases hE : cohE n s y b css m = 0
    · exact play_run n s y b v lv m css l w h hd hm (by omega) hE
    · exact play_early n s y b v lv m css l w h hd hm (.inr hE)
end Go.Proofs.Ytahoadfofleacaa
