/-
Proved: the given statement MachineOwn, in its second form: a machine that is handed in stays as it was, and what is told shares no memory with it. Condition: what the law reads is of bulk at most 1048576, as the second form says.
-/
import Derived.Test.YtgdacpcifnpojaaGreatOwnOpen
import Derived.Test.YtgdacpcifnpojaaGreatOwnPair
import Derived.Test.YtgdacpcifnpojaaGreatMachSame3
import Derived.Test.YtgdacpcifnpojaaGreatJoined8
import Derived.JoinedCond
namespace Go.Proofs.YtgdacpcifnpojaaGreat.machineOwn
open Go.ChangeShapes Go.WideShapes Go.ChangeAt Go.RowKit Go.Joins Go.Proofs.YtgdacpcifnpojaaGreat
set_option maxRecDepth 100000 in
set_option maxHeartbeats 8000000 in
theorem walk1 (c : Int) (v : Value) (M : Mc) (w : World) (h : MRead w v M) (fit : FitM M) :
  Calls Tryz.prog 7 #[v, .int .i64 c] w fun e w' => e = .returned (.bool true) ∧ Below w.heap.size w w' := by
 have ST := Lib.hid fun w h => step_new v M w h
 have RU := Lib.hid fun c w h => run_new v M w c h
 have OM := Lib.hid fun w h => ownMach_any v M w h fit
 have SM := Lib.hid fun v' w h h' => sameMach_yes v v' M w h h'
 have HR := Lib.hid h
 have m64 := h.m64
 obtain ⟨A0, c0, A1, c1, A2, c2, A3, c3, A4, c4, rfl, _, _, _, _, _⟩ := h.shape
 have sz : (mcA M.n M.s M.y M.b (.slice A0 M.css.length c0) M.mem (.slice A1 M.ring.length c1) (.slice A2 M.pr.length c2) (.slice A3 M.at_.length c3) (.slice A4 M.wts.length c4) M.had).size = (mcA 0 0 0 0 (.slice none 0 0) zeroL (.slice none 0 0) (.slice none 0 0) (.slice none 0 0) (.slice none 0 0) 0).size := by rw [mcA_size m64, mcA_size zeroL_length]
 generalize hX : mcA M.n M.s M.y M.b (.slice A0 M.css.length c0) M.mem (.slice A1 M.ring.length c1) (.slice A2 M.pr.length c2) (.slice A3 M.at_.length c3) (.slice A4 M.wts.length c4) M.had = XA at *
 clear hX h fit
 have low := Below.refl w.heap.size w
 have mb := boxNext low 37 XA
 replace low := gAlloc low (.cells XA 37)
 try simp only [World.size_alloc] at mb
 go_enter Tryz.func7, Tryz.ntmps7
 go_wp2_with fail
 (with_reducible refine (machines_true _).mono ?_); rintro e w1 ⟨rfl, hb⟩
 replace mb := mb.call hb
 replace low := gCall low hb
 clear hb
 go_wp2_with ((with_reducible refine wp_loadW (tyMach) (mb.range) (sz) ?_ ?_ ?_); rfl; rfl)
 (with_reducible refine (OM.out _ (HR.out.call low)).mono ?_); rintro e w2 ⟨⟨vb, rfl, rd⟩, hb⟩
 replace mb := mb.call hb
 replace low := gCall low hb
 clear hb OM
 obtain ⟨B0, d0, B1, d1, B2, d2, B3, d3, B4, d4, rfl, _, _, _, _, _⟩ := rd.shape
 have RD := Lib.hid rd
 have sb : (mcA M.n M.s M.y M.b (.slice B0 M.css.length d0) M.mem (.slice B1 M.ring.length d1) (.slice B2 M.pr.length d2) (.slice B3 M.at_.length d3) (.slice B4 M.wts.length d4) M.had).size = (mcA 0 0 0 0 (.slice none 0 0) zeroL (.slice none 0 0) (.slice none 0 0) (.slice none 0 0) (.slice none 0 0) 0).size := by rw [mcA_size m64, mcA_size zeroL_length]
 have ob : (mcA M.n M.s M.y M.b (.slice B0 M.css.length d0) M.mem (.slice B1 M.ring.length d1) (.slice B2 M.pr.length d2) (.slice B3 M.at_.length d3) (.slice B4 M.wts.length d4) M.had).all (·.oneCell') = true := mcA_one
 generalize hX : mcA M.n M.s M.y M.b (.slice B0 M.css.length d0) M.mem (.slice B1 M.ring.length d1) (.slice B2 M.pr.length d2) (.slice B3 M.at_.length d3) (.slice B4 M.wts.length d4) M.had = XB at *
 clear hX rd m64
 have bb := Box.new w2 37 XB
 replace mb := mb.alloc (.cells XB 37)
 have RDC := Lib.hid (RD.out.call (gAlloc (Below.refl w2.heap.size w2) (.cells XB 37)))
 replace low := gAlloc low (.cells XB 37)
 have HRC := Lib.hid (HR.out.call low)
 clear RD HR
 go_wp2_with (first | (with_reducible refine wp_newW (tyMach) ?_) | ((with_reducible refine wp_freshW (tyMach) (rfl) (sb) (ob) ?_ ?_ ?_); rfl; rfl) | ((with_reducible refine wp_loadW (tyMach) (mb.range) (sz) ?_ ?_ ?_); rfl; rfl))
 generalize w2.alloc (.cells XB 37) = wC at *
 generalize w2.heap.size = gb at *
 have MB := Lib.hid mb
 have BB := Lib.hid bb
 have LW := Lib.hid low
 clear mb bb low ob
 (with_reducible refine (ST.out _ HRC.out).mono ?_); rintro e w3 ⟨gv, near⟩
 obtain ⟨X, Au, nu, cu, rfl, shx⟩ := given_sh gv
 generalize stepE M = E1 at *
 clear gv ST
 have mr := (MB.out.call near).alloc (.cells X 37)
 have xb := Box.new w3 37 X
 have xs : X.size = (mcA 0 0 0 0 (.slice none 0 0) zeroL (.slice none 0 0) (.slice none 0 0) (.slice none 0 0) (.slice none 0 0) 0).size := by rw [shx.size.1, mcA_size zeroL_length]
 have xo := shx.size.2
 have SHX := Lib.hid (shx.bumped (Bumped.call (gAlloc (Below.refl w3.heap.size w3) (.cells X 37))))
 replace near := gAlloc near (.cells X 37)
 clear shx
 have nz := near.size
 go_wp2_with (first | ((with_reducible apply wpList_min); rfl; rfl) | (with_reducible refine wp_newW (tyMach) ?_) | ((with_reducible refine wp_freshW (tyMach) (rfl) (xs) (xo) ?_ ?_ ?_); rfl; rfl) | ((with_reducible refine wp_loadW (tyMach) (mr.range) (sz) ?_ ?_ ?_); rfl; rfl))
 generalize w3.alloc (.cells X 37) = w4 at *
 generalize w3.heap.size = gx at *
 clear mr xo
 (with_reducible refine (RU.out _ _ (HRC.out.call near)).mono ?_); rintro e w5 ⟨gv, hb⟩
 obtain ⟨Y, Av, nv, cv, rfl, shy⟩ := given_sh gv
 replace shy := shy.more nz
 clear gv RU
 generalize runE' M _ = E2 at *
 replace near := gCall near hb
 replace SHX := Lib.hid (SHX.out.bumped (Bumped.call hb))
 replace xb := xb.call hb
 clear hb nz
 have mr := (MB.out.call near).alloc (.cells Y 37)
 have br := (BB.out.call near).alloc (.cells Y 37)
 have yb := Box.new w5 37 Y
 have ys : Y.size = (mcA 0 0 0 0 (.slice none 0 0) zeroL (.slice none 0 0) (.slice none 0 0) (.slice none 0 0) (.slice none 0 0) 0).size := by rw [shy.size.1, mcA_size zeroL_length]
 have yo := shy.size.2
 have SHY := Lib.hid (shy.bumped (Bumped.call (gAlloc (Below.refl w5.heap.size w5) (.cells Y 37))))
 replace SHX := Lib.hid (SHX.out.bumped (Bumped.call (gAlloc (Below.refl w5.heap.size w5) (.cells Y 37))))
 replace near := gAlloc near (.cells Y 37)
 replace xb := xb.alloc (.cells Y 37)
 clear shy
 go_wp2_with (first | (with_reducible refine wp_newW (tyMach) ?_) | ((with_reducible refine wp_freshW (tyMach) (rfl) (ys) (yo) ?_ ?_ ?_); rfl; rfl) | ((with_reducible refine wp_loadW (tyMach) (mr.range) (sz) ?_ ?_ ?_); rfl; rfl) | ((with_reducible refine wp_loadW (tyMach) (br.range) (sb) ?_ ?_ ?_); rfl; rfl))
 generalize w5.alloc (.cells Y 37) = w6 at *
 generalize w5.heap.size = gy at *
 clear mr br yo
 (with_reducible refine (SM.out _ _ (HRC.out.call near) (RDC.out.call near)).mono ?_); rintro e wA ⟨rfl, hb⟩
 replace near := gCall near hb
 replace xb := xb.call hb
 replace yb := yb.call hb
 replace SHX := Lib.hid (SHX.out.bumped (Bumped.call hb))
 replace SHY := Lib.hid (SHY.out.bumped (Bumped.call hb))
 clear hb
 have x74 := SHX.out.size.1
 have y74 := SHY.out.size.1
 have PAT := Lib.hid fun j hj => pair_at SHX.out SHY.out j hj
 clear SHX SHY
 go_wp2_with (first | ((with_reducible refine wp_loadW (tyMach) (xb.range) (xs) ?_ ?_ ?_); rfl; rfl) | ((with_reducible refine wp_loadW (tyMach) (yb.range) (ys) ?_ ?_ ?_); rfl; rfl) | ((with_reducible refine wp_pair x74 y74 ?_ ?_ ?_); rfl; rfl))
 clear xb yb xs ys x74 y74
 go_loopw [50] (fun i wr => ∃ j : Nat, j ≤ 2 ∧ i = .int .i64 j ∧ Bumped wA wr ∧ Below wC.heap.size wC wr) (fun i _ => 2 - (intOf i).toNat)
 case atStart => exact ⟨0, Nat.zero_le _, rfl, Bumped.refl _, near⟩
 case round =>
  clear near
  obtain ⟨j, hj, rfl, bmA, near⟩ := hrel
  by_cases hlt : j < 2
  ·obtain ⟨Z, pz, sh⟩ := PAT.out j hlt
   replace sh := sh.bumped bmA
   have zs : Z.size = (mcA 0 0 0 0 (.slice none 0 0) zeroL (.slice none 0 0) (.slice none 0 0) (.slice none 0 0) (.slice none 0 0) 0).size := by rw [sh.size.1, mcA_size zeroL_length]
   have zo := sh.size.2
   replace sh := sh.bumped (Bumped.call (gAlloc (Below.refl wr.heap.size wr) (.cells Z 37)))
   replace near := gAlloc near (.cells Z 37)
   have bmD := bmA.trans (Bumped.call (gAlloc (Below.refl wr.heap.size wr) (.cells Z 37)))
   have zb := Box.new wr 37 Z
   obtain ⟨n, s, y, b, A0, k0, c0, m, A1, k1, c1, A2, k2, c2, A3, k3, c3, A4, k4, c4, hd, eZ, hm, h0, h1, h2, h3, h4⟩ := sh.ex
   have MC := Lib.hid fun (W : World) (g : Nat) (hb : Box W g 37 Z) => mach_cells (eZ ▸ hb) hm
   have H0 := Lib.hid h0
   have H1 := Lib.hid h1
   have H2 := Lib.hid h2
   have H3 := Lib.hid h3
   have H4 := Lib.hid h4
   have MW := Lib.hid fun (W : World) (g : Nat) (hb : Box W g 37 Z) => mach_wld (eZ ▸ hb)
   obtain ⟨_, z69, z70, z71, z72, _⟩ := MC.out _ _ zb
   have j0 : (0 : Int) ≤ j := by omega
   have j1 : (j : Int) < 2 := by omega
   clear sh eZ h0 h1 h2 h3 h4 hm
   go_wp2_with (first | (with_reducible refine wp_newW (tyMach) ?_) | ((with_reducible refine wp_freshW (tyMach) (rfl) (zs) (zo) ?_ ?_ ?_); rfl; rfl))
   clear z69 z70 z71 z72 zs zo pz
   generalize wr.alloc (.cells Z 37) = wD at *
   generalize wr.heap.size = gz at *
   have ZB := Lib.hid zb
   clear zb
   go_loopw [56] (fun a wx => ∃ q : Nat, q ≤ k3 ∧ a = .int .i64 q ∧ Bumped wD wx ∧ Below wC.heap.size wC wx) (fun a _ => k3 - (intOf a).toNat)
   case atStart => exact ⟨0, Nat.zero_le _, rfl, (Bumped.refl _), near⟩
   case round =>
    clear near
    obtain ⟨q, hq, rfl, bm, near⟩ := hrel
    by_cases hlq : q < k3
    ·obtain ⟨g9, cap9, zz, e9, hB, zc, zf, hmx, BM⟩ := (H3.out.bumped bm).at_ (by simp) hlq
     simp only [Value.slice.injEq, true_and] at e9
     obtain ⟨rfl, rfl⟩ := e9
     have q0 : (0 : Int) ≤ q := by omega
     have q1 : (q : Int) < k3 := by omega
     unfold maxLen at hmx
     try simp only [Nat.mul_one, Nat.add_zero] at zc zf BM
     (obtain ⟨_, z69, z70, z71, z72, _⟩ := MC.out _ _ (bm.fix _ _ _ (by decide) (by decide) (by decide) (by decide) ZB.out))
     go_wp2_with fail
     go_roundw
     case rel => exact ⟨q + 1, by omega, by go_num, bm.trans (BM _), (Stored.cell1 _ _ _).low near hB⟩
     case measure => simp [intOf]; omega
    ·obtain ⟨_, z69, z70, z71, z72, _⟩ := MC.out _ _ (bm.fix _ _ _ (by decide) (by decide) (by decide) (by decide) ZB.out)
     go_wp2_with fail
     clear z69 z70 z71 z72 hq hlq
     go_loopw [70] (fun a wx => ∃ q : Nat, q ≤ k1 ∧ a = .int .i64 q ∧ Bumped wD wx ∧ Below wC.heap.size wC wx) (fun a _ => k1 - (intOf a).toNat)
     case atStart => exact ⟨0, Nat.zero_le _, rfl, bm, near⟩
     case round =>
      clear bm near
      obtain ⟨q, hq, rfl, bm, near⟩ := hrel
      by_cases hlq : q < k1
      ·obtain ⟨g9, cap9, zz, e9, hB, zc, zf, hmx, BM⟩ := (H1.out.bumped bm).at_ (by simp) hlq
       simp only [Value.slice.injEq, true_and] at e9
       obtain ⟨rfl, rfl⟩ := e9
       have q0 : (0 : Int) ≤ q := by omega
       have q1 : (q : Int) < k1 := by omega
       unfold maxLen at hmx
       try simp only [Nat.mul_one, Nat.add_zero] at zc zf BM
       (obtain ⟨_, z69, z70, z71, z72, _⟩ := MC.out _ _ (bm.fix _ _ _ (by decide) (by decide) (by decide) (by decide) ZB.out))
       go_wp2_with fail
       go_roundw
       case rel => exact ⟨q + 1, by omega, by go_num, bm.trans (BM _), (Stored.cell1 _ _ _).low near hB⟩
       case measure => simp [intOf]; omega
      ·obtain ⟨_, z69, z70, z71, z72, _⟩ := MC.out _ _ (bm.fix _ _ _ (by decide) (by decide) (by decide) (by decide) ZB.out)
       go_wp2_with fail
       clear z69 z70 z71 z72 hq hlq
       go_loopw [86] (fun a wx => ∃ q : Nat, q ≤ k4 ∧ a = .int .i64 q ∧ Bumped wD wx ∧ Below wC.heap.size wC wx) (fun a _ => k4 - (intOf a).toNat)
       case atStart => exact ⟨0, Nat.zero_le _, rfl, bm, near⟩
       case round =>
        clear bm near
        obtain ⟨q, hq, rfl, bm, near⟩ := hrel
        by_cases hlq : q < k4
        ·obtain ⟨g9, cap9, zz, e9, hB, zc, zf, hmx, BM⟩ := (H4.out.bumped bm).at_ (by simp) hlq
         simp only [Value.slice.injEq, true_and] at e9
         obtain ⟨rfl, rfl⟩ := e9
         have q0 : (0 : Int) ≤ q := by omega
         have q1 : (q : Int) < k4 := by omega
         unfold maxLen at hmx
         try simp only [Nat.mul_one, Nat.add_zero] at zc zf BM
         (obtain ⟨_, z69, z70, z71, z72, _⟩ := MC.out _ _ (bm.fix _ _ _ (by decide) (by decide) (by decide) (by decide) ZB.out))
         go_wp2_with fail
         go_roundw
         case rel => exact ⟨q + 1, by omega, by go_num, bm.trans (BM _), (Stored.cell1 _ _ _).low near hB⟩
         case measure => simp [intOf]; omega
        ·obtain ⟨_, z69, z70, z71, z72, _⟩ := MC.out _ _ (bm.fix _ _ _ (by decide) (by decide) (by decide) (by decide) ZB.out)
         go_wp2_with fail
         clear z69 z70 z71 z72 hq hlq
         go_loopw [100] (fun a wx => ∃ q : Nat, q ≤ k2 ∧ a = .int .i64 q ∧ Bumped wD wx ∧ Below wC.heap.size wC wx) (fun a _ => k2 - (intOf a).toNat)
         case atStart => exact ⟨0, Nat.zero_le _, rfl, bm, near⟩
         case round =>
          clear bm near
          obtain ⟨i, hi, rfl, bmO, near⟩ := hrel
          by_cases hli : i < k2
          ·obtain ⟨gp, capp, Al, cl, kl, ep, pc, pm, shl⟩ := (H2.out.bumped bmO).at_ hli
           simp only [Value.slice.injEq, true_and] at ep
           obtain ⟨rfl, rfl⟩ := ep
           have SL := Lib.hid shl
           have i0' : (0 : Int) ≤ i := by omega
           have i1' : (i : Int) < k2 := by omega
           unfold maxLen at pm
           clear shl
           go_wp2_with fail
           clear pc
           rename World => wB
           go_loopw [106] (fun a wx => ∃ q : Nat, q ≤ kl ∧ a = .int .i64 q ∧ Bumped wB wx ∧ Below wC.heap.size wC wx) (fun a _ => kl - (intOf a).toNat)
           case atStart => exact ⟨0, Nat.zero_le _, rfl, (Bumped.refl _), near⟩
           case round =>
            clear near
            obtain ⟨q, hq, rfl, bm, near⟩ := hrel
            by_cases hlq : q < kl
            ·obtain ⟨g9, cap9, zz, e9, hB, zc, zf, hmx, BM⟩ := (SL.out.bumped bm).at_ (by simp) hlq
             simp only [Value.slice.injEq, true_and] at e9
             obtain ⟨rfl, rfl⟩ := e9
             have q0 : (0 : Int) ≤ q := by omega
             have q1 : (q : Int) < kl := by omega
             unfold maxLen at hmx
             try simp only [Nat.mul_one, Nat.add_zero] at zc zf BM
             skip
             go_wp2_with fail
             go_roundw
             case rel => exact ⟨q + 1, by omega, by go_num, bm.trans (BM _), (Stored.cell1 _ _ _).low near hB⟩
             case measure => simp [intOf]; omega
            ·go_wp2_with fail
             go_roundw
             case rel => exact ⟨i + 1, by omega, by go_num, bmO.trans bm, near⟩
             case measure => simp [intOf]; omega
          ·have z4 := MW.out _ _ (bmO.fix _ _ _ (by decide) (by decide) (by decide) (by decide) ZB.out) 0 (.slice A0 k0 c0) (by simp [wldA])
           simp only [Nat.add_zero] at z4
           go_wp2_with fail
           clear z4 hi hli
           go_loopw [123] (fun a wx => ∃ q : Nat, q ≤ k0 ∧ a = .int .i64 q ∧ Bumped wD wx ∧ Below wC.heap.size wC wx) (fun a _ => k0 - (intOf a).toNat)
           case atStart => exact ⟨0, Nat.zero_le _, rfl, bmO, near⟩
           case round =>
            clear bmO near
            obtain ⟨i, hi, rfl, bmO, near⟩ := hrel
            by_cases hli : i < k0
            ·obtain ⟨gp, capp, Al, cl, kl, ep, pc, pm, shl⟩ := (H0.out.bumped bmO).at_ hli
             simp only [Value.slice.injEq, true_and] at ep
             obtain ⟨rfl, rfl⟩ := ep
             have SL := Lib.hid shl
             have i0' : (0 : Int) ≤ i := by omega
             have i1' : (i : Int) < k0 := by omega
             unfold maxLen at pm
             clear shl
             go_wp2_with fail
             clear pc
             rename World => wB
             go_loopw [129] (fun a wx => ∃ q : Nat, q ≤ kl ∧ a = .int .i64 q ∧ Bumped wB wx ∧ Below wC.heap.size wC wx) (fun a _ => kl - (intOf a).toNat)
             case atStart => exact ⟨0, Nat.zero_le _, rfl, (Bumped.refl _), near⟩
             case round =>
              clear near
              obtain ⟨r, hr, rfl, bmR, near⟩ := hrel
              by_cases hlr : r < kl
              ·obtain ⟨gr, capr, Aw, cw, kw, fa, fb, fc, er, rm, e0, e1, e2, e3, shw⟩ := (SL.out.bumped bmR).at_ hlr
               simp only [Value.slice.injEq, true_and] at er
               obtain ⟨rfl, rfl⟩ := er
               have r0 : (0 : Int) ≤ r := by omega
               have r1 : (r : Int) < kl := by omega
               unfold maxLen at rm
               have grow := gAlloc (Below.refl wr.heap.size wr) (.cells #[.slice Aw kw cw, .bool fa, .bool fb, .bool fc] 77)
               have SW := Lib.hid (shw.bumped (Bumped.call grow)).shI
               have bmE := bmR.trans (Bumped.call grow)
               replace near := gAlloc near (.cells #[.slice Aw kw cw, .bool fa, .bool fb, .bool fc] 77)
               have rb := Box.new wr 77 #[.slice Aw kw cw, .bool fa, .bool fb, .bool fc]
               have rb0 := rb.at_ 0 rfl
               clear shw grow
               go_wp2_with fail
               clear e0 e1 e2 e3 rb0
               generalize wr.alloc (.cells #[.slice Aw kw cw, .bool fa, .bool fb, .bool fc] 77) = wE at *
               generalize wr.heap.size = ge at *
               have RB := Lib.hid rb
               clear rb
               go_loopw [136] (fun a wx => ∃ q : Nat, q ≤ kw ∧ a = .int .i64 q ∧ Bumped wE wx ∧ Below wC.heap.size wC wx) (fun a _ => kw - (intOf a).toNat)
               case atStart => exact ⟨0, Nat.zero_le _, rfl, (Bumped.refl _), near⟩
               case round =>
                clear near
                obtain ⟨q, hq, rfl, bm, near⟩ := hrel
                by_cases hlq : q < kw
                ·obtain ⟨g9, cap9, zz, e9, hB, zc, zf, hmx, BM⟩ := (SW.out.bumped bm).at_ (by simp) hlq
                 simp only [Value.slice.injEq, true_and] at e9
                 obtain ⟨rfl, rfl⟩ := e9
                 have q0 : (0 : Int) ≤ q := by omega
                 have q1 : (q : Int) < kw := by omega
                 unfold maxLen at hmx
                 try simp only [Nat.mul_one, Nat.add_zero] at zc zf BM
                 (have rb0 := (bm.fix _ _ _ (by decide) (by decide) (by decide) (by decide) RB.out).at_ 0 rfl)
                 go_wp2_with fail
                 go_roundw
                 case rel => exact ⟨q + 1, by omega, by go_num, bm.trans (BM _), (Stored.cell1 _ _ _).low near hB⟩
                 case measure => simp [intOf]; omega
                ·go_wp2_with fail
                 go_roundw
                 case rel => exact ⟨r + 1, by omega, by go_num, bmE.trans bm, near⟩
                 case measure => simp [intOf]; omega
              ·go_wp2_with fail
               go_roundw
               case rel => exact ⟨i + 1, by omega, by go_num, bmO.trans bmR, near⟩
               case measure => simp [intOf]; omega
            ·go_wp2_with fail
             go_roundw
             case rel => exact ⟨j + 1, by omega, by go_num, bmD.trans bmO, near⟩
             case measure => simp [intOf]; omega
  ·have mr := MB.out.call near
   have br := BB.out.call near
   go_wp2_with (first | ((with_reducible refine wp_loadW (tyMach) (mr.range) (sz) ?_ ?_ ?_); rfl; rfl) | ((with_reducible refine wp_loadW (tyMach) (br.range) (sb) ?_ ?_ ?_); rfl; rfl))
   (with_reducible refine (SM.out _ _ (HRC.out.call near) (RDC.out.call near)).mono ?_); rintro e w8 ⟨rfl, hb⟩
   have lowE := gCall LW.out (gCall near hb)
   clear hb
   go_wp2_with fail
   go_ret
   exact ⟨rfl, lowE⟩
set_option maxRecDepth 100000 in
theorem lifted (os : Os) (started : os.Started) (H : Type) (enc : TypeId × Value → H) (F : Stop.Interp) :
  ReturnsInHanded {} Tryz.checked os 7 .any ((Rows.OpenSpec.upto Rows.machineOwnSpec).pre6 enc Tryz.prog Tryz.f7 Rows.machineOwnUptoRow.domain false) (((Rows.OpenSpec.upto Rows.machineOwnSpec).at F).post enc Tryz.prog Tryz.f7 false true false false) := by
 refine returnsInHanded_of_cond (C := Tryz.checked) (s := Rows.OpenSpec.upto Rows.machineOwnSpec) (k := Rows.uptoSmall) rfl own started (by kernel_rfl) Tryz.func7
  (OpenSpec.witness (enc := enc) (C := Tryz.checked) (s := Rows.OpenSpec.upto Rows.machineOwnSpec) (k := Rows.uptoSmall) rfl false ⟨#[], #[mc0, .int .i64 0], []⟩ 8 (by kernel_rfl) (by kernel_rfl) (by kernel_rfl)
   (x := ([.agg [.agg [.lit (.int .i64 0), .lit (.int .i64 0), .lit (.int .i64 0), .lit (.int .i64 0)], .agg [.nil, .agg (List.replicate 16 (.agg (List.replicate 4 (.lit (.int .u64 0)))))], .nil, .nil, .nil, .nil, .lit (.int .i64 0)], .lit (.int .i64 0)], [], [])) (by kernel_rfl) rfl (by kernel_rfl)) ?_
 intro W base args ds gs before hval0 hW _ hk _
 have hval : ∀ (j : Nat) t v, Tryz.f7.params[j]? = some t → args[j]? = some v → Value.okWide Tryz.prog W .any base t v := hval0
 have hW' := hW
 obtain ⟨p, q, hA0, hV, rfl, hfz, hnd⟩ := hW
 have hA : DataW.TrodAll enc Tryz.prog W 0 (fun _ => true) true Tryz.f7.params.toList args.toList ds p := hA0
 rw [Tryz.params7] at hA hval
 obtain ⟨v0, vs0, d0, ds0, p0, q0, hargs, rfl, rfl, h0, r0⟩ := trodAll_cons hA
 obtain ⟨v1, vs1, d1, ds1, p1, q1, rfl, rfl, rfl, h1, r1⟩ := trodAll_cons r0
 obtain ⟨rfl, rfl, rfl⟩ := trodAll_nil r1
 obtain rfl : args = #[v0, v1] := by cases args; simp_all
 have k0 := openMB (hval 0 37 v0 rfl rfl) h0
 have k1 := openInt (hval 1 3 v1 rfl rfl) h1
 obtain ⟨rfl, rfl⟩ := trodVars_none hV
 clear hA0 hval0
 obtain ⟨M, hM, fit⟩ := k0
 obtain ⟨c, rfl, _⟩ := k1
 have hb : Rows.uptoBulkAll ([d0, d1] ++ ([] : List (DataW H))) ≤ 1048576 := of_decide_eq_true hk
 simp only [List.append_nil, Rows.uptoBulkAll] at hb
 refine (walk1 c v0 M W hM (fit (by omega))).mono fun e W' ⟨he, bel⟩ => ⟨_, he, ?_⟩
 exact law_post (by kernel_rfl) (by kernel_rfl) rfl hW' rfl rfl rfl bel
theorem over : Rows.machineOwnUptoRow.holds Tryz.pinned (Rows.OpenSpec.upto Rows.machineOwnSpec) :=
 OpenClaim.holds_of_cond 7 Tryz.f7 rfl rfl rfl rfl rfl rfl rfl ⟨rfl, rfl, rfl, rfl, rfl⟩ rfl rfl rfl rfl rfl (by kernel_rfl) Tryz.func7 (by kernel_rfl)
  (of_decide_eq_true (by kernel_rfl)) (by unfold Func.isWrapper; first | (rw [if_pos (by decide +kernel)]; kernel_rfl) | (rw [if_neg (by decide +kernel)]; exact ⟨rfl, rfl⟩))
  (fun os started H enc _ F => lifted os started H enc F)
end Go.Proofs.YtgdacpcifnpojaaGreat.machineOwn
namespace Go.Proofs.YtgdacpcifnpojaaGreat
theorem machineOwnUpto_holds : Rows.MachineOwnUptoSaid := machineOwn.over
#print axioms machineOwnUpto_holds
end Go.Proofs.YtgdacpcifnpojaaGreat
