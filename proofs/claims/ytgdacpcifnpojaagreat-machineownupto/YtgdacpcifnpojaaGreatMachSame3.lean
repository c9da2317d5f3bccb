/-
Proved: SameMachine of the reference returns true for two that hold the same. No other condition.
-/
import Derived.Test.YtgdacpcifnpojaaGreatMachSame2
namespace Go.Proofs.YtgdacpcifnpojaaGreat
open Go.ChangeShapes Go.WideShapes Go.ChangeAt Go.RowKit Go.Joins
theorem eqCfg_self (n s y b : Int) (w : World) : (Op.equalIn 10000 23 (cfg n s y b) (cfg n s y b)).run Tryz.prog w = .ok true w := by
 have := equal_flat (P := Tryz.prog) 2 23 [.int .i64, .int .i64, .int .i64, .int .i64] (by kernel_rfl) (by kernel_rfl) 10000 (by omega) w [.int .i64 n, .int .i64 s, .int .i64 y, .int .i64 b] [.int .i64 n, .int .i64 s, .int .i64 y, .int .i64 b] (cfg n s y b) (cfg n s y b)
  ⟨⟨n, rfl⟩, ⟨s, rfl⟩, ⟨y, rfl⟩, ⟨b, rfl⟩, trivial⟩ ⟨⟨n, rfl⟩, ⟨s, rfl⟩, ⟨y, rfl⟩, ⟨b, rfl⟩, trivial⟩ (by simp [ValIs, Tryz.underlying23]) (by simp [ValIs, Tryz.underlying23])
 simpa [eqCells, scEq] using this
theorem mach_world {w : World} {g : Nat} {t : TypeId} {n s y b : Int} {u : Value} {m : List Int} {rv pv av tv : Value} {hd : Int} (h : Box w g t (mcA n s y b u m rv pv av tv hd)) : w.rangeAt g 4 (wldA u m).toList := fun j x hx => by
 refine h.at_ (4 + j) ?_
 unfold wldA at hx
 have hj := (List.getElem?_eq_some_iff.1 hx).1
 unfold mcA mcL
 rw [List.getElem?_toArray, List.append_assoc, List.getElem?_append_right (by simp), List.getElem?_append_left (by simp at hj ⊢; omega)]
 simpa using hx
set_option maxRecDepth 10000 in
set_option maxHeartbeats 4000000 in
theorem sameMach_yes (v v' : Value) (M : Mc) (w : World) (h : MRead w v M) (h' : MRead w v' M) :
  Calls Tryz.prog 16 #[v, v'] w fun e w' => e = .returned (.bool true) ∧ Below w.heap.size w w' := by
 have m64 := h.m64
 obtain ⟨A0, c0, A1, c1, A2, c2, A3, c3, A4, c4, rfl, k1, k2, k3, k4, k5⟩ := h.shape
 obtain ⟨B0, d0, B1, d1, B2, d2, B3, d3, B4, d4, rfl, l1, l2, l3, l4, l5⟩ := h'.shape
 have eqc := fun w => eqCfg_self M.n M.s M.y M.b w
 have W1 := Lib.hid fun W hW => sameWorld_yes _ _ M.mem _ W (k1.call hW) (l1.call hW) m64
 have R1 := Lib.hid fun W hW => sameRing_yes _ _ _ W (k2.call hW) (l2.call hW)
 have I1 := Lib.hid fun W hW => sameInts_yes _ _ _ _ W (Sl.call k4 hW) (Sl.call l4 hW)
 have I2 := Lib.hid fun W hW => sameInts_yes _ _ _ _ W (Sl.call k5 hW) (Sl.call l5 hW)
 have P1 := Lib.hid k3
 have P2 := Lib.hid l3
 clear h h' k1 k2 k3 k4 k5 l1 l2 l3 l4 l5
 have ah0 : (mcA M.n M.s M.y M.b (.slice A0 M.css.length c0) M.mem (.slice A1 M.ring.length c1) (.slice A2 M.pr.length c2) (.slice A3 M.at_.length c3) (.slice A4 M.wts.length c4) M.had)[0]? = some (.int .i64 M.n) := mcA_head 0 (by omega)
 have ah1 : (mcA M.n M.s M.y M.b (.slice A0 M.css.length c0) M.mem (.slice A1 M.ring.length c1) (.slice A2 M.pr.length c2) (.slice A3 M.at_.length c3) (.slice A4 M.wts.length c4) M.had)[1]? = some (.int .i64 M.s) := mcA_head 1 (by omega)
 have ah2 : (mcA M.n M.s M.y M.b (.slice A0 M.css.length c0) M.mem (.slice A1 M.ring.length c1) (.slice A2 M.pr.length c2) (.slice A3 M.at_.length c3) (.slice A4 M.wts.length c4) M.had)[2]? = some (.int .i64 M.y) := mcA_head 2 (by omega)
 have ah3 : (mcA M.n M.s M.y M.b (.slice A0 M.css.length c0) M.mem (.slice A1 M.ring.length c1) (.slice A2 M.pr.length c2) (.slice A3 M.at_.length c3) (.slice A4 M.wts.length c4) M.had)[3]? = some (.int .i64 M.b) := mcA_head 3 (by omega)
 have at0 : (mcA M.n M.s M.y M.b (.slice A0 M.css.length c0) M.mem (.slice A1 M.ring.length c1) (.slice A2 M.pr.length c2) (.slice A3 M.at_.length c3) (.slice A4 M.wts.length c4) M.had)[69]? = some (.slice A1 M.ring.length c1) := mcA_tail m64 0
 have at1 : (mcA M.n M.s M.y M.b (.slice A0 M.css.length c0) M.mem (.slice A1 M.ring.length c1) (.slice A2 M.pr.length c2) (.slice A3 M.at_.length c3) (.slice A4 M.wts.length c4) M.had)[70]? = some (.slice A2 M.pr.length c2) := mcA_tail m64 1
 have at2 : (mcA M.n M.s M.y M.b (.slice A0 M.css.length c0) M.mem (.slice A1 M.ring.length c1) (.slice A2 M.pr.length c2) (.slice A3 M.at_.length c3) (.slice A4 M.wts.length c4) M.had)[71]? = some (.slice A3 M.at_.length c3) := mcA_tail m64 2
 have at3 : (mcA M.n M.s M.y M.b (.slice A0 M.css.length c0) M.mem (.slice A1 M.ring.length c1) (.slice A2 M.pr.length c2) (.slice A3 M.at_.length c3) (.slice A4 M.wts.length c4) M.had)[72]? = some (.slice A4 M.wts.length c4) := mcA_tail m64 3
 have at4 : (mcA M.n M.s M.y M.b (.slice A0 M.css.length c0) M.mem (.slice A1 M.ring.length c1) (.slice A2 M.pr.length c2) (.slice A3 M.at_.length c3) (.slice A4 M.wts.length c4) M.had)[73]? = some (.int .i64 M.had) := mcA_tail m64 4
 have aw : ∀ (W : World) (g : Nat), Box W g 37 (mcA M.n M.s M.y M.b (.slice A0 M.css.length c0) M.mem (.slice A1 M.ring.length c1) (.slice A2 M.pr.length c2) (.slice A3 M.at_.length c3) (.slice A4 M.wts.length c4) M.had) → W.rangeAt g 4 (wldA (.slice A0 M.css.length c0) M.mem).toList := fun W g hb => mach_world hb
 have bh0 : (mcA M.n M.s M.y M.b (.slice B0 M.css.length d0) M.mem (.slice B1 M.ring.length d1) (.slice B2 M.pr.length d2) (.slice B3 M.at_.length d3) (.slice B4 M.wts.length d4) M.had)[0]? = some (.int .i64 M.n) := mcA_head 0 (by omega)
 have bh1 : (mcA M.n M.s M.y M.b (.slice B0 M.css.length d0) M.mem (.slice B1 M.ring.length d1) (.slice B2 M.pr.length d2) (.slice B3 M.at_.length d3) (.slice B4 M.wts.length d4) M.had)[1]? = some (.int .i64 M.s) := mcA_head 1 (by omega)
 have bh2 : (mcA M.n M.s M.y M.b (.slice B0 M.css.length d0) M.mem (.slice B1 M.ring.length d1) (.slice B2 M.pr.length d2) (.slice B3 M.at_.length d3) (.slice B4 M.wts.length d4) M.had)[2]? = some (.int .i64 M.y) := mcA_head 2 (by omega)
 have bh3 : (mcA M.n M.s M.y M.b (.slice B0 M.css.length d0) M.mem (.slice B1 M.ring.length d1) (.slice B2 M.pr.length d2) (.slice B3 M.at_.length d3) (.slice B4 M.wts.length d4) M.had)[3]? = some (.int .i64 M.b) := mcA_head 3 (by omega)
 have bt0 : (mcA M.n M.s M.y M.b (.slice B0 M.css.length d0) M.mem (.slice B1 M.ring.length d1) (.slice B2 M.pr.length d2) (.slice B3 M.at_.length d3) (.slice B4 M.wts.length d4) M.had)[69]? = some (.slice B1 M.ring.length d1) := mcA_tail m64 0
 have bt1 : (mcA M.n M.s M.y M.b (.slice B0 M.css.length d0) M.mem (.slice B1 M.ring.length d1) (.slice B2 M.pr.length d2) (.slice B3 M.at_.length d3) (.slice B4 M.wts.length d4) M.had)[70]? = some (.slice B2 M.pr.length d2) := mcA_tail m64 1
 have bt2 : (mcA M.n M.s M.y M.b (.slice B0 M.css.length d0) M.mem (.slice B1 M.ring.length d1) (.slice B2 M.pr.length d2) (.slice B3 M.at_.length d3) (.slice B4 M.wts.length d4) M.had)[71]? = some (.slice B3 M.at_.length d3) := mcA_tail m64 2
 have bt3 : (mcA M.n M.s M.y M.b (.slice B0 M.css.length d0) M.mem (.slice B1 M.ring.length d1) (.slice B2 M.pr.length d2) (.slice B3 M.at_.length d3) (.slice B4 M.wts.length d4) M.had)[72]? = some (.slice B4 M.wts.length d4) := mcA_tail m64 3
 have bt4 : (mcA M.n M.s M.y M.b (.slice B0 M.css.length d0) M.mem (.slice B1 M.ring.length d1) (.slice B2 M.pr.length d2) (.slice B3 M.at_.length d3) (.slice B4 M.wts.length d4) M.had)[73]? = some (.int .i64 M.had) := mcA_tail m64 4
 have bw : ∀ (W : World) (g : Nat), Box W g 37 (mcA M.n M.s M.y M.b (.slice B0 M.css.length d0) M.mem (.slice B1 M.ring.length d1) (.slice B2 M.pr.length d2) (.slice B3 M.at_.length d3) (.slice B4 M.wts.length d4) M.had) → W.rangeAt g 4 (wldA (.slice B0 M.css.length d0) M.mem).toList := fun W g hb => mach_world hb
 generalize mcA M.n M.s M.y M.b (.slice A0 M.css.length c0) M.mem (.slice A1 M.ring.length c1) (.slice A2 M.pr.length c2) (.slice A3 M.at_.length c3) (.slice A4 M.wts.length c4) M.had = XA at *
 generalize mcA M.n M.s M.y M.b (.slice B0 M.css.length d0) M.mem (.slice B1 M.ring.length d1) (.slice B2 M.pr.length d2) (.slice B3 M.at_.length d3) (.slice B4 M.wts.length d4) M.had = XB at *
 have low := Below.refl w.heap.size w
 have wb := boxNext low 37 XA
 replace low := gAlloc low (.cells XA 37)
 try simp only [World.size_alloc] at wb
 have xb := boxNext low 37 XB
 replace low := gAlloc low (.cells XB 37)
 replace wb := wb.alloc (.cells XB 37)
 try simp only [World.size_alloc] at xb
 have g0 := wb.at_ 0 ah0
 have g1 := wb.at_ 1 ah1
 have g2 := wb.at_ 2 ah2
 have g3 := wb.at_ 3 ah3
 have g69 := wb.at_ 69 at0
 have g70 := wb.at_ 70 at1
 have g71 := wb.at_ 71 at2
 have g72 := wb.at_ 72 at3
 have g73 := wb.at_ 73 at4
 have f0 := xb.at_ 0 bh0
 have f1 := xb.at_ 1 bh1
 have f2 := xb.at_ 2 bh2
 have f3 := xb.at_ 3 bh3
 have f69 := xb.at_ 69 bt0
 have f70 := xb.at_ 70 bt1
 have f71 := xb.at_ 71 bt2
 have f72 := xb.at_ 72 bt3
 have f73 := xb.at_ 73 bt4
 have ww := aw _ _ wb
 have xw := bw _ _ xb
 clear aw bw
 go_enter Tryz.func16, Tryz.ntmps16
 go_wp2_with (first | ((with_reducible refine wp_loadW (tyWorld) (ww) (wld_size m64) ?_ ?_ ?_); rfl; rfl) | ((with_reducible refine wp_loadW (tyWorld) (xw) (wld_size m64) ?_ ?_ ?_); rfl; rfl))
 (with_reducible refine (W1.out _ low).mono ?_); rintro e w1 ⟨rfl, hb⟩
 clear g0 g1 g2 g3 g69 g70 g71 g72 g73 f0 f1 f2 f3 f69 f70 f71 f72 f73 ww xw eqc W1
 replace wb := wb.call hb
 replace xb := xb.call hb
 replace low := gCall low hb
 clear hb
 have g69 := wb.at_ 69 at0
 have f69 := xb.at_ 69 bt0
 go_wp2_with fail
 (with_reducible refine (R1.out _ low).mono ?_); rintro e w2 ⟨rfl, hb⟩
 clear g69 f69 R1
 replace wb := wb.call hb
 replace xb := xb.call hb
 replace low := gCall low hb
 clear hb
 have g70 := wb.at_ 70 at1
 have g73 := wb.at_ 73 at4
 have g71 := wb.at_ 71 at2
 have f70 := xb.at_ 70 bt1
 have f73 := xb.at_ 73 bt4
 have f71 := xb.at_ 71 bt2
 go_wp2_with fail
 (with_reducible refine (I1.out _ low).mono ?_); rintro e w3 ⟨rfl, hb⟩
 clear g70 f70 g71 f71 g73 f73 I1
 replace wb := wb.call hb
 replace xb := xb.call hb
 replace low := gCall low hb
 clear hb
 have g72 := wb.at_ 72 at3
 have f72 := xb.at_ 72 bt3
 go_wp2_with fail
 (with_reducible refine (I2.out _ low).mono ?_); rintro e w4 ⟨rfl, hb⟩
 clear g72 f72 I2
 replace wb := wb.call hb
 replace xb := xb.call hb
 replace low := gCall low hb
 clear hb
 have g70 := wb.at_ 70 at1
 have f70 := xb.at_ 70 bt1
 obtain ⟨_, _, ea, u1, u2, u3⟩ := P1.out.ex
 obtain ⟨_, _, eb, v1, v2, v3⟩ := P2.out.ex
 injection ea with ea1 _ ea3
 injection eb with eb1 _ eb3
 subst ea1 ea3 eb1 eb3
 unfold maxLen at u2 v2
 have H3 := Lib.hid u3
 have H3' := Lib.hid v3
 clear u3 v3
 go_wp2_with fail
 have WB := Lib.hid wb
 have XB' := Lib.hid xb
 have LW := Lib.hid low
 clear wb xb g70 f70
 go_loopw [62] (fun i wr => ∃ j : Nat, j ≤ M.pr.length ∧ i = .int .i64 j ∧ Below w4.heap.size w4 wr) (fun i _ => M.pr.length - (intOf i).toNat)
 case atStart => exact ⟨0, Nat.zero_le _, rfl, Below.refl _ _⟩
 case round =>
  obtain ⟨j, hj, rfl, near⟩ := hrel
  clear low
  have low := gCall LW.out near
  by_cases hlt : j < M.pr.length
  ·obtain ⟨b1, o1, rfl, hb1, hc1⟩ := H3.out (by omega)
   obtain ⟨b2, o2, rfl, hb2, hc2⟩ := H3'.out (by omega)
   have hx : M.pr[j]? = some M.pr[j] := List.getElem?_eq_getElem _
   generalize M.pr[j] = t at hx
   obtain ⟨A5, c5, p1, cs1⟩ := hc1 j t hx
   obtain ⟨B5, d5, q1, cs2⟩ := hc2 j t hx
   have wc := (WB.out.call near).at_ 70 at1
   have xc := (XB'.out.call near).at_ 70 bt1
   replace p1 := (low.cell (p := ⟨b1, o1 + j, none⟩) hb1).trans p1
   replace q1 := (low.cell (p := ⟨b2, o2 + j, none⟩) hb2).trans q1
   have S := Lib.hid (sameDeeds_yes (.slice A5 t.length c5) (.slice B5 t.length d5) t wr.drew (cs1.call low).drew (cs2.call low).drew)
   have k0 : (0 : Int) ≤ j := by omega
   have k1 : (j : Int) < M.pr.length := by omega
   clear hx hc1 hc2 cs1 cs2
   go_wp2_with fail
   refine wp_region_noPanic ?_
   refine wp_region_held_drew (S := fun w' => w'.cell? ⟨w.heap.size, 70, none⟩ = some (.slice (some ⟨b1, o1, none⟩) M.pr.length c2) ∧ w'.cell? ⟨w.heap.size + 1, 70, none⟩ = some (.slice (some ⟨b2, o2, none⟩) M.pr.length d2) ∧ w'.cell? ⟨b1, o1 + j, none⟩ = some (.slice A5 t.length c5) ∧ w'.cell? ⟨b2, o2 + j, none⟩ = some (.slice B5 t.length d5)) (by kernel_rfl) ⟨drewC wc, drewC xc, drewC p1, drewC q1⟩ (fun hHeld => ?_)
   refine takeA 0 ?_ rfl ?_ ?_; rotate_left
   ·(intro w hSw; go_simp; try (with_reducible rfl))
   try simp only [Act.put, List.setIfInBounds_toArray, List.set_cons_zero, List.set_cons_succ]
   refine takeA 1 ?_ rfl ?_ ?_; rotate_left
   ·(intro w hSw; go_simp; try (with_reducible rfl))
   try simp only [Act.put, List.setIfInBounds_toArray, List.set_cons_zero, List.set_cons_succ]
   refine takeA 2 ?_ rfl ?_ ?_; rotate_left
   ·(intro w hSw; go_simp; try (with_reducible rfl))
   try simp only [Act.put, List.setIfInBounds_toArray, List.set_cons_zero, List.set_cons_succ]
   refine takeA 3 ?_ rfl ?_ ?_; rotate_left
   ·(intro w hSw; go_simp; try (with_reducible rfl))
   try simp only [Act.put, List.setIfInBounds_toArray, List.set_cons_zero, List.set_cons_succ]
   refine takeA 4 ?_ rfl ?_ ?_; rotate_left
   ·(intro w hSw; go_simp; try (with_reducible rfl))
   try simp only [Act.put, List.setIfInBounds_toArray, List.set_cons_zero, List.set_cons_succ]
   refine takeA 5 ?_ rfl ?_ ?_; rotate_left
   ·(intro w hSw; go_simp; try (with_reducible rfl))
   try simp only [Act.put, List.setIfInBounds_toArray, List.set_cons_zero, List.set_cons_succ]
   refine takeA 6 ?_ rfl ?_ ?_; rotate_left
   ·(intro w hSw; go_simp; try (with_reducible rfl))
   try simp only [Act.put, List.setIfInBounds_toArray, List.set_cons_zero, List.set_cons_succ]
   refine takeA 7 ?_ rfl ?_ ?_; rotate_left
   ·(intro w hSw; go_simp; try (with_reducible rfl))
   try simp only [Act.put, List.setIfInBounds_toArray, List.set_cons_zero, List.set_cons_succ]
   refine takeA 8 ?_ rfl ?_ ?_; rotate_left
   ·(intro w hSw; go_simp; try (with_reducible rfl))
   try simp only [Act.put, List.setIfInBounds_toArray, List.set_cons_zero, List.set_cons_succ]
   refine takeA 9 ?_ rfl ?_ ?_; rotate_left
   ·(intro w hSw; go_simp; try (with_reducible rfl))
   try simp only [Act.put, List.setIfInBounds_toArray, List.set_cons_zero, List.set_cons_succ]
   refine stepNext (i := 10) (by kernel_rfl) rfl (by rfl) (fun K hK => ?_)
   go_simp
   (with_reducible refine (Calls.mono S.out ?_)); rintro e w5 ⟨rfl, hb⟩
   replace near := gCall near.drew hb
   obtain ⟨hh0, hh1, hh2, hh3⟩ := hHeld
   have hHeld := (And.intro (callC hb hh0) (And.intro (callC hb hh1) (And.intro (callC hb hh2) (callC hb hh3))))
   clear hh0 hh1 hh2 hh3
   clear hb
   refine hK.out _ _ hHeld ?_
   clear hK K
   try simp only [Act.put]
   try simp only [List.setIfInBounds_toArray, List.set_cons_zero, List.set_cons_succ]
   refine takeA 11 ?_ rfl ?_ ?_; rotate_left
   ·(intro w hSw; go_simp; try (with_reducible rfl))
   try simp only [Act.put, List.setIfInBounds_toArray, List.set_cons_zero, List.set_cons_succ]
   refine wpAnyH_done (by kernel_rfl) ?_ _
   refine NoPanic.normal ?_
   clear hHeld wc xc p1 q1 S low
   go_wp2_with fail
   go_roundw
   case rel => exact ⟨j + 1, by omega, by go_num, near⟩
   case measure => simp [intOf]; omega
  ·obtain rfl : j = M.pr.length := by omega
   go_wp2_with fail
   go_ret
   exact ⟨rfl, low⟩
end Go.Proofs.YtgdacpcifnpojaaGreat
