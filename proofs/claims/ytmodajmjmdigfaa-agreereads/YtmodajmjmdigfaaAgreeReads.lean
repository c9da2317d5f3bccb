/-
Proved: the given statement AgreeReads: in a world that is right each cache that has a line has its value, who owns it has it, and memory has it if nobody does; otherwise both calls give the same error. No condition.
-/
import Derived.Test.YtmodajmjmdigfaaAgreeFacts
import Derived.Test.YtmodajmjmdigfaaAgreeOpen
import Derived.Test.YtmodajmjmdigfaaAgrees
import Derived.Test.YtmodajmjmdigfaaSlices
namespace Go.Proofs.Ytmodajmjmdigfaa.agreeReads
open Go.ChangeShapes Go.WideShapes Go.ChangeAt Go.RowKit Go.Joins Go.Proofs.Ytmodajmjmdigfaa


set_option maxRecDepth 10000 in
set_option maxHeartbeats 2000000 in
theorem walk_bad (n s y b : Int) (v : Value) (m : List Int) (css : List (List St)) (k : Int) (w : World) (h : Ks w v css) (hm : m.length = 64) (E : Int) (hE : E ≠ 0)
    (V : Hid (∀ w, Ks w v css → Calls Try.prog 36 #[cfg n s y b, wldV v m, .int .i64 k] w fun e w' => e = .returned (.tuple #[line 0 0 0 0, .int .i64 E]) ∧ Below w.heap.size w w'))
    (Ho : Hid (∀ w, Ks w v css → Calls Try.prog 37 #[cfg n s y b, wldV v m, .int .i64 k] w fun e w' => e = .returned (.tuple #[.slice none 0 0, .int .i64 0, .int .i64 E]) ∧ Below w.heap.size w w')) :
    Calls Try.prog 7 #[cfg n s y b, wldV v m, .int .i64 k] w fun e w' => e = .returned (.bool true) ∧ Below w.heap.size w w' := by
  have he' : (E != 0) = true := by simpa using hE
  clear hE
  have low := Below.refl w.heap.size w
  have cb := boxNext low 44 (cfgA n s y b)
  replace low := gAlloc low (.cells (cfgA n s y b) 44)
  replace h := h.alloc (.cells (cfgA n s y b) 44)
  try simp only [World.size_alloc] at cb
  have wb := boxNext low 79 (wldA v m)
  replace low := gAlloc low (.cells (wldA v m) 79)
  replace cb := cb.alloc (.cells (wldA v m) 79)
  replace h := h.alloc (.cells (wldA v m) 79)
  try simp only [World.size_alloc] at wb
  go_enter Try.func7, Try.ntmps7
  go_wp2_with fail
  (with_reducible refine (agrees_yes _).mono ?_); rintro e w1 ⟨rfl, hb1⟩
  replace cb := cb.call hb1
  replace wb := wb.call hb1
  replace h := h.call hb1
  replace low := gCall low hb1
  clear hb1
  simp only [cfgA] at cb
  have cb_0 := cb.at_ 0 rfl
  have cb_1 := cb.at_ 1 rfl
  have cb_2 := cb.at_ 2 rfl
  have cb_3 := cb.at_ 3 rfl
  have wr := wb.range
  go_wp2_with (first | ((with_reducible refine wp_loadW (tyWorld) (wr) (wld_size hm) ?_ ?_ ?_); rfl; rfl))
  (with_reducible refine (V.out _ h).mono ?_); rintro e w2 ⟨rfl, hb2⟩
  clear cb_0 cb_1 cb_2 cb_3
  replace cb := cb.call hb2
  replace wb := wb.call hb2
  replace h := h.call hb2
  replace low := gCall low hb2
  clear hb2
  have vb := boxNext low 30 ln0
  replace low := gAlloc low (.cells ln0 30)
  replace cb := cb.alloc (.cells ln0 30)
  replace wb := wb.alloc (.cells ln0 30)
  replace h := h.alloc (.cells ln0 30)
  try simp only [World.size_alloc] at vb
  clear wr
  have wr := wb.range
  have cb_0 := cb.at_ 0 rfl
  have cb_1 := cb.at_ 1 rfl
  have cb_2 := cb.at_ 2 rfl
  have cb_3 := cb.at_ 3 rfl
  go_wp2_with (first | ((with_reducible refine wp_loadW (tyWorld) (wr) (wld_size hm) ?_ ?_ ?_); rfl; rfl))
  (with_reducible refine (Ho.out _ h).mono ?_); rintro e w3 ⟨rfl, hb3⟩
  clear cb_0 cb_1 cb_2 cb_3
  replace vb := vb.call hb3
  replace low := gCall low hb3
  clear hb3 cb wb wr
  have eqL := eqLine 0 0 0 0 0 0 0 0
  have vb_0 := vb.at_ 0 rfl
  have vb_1 := vb.at_ 1 rfl
  have vb_2 := vb.at_ 2 rfl
  have vb_3 := vb.at_ 3 rfl
  go_wp2_with fail
  go_ret
  exact ⟨rfl, low⟩

/-- How many of the first nodes may write. -/
def wrN (k : Nat) (css : List (List St)) (j : Nat) : Nat := (onL k (copN css j)).countP fun c => wrB c.x.st
theorem wrN_le (k : Nat) (css : List (List St)) (j : Nat) : wrN k css j ≤ (copN css j).length := Nat.le_trans List.countP_le_length (onL_length _ _)


set_option maxRecDepth 10000 in
set_option maxHeartbeats 8000000 in
theorem walk_good (n s y b : Int) (v : Value) (m : List Int) (css : List (List St)) (k : Nat) (w : World) (h : Ks w v css) (hm : m.length = 64) (he : cohE n s y b css m = 0) (hk : k < 16) :
    Calls Try.prog 7 #[cfg n s y b, wldV v m, .int .i64 k] w fun e w' => e = .returned (.bool true) ∧ Below w.heap.size w w' := by
  obtain ⟨hform, hlines⟩ := cohE_ok he
  obtain ⟨hcf, hn, hall⟩ := formE_ok hform
  have n8 : css.length ≤ 8 := by have := cfgB_iff.1 hcf; omega
  have hP := copN_length hall (Nat.le_refl css.length)
  have h128 : (onL k (copN css css.length)).length ≤ 128 := Nat.le_trans (onL_length _ _) (by omega)
  have V := Lib.hid fun w hw => value_ok n s y b v m css k w hw hm he hk
  have Ho := Lib.hid fun w hw => holders_ok n s y b v m css k w hw hm he hk h128
  have Fl := Lib.hid fun w hw => flat_ok n s y b v m css w hw hm he
  obtain ⟨lp, ls, lo⟩ := lnE_ok (hlines k hk)
  have FV := Lib.hid (flatN_at (copN css css.length) m 16 (Nat.le_refl _) k hk)
  have VO := Lib.hid fun c (hc : c ∈ onL k (copN css css.length)) => val_of (d := l4 m k) ls hc
  have MO := Lib.hid lo
  have WF := Lib.hid (writers_few lp (fun c hc => by
    unfold onL at hc
    obtain ⟨i, ss, _, _, h3⟩ := copN_get (Nat.le_refl _) (List.mem_filter.1 hc).1
    exact (cpsOf_nd h3).2))
  have OI := Lib.hid (own_in (onL k (copN css css.length)) (fun c hc => by
    unfold onL at hc
    obtain ⟨i, ss, _, _, h3⟩ := copN_get (Nat.le_refl _) (List.mem_filter.1 hc).1
    rw [(cpsOf_nd h3).1]
    omega))
  have ALL := Lib.hid hall
  have NI := Lib.hid fun i ss (hi : css[i]? = some ss) z p E hf => node_in (z := z) (p := p) (E := E) hall hi hk hf
  have WP := Lib.hid (fun j (hj : j ≤ css.length) => Nat.le_trans (wrN_le k css j) (copN_length hall hj))
  generalize valL (onL k (copN css css.length)) (l4 m k) = d at V FV VO MO
  generalize ownN (onL k (copN css css.length)) = O at Ho OI MO
  have NL := Lib.hid (nodesL_length (onL k (copN css css.length)))
  clear he hform hlines hcf hn hall hP lp ls lo
  have H := Lib.hid h
  obtain ⟨A0, cp, ev, h1, h2, h3⟩ := H.out
  subst ev
  have H3 := Lib.hid h3
  unfold maxLen at h2
  clear h3
  have low := Below.refl w.heap.size w
  have cb := boxNext low 44 (cfgA n s y b)
  replace low := gAlloc low (.cells (cfgA n s y b) 44)
  replace h := h.alloc (.cells (cfgA n s y b) 44)
  try simp only [World.size_alloc] at cb
  have wb := boxNext low 79 (wldA (.slice A0 css.length cp) m)
  replace low := gAlloc low (.cells (wldA (.slice A0 css.length cp) m) 79)
  replace cb := cb.alloc (.cells (wldA (.slice A0 css.length cp) m) 79)
  replace h := h.alloc (.cells (wldA (.slice A0 css.length cp) m) 79)
  try simp only [World.size_alloc] at wb
  go_enter Try.func7, Try.ntmps7
  go_wp2_with fail
  (with_reducible refine (agrees_yes _).mono ?_); rintro e w1 ⟨rfl, hb1⟩
  replace cb := cb.call hb1
  replace wb := wb.call hb1
  replace h := h.call hb1
  replace low := gCall low hb1
  clear hb1
  simp only [cfgA] at cb
  have cb_0 := cb.at_ 0 rfl
  have cb_1 := cb.at_ 1 rfl
  have cb_2 := cb.at_ 2 rfl
  have cb_3 := cb.at_ 3 rfl
  have wr := wb.range
  go_wp2_with (first | ((with_reducible refine wp_loadW (tyWorld) (wr) (wld_size hm) ?_ ?_ ?_); rfl; rfl))
  (with_reducible refine (V.out _ h).mono ?_); rintro e w2 ⟨rfl, hb2⟩
  clear cb_0 cb_1 cb_2 cb_3
  replace cb := cb.call hb2
  replace wb := wb.call hb2
  replace h := h.call hb2
  replace low := gCall low hb2
  clear hb2
  have vb := boxNext low 30 #[.int .u64 d.a, .int .u64 d.b, .int .u64 d.c, .int .u64 d.d]
  replace low := gAlloc low (.cells #[.int .u64 d.a, .int .u64 d.b, .int .u64 d.c, .int .u64 d.d] 30)
  replace cb := cb.alloc (.cells #[.int .u64 d.a, .int .u64 d.b, .int .u64 d.c, .int .u64 d.d] 30)
  replace wb := wb.alloc (.cells #[.int .u64 d.a, .int .u64 d.b, .int .u64 d.c, .int .u64 d.d] 30)
  replace h := h.alloc (.cells #[.int .u64 d.a, .int .u64 d.b, .int .u64 d.c, .int .u64 d.d] 30)
  try simp only [World.size_alloc] at vb
  clear wr
  have wr := wb.range
  have cb_0 := cb.at_ 0 rfl
  have cb_1 := cb.at_ 1 rfl
  have cb_2 := cb.at_ 2 rfl
  have cb_3 := cb.at_ 3 rfl
  go_wp2_with (first | ((with_reducible refine wp_loadW (tyWorld) (wr) (wld_size hm) ?_ ?_ ?_); rfl; rfl))
  (with_reducible refine (Ho.out _ h).mono ?_); rintro e w3 ⟨⟨A, c, rfl, sl⟩, hb3⟩
  clear cb_0 cb_1 cb_2 cb_3
  replace vb := vb.call hb3
  replace cb := cb.call hb3
  replace wb := wb.call hb3
  replace low := gCall low hb3
  clear hb3 wr V Ho h
  generalize hNN : nodesL (onL k (copN css css.length)) = NN at *
  have SL := Lib.hid sl
  clear sl hNN
  have wb0 := wb.at_ 0 (wldA_zero _ _)
  have n9 : NN.length ≤ 128 := by rw [NL.out]; exact h128
  go_wp2_with fail
  go_loopw [12, 59] (fun t i wr => ∃ j q : Nat, j ≤ css.length ∧ q ≤ 128 ∧ i = .int .i64 j ∧ t = .int .i64 q ∧ Hid (q = wrN k css j) ∧ Below w3.heap.size w3 wr ∧ Box wr w2.heap.size 30 #[.int .u64 d.a, .int .u64 d.b, .int .u64 d.c, .int .u64 d.d] ∧ Box wr w.heap.size 44 (cfgA n s y b) ∧ Box wr (w.heap.size + 1) 79 (wldA (.slice A0 css.length cp) m) ∧ Below w.heap.size w wr) (fun _ i _ => css.length - (intOf i).toNat)
  case atStart => exact ⟨0, 0, Nat.zero_le _, Nat.zero_le _, rfl, rfl, Lib.hid rfl, Below.refl _ _, vb, cb, wb, low⟩
  case round =>
    clear vb cb wb low wb0
    obtain ⟨j, q, hj, q128, rfl, rfl, hq, b3, vb, cb, wb, low⟩ := hrel
    simp only [cfgA] at cb
    by_cases hlt : j < css.length
    · obtain ⟨bb, o, rfl, hbb, hc⟩ := H3.out (by omega)
      have hx : css[j]? = some css[j] := List.getElem?_eq_getElem _
      generalize css[j] = ss at hx
      obtain ⟨A', c', ce, cs⟩ := hc j ss hx
      replace ce := (low.cell (p := ⟨bb, o + j, none⟩) hbb).trans ce
      replace cs := cs.call low
      obtain ⟨z, p, E, hf, CF⟩ := cacheFind_is n s y b (.slice A' ss.length c') ss (k : Int)
      obtain ⟨rfl, hz0, hon⟩ := onL_node (i := j) (ALL.out ss (List.mem_of_getElem? hx)) hk hf
      obtain ⟨hin, hmem⟩ := NI.out j ss hx z p 0 hf
      have CON := Lib.hid fun w hw => contains_any (.slice A NN.length c) NN.length NN (j : Int) w hw
      rw [hin] at CON
      have WR := Lib.hid fun w => writes_any z.st w
      have CF := Lib.hid CF
      have WS := Lib.hid (show wrN k css (j + 1) = q + (if p = true then (if wrB z.st = true then 1 else 0) else 0) by
        unfold wrN
        rw [copN_succ hx, onL_append, List.countP_append, hon, hq.out]
        unfold wrN
        cases p
        · simp
        · simp [List.countP_cons])
      have W8 := Lib.hid (show wrN k css (j + 1) ≤ 128 by have := WP.out (j + 1) (by omega); omega)
      have HD := Lib.hid fun hp => VO.out _ (hmem hp)
      have j1 : (j : Int) < css.length := by omega
      clear hx hc hf hon hin hmem
      have cb_0 := cb.at_ 0 rfl
      have cb_1 := cb.at_ 1 rfl
      have cb_2 := cb.at_ 2 rfl
      have cb_3 := cb.at_ 3 rfl
      go_wp2_with fail
      (with_reducible refine (CF.out _ cs).mono ?_); rintro e w4 ⟨rfl, hb4⟩
      clear cb_0 cb_1 cb_2 cb_3
      replace vb := vb.call hb4
      replace cb := cb.call hb4
      replace wb := wb.call hb4
      replace b3 := gCall b3 hb4
      replace low := gCall low hb4
      clear hb4 ce cs CF
      replace b3 := gAlloc b3 (.cells z.arr 32)
      have sl := SL.out.call b3
      simp only [Wy.arr] at b3 sl
      have xb := boxNext low 32 z.arr
      replace low := gAlloc low (.cells z.arr 32)
      replace vb := vb.alloc (.cells z.arr 32)
      replace cb := cb.alloc (.cells z.arr 32)
      replace wb := wb.alloc (.cells z.arr 32)
      try simp only [World.size_alloc] at xb
      simp only [Wy.arr] at xb
      have vb_0 := vb.at_ 0 rfl
      have vb_1 := vb.at_ 1 rfl
      have vb_2 := vb.at_ 2 rfl
      have vb_3 := vb.at_ 3 rfl
      have xb_0 := xb.at_ 0 rfl
      have xb_1 := xb.at_ 1 rfl
      have xb_2 := xb.at_ 2 rfl
      have xb_3 := xb.at_ 3 rfl
      have xb_4 := xb.at_ 4 rfl
      have xb_5 := xb.at_ 5 rfl
      cases p
      · obtain rfl := hz0 rfl
        have WSN := Lib.hid (show wrN k css (j + 1) = q by simpa using WS.out)
        simp only [wy0] at *
        go_wp2_with fail
        (with_reducible refine (CON.out _ sl).mono ?_); rintro e w5 ⟨rfl, rfl⟩
        go_wp2_with fail
        (with_reducible refine (WR.out _).mono ?_); rintro e w5 ⟨rfl, rfl⟩
        have hw : wrB 0 = false := rfl
        go_wp2_with fail
        go_roundw
        case rel => exact ⟨j + 1, q, by omega, q128, by go_num, rfl, Lib.hid WSN.out.symm, b3, vb, cb, wb, low⟩
        case measure => simp [intOf]; omega
      · have eqL := fun w => eqL4 z.dat d w
        rw [show eq4 z.dat d = true from eq4_iff.2 (HD.out rfl)] at eqL
        simp only [Wy.dat] at eqL
        go_wp2_with fail
        (with_reducible refine (CON.out _ sl).mono ?_); rintro e w5 ⟨rfl, rfl⟩
        go_wp2_with fail
        (with_reducible refine (WR.out _).mono ?_); rintro e w5 ⟨rfl, rfl⟩
        cases hw : wrB z.st
        · have WSN := Lib.hid (show wrN k css (j + 1) = q by simpa [hw] using WS.out)
          go_wp2_with fail
          go_roundw
          case rel => exact ⟨j + 1, q, by omega, q128, by go_num, rfl, Lib.hid WSN.out.symm, b3, vb, cb, wb, low⟩
          case measure => simp [intOf]; omega
        · have WSN := Lib.hid (show wrN k css (j + 1) = q + 1 by simpa [hw] using WS.out)
          go_wp2_with fail
          go_roundw
          case rel => exact ⟨j + 1, q + 1, by omega, by have := W8.out; have := WSN.out; omega, by go_num, by go_num, Lib.hid WSN.out.symm, b3, vb, cb, wb, low⟩
          case measure => simp [intOf]; omega
    · obtain rfl : j = css.length := by omega
      have QF := Lib.hid (show q ≤ 1 ∧ (q = 0 ∨ NN.length = 1) by
        have h1 := hq.out
        have h2 := WF.out
        have h3 := NL.out
        unfold wrN at h1
        omega)
      generalize hM : flatN (copN css css.length) m 16 = M at Fl FV
      have hM64 : M.length = 64 := by rw [← hM]; exact flatN_length _ _ _
      have sM := mem_zsize hM64
      have wr2 := wb.range
      clear hM hq
      have cb_0 := cb.at_ 0 rfl
      have cb_1 := cb.at_ 1 rfl
      have cb_2 := cb.at_ 2 rfl
      have cb_3 := cb.at_ 3 rfl
      go_wp2_with (first | ((with_reducible refine wp_loadW (tyWorld) (wr2) (wld_size hm) ?_ ?_ ?_); rfl; rfl))
      (with_reducible refine (Fl.out _ (H.out.call low)).mono ?_); rintro e w5 ⟨rfl, hb5⟩
      clear cb_0 cb_1 cb_2 cb_3
      replace vb := vb.call hb5
      replace wb := wb.call hb5
      replace b3 := gCall b3 hb5
      replace low := gCall low hb5
      clear hb5 wr2 cb Fl
      replace b3 := gAlloc b3 (.cells (memA M) 77)
      have sl := SL.out.call b3
      have mb := boxNext low 77 (memA M)
      replace low := gAlloc low (.cells (memA M) 77)
      replace vb := vb.alloc (.cells (memA M) 77)
      replace wb := wb.alloc (.cells (memA M) 77)
      try simp only [World.size_alloc] at mb
      go_wp2_with (first | (with_reducible refine wp_newW (tyMem) ?_) | ((with_reducible refine wp_freshW (tyMem) (rfl) (sM) (memA_one _) ?_ ?_ ?_); rfl; rfl))
      have k0 : (0 : Int) ≤ k := by omega
      have k1 : (k : Int) < 16 := by omega
      have m0 := mb.at_ (k * 4) (memA_at _ (by omega))
      have m1 := mb.at_ (k * 4 + 1) (memA_at _ (by omega))
      have m2 := mb.at_ (k * 4 + 2) (memA_at _ (by omega))
      have m3 := mb.at_ (k * 4 + 3) (memA_at _ (by omega))
      have wm := wld_mem wb
      have x0 := wm (k * 4) _ ((Array.getElem?_toList ..).trans (memA_at _ (by omega)))
      have x1 := wm (k * 4 + 1) _ ((Array.getElem?_toList ..).trans (memA_at _ (by omega)))
      have x2 := wm (k * 4 + 2) _ ((Array.getElem?_toList ..).trans (memA_at _ (by omega)))
      have x3 := wm (k * 4 + 3) _ ((Array.getElem?_toList ..).trans (memA_at _ (by omega)))
      simp only [← Nat.add_assoc] at x0 x1 x2 x3
      have v0 : (w5.alloc (.cells (memA M) 77)).cell? ⟨w2.heap.size, 0, none⟩ = some (.int .u64 d.a) := vb.at_ 0 rfl
      have v1 : (w5.alloc (.cells (memA M) 77)).cell? ⟨w2.heap.size, 1, none⟩ = some (.int .u64 d.b) := vb.at_ 1 rfl
      have v2 : (w5.alloc (.cells (memA M) 77)).cell? ⟨w2.heap.size, 2, none⟩ = some (.int .u64 d.c) := vb.at_ 2 rfl
      have v3 : (w5.alloc (.cells (memA M) 77)).cell? ⟨w2.heap.size, 3, none⟩ = some (.int .u64 d.d) := vb.at_ 3 rfl
      rw [show wd M (k * 4) = d.a from congrArg L4.a FV.out] at m0
      rw [show wd M (k * 4 + 1) = d.b from congrArg L4.b FV.out] at m1
      rw [show wd M (k * 4 + 2) = d.c from congrArg L4.c FV.out] at m2
      rw [show wd M (k * 4 + 3) = d.d from congrArg L4.d FV.out] at m3
      have eqL := fun w => eqL4 d d w
      rw [eq4_refl] at eqL
      have CON := Lib.hid fun w hw => contains_any (.slice A NN.length c) NN.length NN O w hw
      have SL2 := Lib.hid sl
      have LOW := Lib.hid low
      clear sl low wm mb vb wb b3
      generalize hWW : w5.alloc (.cells (memA M) 77) = WW at *
      generalize w5.heap.size = gm at *
      clear hWW FV
      rcases OI.out with ho | ⟨ho, hi⟩
      · have hO1 : decide (O < 0) = true := decide_eq_true ho
        have hO2 : decide (0 ≤ O) = false := decide_eq_false (by omega)
        have e := MO.out ho
        rw [show wd m (k * 4) = d.a by rw [e]; rfl] at x0
        rw [show wd m (k * 4 + 1) = d.b by rw [e]; rfl] at x1
        rw [show wd m (k * 4 + 2) = d.c by rw [e]; rfl] at x2
        rw [show wd m (k * 4 + 3) = d.d by rw [e]; rfl] at x3
        clear e ho
        obtain ⟨hq1, hq2⟩ := QF.out
        rcases hq2 with rfl | hq2
        · go_quiet (fail)
          go_wp2_with fail
          go_ret
          exact ⟨rfl, gDrewN LOW.out _⟩
        · have hl1 : ((NN.length : Int) == 1) = true := by simp [hq2]
          clear hq2
          by_cases hq0 : q = 0
          · subst hq0
            clear hl1
            go_quiet (fail)
            go_wp2_with fail
            go_ret
            exact ⟨rfl, gDrewN LOW.out _⟩
          · obtain rfl : q = 1 := by omega
            go_quiet (fail)
            go_wp2_with fail
            go_ret
            exact ⟨rfl, gDrewN LOW.out _⟩
      · have hO1 : decide (O < 0) = false := decide_eq_false (by omega)
        have hO2 : decide (0 ≤ O) = true := decide_eq_true ho
        have CON2 := Lib.hid fun nn => Calls.quiet_of_same ((CON.out (WW.drewN nn) SL2.out).mono fun e w' ⟨h1, h2⟩ => ⟨h1, h2.symm⟩)
        rw [show decide (O ∈ NN) = true from decide_eq_true hi] at CON2
        clear ho hi
        obtain ⟨hq1, hq2⟩ := QF.out
        rcases hq2 with rfl | hq2
        · go_quiet (first | (go_at_call 38; exact CON2.out _))
          go_wp2_with fail
          go_ret
          exact ⟨rfl, gDrewN LOW.out _⟩
        · have hl1 : ((NN.length : Int) == 1) = true := by simp [hq2]
          clear hq2
          by_cases hq0 : q = 0
          · subst hq0
            clear hl1
            go_quiet (first | (go_at_call 38; exact CON2.out _))
            go_wp2_with fail
            go_ret
            exact ⟨rfl, gDrewN LOW.out _⟩
          · obtain rfl : q = 1 := by omega
            go_quiet (first | (go_at_call 38; exact CON2.out _))
            go_wp2_with fail
            go_ret
            exact ⟨rfl, gDrewN LOW.out _⟩

theorem walk (v0 v1 v2 : Value) (w : World) (h0 : IsCfg v0) (h1 : IsWorld w v1) (h2 : IsInt v2) :
    Calls Try.prog 7 #[v0, v1, v2] w fun e w' => e = .returned (.bool true) ∧ Below w.heap.size w w' := by
  obtain ⟨n, s, y, b, rfl, _⟩ := h0
  obtain ⟨u, m, css, rfl, hm, ks⟩ := h1
  obtain ⟨k, rfl, _⟩ := h2
  by_cases he : cohE n s y b css m = 0
  · by_cases hk : k < 0 ∨ 15 < k
    · exact walk_bad n s y b u m css k w ks hm 4 (by decide) (Lib.hid fun w h => value_out n s y b u m css k w h hm he hk) (Lib.hid fun w h => holders_out n s y b u m css k w h hm he hk)
    · obtain ⟨q, rfl⟩ : ∃ q : Nat, k = q := ⟨k.toNat, by omega⟩
      exact walk_good n s y b u m css q w ks hm he (by omega)
  · exact walk_bad n s y b u m css k w ks hm _ he (Lib.hid fun w h => value_bad n s y b u m css k w h hm he) (Lib.hid fun w h => holders_bad n s y b u m css k w h hm he)

set_option maxRecDepth 100000 in
theorem lifted (os : Os) (started : os.Started) (H : Type) (enc : TypeId × Value → H) :
    ReturnsInHanded {} Try.checked os 7 .any (Rows.agreeReadsSpec.pre6 enc Try.prog Try.f7 Rows.agreeReadsRow.domain false) (Rows.agreeReadsSpec.post enc Try.prog Try.f7 false true false false) := by
  refine returnsInHanded_of_change (C := Try.checked) own started (by kernel_rfl) Try.func7
    (ChangeSpec.witness6 (enc := enc) (C := Try.checked) false ⟨#[], #[cfg 2 1 1 1, wldV (.slice none 0 0) zeroL, .int .i64 0], []⟩ 8 (by kernel_rfl) (by kernel_rfl) (by kernel_rfl) (by kernel_rfl)) ?_
  intro W base args ds gs before hval0 hW hcnd _
  have hval : ∀ (j : Nat) t v, Try.f7.params[j]? = some t → args[j]? = some v → Value.okWide Try.prog W .any base t v := hval0
  have hW' := hW
  obtain ⟨p, q, hA0, hV, rfl, hfz, hnd⟩ := hW
  have hA : DataW.TrodAll enc Try.prog W 0 (fun _ => true) true Try.f7.params.toList args.toList ds p := hA0
  rw [Try.params7] at hA hval
  obtain ⟨v0, vs0, d0, ds0, p0, q0, hargs, rfl, rfl, h0, r0⟩ := trodAll_cons hA
  obtain ⟨v1, vs1, d1, ds1, p1, q1, rfl, rfl, rfl, h1, r1⟩ := trodAll_cons r0
  obtain ⟨v2, vs2, d2, ds2, p2, q2, rfl, rfl, rfl, h2, r2⟩ := trodAll_cons r1
  obtain ⟨rfl, rfl, rfl⟩ := trodAll_nil r2
  obtain rfl : args = #[v0, v1, v2] := by cases args; simp_all
  have k0 := openCfg (hval 0 44 v0 rfl rfl) h0
  have k1 := openWorld (hval 1 79 v1 rfl rfl) h1
  have k2 := openInt (hval 2 3 v2 rfl rfl) h2
  obtain ⟨rfl, rfl⟩ := trodVars_none hV
  clear hA0 hval0
  refine (walk v0 v1 v2 W k0 k1 k2).mono fun e W' ⟨he, bel⟩ => ⟨_, he, ?_⟩
  exact law_post (by kernel_rfl) (by kernel_rfl) rfl hW' rfl rfl rfl bel

theorem over : Rows.agreeReadsRow.holds Try.pinned (OpenSpec.ofChange Rows.agreeReadsSpec) :=
  OpenClaim.holds_of_wide 7 Try.f7 rfl rfl rfl rfl rfl rfl rfl ⟨rfl, rfl, rfl, rfl, rfl⟩ rfl rfl rfl rfl rfl (by kernel_rfl) Try.func7 (by kernel_rfl)
    (of_decide_eq_true (by kernel_rfl)) (by unfold Func.isWrapper; first | (rw [if_pos (by decide +kernel)]; kernel_rfl) | (rw [if_neg (by decide +kernel)]; exact ⟨rfl, rfl⟩))
    (fun os started H enc _ => lifted os started H enc)

/-- The statement. -/
theorem agreeReads_holds : Rows.AgreeReadsSaid := over
end Go.Proofs.Ytmodajmjmdigfaa.agreeReads
namespace Go.Proofs.Ytmodajmjmdigfaa
theorem agreeReads_holds : Rows.AgreeReadsSaid := agreeReads.agreeReads_holds
#print axioms agreeReads_holds
end Go.Proofs.Ytmodajmjmdigfaa
