/-
Proved: what the texts below say at the head of each. No condition but theirs.
-/
import Derived.Test.YtgdacpcifnpojaaGreatJoined3
import Derived.Test.YtgdacpcifnpojaaGreatJoined1
import Derived.Deep.RegionHeld3
import Derived.Test.YtgdacpcifnpojaaGreatJoined2
import Derived.Maps.RangeWalk
import Derived.Maps.OwnOps
/- Agree2: Proved: what collect of package agree returns, for every world that can be read; it changes nothing that was there. No condition. -/
namespace Go.Proofs.YtgdacpcifnpojaaGreat
open Go.ChangeShapes Go.WideShapes Go.ChangeAt Go.RowKit Go.Joins

abbrev cp0 : Value := .agg #[.int .i64 0, .int .i64 0, .int .i64 0, .int .u64 0, .int .u64 0, .int .u64 0, .int .u64 0]
theorem info_copy : (Tryz.prog.info? 168).map (fun i => (i.zero, i.size, i.bytes)) = some (some cp0, 7, 56) := by kernel_rfl
theorem us_one {w : World} {base : Nat} {us : List Value} {P : List Cp} (h : Held w base us P) : us.toArray.all (·.oneCell') = true := all_oneCell_toArray fun v hv => by
  obtain ⟨k, hk, e⟩ := List.getElem_of_mem hv
  obtain ⟨A, c, rfl⟩ := own_shape (h.own k v (by rw [List.getElem?_eq_getElem hk, e])).1
  rfl
theorem nil16_one : nil16.all (·.oneCell') = true := by kernel_rfl
theorem cells_one (c : Cp) : ∀ u ∈ c.cells, u.oneCell' = true := by
  intro u hu
  simp [Cp.cells] at hu
  rcases hu with rfl | rfl | rfl | rfl | rfl | rfl | rfl <;> rfl
theorem cells_new (w : World) (t : TypeId) (x : Cp) (g q : Nat) (u : Value) (hg : g = w.heap.size) (h : x.cells[q]? = some u) : (w.alloc (.cells x.box t)).cell? ((⟨g, 0, none⟩ : Addr).add q) = some u := by
  subst hg
  have e : (⟨w.heap.size, 0, none⟩ : Addr).add q = ⟨w.heap.size, q, none⟩ := by cases q <;> simp [Addr.add]
  rw [e, (Box.new w t x.box).cell, ← h]
  simp [Cp.cells]
theorem cachesE_all {n s y b : Int} {css : List (List St)} (h : cachesE n s y b css = 0) : ∀ ss ∈ css, cacheE n s y b ss = 0 := by
  induction css with
  | nil => simp
  | cons t r ih =>
    rw [cachesE] at h
    by_cases h1 : cacheE n s y b t ≠ 0
    · rw [if_pos h1] at h; exact absurd h h1
    · rw [if_neg h1] at h
      intro ss hs
      rcases List.mem_cons.1 hs with rfl | hs
      · simpa using h1
      · exact ih h ss hs
theorem formE_ok {n s y b : Int} {css : List (List St)} (h : formE n s y b css = 0) : cfgB n s y b = true ∧ (css.length : Int) = n ∧ ∀ ss ∈ css, cacheE n s y b ss = 0 := by
  unfold formE at h
  by_cases h1 : cfgB n s y b = false
  · rw [if_pos h1] at h; omega
  · rw [if_neg h1] at h
    by_cases h2 : (css.length : Int) ≠ n
    · rw [if_pos h2] at h; omega
    · rw [if_neg h2] at h
      exact ⟨by simpa using h1, by omega, cachesE_all h⟩


set_option maxHeartbeats 1000000 in
theorem collect_bad (n s y b : Int) (v : Value) (m : List Int) (css : List (List St)) (w : World) (h : Ks w v css) (hm : m.length = 64) (he : formE n s y b css ≠ 0) :
    Calls Tryz.prog 71 #[cfg n s y b, wldV v m] w fun e w' => e = .returned (.tuple #[.agg nil16, .int .i64 (formE n s y b css)]) ∧ Below w.heap.size w w' := by
  have F := Lib.hid fun w hw => form_any n s y b v m css w hw
  generalize formE n s y b css = E at F he ⊢
  have he' : (E != 0) = true := by simpa using he
  clear he
  have low := Below.refl w.heap.size w
  have cb := boxNext low 23 (cfgA n s y b)
  replace low := gAlloc low (.cells (cfgA n s y b) 23)
  replace h := h.alloc (.cells (cfgA n s y b) 23)
  try simp only [World.size_alloc] at cb
  have wb := boxNext low 31 (wldA v m)
  replace low := gAlloc low (.cells (wldA v m) 31)
  replace cb := cb.alloc (.cells (wldA v m) 31)
  replace h := h.alloc (.cells (wldA v m) 31)
  try simp only [World.size_alloc] at wb
  have ob := boxNext low 116 nil16
  replace low := gAlloc low (.cells nil16 116)
  replace cb := cb.alloc (.cells nil16 116)
  replace wb := wb.alloc (.cells nil16 116)
  replace h := h.alloc (.cells nil16 116)
  try simp only [World.size_alloc] at ob
  have wr := wb.range
  go_enter Tryz.func71, Tryz.ntmps71
  go_wp2_with (first | (with_reducible refine wp_newW (tyCopies) ?_) | ((with_reducible refine wp_loadW (tyWorld) (wr) (wld_size hm) ?_ ?_ ?_); rfl; rfl))
  (with_reducible refine (F.out _ h).mono ?_); rintro e w1 ⟨rfl, hb⟩
  replace ob := ob.call hb
  replace low := gCall low hb
  clear hb cb wb wr
  go_wp2_with (first | (with_reducible refine wp_zeroW (tyCopies) ?_) | ((with_reducible refine wp_storeW (tyCopies) (ob) (rfl) (rfl) (nil16_one) ?_ ?_ ?_); rfl; rfl))
  intro w2 ob2 st
  replace low := st.low low (by omega)
  clear ob st
  go_wp2_with fail
  refine bodyPost_ret (v := .tuple #[.agg nil16, .int .i64 E]) (results_first tyCopies Tryz.results71 rfl rfl ob2 rfl) rfl ⟨rfl, low⟩

set_option maxRecDepth 10000 in
set_option maxHeartbeats 4000000 in
theorem collect_ok (n s y b : Int) (v : Value) (m : List Int) (css : List (List St)) (w : World) (h : Ks w v css) (hm : m.length = 64) (he : formE n s y b css = 0) :
    Calls Tryz.prog 71 #[cfg n s y b, wldV v m] w fun e w' => (∃ us, e = .returned (.tuple #[.agg us.toArray, .int .i64 0]) ∧ Held w' w.heap.size us (copN css css.length)) ∧ Below w.heap.size w w' := by
  have F := Lib.hid fun w hw => form_any n s y b v m css w hw
  rw [he] at F
  obtain ⟨hcf, hn, hall⟩ := formE_ok he
  have n8 : css.length ≤ 8 := by have := cfgB_iff.1 hcf; omega
  have ALL := Lib.hid hall
  have H := Lib.hid h
  obtain ⟨A, cp, rfl, h1, h2, h3⟩ := h
  have H3 := Lib.hid h3
  unfold maxLen at h2
  obtain ⟨i0, hi, hz0, hz1, hz2⟩ := info_parts info_copy
  have HI := Lib.hid hi
  have HZ := Lib.hid (And.intro hz0 (And.intro hz1 hz2))
  clear h3 hall he hcf hn hi hz0 hz1 hz2
  have low := Below.refl w.heap.size w
  have cb := boxNext low 23 (cfgA n s y b)
  replace low := gAlloc low (.cells (cfgA n s y b) 23)
  try simp only [World.size_alloc] at cb
  have wb := boxNext low 31 (wldA (.slice A css.length cp) m)
  replace low := gAlloc low (.cells (wldA (.slice A css.length cp) m) 31)
  replace cb := cb.alloc (.cells (wldA (.slice A css.length cp) m) 31)
  try simp only [World.size_alloc] at wb
  have ob := boxNext low 116 nil16
  replace low := gAlloc low (.cells nil16 116)
  replace cb := cb.alloc (.cells nil16 116)
  replace wb := wb.alloc (.cells nil16 116)
  try simp only [World.size_alloc] at ob
  have wr := wb.range
  go_enter Tryz.func71, Tryz.ntmps71
  go_wp2_with (first | (with_reducible refine wp_newW (tyCopies) ?_) | ((with_reducible refine wp_loadW (tyWorld) (wr) (wld_size hm) ?_ ?_ ?_); rfl; rfl))
  (with_reducible refine (F.out _ (H.out.call low)).mono ?_); rintro e w1 ⟨rfl, hb⟩
  replace cb := cb.call hb
  replace wb := wb.call hb
  replace ob := ob.call hb
  replace low := gCall low hb
  clear hb wr F
  have z1 : w.heap.size + 1 + 1 < w1.heap.size := ob.lt
  have hb := boxNext low 116 nil16
  replace low := gAlloc low (.cells nil16 116)
  replace cb := cb.alloc (.cells nil16 116)
  replace wb := wb.alloc (.cells nil16 116)
  replace ob := ob.alloc (.cells nil16 116)
  try simp only [World.size_alloc] at hb
  have wb0 := wb.at_ 0 (wldA_zero _ _)
  have hld := Held.start (w1.alloc (.cells nil16 116)) w.heap.size
  go_wp2_with (with_reducible refine wp_newW (tyCopies) ?_)
  go_loopw [24] (fun i wr => ∃ k : Nat, k ≤ css.length ∧ i = .int .i64 k ∧ Hid (∃ us, Box wr w1.heap.size 116 us.toArray ∧ Held wr w.heap.size us (copN css k) ∧ (copN css k).length ≤ k * 16) ∧ Box wr w.heap.size 23 (cfgA n s y b) ∧ Box wr (w.heap.size + 1 + 1) 116 nil16 ∧ Below w.heap.size w wr) (fun i _ => css.length - (intOf i).toNat)
  case atStart => exact ⟨0, Nat.zero_le _, rfl, Lib.hid ⟨_, hb, hld, Nat.zero_le _⟩, cb, ob, low⟩
  case round =>
    clear cb wb ob hb hld low wb0
    obtain ⟨k, hk, rfl, hus, cb, ob, low⟩ := hrel
    simp only [cfgA] at cb
    by_cases hlt : k < css.length
    · obtain ⟨us, hb, hld, plen⟩ := hus.out
      clear hus
      obtain ⟨bb, o, rfl, hbb, hc⟩ := H3.out (by omega)
      have hx : css[k]? = some css[k] := List.getElem?_eq_getElem _
      generalize css[k] = ss at hx
      obtain ⟨A', c', ce, cs⟩ := hc k ss hx
      replace ce := (low.cell (p := ⟨bb, o + k, none⟩) hbb).trans ce
      replace cs := cs.call low
      have he := ALL.out ss (List.mem_of_getElem? hx)
      have L16 := Lib.hid (allW_16 he)
      have LN := Lib.hid fun x hx => allW_line (x := x) he hx
      have CL := Lib.hid fun w hw => cacheLines_ok n s y b (.slice A' ss.length c') ss w hw he
      have CN := Lib.hid (copN_succ hx)
      have HLD := Lib.hid hld
      clear hx hc he hld
      have zr := low.size
      have cb_0 := cb.at_ 0 rfl
      have cb_1 := cb.at_ 1 rfl
      have cb_2 := cb.at_ 2 rfl
      have cb_3 := cb.at_ 3 rfl
      go_wp2_with fail
      (with_reducible refine (CL.out _ cs).mono ?_); rintro e w2 ⟨⟨A2, c2, rfl, fr⟩, hb2⟩
      clear cb_0 cb_1 cb_2 cb_3
      replace cb := cb.call hb2
      replace ob := ob.call hb2
      replace hb := hb.call hb2
      replace HLD := Lib.hid (HLD.out.call hb2)
      replace low := gCall low hb2
      clear hb2 ce cs CL
      generalize hW : allW ss = W at *
      have CC := Lib.hid (show cpsOf k ss = W.map (fun x => (⟨(k : Int), x⟩ : Cp)) by rw [cpsOf, hW])
      clear hW
      go_wp2_with fail
      go_loopw [41] (fun i wx => ∃ j : Nat, j ≤ W.length ∧ i = .int .i64 j ∧ Hid (∃ us, Box wx w1.heap.size 116 us.toArray ∧ Held wx w.heap.size us (copN css k ++ (W.take j).map (fun x => ⟨(k : Int), x⟩)) ∧ Fr wx w.heap.size wx.heap.size (.slice A2 W.length c2) W) ∧ Box wx w.heap.size 23 (cfgA n s y b) ∧ Box wx (w.heap.size + 1 + 1) 116 nil16 ∧ Below w.heap.size w wx) (fun i _ => W.length - (intOf i).toNat)
      case atStart => exact ⟨0, Nat.zero_le _, rfl, Lib.hid ⟨us, hb, by simpa using HLD.out, fr.more (by omega) (by omega)⟩, cb, ob, low⟩
      case round =>
        clear cb ob hb low HLD fr
        obtain ⟨j, hj, rfl, hus, cb, ob, low⟩ := hrel
        obtain ⟨us, hb, hld, fr⟩ := hus.out
        clear hus
        by_cases hlt2 : j < W.length
        · have hz : W[j]? = some W[j] := List.getElem?_eq_getElem _
          generalize W[j] = z at hz
          have ML := LN.out z (List.mem_of_getElem? hz)
          generalize hP : copN css k ++ (W.take j).map (fun x => (⟨(k : Int), x⟩ : Cp)) = P at hld
          have hzt : copN css k ++ (W.take (j + 1)).map (fun x => (⟨(k : Int), x⟩ : Cp)) = P ++ [⟨(k : Int), z⟩] := by
            obtain ⟨hj', rfl⟩ := List.getElem?_eq_some_iff.1 hz
            rw [← hP, List.take_succ_eq_append_getElem hj', List.map_append, List.append_assoc]
            rfl
          have hPl : P.length ≤ 128 := by
            have := L16.out
            rw [← hP, List.length_append, List.length_map, List.length_take]
            omega
          have PL0 := Lib.hid hPl
          clear hP hPl
          obtain ⟨hl, A3, cx, e3, g1, g2, g3⟩ := fr.ws
          cases e3
          obtain ⟨b3, o3, rfl, hb3, hc3⟩ := g3 (by omega)
          obtain ⟨x0, x1, x2, x3, x4, x5⟩ := wayAt_of hc3 hb3 (Below.refl _ _) hz
          obtain ⟨q, hq⟩ : ∃ q : Nat, z.ln = q := ⟨z.ln.toNat, by omega⟩
          obtain ⟨st, ln, wa, wb', wc, wd'⟩ := z
          simp only at hq x0 x1 x2 x3 x4 x5 ML
          subst hq
          have hq16 : q < us.length := by have := hld.len; omega
          have hu : us[q]? = some us[q] := List.getElem?_eq_getElem _
          generalize us[q] = u at hu
          have HZT := Lib.hid hzt
          have HU := Lib.hid hu
          have hcu : us.toArray[q]? = some u := by rw [List.getElem?_toArray]; exact hu
          unfold maxLen at g2
          have PL := Lib.hid (Nat.le_trans (onL_length q P) PL0.out)
          have q15 : (q : Int) < 16 := by omega
          have j0 : (0 : Int) ≤ j := by omega
          have j1 : (j : Int) < W.length := by omega
          have lz := low.size
          have hbl := hb.lt
          clear hl g3 hc3 hz hzt hu ML
          have HLD := Lib.hid (hld.alloc (.cells #[.int .i64 st, .int .i64 (q : Int), .int .u64 wa, .int .u64 wb', .int .u64 wc, .int .u64 wd'] 80))
          have FR := Lib.hid (fr.alloc (.cells #[.int .i64 st, .int .i64 (q : Int), .int .u64 wa, .int .u64 wb', .int .u64 wc, .int .u64 wd'] 80))
          clear hld fr
          have xb := boxNext low 80 #[.int .i64 st, .int .i64 (q : Int), .int .u64 wa, .int .u64 wb', .int .u64 wc, .int .u64 wd']
          replace low := gAlloc low (.cells #[.int .i64 st, .int .i64 (q : Int), .int .u64 wa, .int .u64 wb', .int .u64 wc, .int .u64 wd'] 80)
          replace cb := cb.alloc (.cells #[.int .i64 st, .int .i64 (q : Int), .int .u64 wa, .int .u64 wb', .int .u64 wc, .int .u64 wd'] 80)
          replace ob := ob.alloc (.cells #[.int .i64 st, .int .i64 (q : Int), .int .u64 wa, .int .u64 wb', .int .u64 wc, .int .u64 wd'] 80)
          replace hb := hb.alloc (.cells #[.int .i64 st, .int .i64 (q : Int), .int .u64 wa, .int .u64 wb', .int .u64 wc, .int .u64 wd'] 80)
          try simp only [World.size_alloc] at xb
          go_wp2_with fail
          clear x0 x1 x2 x3 x4 x5
          have hqc := hb.at_ q hcu
          generalize wr.alloc (.cells #[.int .i64 st, .int .i64 (q : Int), .int .u64 wa, .int .u64 wb', .int .u64 wc, .int .u64 wd'] 80) = wy at *
          generalize wr.heap.size = gx at *
          have x0 : wy.cell? ⟨gx, 0, none⟩ = some (.int .i64 st) := xb.at_ 0 rfl
          have x1 : wy.cell? ⟨gx, 1, none⟩ = some (.int .i64 (q : Int)) := xb.at_ 1 rfl
          have x2 : wy.cell? ⟨gx, 2, none⟩ = some (.int .u64 wa) := xb.at_ 2 rfl
          have x3 : wy.cell? ⟨gx, 3, none⟩ = some (.int .u64 wb') := xb.at_ 3 rfl
          have x4 : wy.cell? ⟨gx, 4, none⟩ = some (.int .u64 wc) := xb.at_ 4 rfl
          have x5 : wy.cell? ⟨gx, 5, none⟩ = some (.int .u64 wd') := xb.at_ 5 rfl
          refine wp_region_noPanic ?_
          refine wp_region_held_drew (S := fun w' => w'.cell? ⟨gx, 0, none⟩ = some (.int .i64 st) ∧ w'.cell? ⟨gx, 1, none⟩ = some (.int .i64 (q : Int)) ∧ w'.cell? ⟨gx, 2, none⟩ = some (.int .u64 wa) ∧ w'.cell? ⟨gx, 3, none⟩ = some (.int .u64 wb') ∧ w'.cell? ⟨gx, 4, none⟩ = some (.int .u64 wc) ∧ w'.cell? ⟨gx, 5, none⟩ = some (.int .u64 wd')) (by kernel_rfl) ⟨drewC x0, drewC x1, drewC x2, drewC x3, drewC x4, drewC x5⟩ (fun hHeld => ?_)
          clear x0 x1 x2 x3 x4 x5
          refine takeFirst (i := 0) (v := ?_) rfl (by kernel_rfl) (by kernel_rfl) (by kernel_rfl) (by rfl) (fun _ _ _ h => h) ?_ (by assumption) ?_
          rotate_left
          · (intro w hSw; go_simp; try (with_reducible rfl))
          try simp only [Act.put, List.setIfInBounds_toArray, List.set_cons_zero, List.set_cons_succ]
          refine takeFirst (i := 1) (v := ?_) rfl (by kernel_rfl) (by kernel_rfl) (by kernel_rfl) (by rfl) (fun _ _ _ h => h) ?_ (by assumption) ?_
          rotate_left
          · (intro w hSw; go_simp; try (with_reducible rfl))
          try simp only [Act.put, List.setIfInBounds_toArray, List.set_cons_zero, List.set_cons_succ]
          refine takeFirst (i := 2) (v := ?_) rfl (by kernel_rfl) (by kernel_rfl) (by kernel_rfl) (by rfl) (fun _ _ _ h => h) ?_ (by assumption) ?_
          rotate_left
          · (intro w hSw; go_simp; try (with_reducible rfl))
          try simp only [Act.put, List.setIfInBounds_toArray, List.set_cons_zero, List.set_cons_succ]
          refine takeFirst (i := 3) (v := ?_) rfl (by kernel_rfl) (by kernel_rfl) (by kernel_rfl) (by rfl) (fun _ _ _ h => h) ?_ (by assumption) ?_
          rotate_left
          · (intro w hSw; go_simp; try (with_reducible rfl))
          try simp only [Act.put, List.setIfInBounds_toArray, List.set_cons_zero, List.set_cons_succ]
          refine takeFirst (i := 4) (v := ?_) rfl (by kernel_rfl) (by kernel_rfl) (by kernel_rfl) (by rfl) (fun _ _ _ h => h) ?_ (by assumption) ?_
          rotate_left
          · (intro w hSw; go_simp; try (with_reducible rfl))
          try simp only [Act.put, List.setIfInBounds_toArray, List.set_cons_zero, List.set_cons_succ]
          refine takeFirst (i := 6) (v := ?_) rfl (by kernel_rfl) (by kernel_rfl) (by kernel_rfl) (by rfl) (fun _ _ _ h => h) ?_ (by assumption) ?_
          rotate_left
          · (intro w hSw; go_simp; try (with_reducible rfl))
          try simp only [Act.put, List.setIfInBounds_toArray, List.set_cons_zero, List.set_cons_succ]
          refine takeFirst (i := 7) (v := ?_) rfl (by kernel_rfl) (by kernel_rfl) (by kernel_rfl) (by rfl) (fun _ _ _ h => h) ?_ (by assumption) ?_
          rotate_left
          · (intro w hSw; go_simp; try (with_reducible rfl))
          try simp only [Act.put, List.setIfInBounds_toArray, List.set_cons_zero, List.set_cons_succ]
          refine takeFirst (i := 8) (v := ?_) rfl (by kernel_rfl) (by kernel_rfl) (by kernel_rfl) (by rfl) (fun _ _ _ h => h) ?_ (by assumption) ?_
          rotate_left
          · (intro w hSw; go_simp; try (with_reducible rfl))
          try simp only [Act.put, List.setIfInBounds_toArray, List.set_cons_zero, List.set_cons_succ]
          have hld := (HLD.out.alloc (.cells #[.int .i64 (k : Int), .int .i64 st, .int .i64 (q : Int), .int .u64 wa, .int .u64 wb', .int .u64 wc, .int .u64 wd'] 168)).drew
          have own := (hld.own q u HU.out).1
          have FR2 := Lib.hid ((FR.out.alloc (.cells #[.int .i64 (k : Int), .int .i64 st, .int .i64 (q : Int), .int .u64 wa, .int .u64 wb', .int .u64 wc, .int .u64 wd'] 168)).call (Below.refl _ _).drew)
          have hb2 := (hb.alloc (.cells #[.int .i64 (k : Int), .int .i64 st, .int .i64 (q : Int), .int .u64 wa, .int .u64 wb', .int .u64 wc, .int .u64 wd'] 168)).drew
          have cb2 := (cb.alloc (.cells #[.int .i64 (k : Int), .int .i64 st, .int .i64 (q : Int), .int .u64 wa, .int .u64 wb', .int .u64 wc, .int .u64 wd'] 168)).drew
          have ob2 := (ob.alloc (.cells #[.int .i64 (k : Int), .int .i64 st, .int .i64 (q : Int), .int .u64 wa, .int .u64 wb', .int .u64 wc, .int .u64 wd'] 168)).drew
          have xb2 := (xb.alloc (.cells #[.int .i64 (k : Int), .int .i64 st, .int .i64 (q : Int), .int .u64 wa, .int .u64 wb', .int .u64 wc, .int .u64 wd'] 168)).drew
          have low2 := (gAlloc low (.cells #[.int .i64 (k : Int), .int .i64 st, .int .i64 (q : Int), .int .u64 wa, .int .u64 wb', .int .u64 wc, .int .u64 wd'] 168)).drew
          have news := Lib.hid fun i u' h => cells_new wy 168 ⟨(k : Int), ⟨st, q, wa, wb', wc, wd'⟩⟩ wy.heap.size i u' rfl h
          have lo2 := low2.size
          have e2 : us.toArray.size = 16 := by rw [List.size_toArray]; exact hld.len
          clear HLD FR hb cb ob xb low
          refine stepTwo (i1 := 5) (i2 := 9) (by kernel_rfl) rfl rfl (by rfl) (by rfl) (fun K hK => ?_) (fun K hK => ?_)
          · go_simp
            refine hK.out _ _ hHeld ?_
            clear hK K
            try simp only [Act.put]
            try simp only [List.setIfInBounds_toArray, List.set_cons_zero, List.set_cons_succ]
            refine stepNext (i := 9) (by kernel_rfl) rfl (by rfl) (fun K hK => ?_)
            go_simp
            obtain ⟨hh0, hh1, hh2, hh3, hh4, hh5⟩ := hHeld
            have hHeld := (And.intro (drewC (allocC (.cells #[.int .i64 (k : Int), .int .i64 st, .int .i64 (q : Int), .int .u64 wa, .int .u64 wb', .int .u64 wc, .int .u64 wd'] 168) hh0)) (And.intro (drewC (allocC (.cells #[.int .i64 (k : Int), .int .i64 st, .int .i64 (q : Int), .int .u64 wa, .int .u64 wb', .int .u64 wc, .int .u64 wd'] 168) hh1)) (And.intro (drewC (allocC (.cells #[.int .i64 (k : Int), .int .i64 st, .int .i64 (q : Int), .int .u64 wa, .int .u64 wb', .int .u64 wc, .int .u64 wd'] 168) hh2)) (And.intro (drewC (allocC (.cells #[.int .i64 (k : Int), .int .i64 st, .int .i64 (q : Int), .int .u64 wa, .int .u64 wb', .int .u64 wc, .int .u64 wd'] 168) hh3)) (And.intro (drewC (allocC (.cells #[.int .i64 (k : Int), .int .i64 st, .int .i64 (q : Int), .int .u64 wa, .int .u64 wb', .int .u64 wc, .int .u64 wd'] 168) hh4)) (drewC (allocC (.cells #[.int .i64 (k : Int), .int .i64 st, .int .i64 (q : Int), .int .u64 wa, .int .u64 wb', .int .u64 wc, .int .u64 wd'] 168) hh5)))))))
            clear hh0 hh1 hh2 hh3 hh4 hh5
            refine hK.out _ _ hHeld ?_
            clear hK K
            try simp only [Act.put]
            try simp only [List.setIfInBounds_toArray, List.set_cons_zero, List.set_cons_succ]
            refine stepNext (i := 10) (by kernel_rfl) rfl (by rfl) (fun K hK => ?_)
            refine wp_append_own _ (.tmp 50) (.tmp 54) 114 rfl w.heap.size 168 i0 cp0 7 56 Tryz.underlying114 HI.out HZ.out.1 HZ.out.2.1 HZ.out.2.2 rfl (by decide) _ _ _ rfl own ⟨wy.heap.size, 0, none⟩ 1 1 (Cp.cells ⟨(k : Int), ⟨st, q, wa, wb', wc, wd'⟩⟩) rfl rfl news.out (cells_one _) ?f3 ?f4 ?f5 ?_
            case f3 => have := PL.out; unfold maxLen; omega
            case f4 => have := PL.out; omega
            case f5 => omega
            intro v4 w4 own4 grow4 _
            obtain ⟨A4, c4, rfl⟩ := own_shape own4
            have hb4 := hb2.grown grow4 (own_ne own hb2 (by decide))
            have cb4 := cb2.grown grow4 (own_ne own cb2 (by decide))
            have ob4 := ob2.grown grow4 (own_ne own ob2 (by decide))
            have fr4 := FR2.out.grown own (by decide) grow4
            have hld4 := hld.push HU.out (c := ⟨(k : Int), ⟨st, q, wa, wb', wc, wd'⟩⟩) rfl own4 grow4
            have low4 : Below w.heap.size w w4 := low2.grown grow4 (by omega) (fun g e => by have := own.lt _ e; omega)
            obtain ⟨hh0, hh1, hh2, hh3, hh4, hh5⟩ := hHeld
            have hHeld := (And.intro (grow4.cell hh0 (own_ne own xb2 (by decide))) (And.intro (grow4.cell hh1 (own_ne own xb2 (by decide))) (And.intro (grow4.cell hh2 (own_ne own xb2 (by decide))) (And.intro (grow4.cell hh3 (own_ne own xb2 (by decide))) (And.intro (grow4.cell hh4 (own_ne own xb2 (by decide))) (grow4.cell hh5 (own_ne own xb2 (by decide))))))))
            clear hh0 hh1 hh2 hh3 hh4 hh5
            refine hK.out _ _ hHeld ?_
            clear hK K
            try simp only [Act.put]
            try simp only [List.setIfInBounds_toArray, List.set_cons_zero, List.set_cons_succ]
            refine takeFirst (i := 11) (v := ?_) rfl (by kernel_rfl) (by kernel_rfl) (by kernel_rfl) (by rfl) (fun _ _ _ h => h) ?_ (by assumption) ?_
            rotate_left
            · (intro w hSw; go_simp; try (with_reducible rfl))
            try simp only [Act.put, List.setIfInBounds_toArray, List.set_cons_zero, List.set_cons_succ]
            refine stepNext (i := 12) (by kernel_rfl) rfl (by rfl) (fun K hK => ?_)
            have hq4 := hb4.at_ q hcu
            have hf4 := hb4.frozen q
            go_simp
            have st5 : Stored w4 w1.heap.size (w4.setCell ⟨w1.heap.size, q, none⟩ (.slice A4 ((onL q P).length + 1) c4)) := Stored.cell1 w4 ⟨w1.heap.size, q, none⟩ _
            have hb5 := hb4.set q (.slice A4 ((onL q P).length + 1) c4)
            rw [List.setIfInBounds_toArray] at hb5
            have cb5 := st5.box cb4 (by omega)
            have ob5 := st5.box ob4 (by omega)
            have HLD5 := Lib.hid (hld4.stored hb4 (by decide) st5)
            have FR5 := Lib.hid (fr4.stored hb4 (by decide) st5)
            have low5 := st5.low low4 (by omega)
            have sz5 := st5.size
            have zx := Nat.lt_of_lt_of_le xb2.lt grow4.size
            obtain ⟨hh0, hh1, hh2, hh3, hh4, hh5⟩ := hHeld
            have hHeld := (And.intro (st5.cell (by dsimp only; omega) hh0) (And.intro (st5.cell (by dsimp only; omega) hh1) (And.intro (st5.cell (by dsimp only; omega) hh2) (And.intro (st5.cell (by dsimp only; omega) hh3) (And.intro (st5.cell (by dsimp only; omega) hh4) (st5.cell (by dsimp only; omega) hh5))))))
            clear hh0 hh1 hh2 hh3 hh4 hh5
            clear st5 hld4 fr4 hb4 cb4 ob4 low4 hq4 hf4 grow4 own4 own hld hb2 cb2 ob2 xb2 low2 FR2
            generalize w4.setCell ⟨w1.heap.size, q, none⟩ (.slice A4 ((onL q P).length + 1) c4) = w5 at *
            refine hK.out _ _ hHeld ?_
            clear hK K
            try simp only [Act.put]
            try simp only [List.setIfInBounds_toArray, List.set_cons_zero, List.set_cons_succ]
            clear hHeld
            refine wpAnyH_done (by kernel_rfl) ?_ _
            refine NoPanic.normal ?_
            go_wp2_with fail
            go_roundw
            case rel => exact ⟨j + 1, by omega, by go_num, Lib.hid ⟨_, hb5, by rw [HZT.out]; exact HLD5.out, FR5.out.more (Nat.le_refl _) (by omega)⟩, cb5, ob5, low5⟩
            case measure => simp [intOf]; omega
          · go_simp
            obtain ⟨hh0, hh1, hh2, hh3, hh4, hh5⟩ := hHeld
            have hHeld := (And.intro (drewC (allocC (.cells #[.int .i64 (k : Int), .int .i64 st, .int .i64 (q : Int), .int .u64 wa, .int .u64 wb', .int .u64 wc, .int .u64 wd'] 168) hh0)) (And.intro (drewC (allocC (.cells #[.int .i64 (k : Int), .int .i64 st, .int .i64 (q : Int), .int .u64 wa, .int .u64 wb', .int .u64 wc, .int .u64 wd'] 168) hh1)) (And.intro (drewC (allocC (.cells #[.int .i64 (k : Int), .int .i64 st, .int .i64 (q : Int), .int .u64 wa, .int .u64 wb', .int .u64 wc, .int .u64 wd'] 168) hh2)) (And.intro (drewC (allocC (.cells #[.int .i64 (k : Int), .int .i64 st, .int .i64 (q : Int), .int .u64 wa, .int .u64 wb', .int .u64 wc, .int .u64 wd'] 168) hh3)) (And.intro (drewC (allocC (.cells #[.int .i64 (k : Int), .int .i64 st, .int .i64 (q : Int), .int .u64 wa, .int .u64 wb', .int .u64 wc, .int .u64 wd'] 168) hh4)) (drewC (allocC (.cells #[.int .i64 (k : Int), .int .i64 st, .int .i64 (q : Int), .int .u64 wa, .int .u64 wb', .int .u64 wc, .int .u64 wd'] 168) hh5)))))))
            clear hh0 hh1 hh2 hh3 hh4 hh5
            refine hK.out _ _ hHeld ?_
            clear hK K
            try simp only [Act.put]
            try simp only [List.setIfInBounds_toArray, List.set_cons_zero, List.set_cons_succ]
            have hqc2 := hb2.at_ q hcu
            refine stepNext (i := 5) (by kernel_rfl) rfl (by rfl) (fun K hK => ?_)
            go_simp
            refine hK.out _ _ hHeld ?_
            clear hK K
            try simp only [Act.put]
            try simp only [List.setIfInBounds_toArray, List.set_cons_zero, List.set_cons_succ]
            refine stepNext (i := 10) (by kernel_rfl) rfl (by rfl) (fun K hK => ?_)
            refine wp_append_own _ (.tmp 50) (.tmp 54) 114 rfl w.heap.size 168 i0 cp0 7 56 Tryz.underlying114 HI.out HZ.out.1 HZ.out.2.1 HZ.out.2.2 rfl (by decide) _ _ _ rfl own ⟨wy.heap.size, 0, none⟩ 1 1 (Cp.cells ⟨(k : Int), ⟨st, q, wa, wb', wc, wd'⟩⟩) rfl rfl news.out (cells_one _) ?f3 ?f4 ?f5 ?_
            case f3 => have := PL.out; unfold maxLen; omega
            case f4 => have := PL.out; omega
            case f5 => omega
            intro v4 w4 own4 grow4 _
            obtain ⟨A4, c4, rfl⟩ := own_shape own4
            have hb4 := hb2.grown grow4 (own_ne own hb2 (by decide))
            have cb4 := cb2.grown grow4 (own_ne own cb2 (by decide))
            have ob4 := ob2.grown grow4 (own_ne own ob2 (by decide))
            have fr4 := FR2.out.grown own (by decide) grow4
            have hld4 := hld.push HU.out (c := ⟨(k : Int), ⟨st, q, wa, wb', wc, wd'⟩⟩) rfl own4 grow4
            have low4 : Below w.heap.size w w4 := low2.grown grow4 (by omega) (fun g e => by have := own.lt _ e; omega)
            obtain ⟨hh0, hh1, hh2, hh3, hh4, hh5⟩ := hHeld
            have hHeld := (And.intro (grow4.cell hh0 (own_ne own xb2 (by decide))) (And.intro (grow4.cell hh1 (own_ne own xb2 (by decide))) (And.intro (grow4.cell hh2 (own_ne own xb2 (by decide))) (And.intro (grow4.cell hh3 (own_ne own xb2 (by decide))) (And.intro (grow4.cell hh4 (own_ne own xb2 (by decide))) (grow4.cell hh5 (own_ne own xb2 (by decide))))))))
            clear hh0 hh1 hh2 hh3 hh4 hh5
            refine hK.out _ _ hHeld ?_
            clear hK K
            try simp only [Act.put]
            try simp only [List.setIfInBounds_toArray, List.set_cons_zero, List.set_cons_succ]
            refine takeFirst (i := 11) (v := ?_) rfl (by kernel_rfl) (by kernel_rfl) (by kernel_rfl) (by rfl) (fun _ _ _ h => h) ?_ (by assumption) ?_
            rotate_left
            · (intro w hSw; go_simp; try (with_reducible rfl))
            try simp only [Act.put, List.setIfInBounds_toArray, List.set_cons_zero, List.set_cons_succ]
            refine stepNext (i := 12) (by kernel_rfl) rfl (by rfl) (fun K hK => ?_)
            have hq4 := hb4.at_ q hcu
            have hf4 := hb4.frozen q
            go_simp
            have st5 : Stored w4 w1.heap.size (w4.setCell ⟨w1.heap.size, q, none⟩ (.slice A4 ((onL q P).length + 1) c4)) := Stored.cell1 w4 ⟨w1.heap.size, q, none⟩ _
            have hb5 := hb4.set q (.slice A4 ((onL q P).length + 1) c4)
            rw [List.setIfInBounds_toArray] at hb5
            have cb5 := st5.box cb4 (by omega)
            have ob5 := st5.box ob4 (by omega)
            have HLD5 := Lib.hid (hld4.stored hb4 (by decide) st5)
            have FR5 := Lib.hid (fr4.stored hb4 (by decide) st5)
            have low5 := st5.low low4 (by omega)
            have sz5 := st5.size
            have zx := Nat.lt_of_lt_of_le xb2.lt grow4.size
            obtain ⟨hh0, hh1, hh2, hh3, hh4, hh5⟩ := hHeld
            have hHeld := (And.intro (st5.cell (by dsimp only; omega) hh0) (And.intro (st5.cell (by dsimp only; omega) hh1) (And.intro (st5.cell (by dsimp only; omega) hh2) (And.intro (st5.cell (by dsimp only; omega) hh3) (And.intro (st5.cell (by dsimp only; omega) hh4) (st5.cell (by dsimp only; omega) hh5))))))
            clear hh0 hh1 hh2 hh3 hh4 hh5
            clear st5 hld4 fr4 hb4 cb4 ob4 low4 hq4 hf4 grow4 own4 own hld hb2 cb2 ob2 xb2 low2 FR2
            generalize w4.setCell ⟨w1.heap.size, q, none⟩ (.slice A4 ((onL q P).length + 1) c4) = w5 at *
            refine hK.out _ _ hHeld ?_
            clear hK K
            try simp only [Act.put]
            try simp only [List.setIfInBounds_toArray, List.set_cons_zero, List.set_cons_succ]
            clear hHeld
            refine wpAnyH_done (by kernel_rfl) ?_ _
            refine NoPanic.normal ?_
            go_wp2_with fail
            go_roundw
            case rel => exact ⟨j + 1, by omega, by go_num, Lib.hid ⟨_, hb5, by rw [HZT.out]; exact HLD5.out, FR5.out.more (Nat.le_refl _) (by omega)⟩, cb5, ob5, low5⟩
            case measure => simp [intOf]; omega
        · obtain rfl : j = W.length := by omega
          rw [List.take_length, ← CC.out, ← CN.out] at hld
          have PLN := Lib.hid (show (copN css (k + 1)).length ≤ (k + 1) * 16 by
            have := L16.out
            rw [CN.out, CC.out, List.length_append, List.length_map]
            omega)
          have HLD := Lib.hid hld
          clear hld fr
          go_wp2_with fail
          go_roundw
          case rel => exact ⟨k + 1, by omega, by go_num, Lib.hid ⟨_, hb, HLD.out, PLN.out⟩, cb, ob, low⟩
          case measure => simp [intOf]; omega
    · obtain rfl : k = css.length := by omega
      obtain ⟨us, hb, hld, _⟩ := hus.out
      have u16 : us.toArray.size = nil16.size := by rw [List.size_toArray, hld.len, nil16_size]
      have one := us_one hld
      have HLD := Lib.hid hld
      have hbr := hb.range
      clear hus hld
      go_wp2_with (first | ((with_reducible refine wp_loadW (tyCopies) (hbr) (u16) ?_ ?_ ?_); rfl; rfl) | ((with_reducible refine wp_storeW (tyCopies) (ob) (rfl) (u16) (one) ?_ ?_ ?_); rfl; rfl))
      intro w3 ob3 st
      have HL3 := Lib.hid (HLD.out.stored ob (by decide) st)
      replace low := st.low low (by omega)
      clear ob st hb cb HLD
      go_wp2_with fail
      exact bodyPost_ret (v := .tuple #[.agg us.toArray, .int .i64 0]) (results_first tyCopies Tryz.results71 rfl rfl ob3 u16) rfl ⟨⟨us, rfl, HL3.out⟩, low⟩
end Go.Proofs.YtgdacpcifnpojaaGreat

/- Agree3: Proved: what coherent of package agree returns, for every world that can be read; it changes nothing that was there. No condition. -/
namespace Go.Proofs.YtgdacpcifnpojaaGreat
open Go.ChangeShapes Go.WideShapes Go.ChangeAt Go.RowKit Go.Joins

/-- The first line that is not coherent; the error of a world, and its line. -/
def badL (P : List Cp) (m : List Int) : Option Nat := (List.range 16).find? fun k => lnE (onL k P) (l4 m k) != 0
def cohE (n s y b : Int) (css : List (List St)) (m : List Int) : Int :=
  if formE n s y b css ≠ 0 then formE n s y b css else match badL (copN css css.length) m with | some k => lnE (onL k (copN css css.length)) (l4 m k) | none => 0
def cohL (n s y b : Int) (css : List (List St)) (m : List Int) : Int :=
  if formE n s y b css ≠ 0 then 0 else match badL (copN css css.length) m with | some k => (k : Int) | none => 0

theorem badL_some {P : List Cp} {m : List Int} {k : Nat} (hk : k < 16) (h0 : ∀ j, j < k → lnE (onL j P) (l4 m j) = 0) (h : lnE (onL k P) (l4 m k) ≠ 0) : badL P m = some k := by
  unfold badL
  rw [List.find?_eq_some_iff_getElem]
  refine ⟨by simpa using h, k, by simpa using hk, by simp, fun j hj => ?_⟩
  simp [h0 j hj]
theorem badL_none {P : List Cp} {m : List Int} (h : ∀ j, j < 16 → lnE (onL j P) (l4 m j) = 0) : badL P m = none := by
  unfold badL
  rw [List.find?_eq_none]
  intro k hk
  simp [h k (by simpa using hk)]
theorem badL_all {P : List Cp} {m : List Int} (h : badL P m = none) : ∀ j, j < 16 → lnE (onL j P) (l4 m j) = 0 := by
  unfold badL at h
  rw [List.find?_eq_none] at h
  intro j hj
  have := h j (by simpa using hj)
  simpa using this
theorem badL_ne {P : List Cp} {m : List Int} {k : Nat} (h : badL P m = some k) : lnE (onL k P) (l4 m k) ≠ 0 := by
  unfold badL at h
  have := List.find?_some h
  simpa using this
theorem cohE_ok {n s y b : Int} {css : List (List St)} {m : List Int} (h : cohE n s y b css m = 0) : formE n s y b css = 0 ∧ ∀ j, j < 16 → lnE (onL j (copN css css.length)) (l4 m j) = 0 := by
  unfold cohE at h
  by_cases h1 : formE n s y b css ≠ 0
  · rw [if_pos h1] at h; exact absurd h h1
  · rw [if_neg h1] at h
    refine ⟨by simpa using h1, ?_⟩
    cases e : badL (copN css css.length) m with
    | none => exact badL_all e
    | some k => rw [e] at h; exact absurd h (badL_ne e)

/-- A line out of a memory's value. -/
theorem index_mem (m : List Int) (hm : m.length = 64) (k : Nat) (hk : k < 16) (w : World) : (Instr.index 29 (memV m) (.int .i64 k)).run Tryz.prog w = .ok (lineAt m k) w := by
  have hx : (memA m).extract (k * 4) (k * 4 + 4) = #[.int .u64 (wd m (k * 4)), .int .u64 (wd m (k * 4 + 1)), .int .u64 (wd m (k * 4 + 2)), .int .u64 (wd m (k * 4 + 3))] := by
    refine Array.ext_getElem? fun i => ?_
    rw [Array.getElem?_extract]
    match i with
    | 0 => rw [if_pos (by rw [memA_size]; omega), memA_at _ (by omega)]; simp
    | 1 => rw [if_pos (by rw [memA_size]; omega), memA_at _ (by omega)]; simp
    | 2 => rw [if_pos (by rw [memA_size]; omega), memA_at _ (by omega)]; simp
    | 3 => rw [if_pos (by rw [memA_size]; omega), memA_at _ (by omega)]; simp
    | i + 4 => rw [if_neg (by omega)]; simp
  have hu : (underlying 29).run Tryz.prog w = .ok (.array 16 27) w := by kernel_rfl
  have hs : (sizeOf 27).run Tryz.prog w = .ok 4 w := by kernel_rfl
  have h1 : (0 : Int) ≤ k ∧ (k : Int) < (16 : Nat) := by omega
  simp [Instr.index, asIntOf, Sem.run_bind, hu, hs, part, h1, hx]
  omega

set_option maxHeartbeats 1000000 in
theorem coherent_form (n s y b : Int) (v : Value) (m : List Int) (css : List (List St)) (w : World) (h : Ks w v css) (hm : m.length = 64) (he : formE n s y b css ≠ 0) :
    Calls Tryz.prog 52 #[cfg n s y b, wldV v m] w fun e w' => e = .returned (.tuple #[.agg nil16, .int .i64 (formE n s y b css), .int .i64 0]) ∧ Below w.heap.size w w' := by
  have F := Lib.hid fun w hw => collect_bad n s y b v m css w hw hm he
  generalize formE n s y b css = E at F he ⊢
  have he' : (E != 0) = true := by simpa using he
  clear he
  have low := Below.refl w.heap.size w
  have cb := boxNext low 23 (cfgA n s y b)
  replace low := gAlloc low (.cells (cfgA n s y b) 23)
  replace h := h.alloc (.cells (cfgA n s y b) 23)
  try simp only [World.size_alloc] at cb
  have wb := boxNext low 31 (wldA v m)
  replace low := gAlloc low (.cells (wldA v m) 31)
  replace cb := cb.alloc (.cells (wldA v m) 31)
  replace h := h.alloc (.cells (wldA v m) 31)
  try simp only [World.size_alloc] at wb
  have ob := boxNext low 116 nil16
  replace low := gAlloc low (.cells nil16 116)
  replace cb := cb.alloc (.cells nil16 116)
  replace wb := wb.alloc (.cells nil16 116)
  replace h := h.alloc (.cells nil16 116)
  try simp only [World.size_alloc] at ob
  have wr := wb.range
  go_enter Tryz.func52, Tryz.ntmps52
  go_wp2_with (first | (with_reducible refine wp_newW (tyCopies) ?_) | ((with_reducible refine wp_loadW (tyWorld) (wr) (wld_size hm) ?_ ?_ ?_); rfl; rfl))
  (with_reducible refine (F.out _ h).mono ?_); rintro e w1 ⟨rfl, hb⟩
  replace ob := ob.call hb
  replace low := gCall low hb
  clear hb cb wb wr
  have z1 := ob.lt
  have hb := boxNext low 116 nil16
  replace low := gAlloc low (.cells nil16 116)
  replace ob := ob.alloc (.cells nil16 116)
  try simp only [World.size_alloc] at hb
  go_wp2_with (first | (with_reducible refine wp_newW (tyCopies) ?_) | ((with_reducible refine wp_freshW (tyCopies) (rfl) (rfl) (nil16_one) ?_ ?_ ?_); rfl; rfl) | (with_reducible refine wp_zeroW (tyCopies) ?_) | ((with_reducible refine wp_storeW (tyCopies) (ob) (rfl) (rfl) (nil16_one) ?_ ?_ ?_); rfl; rfl))
  intro w2 ob2 st
  replace low := st.low low (by omega)
  clear ob st
  go_wp2_with fail
  refine bodyPost_ret (v := .tuple #[.agg nil16, .int .i64 E, .int .i64 0]) (results_first3 tyCopies Tryz.results52 rfl rfl rfl ob2 rfl) rfl ⟨rfl, low⟩

/-- The slices of copies, for a reader. -/
structure Hds (w : World) (us : List Value) (P : List Cp) : Prop where
  len : us.length = 16
  cps : ∀ (k : Nat) u, us[k]? = some u → Cps w u (onL k P)
theorem Hds.call {w w' : World} {us : List Value} {P : List Cp} (h : Hds w us P) (hb : Below w.heap.size w w') : Hds w' us P := ⟨h.len, fun k u hu => (h.cps k u hu).call hb⟩
theorem Hds.alloc {w : World} {us : List Value} {P : List Cp} (h : Hds w us P) (o : Obj) : Hds (w.alloc o) us P := h.call (gAlloc (Below.refl _ _) o)
theorem Hds.drew {w : World} {us : List Value} {P : List Cp} (h : Hds w us P) : Hds w.drew us P := h.call (Below.refl _ _).drew
theorem Hds.one {w : World} {us : List Value} {P : List Cp} (h : Hds w us P) : us.toArray.all (·.oneCell') = true := all_oneCell_toArray fun v hv => by
  obtain ⟨k, hk, e⟩ := List.getElem_of_mem hv
  obtain ⟨_, A, c, rfl, _⟩ := h.cps k v (by rw [List.getElem?_eq_getElem hk, e])
  rfl
theorem Hds.size {w : World} {us : List Value} {P : List Cp} (h : Hds w us P) : us.toArray.size = nil16.size := by rw [List.size_toArray, h.len, nil16_size]
theorem Held.hds {w : World} {base : Nat} {us : List Value} {P : List Cp} (h : Held w base us P) : Hds w us P := ⟨h.len, fun _ _ hu => h.cps hu⟩

/-- What coherent gives where the structure is right. -/
def CohIs (w : World) (P : List Cp) (m : List Int) (e : Ending) : Prop :=
  (∃ k : Nat, k < 16 ∧ (∀ j, j < k → lnE (onL j P) (l4 m j) = 0) ∧ lnE (onL k P) (l4 m k) ≠ 0 ∧ e = .returned (.tuple #[.agg nil16, .int .i64 (lnE (onL k P) (l4 m k)), .int .i64 k])) ∨
  ((∀ j, j < 16 → lnE (onL j P) (l4 m j) = 0) ∧ ∃ us, e = .returned (.tuple #[.agg us.toArray, .int .i64 0, .int .i64 0]) ∧ Hds w us P)

set_option maxRecDepth 10000 in
set_option maxHeartbeats 4000000 in
theorem coherent_is (n s y b : Int) (v : Value) (m : List Int) (css : List (List St)) (w : World) (h : Ks w v css) (hm : m.length = 64) (he : formE n s y b css = 0) :
    Calls Tryz.prog 52 #[cfg n s y b, wldV v m] w fun e w' => CohIs w' (copN css css.length) m e ∧ Below w.heap.size w w' := by
  have F := Lib.hid fun w hw => collect_ok n s y b v m css w hw hm he
  generalize copN css css.length = P at F ⊢
  have low := Below.refl w.heap.size w
  have cb := boxNext low 23 (cfgA n s y b)
  replace low := gAlloc low (.cells (cfgA n s y b) 23)
  replace h := h.alloc (.cells (cfgA n s y b) 23)
  try simp only [World.size_alloc] at cb
  have wb := boxNext low 31 (wldA v m)
  replace low := gAlloc low (.cells (wldA v m) 31)
  replace cb := cb.alloc (.cells (wldA v m) 31)
  replace h := h.alloc (.cells (wldA v m) 31)
  try simp only [World.size_alloc] at wb
  have ob := boxNext low 116 nil16
  replace low := gAlloc low (.cells nil16 116)
  replace cb := cb.alloc (.cells nil16 116)
  replace wb := wb.alloc (.cells nil16 116)
  replace h := h.alloc (.cells nil16 116)
  try simp only [World.size_alloc] at ob
  have wr := wb.range
  go_enter Tryz.func52, Tryz.ntmps52
  go_wp2_with (first | (with_reducible refine wp_newW (tyCopies) ?_) | ((with_reducible refine wp_loadW (tyWorld) (wr) (wld_size hm) ?_ ?_ ?_); rfl; rfl))
  (with_reducible refine (F.out _ h).mono ?_); rintro e w1 ⟨⟨us, rfl, hld⟩, hb⟩
  replace ob := ob.call hb
  replace wb := wb.call hb
  replace low := gCall low hb
  clear hb cb wr F
  have z1 := ob.lt
  have u16 : us.toArray.size = nil16.size := by rw [List.size_toArray, hld.len, nil16_size]
  have one := us_one hld
  replace hld := hld.alloc (.cells us.toArray 116)
  have hb := boxNext low 116 us.toArray
  replace low := gAlloc low (.cells us.toArray 116)
  replace ob := ob.alloc (.cells us.toArray 116)
  replace wb := wb.alloc (.cells us.toArray 116)
  try simp only [World.size_alloc] at hb
  have HLD := Lib.hid hld
  have wm := wld_mem wb
  clear hld
  go_wp2_with (first | (with_reducible refine wp_newW (tyCopies) ?_) | ((with_reducible refine wp_freshW (tyCopies) (rfl) (u16) (one) ?_ ?_ ?_); rfl; rfl) | ((with_reducible refine wp_loadW (tyMem) (wm) (mem_zsize hm) ?_ ?_ ?_); rfl; rfl))
  generalize (((w.alloc (.cells (cfgA n s y b) 23)).alloc (.cells (wldA v m) 31)).alloc (.cells nil16 116)).heap.size = base at HLD
  go_loopw [24] (fun i wr => ∃ k : Nat, k ≤ 16 ∧ i = .int .i64 k ∧ Hid (∀ j, j < k → lnE (onL j P) (l4 m j) = 0) ∧ Hid (Held wr base us P) ∧ Box wr w1.heap.size 116 us.toArray ∧ Box wr (w.heap.size + 1 + 1) 116 nil16 ∧ Below w.heap.size w wr) (fun i _ => 16 - (intOf i).toNat)
  case atStart => exact ⟨0, by omega, rfl, Lib.hid fun j hj => absurd hj (by omega), HLD, hb, ob, low⟩
  case round =>
    clear h wb hb ob low HLD wm
    obtain ⟨k, hk, rfl, hno, HLD, hb, ob, low⟩ := hrel
    by_cases hlt : k < 16
    · have ix := fun w => index_mem m hm k hlt w
      have k0 : (0 : Int) ≤ k := by omega
      have k1 : (k : Int) < 16 := by omega
      have hu : us[k]? = some (us[k]'(by have := HLD.out.len; omega)) := List.getElem?_eq_getElem _
      generalize us[k]'(by have := HLD.out.len; omega) = u at hu
      have cps := HLD.out.cps hu
      have hcu : us.toArray[k]? = some u := by rw [List.getElem?_toArray]; exact hu
      obtain ⟨A, c, rfl⟩ : ∃ A c, u = .slice A (onL k P).length c := by obtain ⟨_, A, c, e, _⟩ := cps; exact ⟨A, c, e⟩
      have CK := Lib.hid fun w hw => checkLine_any (.slice A (onL k P).length c) (onL k P) (l4 m k) w hw
      have HF := Lib.hid (show lnE (onL k P) (l4 m k) = lnE (onL k P) (l4 m k) from rfl)
      generalize hf : lnE (onL k P) (l4 m k) = f at CK
      replace HF := Lib.hid hf
      clear hf hu
      simp only [l4] at CK
      replace HLD := Lib.hid (HLD.out.alloc (.cells #[.int .u64 (wd m (k * 4)), .int .u64 (wd m (k * 4 + 1)), .int .u64 (wd m (k * 4 + 2)), .int .u64 (wd m (k * 4 + 3))] 27))
      replace cps := cps.alloc (.cells #[.int .u64 (wd m (k * 4)), .int .u64 (wd m (k * 4 + 1)), .int .u64 (wd m (k * 4 + 2)), .int .u64 (wd m (k * 4 + 3))] 27)
      have lb := boxNext low 27 #[.int .u64 (wd m (k * 4)), .int .u64 (wd m (k * 4 + 1)), .int .u64 (wd m (k * 4 + 2)), .int .u64 (wd m (k * 4 + 3))]
      replace low := gAlloc low (.cells #[.int .u64 (wd m (k * 4)), .int .u64 (wd m (k * 4 + 1)), .int .u64 (wd m (k * 4 + 2)), .int .u64 (wd m (k * 4 + 3))] 27)
      replace hb := hb.alloc (.cells #[.int .u64 (wd m (k * 4)), .int .u64 (wd m (k * 4 + 1)), .int .u64 (wd m (k * 4 + 2)), .int .u64 (wd m (k * 4 + 3))] 27)
      replace ob := ob.alloc (.cells #[.int .u64 (wd m (k * 4)), .int .u64 (wd m (k * 4 + 1)), .int .u64 (wd m (k * 4 + 2)), .int .u64 (wd m (k * 4 + 3))] 27)
      try simp only [World.size_alloc] at lb
      have hc0 := hb.at_ k hcu
      have l0 := lb.at_ 0 rfl
      have l1 := lb.at_ 1 rfl
      have l2 := lb.at_ 2 rfl
      have l3 := lb.at_ 3 rfl
      go_wp2_with fail
      refine wp_region_noPanic ?_
      refine wp_region_held_drew (S := fun w' => w'.cell? ⟨w1.heap.size, k, none⟩ = some (.slice A (onL k P).length c) ∧ w'.cell? ⟨wr.heap.size, 0, none⟩ = some (.int .u64 (wd m (k * 4))) ∧ w'.cell? ⟨wr.heap.size, 1, none⟩ = some (.int .u64 (wd m (k * 4 + 1))) ∧ w'.cell? ⟨wr.heap.size, 2, none⟩ = some (.int .u64 (wd m (k * 4 + 2))) ∧ w'.cell? ⟨wr.heap.size, 3, none⟩ = some (.int .u64 (wd m (k * 4 + 3)))) (by kernel_rfl) ⟨drewC hc0, drewC l0, drewC l1, drewC l2, drewC l3⟩ (fun hHeld => ?_)
      clear hc0 l0 l1 l2 l3 lb
      refine takeFirst (i := 0) (v := ?_) rfl (by kernel_rfl) (by kernel_rfl) (by kernel_rfl) (by rfl) (fun _ _ _ h => h) ?_ (by assumption) ?_
      rotate_left
      · (intro w hSw; go_simp; try (with_reducible rfl))
      try simp only [Act.put, List.setIfInBounds_toArray, List.set_cons_zero, List.set_cons_succ]
      refine takeFirst (i := 1) (v := ?_) rfl (by kernel_rfl) (by kernel_rfl) (by kernel_rfl) (by rfl) (fun _ _ _ h => h) ?_ (by assumption) ?_
      rotate_left
      · (intro w hSw; go_simp; try (with_reducible rfl))
      try simp only [Act.put, List.setIfInBounds_toArray, List.set_cons_zero, List.set_cons_succ]
      refine takeFirst (i := 2) (v := ?_) rfl (by kernel_rfl) (by kernel_rfl) (by kernel_rfl) (by rfl) (fun _ _ _ h => h) ?_ (by assumption) ?_
      rotate_left
      · (intro w hSw; go_simp; try (with_reducible rfl))
      try simp only [Act.put, List.setIfInBounds_toArray, List.set_cons_zero, List.set_cons_succ]
      refine takeFirst (i := 3) (v := ?_) rfl (by kernel_rfl) (by kernel_rfl) (by kernel_rfl) (by rfl) (fun _ _ _ h => h) ?_ (by assumption) ?_
      rotate_left
      · (intro w hSw; go_simp; try (with_reducible rfl))
      try simp only [Act.put, List.setIfInBounds_toArray, List.set_cons_zero, List.set_cons_succ]
      refine stepNext (i := 4) (by kernel_rfl) rfl (by rfl) (fun K hK => ?_)
      go_simp
      (with_reducible refine (CK.out _ cps.drew).mono ?_); rintro e w4 ⟨rfl, hb4⟩
      replace hb := hb.drew.call hb4
      replace ob := ob.drew.call hb4
      replace HLD := Lib.hid (HLD.out.drew.call hb4)
      replace low := gCall low.drew hb4
      obtain ⟨hh0, hh1, hh2, hh3, hh4⟩ := hHeld
      have hHeld := (And.intro (callC hb4 hh0) (And.intro (callC hb4 hh1) (And.intro (callC hb4 hh2) (And.intro (callC hb4 hh3) (callC hb4 hh4)))))
      clear hh0 hh1 hh2 hh3 hh4
      clear hb4 cps CK
      refine hK.out _ _ hHeld ?_
      clear hK K
      try simp only [Act.put]
      try simp only [List.setIfInBounds_toArray, List.set_cons_zero, List.set_cons_succ]
      refine takeFirst (i := 5) (v := ?_) rfl (by kernel_rfl) (by kernel_rfl) (by kernel_rfl) (by rfl) (fun _ _ _ h => h) ?_ (by assumption) ?_
      rotate_left
      · (intro w hSw; go_simp; try (with_reducible rfl))
      try simp only [Act.put, List.setIfInBounds_toArray, List.set_cons_zero, List.set_cons_succ]
      clear hHeld
      refine wpAnyH_done (by kernel_rfl) ?_ _
      refine NoPanic.normal ?_
      cases hf : (f != 0)
      · obtain rfl : f = 0 := by simpa using hf
        clear hf
        go_wp2_with fail
        go_roundw
        case rel => exact ⟨k + 1, by omega, by go_num, Lib.hid fun j hj => by
          by_cases e : j < k
          · exact hno.out j e
          · obtain rfl : j = k := by omega
            exact HF.out, HLD, hb, ob, low⟩
        case measure => simp [intOf]; omega
      · have fne : f ≠ 0 := by simpa using hf
        have zb := ob.lt
        go_wp2_with (first | (with_reducible refine wp_zeroW (tyCopies) ?_) | ((with_reducible refine wp_storeW (tyCopies) (ob) (rfl) (rfl) (nil16_one) ?_ ?_ ?_); rfl; rfl))
        intro w5 ob5 st
        replace low := st.low low (by omega)
        clear st
        go_wp2_with fail
        exact bodyPost_ret (v := .tuple #[.agg nil16, .int .i64 f, .int .i64 k]) (results_first3 tyCopies Tryz.results52 rfl rfl rfl ob5 rfl) rfl ⟨.inl ⟨k, hlt, hno.out, by rw [HF.out]; exact fne, by rw [HF.out]⟩, low⟩
    · obtain rfl : k = 16 := by omega
      have hbr := hb.range
      go_wp2_with (first | ((with_reducible refine wp_loadW (tyCopies) (hbr) (u16) ?_ ?_ ?_); rfl; rfl) | ((with_reducible refine wp_storeW (tyCopies) (ob) (rfl) (u16) (one) ?_ ?_ ?_); rfl; rfl))
      intro w3 ob3 st
      have HL3 := Lib.hid (HLD.out.stored ob (by decide) st)
      replace low := st.low low (by omega)
      clear ob st hb HLD hbr
      go_wp2_with fail
      exact bodyPost_ret (v := .tuple #[.agg us.toArray, .int .i64 0, .int .i64 0]) (results_first3 tyCopies Tryz.results52 rfl rfl rfl ob3 u16) rfl ⟨.inr ⟨hno.out, us, rfl, HL3.out.hds⟩, low⟩

theorem coherent_bad (n s y b : Int) (v : Value) (m : List Int) (css : List (List St)) (w : World) (h : Ks w v css) (hm : m.length = 64) (he : cohE n s y b css m ≠ 0) :
    Calls Tryz.prog 52 #[cfg n s y b, wldV v m] w fun e w' => e = .returned (.tuple #[.agg nil16, .int .i64 (cohE n s y b css m), .int .i64 (cohL n s y b css m)]) ∧ Below w.heap.size w w' := by
  by_cases hf : formE n s y b css ≠ 0
  · have := coherent_form n s y b v m css w h hm hf
    unfold cohE cohL
    rwa [if_pos hf, if_pos hf]
  · refine (coherent_is n s y b v m css w h hm (by simpa using hf)).mono ?_
    rintro e w' ⟨hc, hb⟩
    refine ⟨?_, hb⟩
    unfold cohE cohL at *
    rw [if_neg hf] at *
    rw [if_neg hf]
    rcases hc with ⟨k, hk, h0, h1, rfl⟩ | ⟨h0, us, rfl, _⟩
    · rw [badL_some hk h0 h1]
    · rw [badL_none h0] at he
      exact absurd rfl he

theorem coherent_ok (n s y b : Int) (v : Value) (m : List Int) (css : List (List St)) (w : World) (h : Ks w v css) (hm : m.length = 64) (he : cohE n s y b css m = 0) :
    Calls Tryz.prog 52 #[cfg n s y b, wldV v m] w fun e w' => (∃ us, e = .returned (.tuple #[.agg us.toArray, .int .i64 0, .int .i64 0]) ∧ Hds w' us (copN css css.length)) ∧ Below w.heap.size w w' := by
  obtain ⟨h1, h2⟩ := cohE_ok he
  refine (coherent_is n s y b v m css w h hm h1).mono ?_
  rintro e w' ⟨hc, hb⟩
  refine ⟨?_, hb⟩
  rcases hc with ⟨k, hk, _, h3, _⟩ | ⟨_, us, e, h3⟩
  · exact absurd (h2 k hk) h3
  · exact ⟨us, e, h3⟩
end Go.Proofs.YtgdacpcifnpojaaGreat

/- IntsEqual: Proved: slices.Equal of two slices that hold the same ints returns true, and changes nothing that was there. No other condition. -/
namespace Go.Proofs.YtgdacpcifnpojaaGreat
open Go.ChangeShapes Go.WideShapes Go.ChangeAt Go.RowKit Go.Joins

end Go.Proofs.YtgdacpcifnpojaaGreat

/- Bank2: Proved: what Same of package bank returns; '==' on memories; an argument that is a memory. No condition. -/
namespace Go.Proofs.YtgdacpcifnpojaaGreat
open Go.ChangeShapes Go.WideShapes Go.ChangeAt Go.RowKit Go.Joins

def IsMem (v : Value) : Prop := ∃ l, v = memV l ∧ l.length = 64

theorem words_of : ∀ {n : Nat} {cs : List Value}, AllOk (List.replicate n (.int .u64)) cs → ∃ l : List Int, cs = l.map (Value.int .u64) ∧ l.length = n
  | 0, [], _ => ⟨[], rfl, rfl⟩
  | 0, _ :: _, h => h.elim
  | n + 1, [], h => h.elim
  | n + 1, c :: cs, h => by
    obtain ⟨⟨a, rfl, _⟩, h2⟩ := h
    obtain ⟨l, rfl, hl⟩ := words_of h2
    exact ⟨a :: l, rfl, by simp [hl]⟩

section
variable {H : Type} {enc : TypeId × Value → H} {W : World} {base : Nat} {v : Value} {d : DataW H} {p : List MemPlace}
set_option maxRecDepth 10000 in
theorem openMem (hv : Value.okWide Tryz.prog W .any base 29 v) (h : DataW.Trod enc Tryz.prog W 0 (fun _ => true) true 29 v d p) : IsMem v := by
  obtain ⟨cs, rfl, hk⟩ := flat_value (n := 3) (ks := List.replicate 64 (.int .u64)) (by kernel_rfl) (.inr ⟨_, _, Tryz.underlying29⟩) hv h
  obtain ⟨l, rfl, hl⟩ := words_of hk
  exact ⟨l, rfl, hl⟩
end

/-- Two memories are the same. -/
def sameM (l m : List Int) : Bool := decide (l = m)

theorem eqCells_words : ∀ (l m : List Int), l.length = m.length → eqCells (l.map (Value.int .u64)) (m.map (Value.int .u64)) = sameM l m
  | [], [], _ => rfl
  | [], _ :: _, h => by cases h
  | _ :: _, [], h => by cases h
  | a :: l, b :: m, h => by
    have ih := eqCells_words l m (by simpa using h)
    simp only [List.map_cons, eqCells, scEq, ih, sameM]
    rw [Bool.eq_iff_iff]
    simp

theorem allK_words : ∀ (l : List Int), AllK (List.replicate l.length (.int .u64)) (l.map (Value.int .u64))
  | [] => trivial
  | a :: l => ⟨⟨a, rfl⟩, allK_words l⟩

/-- '==' on memories. -/
theorem eqMem (l m : List Int) (hl : l.length = 64) (hm : m.length = 64) (w : World) : (Op.equalIn 10000 29 (memV l) (memV m)).run Tryz.prog w = .ok (sameM l m) w := by
  have al := allK_words l
  have am := allK_words m
  rw [hl] at al
  rw [hm] at am
  have := equal_flat (P := Tryz.prog) 3 29 (List.replicate 64 (.int .u64)) (by kernel_rfl) (by kernel_rfl) 10000 (by omega) w _ _ (memV l) (memV m) al am (by simp [ValIs, Tryz.underlying29, memA]) (by simp [ValIs, Tryz.underlying29, memA])
  rwa [eqCells_words l m (by rw [hl, hm])] at this

/-- The addresses below k at which two memories differ. -/
def diffL (l m : List Int) : Nat → List Int
  | 0 => []
  | k + 1 => if wd l k = wd m k then diffL l m k else diffL l m k ++ [(k : Int)]

theorem diffL_length (l m : List Int) : ∀ k, (diffL l m k).length ≤ k
  | 0 => Nat.le_refl _
  | k + 1 => by
    have := diffL_length l m k
    unfold diffL
    split <;> simp <;> omega

theorem info_int : (Tryz.prog.info? 3).map (fun i => (i.zero, i.size, i.bytes)) = some (some (.int .i64 0), 1, 8) := by kernel_rfl

end Go.Proofs.YtgdacpcifnpojaaGreat

/- Agree4: Proved: what Value, Holders and Flat of package agree return, for every world that can be read; they change nothing that was there. No condition. -/
namespace Go.Proofs.YtgdacpcifnpojaaGreat
open Go.ChangeShapes Go.WideShapes Go.ChangeAt Go.RowKit Go.Joins

abbrev lnA (x : L4) : Array Value := #[.int .u64 x.a, .int .u64 x.b, .int .u64 x.c, .int .u64 x.d]
abbrev ln0 : Array Value := #[.int .u64 0, .int .u64 0, .int .u64 0, .int .u64 0]
theorem tyLine : Ty 27 ln0 := ⟨by kernel_rfl, ⟨_, Tryz.underlying27, rfl⟩, fun w => by kernel_rfl⟩

theorem ln0_one : ln0.all (·.oneCell') = true := by simp [Value.oneCell']
theorem lnA_one (x : L4) : (lnA x).all (·.oneCell') = true := by simp [Value.oneCell']


end Go.Proofs.YtgdacpcifnpojaaGreat

/- Agree5: Proved: what Holders and Flat of package agree return, for every world that can be read; they change nothing that was there. No condition. -/
namespace Go.Proofs.YtgdacpcifnpojaaGreat
open Go.ChangeShapes Go.WideShapes Go.ChangeAt Go.RowKit Go.Joins


/-- The nodes of the copies. -/
def nodesL (l : List Cp) : List Int := l.map fun c => c.nd
theorem nodesL_succ {l : List Cp} {j : Nat} {c : Cp} (h : l[j]? = some c) : nodesL (l.take (j + 1)) = nodesL (l.take j) ++ [c.nd] := by
  obtain ⟨hj, rfl⟩ := List.getElem?_eq_some_iff.1 h
  unfold nodesL
  rw [List.take_succ_eq_append_getElem hj, List.map_append]
  rfl
theorem nodesL_length (l : List Cp) : (nodesL l).length = l.length := by simp [nodesL]

set_option maxHeartbeats 1000000 in
theorem holders_bad (n s y b : Int) (v : Value) (m : List Int) (css : List (List St)) (k : Int) (w : World) (h : Ks w v css) (hm : m.length = 64) (he : cohE n s y b css m ≠ 0) :
    Calls Tryz.prog 129 #[cfg n s y b, wldV v m, .int .i64 k] w fun e w' => e = .returned (.tuple #[.slice none 0 0, .int .i64 0, .int .i64 (cohE n s y b css m)]) ∧ Below w.heap.size w w' := by
  have F := Lib.hid fun w hw => coherent_bad n s y b v m css w hw hm he
  generalize cohE n s y b css m = E at F he ⊢
  generalize cohL n s y b css m = L at F
  have he' : (E != 0) = true := by simpa using he
  clear he
  have low := Below.refl w.heap.size w
  have cb := boxNext low 23 (cfgA n s y b)
  replace low := gAlloc low (.cells (cfgA n s y b) 23)
  replace h := h.alloc (.cells (cfgA n s y b) 23)
  try simp only [World.size_alloc] at cb
  have wb := boxNext low 31 (wldA v m)
  replace low := gAlloc low (.cells (wldA v m) 31)
  replace cb := cb.alloc (.cells (wldA v m) 31)
  replace h := h.alloc (.cells (wldA v m) 31)
  try simp only [World.size_alloc] at wb
  have wr := wb.range
  go_enter Tryz.func129, Tryz.ntmps129
  go_wp2_with (first | ((with_reducible refine wp_loadW (tyWorld) (wr) (wld_size hm) ?_ ?_ ?_); rfl; rfl))
  (with_reducible refine (F.out _ h).mono ?_); rintro e w1 ⟨rfl, hb⟩
  replace low := gCall low hb
  clear hb cb wb wr
  have hb := boxNext low 116 nil16
  replace low := gAlloc low (.cells nil16 116)
  try simp only [World.size_alloc] at hb
  go_wp2_with (first | (with_reducible refine wp_newW (tyCopies) ?_) | ((with_reducible refine wp_freshW (tyCopies) (rfl) (rfl) (nil16_one) ?_ ?_ ?_); rfl; rfl))
  go_ret3
  exact ⟨rfl, low⟩
set_option maxHeartbeats 1000000 in
theorem holders_out (n s y b : Int) (v : Value) (m : List Int) (css : List (List St)) (k : Int) (w : World) (h : Ks w v css) (hm : m.length = 64) (he : cohE n s y b css m = 0) (hk : k < 0 ∨ 15 < k) :
    Calls Tryz.prog 129 #[cfg n s y b, wldV v m, .int .i64 k] w fun e w' => e = .returned (.tuple #[.slice none 0 0, .int .i64 0, .int .i64 4]) ∧ Below w.heap.size w w' := by
  have F := Lib.hid fun w hw => coherent_ok n s y b v m css w hw hm he
  have R := Lib.hid fun w => bankRead_out m k hk w
  clear he hk
  have low := Below.refl w.heap.size w
  have cb := boxNext low 23 (cfgA n s y b)
  replace low := gAlloc low (.cells (cfgA n s y b) 23)
  replace h := h.alloc (.cells (cfgA n s y b) 23)
  try simp only [World.size_alloc] at cb
  have wb := boxNext low 31 (wldA v m)
  replace low := gAlloc low (.cells (wldA v m) 31)
  replace cb := cb.alloc (.cells (wldA v m) 31)
  replace h := h.alloc (.cells (wldA v m) 31)
  try simp only [World.size_alloc] at wb
  have wr := wb.range
  go_enter Tryz.func129, Tryz.ntmps129
  go_wp2_with (first | ((with_reducible refine wp_loadW (tyWorld) (wr) (wld_size hm) ?_ ?_ ?_); rfl; rfl))
  (with_reducible refine (F.out _ h).mono ?_); rintro e w1 ⟨⟨us, rfl, hds⟩, hb⟩
  replace wb := wb.call hb
  replace low := gCall low hb
  clear hb cb wr
  have u16 := hds.size
  have one := hds.one
  have hb := boxNext low 116 us.toArray
  replace low := gAlloc low (.cells us.toArray 116)
  replace wb := wb.alloc (.cells us.toArray 116)
  try simp only [World.size_alloc] at hb
  have wm := wld_mem wb
  go_wp2_with (first | (with_reducible refine wp_newW (tyCopies) ?_) | ((with_reducible refine wp_freshW (tyCopies) (rfl) (u16) (one) ?_ ?_ ?_); rfl; rfl) | ((with_reducible refine wp_loadW (tyMem) (wm) (mem_zsize hm) ?_ ?_ ?_); rfl; rfl))
  (with_reducible refine (R.out _).mono ?_); rintro e w2 ⟨rfl, hb2⟩
  replace low := gCall low hb2
  clear hb2 wm wb hb
  have lb := boxNext low 27 ln0
  replace low := gAlloc low (.cells ln0 27)
  try simp only [World.size_alloc] at lb
  go_wp2_with fail
  go_ret3
  exact ⟨rfl, low⟩
set_option maxRecDepth 10000 in
set_option maxHeartbeats 2000000 in
theorem holders_ok (n s y b : Int) (v : Value) (m : List Int) (css : List (List St)) (k : Nat) (w : World) (h : Ks w v css) (hm : m.length = 64) (he : cohE n s y b css m = 0) (hk : k < 16) (h128 : (onL k (copN css css.length)).length ≤ 128) :
    Calls Tryz.prog 129 #[cfg n s y b, wldV v m, .int .i64 k] w fun e w' => (∃ A c, e = .returned (.tuple #[.slice A (nodesL (onL k (copN css css.length))).length c, .int .i64 (ownN (onL k (copN css css.length))), .int .i64 0]) ∧
      Sl w' w'.heap.size 1 (.slice A (nodesL (onL k (copN css css.length))).length c) (nodesL (onL k (copN css css.length))).length ((nodesL (onL k (copN css css.length))).map (Value.int .i64))) ∧ Below w.heap.size w w' := by
  have F := Lib.hid fun w hw => coherent_ok n s y b v m css w hw hm he
  have R := Lib.hid fun w => bankRead_ok m hm k hk w
  clear he
  generalize copN css css.length = P at F h128 ⊢
  generalize hl0 : onL k P = l at h128 ⊢
  have HL := Lib.hid hl0
  clear hl0
  obtain ⟨i0, hi, hz0, hz1, hz2⟩ := info_parts info_int
  have HI := Lib.hid hi
  have HZ := Lib.hid (And.intro hz0 (And.intro hz1 hz2))
  clear hi hz0 hz1 hz2
  have low := Below.refl w.heap.size w
  have cb := boxNext low 23 (cfgA n s y b)
  replace low := gAlloc low (.cells (cfgA n s y b) 23)
  replace h := h.alloc (.cells (cfgA n s y b) 23)
  try simp only [World.size_alloc] at cb
  have wb := boxNext low 31 (wldA v m)
  replace low := gAlloc low (.cells (wldA v m) 31)
  replace cb := cb.alloc (.cells (wldA v m) 31)
  replace h := h.alloc (.cells (wldA v m) 31)
  try simp only [World.size_alloc] at wb
  have wr := wb.range
  go_enter Tryz.func129, Tryz.ntmps129
  go_wp2_with (first | ((with_reducible refine wp_loadW (tyWorld) (wr) (wld_size hm) ?_ ?_ ?_); rfl; rfl))
  (with_reducible refine (F.out _ h).mono ?_); rintro e w1 ⟨⟨us, rfl, hds⟩, hb⟩
  replace wb := wb.call hb
  replace low := gCall low hb
  clear hb cb wr
  have u16 := hds.size
  have one := hds.one
  have hb := boxNext low 116 us.toArray
  replace low := gAlloc low (.cells us.toArray 116)
  replace wb := wb.alloc (.cells us.toArray 116)
  replace hds := hds.alloc (.cells us.toArray 116)
  try simp only [World.size_alloc] at hb
  have wm := wld_mem wb
  go_wp2_with (first | (with_reducible refine wp_newW (tyCopies) ?_) | ((with_reducible refine wp_freshW (tyCopies) (rfl) (u16) (one) ?_ ?_ ?_); rfl; rfl) | ((with_reducible refine wp_loadW (tyMem) (wm) (mem_zsize hm) ?_ ?_ ?_); rfl; rfl))
  (with_reducible refine (R.out _).mono ?_); rintro e w2 ⟨rfl, hb2⟩
  replace hb := hb.call hb2
  replace hds := hds.call hb2
  replace low := gCall low hb2
  clear hb2 wm wb
  have hu : us[k]? = some (us[k]'(by have := hds.len; omega)) := List.getElem?_eq_getElem _
  generalize us[k]'(by have := hds.len; omega) = u at hu
  have cps := hds.cps k u hu
  rw [HL.out] at cps
  have hcu : us.toArray[k]? = some u := by rw [List.getElem?_toArray]; exact hu
  obtain ⟨A, c, rfl⟩ : ∃ A c, u = .slice A l.length c := by obtain ⟨_, A, c, e, _⟩ := cps; exact ⟨A, c, e⟩
  have OW := Lib.hid fun w hw => ownerOf_any (.slice A l.length c) l w hw
  clear hu hds R F
  have z2 := hb.lt
  have lb := boxNext low 27 #[.int .u64 (wd m (k * 4)), .int .u64 (wd m (k * 4 + 1)), .int .u64 (wd m (k * 4 + 2)), .int .u64 (wd m (k * 4 + 3))]
  replace low := gAlloc low (.cells #[.int .u64 (wd m (k * 4)), .int .u64 (wd m (k * 4 + 1)), .int .u64 (wd m (k * 4 + 2)), .int .u64 (wd m (k * 4 + 3))] 27)
  replace hb := hb.alloc (.cells #[.int .u64 (wd m (k * 4)), .int .u64 (wd m (k * 4 + 1)), .int .u64 (wd m (k * 4 + 2)), .int .u64 (wd m (k * 4 + 3))] 27)
  replace cps := cps.alloc (.cells #[.int .u64 (wd m (k * 4)), .int .u64 (wd m (k * 4 + 1)), .int .u64 (wd m (k * 4 + 2)), .int .u64 (wd m (k * 4 + 3))] 27)
  try simp only [World.size_alloc] at lb
  have hc0 := hb.at_ k hcu
  have k0 : (0 : Int) ≤ k := by omega
  have k1 : (k : Int) < 16 := by omega
  have CPS := Lib.hid cps
  obtain ⟨hl, A2, cx, e2, h1, h2, h3⟩ := cps
  cases e2
  have H3 := Lib.hid h3
  unfold maxLen at h2
  clear hl h3
  go_wp2_with fail
  clear hc0
  generalize hW : w2.alloc (.cells #[.int .u64 (wd m (k * 4)), .int .u64 (wd m (k * 4 + 1)), .int .u64 (wd m (k * 4 + 2)), .int .u64 (wd m (k * 4 + 3))] 27) = W at *
  have z3 : w1.heap.size < W.heap.size := hb.lt
  have LOW := Lib.hid low
  have lo := low.size
  go_loopw [14, 41] (fun s i wr => ∃ j : Nat, j ≤ l.length ∧ i = .int .i64 j ∧ wr.ownsRow W.heap.size 3 1 s j ((nodesL (l.take j)).map (Value.int .i64)) ∧ Below W.heap.size W wr) (fun _ i _ => l.length - (intOf i).toNat)
  case atStart => exact ⟨0, Nat.zero_le _, rfl, World.ownsRow_nil _ _ _ _, Below.refl _ _⟩
  case round =>
    clear low
    obtain ⟨j, hj, rfl, own, low⟩ := hrel
    obtain ⟨As, cs, rfl⟩ := own_shape own
    by_cases hlt : j < l.length
    · obtain ⟨bb, o, rfl, hbb, hc⟩ := H3.out (by omega)
      have hx : l[j]? = some l[j] := List.getElem?_eq_getElem _
      generalize l[j] = x at hx
      obtain ⟨c0, c1, c2, c3, c4, c5, c6⟩ := cpAt_of hc hbb low hx
      have NS := Lib.hid (nodesL_succ hx)
      clear hx hc
      have j1 : (j : Int) < l.length := by omega
      have lz := low.size
      have xb := boxNext low 168 x.box
      replace low := gAlloc low (.cells x.box 168)
      try simp only [World.size_alloc] at xb
      simp only [Cp.box] at xb
      replace own := own.alloc (.cells x.box 168)
      simp only [Cp.box] at own
      have xb_0 := xb.at_ 0 rfl
      go_wp2_with (at_builtin; refine wpList_append_own _ rfl _ _ 35 rfl W.heap.size 3 i0 (.int .i64 0) 1 8 Tryz.underlying35 HI.out HZ.out.1 HZ.out.2.1 HZ.out.2.2 rfl (by decide) _ _ _ rfl (own.alloc _) ⟨wr.heap.size + 1, 0, none⟩ 1 1 [.int .i64 x.nd] rfl rfl ?c1 ?c2 ?c3 ?c4 ?c5 ?_)
      case c1 =>
        intro q u hq
        match q, hq with
        | 0, hq => simp at hq; subst hq; simp [Addr.add]
      case c2 => intro u hu; simp at hu; subst hu; rfl
      case c3 => unfold maxLen; omega
      case c4 => omega
      case c5 => simp; omega
      intro v4 w4 own4 grow4 _
      obtain ⟨A4, c4', rfl⟩ := own_shape own4
      have low4 : Below W.heap.size W w4 := (gAlloc low _).grown grow4 (by simp; omega) (fun g e => by have := own.lt _ e; omega)
      clear xb_0
      clear grow4 own c0 c1 c2 c3 c4 c5 c6 xb low
      have O4 := Lib.hid own4
      clear own4
      go_wp2_with fail
      go_roundw
      case rel => exact ⟨j + 1, by omega, by go_num, by rw [NS.out, List.map_append]; exact O4.out, low4⟩
      case measure => simp [intOf]; omega
    · obtain rfl : j = l.length := by omega
      rw [List.take_length] at own
      have hc1 := (hb.call low).at_ k hcu
      have OWN := Lib.hid own
      clear own
      go_wp2_with fail
      (with_reducible refine (OW.out _ (CPS.out.call low)).mono ?_); rintro e w5 ⟨rfl, hb5⟩
      have sl := Lib.hid ((Sl.ofOwn OWN.out).call hb5)
      have LO := Lib.hid (gCall (gCall LOW.out low) hb5)
      clear OWN hc1 low hb5
      go_wp2_with fail
      go_ret3
      rw [nodesL_length]
      exact ⟨⟨_, _, rfl, sl.out⟩, LO.out⟩

/-- The memory whose first lines are as every node would read them. -/
def flatN (P : List Cp) (m : List Int) : Nat → List Int
  | 0 => zeroL
  | k + 1 => writeL (flatN P m k) k (valL (onL k P) (l4 m k)).a (valL (onL k P) (l4 m k)).b (valL (onL k P) (l4 m k)).c (valL (onL k P) (l4 m k)).d
theorem flatN_length (P : List Cp) (m : List Int) : ∀ k, (flatN P m k).length = 64
  | 0 => zeroL_length
  | k + 1 => by rw [flatN, writeL_length]; exact flatN_length P m k
theorem wd_set (l : List Int) (i j : Nat) (x : Int) (hi : i < l.length) : wd (l.set i x) j = if i = j then x else wd l j := by
  unfold wd
  by_cases e : i = j
  · subst e; rw [if_pos rfl]; simp [List.getD, hi]
  · rw [if_neg e]; simp [List.getD, List.getElem?_set_ne e]
theorem wd_write (l : List Int) (hl : l.length = 64) (k : Nat) (hk : k < 16) (a b c d : Int) (i : Nat) : wd (writeL l k a b c d) i = if k * 4 + 3 = i then d else if k * 4 + 2 = i then c else if k * 4 + 1 = i then b else if k * 4 = i then a else wd l i := by
  unfold writeL
  rw [wd_set _ _ _ _ (by simp only [List.length_set]; omega), wd_set _ _ _ _ (by simp only [List.length_set]; omega), wd_set _ _ _ _ (by simp only [List.length_set]; omega), wd_set _ _ _ _ (by omega)]
theorem l4_write (l : List Int) (hl : l.length = 64) (k : Nat) (hk : k < 16) (x : L4) (j : Nat) : l4 (writeL l k x.a x.b x.c x.d) j = if j = k then x else l4 l j := by
  unfold l4
  rw [wd_write l hl k hk, wd_write l hl k hk, wd_write l hl k hk, wd_write l hl k hk]
  by_cases e : j = k
  · subst e
    rw [if_pos rfl, if_neg (by omega), if_neg (by omega), if_neg (by omega), if_pos rfl, if_neg (by omega), if_neg (by omega), if_pos rfl, if_neg (by omega), if_pos rfl, if_pos rfl]
  · rw [if_neg e, if_neg (by omega), if_neg (by omega), if_neg (by omega), if_neg (by omega), if_neg (by omega), if_neg (by omega), if_neg (by omega), if_neg (by omega), if_neg (by omega), if_neg (by omega), if_neg (by omega), if_neg (by omega), if_neg (by omega), if_neg (by omega), if_neg (by omega), if_neg (by omega)]
theorem flatN_at (P : List Cp) (m : List Int) : ∀ k, k ≤ 16 → ∀ j, j < k → l4 (flatN P m k) j = valL (onL j P) (l4 m j)
  | 0, _, j, hj => absurd hj (by omega)
  | k + 1, hk, j, hj => by
    rw [flatN, l4_write _ (flatN_length P m k) k (by omega)]
    by_cases e : j = k
    · subst e; rw [if_pos rfl]
    · rw [if_neg e]; exact flatN_at P m k (by omega) j (by omega)

set_option maxHeartbeats 1000000 in
theorem flat_bad (n s y b : Int) (v : Value) (m : List Int) (css : List (List St)) (w : World) (h : Ks w v css) (hm : m.length = 64) (he : cohE n s y b css m ≠ 0) :
    Calls Tryz.prog 131 #[cfg n s y b, wldV v m] w fun e w' => e = .returned (.tuple #[memV zeroL, .int .i64 (cohE n s y b css m)]) ∧ Below w.heap.size w w' := by
  have F := Lib.hid fun w hw => coherent_bad n s y b v m css w hw hm he
  generalize cohE n s y b css m = E at F he ⊢
  generalize cohL n s y b css m = L at F
  have he' : (E != 0) = true := by simpa using he
  clear he
  have low := Below.refl w.heap.size w
  have cb := boxNext low 23 (cfgA n s y b)
  replace low := gAlloc low (.cells (cfgA n s y b) 23)
  replace h := h.alloc (.cells (cfgA n s y b) 23)
  try simp only [World.size_alloc] at cb
  have wb := boxNext low 31 (wldA v m)
  replace low := gAlloc low (.cells (wldA v m) 31)
  replace cb := cb.alloc (.cells (wldA v m) 31)
  replace h := h.alloc (.cells (wldA v m) 31)
  try simp only [World.size_alloc] at wb
  have ob := boxNext low 29 (memA zeroL)
  replace low := gAlloc low (.cells (memA zeroL) 29)
  replace cb := cb.alloc (.cells (memA zeroL) 29)
  replace wb := wb.alloc (.cells (memA zeroL) 29)
  replace h := h.alloc (.cells (memA zeroL) 29)
  try simp only [World.size_alloc] at ob
  have wr := wb.range
  go_enter Tryz.func131, Tryz.ntmps131
  go_wp2_with (first | (with_reducible refine wp_newW (tyMem) ?_) | ((with_reducible refine wp_loadW (tyWorld) (wr) (wld_size hm) ?_ ?_ ?_); rfl; rfl))
  (with_reducible refine (F.out _ h).mono ?_); rintro e w1 ⟨rfl, hb⟩
  replace ob := ob.call hb
  replace low := gCall low hb
  clear hb cb wb wr
  have z1 := ob.lt
  have hb := boxNext low 116 nil16
  replace low := gAlloc low (.cells nil16 116)
  replace ob := ob.alloc (.cells nil16 116)
  try simp only [World.size_alloc] at hb
  go_wp2_with (first | (with_reducible refine wp_newW (tyCopies) ?_) | ((with_reducible refine wp_freshW (tyCopies) (rfl) (rfl) (nil16_one) ?_ ?_ ?_); rfl; rfl) | (with_reducible refine wp_zeroW (tyMem) ?_) | ((with_reducible refine wp_storeW (tyMem) (ob) (rfl) (rfl) (memA_one _) ?_ ?_ ?_); rfl; rfl))
  intro w2 ob2 st
  replace low := st.low low (by omega)
  clear ob st
  go_wp2_with fail
  exact bodyPost_ret (v := .tuple #[memV zeroL, .int .i64 E]) (results_first tyMem Tryz.results131 rfl rfl ob2 rfl) rfl ⟨rfl, low⟩

set_option maxRecDepth 10000 in
set_option maxHeartbeats 2000000 in
theorem flat_ok (n s y b : Int) (v : Value) (m : List Int) (css : List (List St)) (w : World) (h : Ks w v css) (hm : m.length = 64) (he : cohE n s y b css m = 0) :
    Calls Tryz.prog 131 #[cfg n s y b, wldV v m] w fun e w' => e = .returned (.tuple #[memV (flatN (copN css css.length) m 16), .int .i64 0]) ∧ Below w.heap.size w w' := by
  have F := Lib.hid fun w hw => coherent_ok n s y b v m css w hw hm he
  clear he
  generalize copN css css.length = P at F ⊢
  have low := Below.refl w.heap.size w
  have cb := boxNext low 23 (cfgA n s y b)
  replace low := gAlloc low (.cells (cfgA n s y b) 23)
  replace h := h.alloc (.cells (cfgA n s y b) 23)
  try simp only [World.size_alloc] at cb
  have wb := boxNext low 31 (wldA v m)
  replace low := gAlloc low (.cells (wldA v m) 31)
  replace cb := cb.alloc (.cells (wldA v m) 31)
  replace h := h.alloc (.cells (wldA v m) 31)
  try simp only [World.size_alloc] at wb
  have ob := boxNext low 29 (memA zeroL)
  replace low := gAlloc low (.cells (memA zeroL) 29)
  replace cb := cb.alloc (.cells (memA zeroL) 29)
  replace wb := wb.alloc (.cells (memA zeroL) 29)
  replace h := h.alloc (.cells (memA zeroL) 29)
  try simp only [World.size_alloc] at ob
  have wr := wb.range
  go_enter Tryz.func131, Tryz.ntmps131
  go_wp2_with (first | (with_reducible refine wp_newW (tyMem) ?_) | ((with_reducible refine wp_loadW (tyWorld) (wr) (wld_size hm) ?_ ?_ ?_); rfl; rfl))
  (with_reducible refine (F.out _ h).mono ?_); rintro e w1 ⟨⟨us, rfl, hds⟩, hb⟩
  replace ob := ob.call hb
  replace wb := wb.call hb
  replace low := gCall low hb
  clear hb cb wr F
  have z0 := ob.lt
  have u16 := hds.size
  have one := hds.one
  have hb := boxNext low 116 us.toArray
  replace low := gAlloc low (.cells us.toArray 116)
  replace ob := ob.alloc (.cells us.toArray 116)
  replace wb := wb.alloc (.cells us.toArray 116)
  replace hds := hds.alloc (.cells us.toArray 116)
  try simp only [World.size_alloc] at hb
  have HDS := Lib.hid hds
  have fb := boxNext low 29 (memA zeroL)
  replace low := gAlloc low (.cells (memA zeroL) 29)
  replace ob := ob.alloc (.cells (memA zeroL) 29)
  replace wb := wb.alloc (.cells (memA zeroL) 29)
  replace hb := hb.alloc (.cells (memA zeroL) 29)
  try simp only [World.size_alloc] at fb
  have wm := wld_mem wb
  clear hds
  go_wp2_with (first | (with_reducible refine wp_newW (tyCopies) ?_) | ((with_reducible refine wp_freshW (tyCopies) (rfl) (u16) (one) ?_ ?_ ?_); rfl; rfl) | (with_reducible refine wp_newW (tyMem) ?_) | ((with_reducible refine wp_loadW (tyMem) (wm) (mem_zsize hm) ?_ ?_ ?_); rfl; rfl))
  have b1 := (Below.refl (w1.alloc (.cells us.toArray 116)).heap.size (w1.alloc (.cells us.toArray 116))).alloc (Nat.le_refl _) (.cells (memA zeroL) 29)
  generalize hW : w1.alloc (.cells us.toArray 116) = W at *
  have zW : W.heap.size = w1.heap.size + 1 := by rw [← hW]; simp
  clear hW
  go_loopw [25] (fun i wr => ∃ k : Nat, k ≤ 16 ∧ i = .int .i64 k ∧ Box wr (w1.heap.size + 1) 29 (memA (flatN P m k)) ∧ Box wr w1.heap.size 116 us.toArray ∧ Box wr (w.heap.size + 1 + 1) 29 (memA zeroL) ∧ Below W.heap.size W wr ∧ Below w.heap.size w wr) (fun i _ => 16 - (intOf i).toNat)
  case atStart => exact ⟨0, by omega, rfl, fb, hb, ob, b1, low⟩
  case round =>
    clear h wb hb ob fb low wm b1
    obtain ⟨k, hk, rfl, fb, hb, ob, b1, low⟩ := hrel
    by_cases hlt : k < 16
    · have ix := fun w => index_mem m hm k hlt w
      have k0 : (0 : Int) ≤ k := by omega
      have k1 : (k : Int) < 16 := by omega
      have hu : us[k]? = some (us[k]'(by have := HDS.out.len; omega)) := List.getElem?_eq_getElem _
      generalize us[k]'(by have := HDS.out.len; omega) = u at hu
      have cps := (HDS.out.cps k u hu).call b1
      have hcu : us.toArray[k]? = some u := by rw [List.getElem?_toArray]; exact hu
      obtain ⟨A, c, rfl⟩ : ∃ A c, u = .slice A (onL k P).length c := by obtain ⟨_, A, c, e, _⟩ := cps; exact ⟨A, c, e⟩
      have VA := Lib.hid fun w hw => valueOf_any (.slice A (onL k P).length c) (onL k P) (l4 m k) w hw
      have HF := Lib.hid (show flatN P m (k + 1) = writeL (flatN P m k) k (valL (onL k P) (l4 m k)).a (valL (onL k P) (l4 m k)).b (valL (onL k P) (l4 m k)).c (valL (onL k P) (l4 m k)).d from rfl)
      generalize valL (onL k P) (l4 m k) = z at VA HF
      clear hu
      simp only [l4] at VA
      have zr := fb.lt
      have zo := ob.lt
      replace b1 := b1.alloc b1.size (.cells #[.int .u64 (wd m (k * 4)), .int .u64 (wd m (k * 4 + 1)), .int .u64 (wd m (k * 4 + 2)), .int .u64 (wd m (k * 4 + 3))] 27)
      have lb := boxNext low 27 #[.int .u64 (wd m (k * 4)), .int .u64 (wd m (k * 4 + 1)), .int .u64 (wd m (k * 4 + 2)), .int .u64 (wd m (k * 4 + 3))]
      replace low := gAlloc low (.cells #[.int .u64 (wd m (k * 4)), .int .u64 (wd m (k * 4 + 1)), .int .u64 (wd m (k * 4 + 2)), .int .u64 (wd m (k * 4 + 3))] 27)
      replace hb := hb.alloc (.cells #[.int .u64 (wd m (k * 4)), .int .u64 (wd m (k * 4 + 1)), .int .u64 (wd m (k * 4 + 2)), .int .u64 (wd m (k * 4 + 3))] 27)
      replace ob := ob.alloc (.cells #[.int .u64 (wd m (k * 4)), .int .u64 (wd m (k * 4 + 1)), .int .u64 (wd m (k * 4 + 2)), .int .u64 (wd m (k * 4 + 3))] 27)
      replace fb := fb.alloc (.cells #[.int .u64 (wd m (k * 4)), .int .u64 (wd m (k * 4 + 1)), .int .u64 (wd m (k * 4 + 2)), .int .u64 (wd m (k * 4 + 3))] 27)
      replace cps := cps.alloc (.cells #[.int .u64 (wd m (k * 4)), .int .u64 (wd m (k * 4 + 1)), .int .u64 (wd m (k * 4 + 2)), .int .u64 (wd m (k * 4 + 3))] 27)
      try simp only [World.size_alloc] at lb
      have hc0 := hb.at_ k hcu
      have l0 := lb.at_ 0 rfl
      have l1 := lb.at_ 1 rfl
      have l2 := lb.at_ 2 rfl
      have l3 := lb.at_ 3 rfl
      go_wp2_with fail
      refine wp_region_noPanic ?_
      refine wp_region_held_drew (S := fun w' => w'.cell? ⟨w1.heap.size, k, none⟩ = some (.slice A (onL k P).length c) ∧ w'.cell? ⟨wr.heap.size, 0, none⟩ = some (.int .u64 (wd m (k * 4))) ∧ w'.cell? ⟨wr.heap.size, 1, none⟩ = some (.int .u64 (wd m (k * 4 + 1))) ∧ w'.cell? ⟨wr.heap.size, 2, none⟩ = some (.int .u64 (wd m (k * 4 + 2))) ∧ w'.cell? ⟨wr.heap.size, 3, none⟩ = some (.int .u64 (wd m (k * 4 + 3)))) (by kernel_rfl) ⟨drewC hc0, drewC l0, drewC l1, drewC l2, drewC l3⟩ (fun hHeld => ?_)
      clear hc0 l0 l1 l2 l3 lb
      refine takeFirst (i := 0) (v := ?_) rfl (by kernel_rfl) (by kernel_rfl) (by kernel_rfl) (by rfl) (fun _ _ _ h => h) ?_ (by assumption) ?_
      rotate_left
      · (intro w hSw; go_simp; try (with_reducible rfl))
      try simp only [Act.put, List.setIfInBounds_toArray, List.set_cons_zero, List.set_cons_succ]
      refine takeFirst (i := 1) (v := ?_) rfl (by kernel_rfl) (by kernel_rfl) (by kernel_rfl) (by rfl) (fun _ _ _ h => h) ?_ (by assumption) ?_
      rotate_left
      · (intro w hSw; go_simp; try (with_reducible rfl))
      try simp only [Act.put, List.setIfInBounds_toArray, List.set_cons_zero, List.set_cons_succ]
      refine takeFirst (i := 2) (v := ?_) rfl (by kernel_rfl) (by kernel_rfl) (by kernel_rfl) (by rfl) (fun _ _ _ h => h) ?_ (by assumption) ?_
      rotate_left
      · (intro w hSw; go_simp; try (with_reducible rfl))
      try simp only [Act.put, List.setIfInBounds_toArray, List.set_cons_zero, List.set_cons_succ]
      refine takeFirst (i := 3) (v := ?_) rfl (by kernel_rfl) (by kernel_rfl) (by kernel_rfl) (by rfl) (fun _ _ _ h => h) ?_ (by assumption) ?_
      rotate_left
      · (intro w hSw; go_simp; try (with_reducible rfl))
      try simp only [Act.put, List.setIfInBounds_toArray, List.set_cons_zero, List.set_cons_succ]
      refine takeFirst (i := 4) (v := ?_) rfl (by kernel_rfl) (by kernel_rfl) (by kernel_rfl) (by rfl) (fun _ _ _ h => h) ?_ (by assumption) ?_
      rotate_left
      · (intro w hSw; go_simp; try (with_reducible rfl))
      try simp only [Act.put, List.setIfInBounds_toArray, List.set_cons_zero, List.set_cons_succ]
      refine stepNext (i := 5) (by kernel_rfl) rfl (by rfl) (fun K hK => ?_)
      go_simp
      (with_reducible refine (VA.out _ cps.drew).mono ?_); rintro e w4 ⟨rfl, hb4⟩
      replace hb := hb.drew.call hb4
      replace ob := ob.drew.call hb4
      replace fb := fb.drew.call hb4
      replace b1 := gCall b1.drew hb4
      replace low := gCall low.drew hb4
      obtain ⟨hh0, hh1, hh2, hh3, hh4⟩ := hHeld
      have hHeld := (And.intro (callC hb4 hh0) (And.intro (callC hb4 hh1) (And.intro (callC hb4 hh2) (And.intro (callC hb4 hh3) (callC hb4 hh4)))))
      clear hh0 hh1 hh2 hh3 hh4
      clear hb4 cps VA
      refine hK.out _ _ hHeld ?_
      clear hK K
      try simp only [Act.put]
      try simp only [List.setIfInBounds_toArray, List.set_cons_zero, List.set_cons_succ]
      refine takeFirst (i := 6) (v := ?_) rfl (by kernel_rfl) (by kernel_rfl) (by kernel_rfl) (by rfl) (fun _ _ _ h => h) ?_ (by assumption) ?_
      rotate_left
      · (intro w hSw; go_simp; try (with_reducible rfl))
      try simp only [Act.put, List.setIfInBounds_toArray, List.set_cons_zero, List.set_cons_succ]
      refine stepNext (i := 7) (by kernel_rfl) rfl (by rfl) (fun K hK => ?_)
      have th := (Mb.mk fb (flatN_length P m k)).there (k * 4) 4 (by omega)
      refine wp_store_mid 27 (.tmp 35) (.tmp 34) rfl _ _ (lnA z) rfl rfl th tyLine.size (lnA_one z) ?_
      have st5 := setCells_stored (w1.heap.size + 1) (lnA z).toList (k * 4) w4
      have fb5 := ((Mb.mk fb (flatN_length P m k)).write k z.a z.b z.c z.d).box
      rw [← HF.out] at fb5
      have hb5 := st5.box hb (by omega)
      have ob5 := st5.box ob (by omega)
      have b5 := st5.low b1 (by omega)
      have low5 := st5.low low (by omega)
      obtain ⟨hh0, hh1, hh2, hh3, hh4⟩ := hHeld
      have hHeld := (And.intro (st5.cell (by dsimp only; omega) hh0) (And.intro (st5.cell (by dsimp only; omega) hh1) (And.intro (st5.cell (by dsimp only; omega) hh2) (And.intro (st5.cell (by dsimp only; omega) hh3) (st5.cell (by dsimp only; omega) hh4)))))
      clear hh0 hh1 hh2 hh3 hh4
      clear st5 hb ob fb b1 low th
      change Box (w4.setCells (w1.heap.size + 1) (k * 4) (lnA z).toList) _ _ _ at fb5
      generalize w4.setCells (w1.heap.size + 1) (k * 4) (lnA z).toList = w5 at *
      refine hK.out _ _ hHeld ?_
      clear hK K
      try simp only [Act.put]
      try simp only [List.setIfInBounds_toArray, List.set_cons_zero, List.set_cons_succ]
      clear hHeld
      refine wpAnyH_done (by kernel_rfl) ?_ _
      refine NoPanic.normal ?_
      go_wp2_with fail
      go_roundw
      case rel => exact ⟨k + 1, by omega, by go_num, fb5, hb5, ob5, b5, low5⟩
      case measure => simp [intOf]; omega
    · obtain rfl : k = 16 := by omega
      have fr := fb.range
      have s1 := mem_zsize (flatN_length P m 16)
      go_wp2_with (first | ((with_reducible refine wp_loadW (tyMem) (fr) (s1) ?_ ?_ ?_); rfl; rfl) | ((with_reducible refine wp_storeW (tyMem) (ob) (rfl) (s1) (memA_one _) ?_ ?_ ?_); rfl; rfl))
      intro w3 ob3 st
      replace low := st.low low (by omega)
      clear ob st hb fb fr b1
      go_wp2_with fail
      exact bodyPost_ret (v := .tuple #[memV (flatN P m 16), .int .i64 0]) (results_first tyMem Tryz.results131 rfl rfl ob3 s1) rfl ⟨rfl, low⟩
end Go.Proofs.YtgdacpcifnpojaaGreat

/- CacheFacts: Proved: what Find of package cache returns, in one form for every case; facts on lists of sets: what putting a line changes. No condition. -/
namespace Go.Proofs.YtgdacpcifnpojaaGreat
open Go.ChangeShapes Go.WideShapes Go.ChangeAt Go.RowKit Go.Joins

/-- What Find gives. -/
def FindCIs (n s y b : Int) (ss : List St) (m : Int) (z : Wy) (p : Bool) (E : Int) : Prop :=
  E = lineE n s y b ss m ∧ ((E ≠ 0 ∧ z = wy0 ∧ p = false) ∨ (E = 0 ∧ ∃ (k : Nat) (t : St), m % s = k ∧ ss[k]? = some t ∧
    ((idxP (hasW m) t.l < 0 ∧ z = wy0 ∧ p = false) ∨ ∃ j : Nat, idxP (hasW m) t.l = j ∧ t.l[j]? = some z ∧ p = true)))

theorem cacheFind_is (n s y b : Int) (v : Value) (ss : List St) (m : Int) : ∃ z p E, FindCIs n s y b ss m z p E ∧ ∀ w, Cs w v ss →
    Calls Tryz.prog 128 #[cfg n s y b, v, .int .i64 m] w fun e w' => e = .returned (.tuple #[z.val, .bool p, .int .i64 E]) ∧ Below w.heap.size w w' := by
  by_cases he : lineE n s y b ss m = 0
  · obtain ⟨g1, g2, g3⟩ := lineE_ok he
    obtain ⟨k, t, hk, ht⟩ := (goodC_iff.1 g1).set_ m
    by_cases hf : idxP (hasW m) t.l < 0
    · exact ⟨wy0, false, 0, ⟨he.symm, .inr ⟨rfl, k, t, hk, ht, .inl ⟨hf, rfl, rfl⟩⟩⟩, fun w h => cacheFind_none n s y b v ss m k t w h he hk ht hf⟩
    · obtain ⟨j, x, hj, hx, _⟩ := idxP_there (Int.not_lt.1 hf)
      exact ⟨x, true, 0, ⟨he.symm, .inr ⟨rfl, k, t, hk, ht, .inr ⟨j, hj, hx, rfl⟩⟩⟩, fun w h => cacheFind_some n s y b v ss m k t j x w h he hk ht hj hx⟩
  · exact ⟨wy0, false, _, ⟨rfl, .inl ⟨he, rfl, rfl⟩⟩, fun w h => cacheFind_bad n s y b v ss m w h he⟩

theorem st_get {ss : List St} {k q : Nat} {t u : St} (h : (ss.set k u)[q]? = some t) : (q = k ∧ t = u) ∨ (q ≠ k ∧ ss[q]? = some t) := by
  by_cases e : q = k
  · subst e
    have := st_lt h
    rw [List.length_set] at this
    rw [List.getElem?_set_self this] at h
    cases h
    exact .inl ⟨rfl, rfl⟩
  · rw [List.getElem?_set_ne (fun h => e h.symm)] at h
    exact .inr ⟨e, h⟩

theorem lineE_zero {n s y b : Int} {ss : List St} (h : cacheE n s y b ss = 0) (m : Int) : lineE n s y b ss m = if lnB m = false then 4 else 0 := by
  unfold lineE
  rw [if_neg (by simp [h])]

theorem FindCIs.ok {n s y b : Int} {ss : List St} {m : Int} {z : Wy} {p : Bool} {E : Int} (h : FindCIs n s y b ss m z p E) {k : Nat} {t : St} (he : lineE n s y b ss m = 0) (hk : m % s = k) (ht : ss[k]? = some t) :
    E = 0 ∧ ((idxP (hasW m) t.l < 0 ∧ z = wy0 ∧ p = false) ∨ ∃ j : Nat, idxP (hasW m) t.l = j ∧ t.l[j]? = some z ∧ p = true) := by
  obtain ⟨h1, h2⟩ := h
  rw [he] at h1
  rcases h2 with ⟨h2, _⟩ | ⟨_, k', t', hk', ht', h3⟩
  · exact absurd h1 h2
  · have : k' = k := by omega
    subst this
    rw [ht] at ht'
    cases ht'
    exact ⟨h1, h3⟩

/-- Find gives one answer. -/
theorem FindCIs.only {n s y b : Int} {ss : List St} {m : Int} {z z' : Wy} {p p' : Bool} {E E' : Int} (h : FindCIs n s y b ss m z p E) (h' : FindCIs n s y b ss m z' p' E') : z' = z ∧ p' = p ∧ E' = E := by
  obtain ⟨rfl, h1⟩ := h
  obtain ⟨rfl, h2⟩ := h'
  rcases h1 with ⟨e1, rfl, rfl⟩ | ⟨e1, k, t, hk, ht, h1⟩
  · rcases h2 with ⟨_, rfl, rfl⟩ | ⟨e2, _⟩
    · exact ⟨rfl, rfl, rfl⟩
    · exact absurd e2 e1
  · rcases h2 with ⟨e2, _⟩ | ⟨_, k', t', hk', ht', h2⟩
    · exact absurd e1 e2
    · obtain rfl : k' = k := by omega
      rw [ht] at ht'
      cases ht'
      rcases h1 with ⟨a1, rfl, rfl⟩ | ⟨j, a1, a2, rfl⟩
      · rcases h2 with ⟨b1, rfl, rfl⟩ | ⟨j', b1, b2, rfl⟩
        · exact ⟨rfl, rfl, rfl⟩
        · omega
      · rcases h2 with ⟨b1, rfl, rfl⟩ | ⟨j', b1, b2, rfl⟩
        · omega
        · obtain rfl : j' = j := by omega
          rw [a2] at b2
          cases b2
          exact ⟨rfl, rfl, rfl⟩

/-- A set is replaced by one that is right and holds no line of another set. -/
theorem GoodC.replace_ {n s y b : Int} {ss : List St} (h : GoodC n s y b ss) {k : Nat} {u : St} (hr : rowE u.l u.a u.b u.c y = 0) (ho : ∀ (j : Nat) x, u.l[j]? = some x → x.st ≠ 0 → x.ln % s = k) : GoodC n s y b (ss.set k u) := by
  obtain ⟨h1, h2, h3⟩ := h
  refine ⟨h1, by rw [List.length_set]; exact h2, fun q t hq => ?_⟩
  rcases st_get hq with ⟨rfl, rfl⟩ | ⟨_, hq⟩
  · exact ⟨hr, ho⟩
  · exact h3 q t hq

theorem cput_facts {n s y b : Int} {ss : List St} {x : Wy} {k : Nat} {t : St} {j : Nat} {old : Wy} (he : wayCE n s y b ss x = 0) (hk : x.ln % s = k) (ht : ss[k]? = some t) (hp : putE t.l t.a t.b t.c y x = 0) (hj : t.l[j]? = some old) (sa : List St)
    (hsa : sa = ss.set k ⟨t.l.set j x, (touchT t.a t.b t.c y j).1, (touchT t.a t.b t.c y j).2.1, (touchT t.a t.b t.c y j).2.2⟩) :
    cacheE n s y b sa = 0 ∧ (∀ z p E, FindCIs n s y b sa x.ln z p E → z = x ∧ p = true ∧ E = 0) ∧
    ∀ m z1 p1 E1 z2 p2 E2, FindCIs n s y b sa m z1 p1 E1 → FindCIs n s y b ss m z2 p2 E2 → E1 = E2 ∧ (m = x.ln ∨ (old.st ≠ 0 ∧ m = old.ln ∧ p1 = false ∧ p2 = true) ∨ (z1 = z2 ∧ p1 = p2)) := by
  obtain ⟨g1, g2⟩ := wayCE_ok he
  have good := goodC_iff.1 g1
  obtain ⟨f1, f2, f3, f4, _, _, f7⟩ := put_facts hp hj
  have kl := st_lt ht
  have hu : sa[k]? = some ⟨t.l.set j x, (touchT t.a t.b t.c y j).1, (touchT t.a t.b t.c y j).2.1, (touchT t.a t.b t.c y j).2.2⟩ := by rw [hsa, List.getElem?_set_self kl]
  have goodA : GoodC n s y b sa := by
    rw [hsa]
    refine good.replace_ f2 fun q z hz sz => ?_
    rcases set_get hz with ⟨_, rfl⟩ | ⟨_, hz⟩
    · exact hk
    · exact (good.2.2 k t ht).2 q z hz sz
  have cA := goodC_iff.2 goodA
  have hx := hlB_line g2
  refine ⟨cA, fun z p E hf => ?_, fun m z1 p1 E1 z2 p2 E2 h1 h2 => ?_⟩
  · have hl : lineE n s y b sa x.ln = 0 := by rw [lineE_zero cA, if_neg (by rw [lnB_iff.2 hx]; decide)]
    obtain ⟨e0, hf⟩ := hf.ok hl hk hu
    rcases hf with ⟨hf, _⟩ | ⟨i, hi, hz, hp⟩
    · exfalso; dsimp only at hf; rw [f3] at hf; omega
    · dsimp only at hi hz
      rw [f3] at hi
      have : i = j := by omega
      subst this
      rw [f4] at hz
      cases hz
      exact ⟨rfl, hp, e0⟩
  · cases hm : lnB m
    · have e1 : E1 = 4 := by have := h1.1; rwa [lineE_zero cA, if_pos hm] at this
      have e2 : E2 = 4 := by have := h2.1; rwa [lineE_zero g1, if_pos hm] at this
      refine ⟨e1.trans e2.symm, .inr (.inr ?_)⟩
      obtain ⟨_, ⟨_, a1, a2⟩ | ⟨a0, _⟩⟩ := h1
      · obtain ⟨_, ⟨_, b1, b2⟩ | ⟨b0, _⟩⟩ := h2
        · exact ⟨a1.trans b1.symm, a2.trans b2.symm⟩
        · omega
      · omega
    · have l1 : lineE n s y b sa m = 0 := by rw [lineE_zero cA, if_neg (by rw [hm]; decide)]
      have l2 : lineE n s y b ss m = 0 := by rw [lineE_zero g1, if_neg (by rw [hm]; decide)]
      obtain ⟨q, t2, hq, ht2⟩ := good.set_ m
      obtain ⟨e2, h2⟩ := h2.ok l2 hq ht2
      by_cases hqk : q = k
      · subst hqk
        rw [ht] at ht2
        cases ht2
        obtain ⟨e1, h1⟩ := h1.ok l1 hq hu
        dsimp only at h1
        refine ⟨e1.trans e2.symm, ?_⟩
        rcases f7 m with c | ⟨c1, c2, c3, c4⟩ | c
        · exact .inl c
        · refine .inr (.inl ⟨c1, c2, ?_, ?_⟩)
          · rcases h1 with ⟨_, _, h⟩ | ⟨i, hi, _⟩
            · exact h
            · omega
          · rcases h2 with ⟨h, _⟩ | ⟨i, _, _, h⟩
            · omega
            · exact h
        · rcases h1 with ⟨a1, a2, a3⟩ | ⟨i, hi, hz, a3⟩
          · rcases h2 with ⟨b1, b2, b3⟩ | ⟨i', hi', _⟩
            · exact .inr (.inr ⟨a2.trans b2.symm, a3.trans b3.symm⟩)
            · omega
          · rcases h2 with ⟨b1, b2, b3⟩ | ⟨i', hi', hz', b3⟩
            · omega
            · have : i' = i := by omega
              subst this
              rcases set_get hz with ⟨rfl, rfl⟩ | ⟨_, hz⟩
              · left
                obtain ⟨k2, y2, e2, hy2, hp2⟩ := idxP_there (p := hasW m) (l := t.l.set i' z1) (by omega)
                have : k2 = i' := by omega
                subst this
                rw [f4] at hy2
                cases hy2
                exact (hasW_iff.1 hp2).2.symm
              · rw [hz] at hz'
                cases hz'
                exact .inr (.inr ⟨rfl, a3.trans b3.symm⟩)
      · have ht1 : sa[q]? = some t2 := by rw [hsa, List.getElem?_set_ne (fun h => hqk h.symm)]; exact ht2
        obtain ⟨e1, h1⟩ := h1.ok l1 hq ht1
        refine ⟨e1.trans e2.symm, .inr (.inr ?_)⟩
        rcases h1 with ⟨a1, a2, a3⟩ | ⟨i, hi, hz, a3⟩
        · rcases h2 with ⟨b1, b2, b3⟩ | ⟨i', hi', _⟩
          · exact ⟨a2.trans b2.symm, a3.trans b3.symm⟩
          · omega
        · rcases h2 with ⟨b1, b2, b3⟩ | ⟨i', hi', hz', b3⟩
          · omega
          · have : i' = i := by omega
            subst this
            rw [hz] at hz'
            cases hz'
            exact ⟨rfl, a3.trans b3.symm⟩
end Go.Proofs.YtgdacpcifnpojaaGreat

/- AgreeFacts: Proved: facts on the copies of a line in a world that is right: which node has one, who owns it, who may write. No walk. No condition. -/
namespace Go.Proofs.YtgdacpcifnpojaaGreat
open Go.ChangeShapes Go.WideShapes Go.ChangeAt Go.RowKit Go.Joins

theorem filter_one {α : Type} {p : α → Bool} : ∀ {l : List α} {j : Nat} {z : α}, l[j]? = some z → p z = true → (∀ (i : Nat) y, l[i]? = some y → p y = true → i = j) → l.filter p = [z]
  | [], j, z, h, _, _ => by simp at h
  | a :: r, 0, z, h, hp, hu => by
    simp only [List.getElem?_cons_zero, Option.some.injEq] at h
    subst h
    rw [List.filter_cons_of_pos hp, List.filter_eq_nil_iff.2]
    intro y hy hpy
    obtain ⟨i, hi, e⟩ := List.getElem_of_mem hy
    have := hu (i + 1) y (by rw [List.getElem?_cons_succ, List.getElem?_eq_getElem hi, e]) hpy
    omega
  | a :: r, j + 1, z, h, hp, hu => by
    have ha : ¬ p a = true := fun hpa => by have := hu 0 a rfl hpa; omega
    rw [List.filter_cons_of_neg ha]
    refine filter_one (by simpa using h) hp fun i y hi hy => ?_
    have := hu (i + 1) y (by simpa using hi) hy
    omega
theorem flatMap_one {α β : Type} {f : α → List β} : ∀ {l : List α} {r : Nat} {t : α}, l[r]? = some t → (∀ (q : Nat) u, l[q]? = some u → q ≠ r → f u = []) → l.flatMap f = f t
  | [], r, t, h, _ => by simp at h
  | a :: l, 0, t, h, hu => by
    simp only [List.getElem?_cons_zero, Option.some.injEq] at h
    subst h
    have : l.flatMap f = [] := by
      rw [List.flatMap_eq_nil_iff]
      intro u hm
      obtain ⟨i, hi, e⟩ := List.getElem_of_mem hm
      exact hu (i + 1) u (by rw [List.getElem?_cons_succ, List.getElem?_eq_getElem hi, e]) (by omega)
    rw [List.flatMap_cons, this, List.append_nil]
  | a :: l, r + 1, t, h, hu => by
    rw [List.flatMap_cons, hu 0 a rfl (by omega), List.nil_append]
    exact flatMap_one (by simpa using h) fun q u hq hne => hu (q + 1) u (by simpa using hq) (by omega)

theorem onW (ss : List St) (k : Int) : (allW ss).filter (fun x => x.ln == k) = ss.flatMap fun t => t.l.filter (hasW k) := by
  unfold allW
  rw [List.filter_flatMap]
  congr 1
  funext t
  rw [List.filter_filter]
  congr 1
  funext x
  unfold hasW heldB
  rw [Bool.and_comm]

/-- The copies that one node has of a line are what Find finds. -/
theorem onL_node {n s y b : Int} {ss : List St} {k i : Nat} (he : cacheE n s y b ss = 0) (hk : k < 16) {z : Wy} {p : Bool} {E : Int} (hf : FindCIs n s y b ss k z p E) :
    E = 0 ∧ (p = false → z = wy0) ∧ onL k (cpsOf i ss) = if p = true then [⟨(i : Int), z⟩] else [] := by
  have good := goodC_iff.1 he
  have hl : lineE n s y b ss k = 0 := by rw [lineE_zero he, if_neg (by simp [lnB]; omega)]
  obtain ⟨r, t, hr, ht⟩ := good.set_ k
  obtain ⟨h0, h1⟩ := hf.ok hl hr ht
  have e1 : onL k (cpsOf i ss) = ((allW ss).filter (fun x => x.ln == (k : Int))).map fun x => (⟨(i : Int), x⟩ : Cp) := by
    unfold onL cpsOf
    rw [List.filter_map]
    rfl
  have hrow := good.2.2
  have e2 : ss.flatMap (fun t => t.l.filter (hasW k)) = t.l.filter (hasW k) := flatMap_one (f := fun t : St => t.l.filter (hasW k)) ht fun q u hq hne => by
    rw [List.filter_eq_nil_iff]
    intro x hx hw
    obtain ⟨j, hj, e⟩ := List.getElem_of_mem hx
    obtain ⟨w1, w2⟩ := hasW_iff.1 hw
    have := (hrow q u hq).2 j x (by rw [List.getElem?_eq_getElem hj, e]) w1
    rw [w2] at this
    omega
  have gw := (goodW_iff t.l).1 (rowE_ok (hrow r t ht).1).2.2
  rw [e1, onW, e2]
  rcases h1 with ⟨h1, rfl, rfl⟩ | ⟨j, h1, h2, rfl⟩
  · refine ⟨h0, fun _ => rfl, ?_⟩
    rw [List.filter_eq_nil_iff.2]
    · rfl
    · intro x hx hw
      have := idxP_neg.1 (Int.not_le.2 h1) x hx
      rw [this] at hw
      cases hw
  · refine ⟨h0, (fun h => (by cases h)), ?_⟩
    obtain ⟨j', y', h3, h4, h5⟩ := idxP_there (p := hasW k) (l := t.l) (by rw [h1]; omega)
    obtain rfl : j' = j := by omega
    rw [h2] at h4
    cases h4
    rw [filter_one h2 h5 fun q y hq hy => by have := gw.at_ hq hy; omega]
    rfl

theorem onL_append (k : Nat) (P P' : List Cp) : onL k (P ++ P') = onL k P ++ onL k P' := by simp [onL]
theorem copN_get {css : List (List St)} : ∀ {j : Nat} {c : Cp}, j ≤ css.length → c ∈ copN css j → ∃ (i : Nat) (ss : List St), i < j ∧ css[i]? = some ss ∧ c ∈ cpsOf i ss
  | 0, c, _, h => by simp [copN] at h
  | j + 1, c, hj, h => by
    have hx : css[j]? = some css[j] := List.getElem?_eq_getElem _
    rw [copN_succ hx] at h
    rcases List.mem_append.1 h with h | h
    · obtain ⟨i, ss, h1, h2, h3⟩ := copN_get (by omega) h
      exact ⟨i, ss, by omega, h2, h3⟩
    · exact ⟨j, _, by omega, hx, h⟩
theorem cpsOf_nd {i : Nat} {ss : List St} {c : Cp} (h : c ∈ cpsOf i ss) : c.nd = i ∧ c.x.st ≠ 0 := by
  unfold cpsOf at h
  obtain ⟨x, hx, rfl⟩ := List.mem_map.1 h
  refine ⟨rfl, ?_⟩
  obtain ⟨t, _, hm⟩ := List.mem_flatMap.1 hx
  have := (List.mem_filter.1 hm).2
  simpa [heldB] using this
theorem copN_le {css : List (List St)} {i : Nat} {ss : List St} (h : css[i]? = some ss) : ∀ {j : Nat}, i < j → ∀ c ∈ cpsOf i ss, c ∈ copN css j
  | 0, hj, _, _ => absurd hj (by omega)
  | j + 1, hj, c, hc => by
    rw [copN]
    rw [List.mem_append]
    by_cases e : i = j
    · subst e
      right
      simpa [List.getD, h] using hc
    · exact .inl (copN_le h (by omega) c hc)
theorem copN_length {n s y b : Int} {css : List (List St)} (h : ∀ ss ∈ css, cacheE n s y b ss = 0) : ∀ {j : Nat}, j ≤ css.length → (copN css j).length ≤ j * 16
  | 0, _ => by simp [copN]
  | j + 1, hj => by
    have hx : css[j]? = some css[j] := List.getElem?_eq_getElem _
    have h1 := copN_length h (j := j) (by omega)
    have h2 := allW_16 (h _ (List.mem_of_getElem? hx))
    rw [copN_succ hx, List.length_append]
    unfold cpsOf
    rw [List.length_map]
    omega

/-- A node has the line just if its number is among the holders. -/
theorem node_in {n s y b : Int} {css : List (List St)} (h : ∀ ss ∈ css, cacheE n s y b ss = 0) {k i : Nat} {ss : List St} (hi : css[i]? = some ss) (hk : k < 16) {z : Wy} {p : Bool} {E : Int} (hf : FindCIs n s y b ss k z p E) :
    decide ((i : Int) ∈ nodesL (onL k (copN css css.length))) = p ∧ (p = true → (⟨(i : Int), z⟩ : Cp) ∈ onL k (copN css css.length)) := by
  obtain ⟨_, _, h3⟩ := onL_node (i := i) (h ss (List.mem_of_getElem? hi)) hk hf
  have hlt := (List.getElem?_eq_some_iff.1 hi).1
  have hmem : p = true → (⟨(i : Int), z⟩ : Cp) ∈ onL k (copN css css.length) := fun hp => by
    rw [hp, if_pos rfl] at h3
    have hc : (⟨(i : Int), z⟩ : Cp) ∈ onL k (cpsOf i ss) := by rw [h3]; simp
    unfold onL at hc ⊢
    rw [List.mem_filter] at hc ⊢
    exact ⟨copN_le hi hlt _ hc.1, hc.2⟩
  refine ⟨?_, hmem⟩
  cases p
  · rw [decide_eq_false_iff_not]
    intro hm
    unfold nodesL at hm
    obtain ⟨c, hc, e⟩ := List.mem_map.1 hm
    unfold onL at hc
    obtain ⟨hc1, hc2⟩ := List.mem_filter.1 hc
    obtain ⟨i', ss', h4, h5, h6⟩ := copN_get (Nat.le_refl _) hc1
    have := (cpsOf_nd h6).1
    have e' : i' = i := by omega
    subst e'
    rw [hi] at h5
    cases h5
    have : c ∈ onL k (cpsOf i' ss) := by unfold onL; rw [List.mem_filter]; exact ⟨h6, hc2⟩
    rw [h3] at this
    simp at this
  · rw [decide_eq_true_eq]
    unfold nodesL
    exact List.mem_map.2 ⟨_, hmem rfl, rfl⟩

/-- What a line without error is. -/
theorem lnE_ok {l : List Cp} {d : L4} (h : lnE l d = 0) : pairsB l = true ∧ sameD l = true ∧ (ownN l < 0 → valL l d = d) := by
  unfold lnE at h
  cases h1 : pairsB l
  · rw [if_pos h1] at h; omega
  · rw [if_neg (by rw [h1]; decide)] at h
    cases h2 : sameD l
    · rw [if_pos h2] at h; omega
    · rw [if_neg (by rw [h2]; decide)] at h
      refine ⟨rfl, rfl, fun ho => ?_⟩
      by_cases h3 : ownN l < 0 ∧ eq4 (valL l d) d = false
      · rw [if_pos h3] at h; omega
      · cases h4 : eq4 (valL l d) d
        · exact absurd ⟨ho, h4⟩ h3
        · exact eq4_iff.1 h4
theorem val_of {l : List Cp} {d : L4} (h : sameD l = true) {c : Cp} (hc : c ∈ l) : c.x.dat = valL l d := by
  obtain ⟨i, hi, e⟩ := List.getElem_of_mem hc
  have h1 := eq4_iff.1 (sameD_iff.1 h i hi)
  rw [datA_at (c := c) (by rw [List.getElem?_eq_getElem hi, e])] at h1
  rw [h1]
  cases l with
  | nil => simp at hi
  | cons a r => rfl
theorem own_in (l : List Cp) (hn : ∀ c ∈ l, 0 ≤ c.nd) : ownN l < 0 ∨ (0 ≤ ownN l ∧ ownN l ∈ nodesL l) := by
  unfold ownN
  cases h : l.find? (fun c => owB c.x.st) with
  | none => left; simp
  | some c =>
    right
    have hm := List.mem_of_find?_eq_some h
    exact ⟨hn c hm, List.mem_map.2 ⟨c, hm, rfl⟩⟩
/-- Who may write is alone. -/
theorem writers_few {l : List Cp} (h : pairsB l = true) (hs : ∀ c ∈ l, c.x.st ≠ 0) : l.countP (fun c => wrB c.x.st) ≤ 1 ∧ (l.countP (fun c => wrB c.x.st) = 0 ∨ l.length = 1) := by
  by_cases h0 : l.countP (fun c => wrB c.x.st) = 0
  · exact ⟨by omega, .inl h0⟩
  · obtain ⟨c, hc, hw⟩ := List.countP_pos_iff.1 (by omega : 0 < l.countP (fun c => wrB c.x.st))
    obtain ⟨i, hi, e⟩ := List.getElem_of_mem hc
    have hst : stA l i = c.x.st := stA_at (by rw [List.getElem?_eq_getElem hi, e])
    have hw' : c.x.st = 2 ∨ c.x.st = 4 := by simpa [wrB] using hw
    have one : l.length = 1 := by
      refine Classical.byContradiction fun hne => ?_
      obtain ⟨j, hj, hij⟩ : ∃ j, j < l.length ∧ j ≠ i := by
        by_cases e0 : i = 0
        · exact ⟨1, by omega, by omega⟩
        · exact ⟨0, by omega, by omega⟩
      have hsj : stA l j ≠ 0 := by
        rw [stA_at (List.getElem?_eq_getElem hj)]
        exact hs _ (List.getElem_mem _)
      have hp := pairsB_iff.1 h
      by_cases hlt : j < i
      · have := hp i j hi hlt
        rw [hst] at this
        simp [bsB] at this
        omega
      · have := hp j i hj (by omega)
        rw [hst] at this
        simp [bsB] at this
        omega
    have := List.countP_le_length (p := fun c : Cp => wrB c.x.st) (l := l)
    exact ⟨by omega, .inr one⟩
end Go.Proofs.YtgdacpcifnpojaaGreat

/- DeedFacts: Proved: facts on caches and lines, no walk: what a cache has of a line, what one way that is another changes; when a line is coherent, node by node. No condition. -/
namespace Go.Proofs.YtgdacpcifnpojaaGreat
open Go.ChangeShapes Go.WideShapes Go.ChangeAt Go.RowKit Go.Joins

/-- What the cache has of line k. -/
def fnd (ss : List St) (k : Nat) : Option Wy := ((allW ss).filter (fun x => x.ln == (k : Int))).head?
/-- Way x lies in set q, at place i. -/
def AtS (ss : List St) (q i : Nat) (x : Wy) : Prop := ∃ t, ss[q]? = some t ∧ t.l[i]? = some x

theorem onL_cps (k i : Nat) (ss : List St) : onL k (cpsOf i ss) = ((allW ss).filter (fun x => x.ln == (k : Int))).map fun x => (⟨(i : Int), x⟩ : Cp) := by
  unfold onL cpsOf
  rw [List.filter_map]
  rfl

section
variable {n s y b : Int} {ss : List St} {k : Nat}
theorem fnd_find (he : cacheE n s y b ss = 0) (hk : k < 16) {z : Wy} {p : Bool} {E : Int} (hf : FindCIs n s y b ss k z p E) :
    E = 0 ∧ (p = false → z = wy0) ∧ fnd ss k = (if p = true then some z else none) ∧ (allW ss).filter (fun x => x.ln == (k : Int)) = (fnd ss k).toList := by
  obtain ⟨h1, h2, h3⟩ := onL_node (i := 0) he hk hf
  rw [onL_cps] at h3
  have h4 : (allW ss).filter (fun x => x.ln == (k : Int)) = if p = true then [z] else [] := by
    cases p
    · rw [if_neg (by decide)] at h3 ⊢
      simpa using h3
    · rw [if_pos rfl] at h3 ⊢
      rw [List.map_eq_singleton_iff] at h3
      obtain ⟨a, h5, h6⟩ := h3
      rw [h5]
      cases h6
      rfl
  refine ⟨h1, h2, ?_, ?_⟩
  · unfold fnd
    rw [h4]
    cases p <;> rfl
  · unfold fnd
    rw [h4]
    cases p <;> rfl
theorem fnd_list (he : cacheE n s y b ss = 0) (hk : k < 16) : (allW ss).filter (fun x => x.ln == (k : Int)) = (fnd ss k).toList := by
  obtain ⟨z, p, E, hf, _⟩ := cacheFind_is n s y b (.slice none 0 0) ss k
  exact (fnd_find he hk hf).2.2.2
theorem mem_allW {x : Wy} : x ∈ allW ss ↔ x.st ≠ 0 ∧ ∃ q i, AtS ss q i x := by
  unfold allW
  rw [List.mem_flatMap]
  constructor
  · rintro ⟨t, ht, hx⟩
    obtain ⟨h1, h2⟩ := List.mem_filter.1 hx
    obtain ⟨q, hq, e⟩ := List.getElem_of_mem ht
    obtain ⟨i, hi, e2⟩ := List.getElem_of_mem h1
    exact ⟨by simpa [heldB] using h2, q, i, t, by rw [List.getElem?_eq_getElem hq, e], by rw [List.getElem?_eq_getElem hi, e2]⟩
  · rintro ⟨h0, q, i, t, h1, h2⟩
    exact ⟨t, List.mem_of_getElem? h1, List.mem_filter.2 ⟨List.mem_of_getElem? h2, by simpa [heldB] using h0⟩⟩
theorem fnd_iff (he : cacheE n s y b ss = 0) (hk : k < 16) {x : Wy} : fnd ss k = some x ↔ hasW k x = true ∧ ∃ q i, AtS ss q i x := by
  have : fnd ss k = some x ↔ x ∈ (allW ss).filter (fun x => x.ln == (k : Int)) := by
    rw [fnd_list he hk, Option.mem_toList]
  rw [this, List.mem_filter, mem_allW, hasW_iff]
  constructor
  · rintro ⟨⟨h1, h2⟩, h3⟩
    exact ⟨⟨h1, by simpa using h3⟩, h2⟩
  · rintro ⟨⟨h1, h2⟩, h3⟩
    exact ⟨⟨h1, h3⟩, by simpa using h2⟩
theorem fnd_none (he : cacheE n s y b ss = 0) (hk : k < 16) : fnd ss k = none ↔ ∀ q i x, AtS ss q i x → hasW k x = false := by
  constructor
  · intro h q i x hx
    cases e : hasW k x
    · rfl
    · rw [(fnd_iff he hk).2 ⟨e, q, i, hx⟩] at h
      cases h
  · intro h
    cases e : fnd ss k with
    | none => rfl
    | some x =>
      obtain ⟨h1, q, i, h2⟩ := (fnd_iff he hk).1 e
      rw [h q i x h2] at h1
      cases h1
theorem fnd_ok (he : cacheE n s y b ss = 0) (hk : k < 16) {x : Wy} (h : fnd ss k = some x) : x.st ≠ 0 ∧ x.ln = k ∧ (1 ≤ x.st ∧ x.st ≤ 4) := by
  obtain ⟨h1, q, i, t, h2, h3⟩ := (fnd_iff he hk).1 h
  obtain ⟨h4, h5⟩ := hasW_iff.1 h1
  have hw := ((goodW_iff t.l).1 (rowE_ok ((goodC_iff.1 he).2.2 q t h2).1).2.2).1 i x h3
  refine ⟨h4, h5, ?_⟩
  unfold wayE at hw
  split at hw
  · rename_i k1
    have := k1.1
    simp [stB] at this
    omega
  · omega
/-- A line is in one place. -/
theorem at_only (he : cacheE n s y b ss = 0) {m : Int} {q i q' i' : Nat} {x x' : Wy} (h : AtS ss q i x) (h' : AtS ss q' i' x') (hm : hasW m x = true) (hm' : hasW m x' = true) : q' = q ∧ i' = i ∧ x' = x := by
  obtain ⟨t, h1, h2⟩ := h
  obtain ⟨t', h1', h2'⟩ := h'
  have good := goodC_iff.1 he
  obtain ⟨m1, m2⟩ := hasW_iff.1 hm
  obtain ⟨m1', m2'⟩ := hasW_iff.1 hm'
  have e1 := (good.2.2 q t h1).2 i x h2 m1
  have e2 := (good.2.2 q' t' h1').2 i' x' h2' m1'
  rw [m2] at e1
  rw [m2'] at e2
  obtain rfl : q' = q := by omega
  rw [h1] at h1'
  cases h1'
  have gw := (goodW_iff t.l).1 (rowE_ok (good.2.2 q' t h1).1).2.2
  have e3 := gw.at_ h2 hm
  have e4 := gw.at_ h2' hm'
  obtain rfl : i' = i := by omega
  rw [h2] at h2'
  cases h2'
  exact ⟨rfl, rfl, rfl⟩
end

/-- One way is another. -/
theorem GoodW.upd {l : List Wy} (h : GoodW l) {k : Nat} {x : Wy} (hx : wayE x = 0) (hn : x.st ≠ 0 → ∀ (j : Nat) z, j ≠ k → l[j]? = some z → hasW x.ln z = false) : GoodW (l.set k x) := by
  refine ⟨fun q z hz => ?_, fun p q z u hpq hz hu sz su => ?_⟩
  · rcases set_get hz with ⟨_, rfl⟩ | ⟨_, hz⟩
    · exact hx
    · exact h.1 q z hz
  · rcases set_get hz with ⟨e1, d1⟩ | ⟨e1, z2⟩ <;> rcases set_get hu with ⟨e2, d2⟩ | ⟨e2, u2⟩
    · omega
    · rw [d1]
      rw [d1] at sz
      exact fun e => hasW_no.1 (hn sz q u e2 u2) su e.symm
    · rw [d2]
      rw [d2] at su
      exact fun e => hasW_no.1 (hn su p z e1 z2) sz e
    · exact h.2 p q z u hpq z2 u2 sz su

/-- The cache in which one way is another. -/
abbrev updC (ss : List St) (r : Nat) (t : St) (j : Nat) (x : Wy) (a b c : Bool) : List St := ss.set r ⟨t.l.set j x, a, b, c⟩

section
variable {n s y b : Int} {ss : List St} {r j : Nat} {t : St} {old x : Wy} {p q p' : Bool}
theorem at_upd (ht : ss[r]? = some t) (hj : t.l[j]? = some old) {k i : Nat} {z : Wy} : AtS (updC ss r t j x p q p') k i z ↔ (k = r ∧ i = j ∧ z = x) ∨ (¬ (k = r ∧ i = j) ∧ AtS ss k i z) := by
  have hl := set_lt hj
  constructor
  · rintro ⟨u, h1, h2⟩
    rcases st_get h1 with ⟨rfl, rfl⟩ | ⟨h3, h4⟩
    · rcases set_get h2 with ⟨rfl, rfl⟩ | ⟨h5, h6⟩
      · exact .inl ⟨rfl, rfl, rfl⟩
      · exact .inr ⟨fun h => h5 h.2, t, ht, h6⟩
    · exact .inr ⟨fun h => h3 h.1, u, h4, h2⟩
  · rintro (⟨rfl, rfl, rfl⟩ | ⟨h1, u, h2, h3⟩)
    · exact ⟨_, List.getElem?_set_self (st_lt ht), List.getElem?_set_self hl⟩
    · by_cases e : k = r
      · subst e
        rw [ht] at h2
        cases h2
        exact ⟨_, List.getElem?_set_self (st_lt ht), by rw [List.getElem?_set_ne (by omega)]; exact h3⟩
      · exact ⟨u, by rw [List.getElem?_set_ne (fun h => e h.symm)]; exact h2, h3⟩

theorem good_upd (he : cacheE n s y b ss = 0) (ht : ss[r]? = some t) (_hj : t.l[j]? = some old) (hx : wayE x = 0) (hs : x.st ≠ 0 → x.ln % s = r ∧ ∀ (i : Nat) z, i ≠ j → t.l[i]? = some z → hasW x.ln z = false) (htr : treeE p q p' y = 0) :
    cacheE n s y b (updC ss r t j x p q p') = 0 := by
  have good := goodC_iff.1 he
  obtain ⟨_, r2, r3⟩ := rowE_ok (good.2.2 r t ht).1
  refine goodC_iff.2 (good.replace_ (rowE_zero htr (by simpa using r2) (((goodW_iff t.l).1 r3).upd hx fun h0 => (hs h0).2)) fun i z hz sz => ?_)
  rcases set_get hz with ⟨_, rfl⟩ | ⟨_, hz⟩
  · exact (hs sz).1
  · exact (good.2.2 r t ht).2 i z hz sz

theorem fnd_upd (he : cacheE n s y b ss = 0) (ha : cacheE n s y b (updC ss r t j x p q p') = 0) (ht : ss[r]? = some t) (hj : t.l[j]? = some old) {k : Nat} (hk : k < 16) :
    fnd (updC ss r t j x p q p') k = if hasW k x = true then some x else if hasW k old = true then none else fnd ss k := by
  by_cases h1 : hasW k x = true
  · rw [if_pos h1]
    exact (fnd_iff ha hk).2 ⟨h1, r, j, (at_upd ht hj).2 (.inl ⟨rfl, rfl, rfl⟩)⟩
  · rw [if_neg h1]
    by_cases h2 : hasW k old = true
    · rw [if_pos h2, fnd_none ha hk]
      intro q' i z hz
      rcases (at_upd ht hj).1 hz with ⟨_, _, rfl⟩ | ⟨h3, h4⟩
      · simpa using h1
      · cases e : hasW k z
        · rfl
        · obtain ⟨a1, a2, _⟩ := at_only he ⟨t, ht, hj⟩ h4 h2 e
          exact absurd ⟨a1, a2⟩ h3
    · rw [if_neg h2]
      refine Option.ext fun z => ?_
      rw [fnd_iff ha hk, fnd_iff he hk]
      constructor
      · rintro ⟨h3, q', i, h4⟩
        rcases (at_upd ht hj).1 h4 with ⟨_, _, rfl⟩ | ⟨_, h5⟩
        · exact absurd h3 h1
        · exact ⟨h3, q', i, h5⟩
      · rintro ⟨h3, q', i, h4⟩
        refine ⟨h3, q', i, (at_upd ht hj).2 (.inr ⟨?_, h4⟩)⟩
        rintro ⟨rfl, rfl⟩
        obtain ⟨t', h5, h6⟩ := h4
        rw [ht] at h5
        cases h5
        rw [hj] at h6
        cases h6
        exact h2 h3
end

/-! Lines, node by node. -/
/-- The copies of a line, of which node i has 'h i'. -/
def onF (h : Nat → Option Wy) : Nat → List Cp
  | 0 => []
  | j + 1 => onF h j ++ (h j).toList.map fun x => (⟨(j : Int), x⟩ : Cp)

theorem onL_copN {n s y b : Int} {css : List (List St)} (hall : ∀ ss ∈ css, cacheE n s y b ss = 0) {k : Nat} (hk : k < 16) : ∀ {j : Nat}, j ≤ css.length → onL k (copN css j) = onF (fun i => fnd (css.getD i []) k) j
  | 0, _ => by simp [copN, onL, onF]
  | j + 1, hj => by
    have hx : css[j]? = some css[j] := List.getElem?_eq_getElem _
    rw [copN_succ hx, onL_append, onL_copN hall hk (by omega), onL_cps, fnd_list (hall _ (List.mem_of_getElem? hx)) hk, onF]
    simp [List.getD, hx]

section
variable {h : Nat → Option Wy}
theorem mem_onF {c : Cp} : ∀ {N : Nat}, c ∈ onF h N ↔ ∃ i x, i < N ∧ h i = some x ∧ c = ⟨(i : Int), x⟩
  | 0 => by simp [onF]
  | N + 1 => by
    rw [onF, List.mem_append, mem_onF]
    constructor
    · rintro (⟨i, x, h1, h2, h3⟩ | h1)
      · exact ⟨i, x, by omega, h2, h3⟩
      · obtain ⟨x, h2, rfl⟩ := List.mem_map.1 h1
        exact ⟨N, x, by omega, by simpa using h2, rfl⟩
    · rintro ⟨i, x, h1, h2, rfl⟩
      by_cases e : i = N
      · subst e
        exact .inr (List.mem_map.2 ⟨x, by simpa using h2, rfl⟩)
      · exact .inl ⟨i, x, by omega, h2, rfl⟩
theorem pairwise_onF {R : Cp → Cp → Prop} : ∀ {N : Nat}, (onF h N).Pairwise R ↔ ∀ i j x y, j < i → i < N → h i = some x → h j = some y → R ⟨(j : Int), y⟩ ⟨(i : Int), x⟩
  | 0 => by simp [onF]
  | N + 1 => by
    rw [onF, List.pairwise_append, pairwise_onF]
    constructor
    · rintro ⟨h1, _, h3⟩ i j x y hj hi hx hy
      by_cases e : i = N
      · subst e
        exact h3 _ (mem_onF.2 ⟨j, y, hj, hy, rfl⟩) _ (List.mem_map.2 ⟨x, by simpa using hx, rfl⟩)
      · exact h1 i j x y hj (by omega) hx hy
    · intro hh
      refine ⟨fun i j x y hj hi hx hy => hh i j x y hj (by omega) hx hy, ?_, fun c hc c' hc' => ?_⟩
      · cases h N <;> simp
      · obtain ⟨j, y, hj, hy, rfl⟩ := mem_onF.1 hc
        obtain ⟨x, hx, rfl⟩ := List.mem_map.1 hc'
        exact hh N j x y hj (by omega) (by simpa using hx) hy
end

theorem pairsB_pw {l : List Cp} : pairsB l = true ↔ l.Pairwise fun a c => bsB c.x.st a.x.st = true := by
  rw [pairsB_iff, List.pairwise_iff_getElem]
  constructor
  · intro h i j hi hj hij
    have := h j i hj hij
    rwa [stA_at (List.getElem?_eq_getElem hj), stA_at (List.getElem?_eq_getElem hi)] at this
  · intro h i j hi hj
    rw [stA_at (List.getElem?_eq_getElem hi), stA_at (List.getElem?_eq_getElem (by omega))]
    exact h j i (by omega) hi hj
theorem bsB_comm (s t : Int) : bsB s t = bsB t s := by
  unfold bsB
  refine decide_eq_decide.2 ?_
  omega
theorem sameD_all {l : List Cp} : sameD l = true ↔ ∀ c ∈ l, ∀ c' ∈ l, c.x.dat = c'.x.dat := by
  constructor
  · intro h c hc c' hc'
    rw [val_of (d := ⟨0, 0, 0, 0⟩) h hc, val_of (d := ⟨0, 0, 0, 0⟩) h hc']
  · intro h
    rw [sameD_iff]
    intro i hi
    rw [datA_at (List.getElem?_eq_getElem hi), datA_at (List.getElem?_eq_getElem (show 0 < l.length by omega))]
    exact eq4_iff.2 (h _ (List.getElem_mem _) _ (List.getElem_mem _))
theorem lnE_zero {l : List Cp} {d : L4} : lnE l d = 0 ↔ pairsB l = true ∧ sameD l = true ∧ (ownN l < 0 → valL l d = d) := by
  refine ⟨lnE_ok, fun ⟨h1, h2, h3⟩ => ?_⟩
  unfold lnE
  rw [if_neg (by simp [h1]), if_neg (by simp [h2]), if_neg]
  rintro ⟨h4, h5⟩
  rw [h3 h4, eq4_refl] at h5
  cases h5

/-- A line of which node i has 'h i', and memory 'd', is coherent. -/
structure LnOk (h : Nat → Option Wy) (N : Nat) (d : L4) : Prop where
  bs : ∀ i j x y, i < N → j < N → i ≠ j → h i = some x → h j = some y → bsB x.st y.st = true
  dat : ∀ i j x y, i < N → j < N → h i = some x → h j = some y → x.dat = y.dat
  own : (∀ i x, i < N → h i = some x → owB x.st = false) → ∀ i x, i < N → h i = some x → x.dat = d

section
variable {h : Nat → Option Wy} {N : Nat} {d : L4}
theorem ownN_onF : (ownN (onF h N) = -1 ∧ ∀ i x, i < N → h i = some x → owB x.st = false) ∨ ∃ i x, i < N ∧ h i = some x ∧ owB x.st = true ∧ ownN (onF h N) = i := by
  unfold ownN
  cases e : (onF h N).find? (fun c => owB c.x.st) with
  | none =>
    left
    refine ⟨rfl, fun i x hi hx => ?_⟩
    have := List.find?_eq_none.1 e ⟨i, x⟩ (mem_onF.2 ⟨i, x, hi, hx, rfl⟩)
    simpa using this
  | some c =>
    right
    obtain ⟨i, x, hi, hx, rfl⟩ := mem_onF.1 (List.mem_of_find?_eq_some e)
    have := List.find?_some e
    exact ⟨i, x, hi, hx, this, rfl⟩
theorem valL_none (hn : ∀ i, i < N → h i = none) : valL (onF h N) d = d := by
  have : onF h N = [] := by
    rw [List.eq_nil_iff_forall_not_mem]
    intro c hc
    obtain ⟨i, x, hi, hx, _⟩ := mem_onF.1 hc
    rw [hn i hi] at hx
    cases hx
  rw [this]
  rfl
theorem valL_some (hd : ∀ i j x y, i < N → j < N → h i = some x → h j = some y → x.dat = y.dat) {i : Nat} {x : Wy} (hi : i < N) (hx : h i = some x) : valL (onF h N) d = x.dat := by
  have hs : sameD (onF h N) = true := sameD_all.2 fun c hc c' hc' => by
    obtain ⟨i, x, hi, hx, rfl⟩ := mem_onF.1 hc
    obtain ⟨j, y, hj, hy, rfl⟩ := mem_onF.1 hc'
    exact hd i j x y hi hj hx hy
  exact (val_of hs (mem_onF.2 ⟨i, x, hi, hx, rfl⟩)).symm
theorem lnE_iff : lnE (onF h N) d = 0 ↔ LnOk h N d := by
  rw [lnE_zero, pairsB_pw, pairwise_onF, sameD_all]
  constructor
  · rintro ⟨h1, h2, h3⟩
    have hd : ∀ i j x y, i < N → j < N → h i = some x → h j = some y → x.dat = y.dat := fun i j x y hi hj hx hy => h2 _ (mem_onF.2 ⟨i, x, hi, hx, rfl⟩) _ (mem_onF.2 ⟨j, y, hj, hy, rfl⟩)
    refine ⟨fun i j x y hi hj hij hx hy => ?_, hd, fun hno i x hi hx => ?_⟩
    · by_cases e : j < i
      · exact h1 i j x y e hi hx hy
      · rw [bsB_comm]
        exact h1 j i y x (by omega) hj hy hx
    · rcases ownN_onF (h := h) (N := N) with ⟨h4, _⟩ | ⟨i', x', h4, h5, h6, _⟩
      · rw [← h3 (by omega), valL_some hd hi hx]
      · rw [hno i' x' h4 h5] at h6
        cases h6
  · rintro ⟨h1, h2, h3⟩
    refine ⟨fun i j x y hj hi hx hy => h1 i j x y hi (by omega) (by omega) hx hy, fun c hc c' hc' => ?_, fun ho => ?_⟩
    · obtain ⟨i, x, hi, hx, rfl⟩ := mem_onF.1 hc
      obtain ⟨j, y, hj, hy, rfl⟩ := mem_onF.1 hc'
      exact h2 i j x y hi hj hx hy
    · rcases ownN_onF (h := h) (N := N) with ⟨_, h4⟩ | ⟨i', x', h4, h5, h6, h7⟩
      · by_cases hn : ∀ i, i < N → h i = none
        · exact valL_none hn
        · have hn' : ∃ i, i < N ∧ h i ≠ none := Classical.byContradiction fun hc => hn fun i hi => Classical.byContradiction fun hne => hc ⟨i, hi, hne⟩
          obtain ⟨i, hi, hne⟩ := hn'
          obtain ⟨x, hx⟩ := Option.ne_none_iff_exists'.1 hne
          rw [valL_some h2 hi hx]
          exact h3 h4 i x hi hx
      · omega
end

/-- A world is coherent. -/
theorem cohE_iff {n s y b : Int} {css : List (List St)} {m : List Int} : cohE n s y b css m = 0 ↔
    (cfgB n s y b = true ∧ (css.length : Int) = n ∧ ∀ ss ∈ css, cacheE n s y b ss = 0) ∧ ∀ k, k < 16 → LnOk (fun i => fnd (css.getD i []) k) css.length (l4 m k) := by
  constructor
  · intro h
    obtain ⟨h1, h2⟩ := cohE_ok h
    have h3 := formE_ok h1
    refine ⟨h3, fun k hk => ?_⟩
    have := h2 k hk
    rw [onL_copN h3.2.2 hk (Nat.le_refl _)] at this
    exact lnE_iff.1 this
  · rintro ⟨h1, h2⟩
    have h3 : formE n s y b css = 0 := by
      unfold formE
      rw [if_neg (by simp [h1.1]), if_neg (by simp [h1.2.1])]
      have : ∀ l : List (List St), (∀ ss ∈ l, cacheE n s y b ss = 0) → cachesE n s y b l = 0 := by
        intro l
        induction l with
        | nil => intro _; rfl
        | cons a r ih =>
          intro hl
          rw [cachesE, if_neg (by simp [hl a (by simp)])]
          exact ih fun ss hs => hl ss (by simp [hs])
      exact this css h1.2.2
    unfold cohE
    rw [if_neg (by simp [h3]), badL_none]
    intro j hj
    rw [onL_copN h1.2.2 hj (Nat.le_refl _)]
    exact lnE_iff.2 (h2 j hj)
theorem flat_line {n s y b : Int} {css : List (List St)} {m : List Int} (hall : ∀ ss ∈ css, cacheE n s y b ss = 0) {k : Nat} (hk : k < 16) :
    l4 (flatN (copN css css.length) m 16) k = valL (onF (fun i => fnd (css.getD i []) k) css.length) (l4 m k) := by
  rw [flatN_at _ _ 16 (Nat.le_refl _) k hk, onL_copN hall hk (Nat.le_refl _)]
end Go.Proofs.YtgdacpcifnpojaaGreat

/- Atomic: Proved: what Do of package atomic returns, for every argument; it changes nothing that was there. No condition. -/
namespace Go.Proofs.YtgdacpcifnpojaaGreat
open Go.ChangeShapes Go.WideShapes Go.ChangeAt Go.RowKit Go.Joins

/-- The memory behind an operation, and what the operation tells. -/
def doM (l : List Int) (d : Dd) : List Int := if setsB d.kd = true then pokeL l d.ad.toNat d.vl else l
def doV (l : List Int) (d : Dd) : Int := if tellsB d.kd = true then wd l d.ad.toNat else 0
theorem doM_length {l : List Int} (d : Dd) (h : l.length = 64) : (doM l d).length = 64 := by
  unfold doM
  split
  · rw [pokeL_length, h]
  · exact h

theorem results_mem3 {fn : Func} {tmps : Array Value} {i j k g : Nat} {l : List Int} {v u : Value} {w : World} (hr : fn.results = #[.cell i 29, .tmp j, .tmp k]) (hi : tmps.getD i undef = .pointer (some ⟨g, 0, none⟩)) (hj : tmps.getD j undef = v) (hk : tmps.getD k undef = u) (hb : Mb w g l) :
    (results fn tmps).run Tryz.prog w = .ok (.tuple #[memV l, v, u]) w := by
  rw [Array.getD_eq_getD_getElem?] at hi hj hk
  simp [results, hr, hi, hj, hk, asAddr, hb.load]

set_option maxHeartbeats 1000000 in
theorem atomicDo_bad (l : List Int) (d : Dd) (h : deedE d ≠ 0) (w : World) : Calls Tryz.prog 132 #[memV l, d.val] w fun e w' =>
    e = .returned (.tuple #[memV zeroL, .int .u64 0, .int .i64 (deedE d)]) ∧ Below w.heap.size w w' := by
  have R := Lib.hid fun W => atomicRight_any d W
  obtain ⟨n, k, a, v⟩ := d
  have h1 : (deedE ⟨n, k, a, v⟩ != 0) = true := by simpa using h
  generalize deedE ⟨n, k, a, v⟩ = e0 at *
  clear h
  have low := Below.refl w.heap.size w
  have mb := boxNext low 29 (memA l)
  replace low := gAlloc low (.cells (memA l) 29)
  try simp only [World.size_alloc] at mb
  have db := boxNext low 59 #[.int .i64 n, .int .i64 k, .int .i64 a, .int .u64 v]
  replace low := gAlloc low (.cells #[.int .i64 n, .int .i64 k, .int .i64 a, .int .u64 v] 59)
  replace mb := mb.alloc (.cells #[.int .i64 n, .int .i64 k, .int .i64 a, .int .u64 v] 59)
  try simp only [World.size_alloc] at db
  have ob := boxNext low 29 (memA zeroL)
  replace low := gAlloc low (.cells (memA zeroL) 29)
  replace mb := mb.alloc (.cells (memA zeroL) 29)
  replace db := db.alloc (.cells (memA zeroL) 29)
  try simp only [World.size_alloc] at ob
  go_enter Tryz.func132, Tryz.ntmps132
  have db_0 := db.at_ 0 rfl
  have db_1 := db.at_ 1 rfl
  have db_2 := db.at_ 2 rfl
  have db_3 := db.at_ 3 rfl
  go_wp2_with (with_reducible refine wp_newMem ?_)
  (with_reducible refine (R.out _).mono ?_); rintro e w1 ⟨rfl, hb⟩
  replace ob := ob.call hb
  replace low := gCall low hb
  clear hb db mb
  clear db_0 db_1 db_2 db_3
  go_wp2_with (first | (with_reducible refine wp_zeroMem ?_) | ((with_reducible refine wp_storeMem (⟨ob, zeroL_length⟩) (zeroL_length) ?_ ?_ ?_); rfl; rfl))
  intro w3 m3 st
  replace low := st.low low (by omega)
  clear st ob
  go_wp2_with fail
  refine bodyPost_ret (v := .tuple #[memV zeroL, .int .u64 0, .int .i64 e0]) (results_mem3 Tryz.results132 rfl rfl rfl m3) rfl ⟨rfl, low⟩


set_option maxHeartbeats 2000000 in
theorem atomicDo_ok (l : List Int) (hl : l.length = 64) (d : Dd) (h : deedE d = 0) (w : World) : Calls Tryz.prog 132 #[memV l, d.val] w fun e w' =>
    e = .returned (.tuple #[memV (doM l d), .int .u64 (doV l d), .int .i64 0]) ∧ Below w.heap.size w w' := by
  have R := Lib.hid fun W => atomicRight_any d W
  rw [h] at R
  obtain ⟨-, -, i, hi, ha⟩ := deedE_ok h
  obtain ⟨n, k, a, v⟩ := d
  simp only at ha
  subst ha
  have W1 := Lib.hid fun W => bankWord_ok l hl i hi W
  have P := Lib.hid fun W => bankPoke_ok l hl i hi v W
  have S := Lib.hid fun W => sets_any k W
  have T := Lib.hid fun W => tells_any k W
  have hp : (pokeL l i v).length = 64 := by rw [pokeL_length, hl]
  have eM : doM l ⟨n, k, i, v⟩ = if setsB k = true then pokeL l i v else l := by simp [doM]
  have eV : doV l ⟨n, k, i, v⟩ = if tellsB k = true then wd l i else 0 := by simp [doV]
  rw [eM, eV]
  generalize wd l i = wi at *
  generalize pokeL l i v = m at *
  clear h hi eM eV
  cases hs : setsB k <;> cases ht : tellsB k
  all_goals
    rw [hs] at S
    rw [ht] at T
    clear hs ht
    have low := Below.refl w.heap.size w
    have xb := boxNext low 29 (memA l)
    replace low := gAlloc low (.cells (memA l) 29)
    try simp only [World.size_alloc] at xb
    have db := boxNext low 59 #[.int .i64 n, .int .i64 k, .int .i64 i, .int .u64 v]
    replace low := gAlloc low (.cells #[.int .i64 n, .int .i64 k, .int .i64 i, .int .u64 v] 59)
    replace xb := xb.alloc (.cells #[.int .i64 n, .int .i64 k, .int .i64 i, .int .u64 v] 59)
    try simp only [World.size_alloc] at db
    have ob := boxNext low 29 (memA zeroL)
    replace low := gAlloc low (.cells (memA zeroL) 29)
    replace xb := xb.alloc (.cells (memA zeroL) 29)
    replace db := db.alloc (.cells (memA zeroL) 29)
    try simp only [World.size_alloc] at ob
    have mb : Mb _ _ l := ⟨xb, hl⟩
    clear xb
    go_enter Tryz.func132, Tryz.ntmps132
    have db_0 := db.at_ 0 rfl
    have db_1 := db.at_ 1 rfl
    have db_2 := db.at_ 2 rfl
    have db_3 := db.at_ 3 rfl
    go_wp2_with (with_reducible refine wp_newMem ?_)
    (with_reducible refine (R.out _).mono ?_); rintro e w1 ⟨rfl, hb⟩
    replace ob := ob.call hb
    replace mb := mb.call hb
    replace db := db.call hb
    replace low := gCall low hb
    clear hb
    clear db_0 db_1 db_2 db_3
    have db_0 := db.at_ 0 rfl
    have db_1 := db.at_ 1 rfl
    have db_2 := db.at_ 2 rfl
    have db_3 := db.at_ 3 rfl
    go_wp2_with ((with_reducible refine wp_loadMem (mb) ?_ ?_ ?_); rfl; rfl)
    (with_reducible refine (W1.out _).mono ?_); rintro e w2 ⟨rfl, hb⟩
    replace ob := ob.call hb
    replace mb := mb.call hb
    replace db := db.call hb
    replace low := gCall low hb
    clear hb
    clear db_0 db_1 db_2 db_3
    have db_0 := db.at_ 0 rfl
    have db_1 := db.at_ 1 rfl
    have db_2 := db.at_ 2 rfl
    have db_3 := db.at_ 3 rfl
    go_wp2_with fail
    (with_reducible refine (S.out _).mono ?_); rintro e w' ⟨rfl, rfl⟩
  · go_wp2_with fail
    (with_reducible refine (T.out _).mono ?_); rintro e w' ⟨rfl, rfl⟩
    have hl2 := mb.2
    go_wp2_with (first | ((with_reducible refine wp_loadMem (mb) ?_ ?_ ?_); rfl; rfl) | ((with_reducible refine wp_storeMem (⟨ob, zeroL_length⟩) (hl2) ?_ ?_ ?_); rfl; rfl))
    intro w7 m7 st
    replace low := st.low low (by omega)
    clear st ob mb db
    go_wp2_with fail
    refine bodyPost_ret (v := .tuple #[memV (l), .int .u64 (0), .int .i64 0]) (results_mem3 Tryz.results132 rfl rfl rfl m7) rfl ⟨rfl, low⟩
  · go_wp2_with fail
    (with_reducible refine (T.out _).mono ?_); rintro e w' ⟨rfl, rfl⟩
    have hl2 := mb.2
    go_wp2_with (first | ((with_reducible refine wp_loadMem (mb) ?_ ?_ ?_); rfl; rfl) | ((with_reducible refine wp_storeMem (⟨ob, zeroL_length⟩) (hl2) ?_ ?_ ?_); rfl; rfl))
    intro w7 m7 st
    replace low := st.low low (by omega)
    clear st ob mb db
    go_wp2_with fail
    refine bodyPost_ret (v := .tuple #[memV (l), .int .u64 (wi), .int .i64 0]) (results_mem3 Tryz.results132 rfl rfl rfl m7) rfl ⟨rfl, low⟩
  · go_wp2_with ((with_reducible refine wp_loadMem (mb) ?_ ?_ ?_); rfl; rfl)
    (with_reducible refine (P.out _).mono ?_); rintro e w3 ⟨rfl, hb⟩
    replace ob := ob.call hb
    replace mb := mb.call hb
    replace db := db.call hb
    replace low := gCall low hb
    clear hb
    clear db_0 db_1 db_2 db_3
    go_wp2_with ((with_reducible refine wp_storeMem (mb) (hp) ?_ ?_ ?_); rfl; rfl)
    intro w4 m4 st
    replace low := st.low low (by omega)
    replace ob := st.box ob (by omega)
    replace db := st.box db (by omega)
    replace mb := m4
    clear st m4
    have db_0 := db.at_ 0 rfl
    have db_1 := db.at_ 1 rfl
    have db_2 := db.at_ 2 rfl
    have db_3 := db.at_ 3 rfl
    go_wp2_with fail
    (with_reducible refine (T.out _).mono ?_); rintro e w' ⟨rfl, rfl⟩
    have hl2 := mb.2
    go_wp2_with (first | ((with_reducible refine wp_loadMem (mb) ?_ ?_ ?_); rfl; rfl) | ((with_reducible refine wp_storeMem (⟨ob, zeroL_length⟩) (hl2) ?_ ?_ ?_); rfl; rfl))
    intro w7 m7 st
    replace low := st.low low (by omega)
    clear st ob mb db
    go_wp2_with fail
    refine bodyPost_ret (v := .tuple #[memV (m), .int .u64 (0), .int .i64 0]) (results_mem3 Tryz.results132 rfl rfl rfl m7) rfl ⟨rfl, low⟩
  · go_wp2_with ((with_reducible refine wp_loadMem (mb) ?_ ?_ ?_); rfl; rfl)
    (with_reducible refine (P.out _).mono ?_); rintro e w3 ⟨rfl, hb⟩
    replace ob := ob.call hb
    replace mb := mb.call hb
    replace db := db.call hb
    replace low := gCall low hb
    clear hb
    clear db_0 db_1 db_2 db_3
    go_wp2_with ((with_reducible refine wp_storeMem (mb) (hp) ?_ ?_ ?_); rfl; rfl)
    intro w4 m4 st
    replace low := st.low low (by omega)
    replace ob := st.box ob (by omega)
    replace db := st.box db (by omega)
    replace mb := m4
    clear st m4
    have db_0 := db.at_ 0 rfl
    have db_1 := db.at_ 1 rfl
    have db_2 := db.at_ 2 rfl
    have db_3 := db.at_ 3 rfl
    go_wp2_with fail
    (with_reducible refine (T.out _).mono ?_); rintro e w' ⟨rfl, rfl⟩
    have hl2 := mb.2
    go_wp2_with (first | ((with_reducible refine wp_loadMem (mb) ?_ ?_ ?_); rfl; rfl) | ((with_reducible refine wp_storeMem (⟨ob, zeroL_length⟩) (hl2) ?_ ?_ ?_); rfl; rfl))
    intro w7 m7 st
    replace low := st.low low (by omega)
    clear st ob mb db
    go_wp2_with fail
    refine bodyPost_ret (v := .tuple #[memV (m), .int .u64 (wi), .int .i64 0]) (results_mem3 Tryz.results132 rfl rfl rfl m7) rfl ⟨rfl, low⟩

end Go.Proofs.YtgdacpcifnpojaaGreat

/- Deed: Proved: what Check of package agree, and isLocal, keep and plain of package deed return; none changes anything that was there. Conditions: keep is asked for a line that is right where it writes; plain for a world and an operation that are right. -/
namespace Go.Proofs.YtgdacpcifnpojaaGreat
open Go.ChangeShapes Go.WideShapes Go.ChangeAt Go.RowKit Go.Joins


set_option maxHeartbeats 1000000 in
theorem agreeCheck_any (n s y b : Int) (v : Value) (m : List Int) (css : List (List St)) (w : World) (h : Ks w v css) (hm : m.length = 64) :
    Calls Tryz.prog 24 #[cfg n s y b, wldV v m] w fun e w' => e = .returned (.tuple #[.int .i64 (cohE n s y b css m), .int .i64 (cohL n s y b css m)]) ∧ Below w.heap.size w w' := by
  by_cases he : cohE n s y b css m = 0
  · have F := Lib.hid fun w hw => coherent_ok n s y b v m css w hw hm he
    have hl : cohL n s y b css m = 0 := by
      obtain ⟨h1, h2⟩ := cohE_ok he
      unfold cohL
      rw [if_neg (by simp [h1]), badL_none h2]
    rw [he, hl]
    clear he hl
    have low := Below.refl w.heap.size w
    have cb := boxNext low 23 (cfgA n s y b)
    replace low := gAlloc low (.cells (cfgA n s y b) 23)
    replace h := h.alloc (.cells (cfgA n s y b) 23)
    try simp only [World.size_alloc] at cb
    have wb := boxNext low 31 (wldA v m)
    replace low := gAlloc low (.cells (wldA v m) 31)
    replace cb := cb.alloc (.cells (wldA v m) 31)
    replace h := h.alloc (.cells (wldA v m) 31)
    try simp only [World.size_alloc] at wb
    have wr := wb.range
    go_enter Tryz.func24, Tryz.ntmps24
    go_wp2_with (first | ((with_reducible refine wp_loadW (tyWorld) (wr) (wld_size hm) ?_ ?_ ?_); rfl; rfl))
    (with_reducible refine (F.out _ h).mono ?_); rintro e w1 ⟨⟨us, rfl, hds⟩, hb⟩
    replace low := gCall low hb
    clear hb cb wb wr
    have u16 := hds.size
    have one := hds.one
    have hb := boxNext low 116 us.toArray
    replace low := gAlloc low (.cells us.toArray 116)
    try simp only [World.size_alloc] at hb
    go_wp2_with (first | (with_reducible refine wp_newW (tyCopies) ?_) | ((with_reducible refine wp_freshW (tyCopies) (rfl) (u16) (one) ?_ ?_ ?_); rfl; rfl))
    go_ret2
    exact ⟨rfl, low⟩
  · have F := Lib.hid fun w hw => coherent_bad n s y b v m css w hw hm he
    generalize cohE n s y b css m = E at F he ⊢
    generalize cohL n s y b css m = L at F ⊢
    clear he
    have low := Below.refl w.heap.size w
    have cb := boxNext low 23 (cfgA n s y b)
    replace low := gAlloc low (.cells (cfgA n s y b) 23)
    replace h := h.alloc (.cells (cfgA n s y b) 23)
    try simp only [World.size_alloc] at cb
    have wb := boxNext low 31 (wldA v m)
    replace low := gAlloc low (.cells (wldA v m) 31)
    replace cb := cb.alloc (.cells (wldA v m) 31)
    replace h := h.alloc (.cells (wldA v m) 31)
    try simp only [World.size_alloc] at wb
    have wr := wb.range
    go_enter Tryz.func24, Tryz.ntmps24
    go_wp2_with (first | ((with_reducible refine wp_loadW (tyWorld) (wr) (wld_size hm) ?_ ?_ ?_); rfl; rfl))
    (with_reducible refine (F.out _ h).mono ?_); rintro e w1 ⟨rfl, hb⟩
    replace low := gCall low hb
    clear hb cb wb wr
    have hb := boxNext low 116 nil16
    replace low := gAlloc low (.cells nil16 116)
    try simp only [World.size_alloc] at hb
    go_wp2_with (first | (with_reducible refine wp_newW (tyCopies) ?_) | ((with_reducible refine wp_freshW (tyCopies) (rfl) (rfl) (nil16_one) ?_ ?_ ?_); rfl; rfl))
    go_ret2
    exact ⟨rfl, low⟩

/-- May the node do it by itself? -/
def locB (s k : Int) : Bool := if k = 1 then rdB s else if k = 4 then !owB s else wrB s
/-- The memory with the data of a way that has left its cache. -/
def keepM (m : List Int) (x : Wy) : List Int := if owB x.st = true then writeL m x.ln.toNat x.a x.b x.c x.d else m
theorem keepM_length {m : List Int} (h : m.length = 64) (x : Wy) : (keepM m x).length = 64 := by
  unfold keepM
  split
  · rw [writeL_length, h]
  · exact h

theorem isLocal_any (s k : Int) (w : World) (h1 : 1 ≤ k) (h2 : k ≤ 4) : Calls Tryz.prog 109 #[.int .i64 s, .int .i64 k] w fun e w' => e = .returned (.bool (locB s k)) ∧ w = w' := by
  have R := Lib.hid fun w => reads_any s w
  have W := Lib.hid fun w => writes_any s w
  have O := Lib.hid fun w => owns_any s w
  obtain rfl | rfl | rfl | rfl : k = 1 ∨ k = 2 ∨ k = 3 ∨ k = 4 := by omega
  · show Calls _ _ _ _ fun e w' => e = .returned (.bool (rdB s)) ∧ w = w'
    go_enter Tryz.func109, Tryz.ntmps109
    go_wp2_with fail
    (with_reducible refine (R.out _).mono ?_); rintro e w' ⟨rfl, rfl⟩
    go_wp2_with fail
    go_ret
    exact ⟨rfl, rfl⟩
  · show Calls _ _ _ _ fun e w' => e = .returned (.bool (wrB s)) ∧ w = w'
    go_enter Tryz.func109, Tryz.ntmps109
    go_wp2_with fail
    (with_reducible refine (W.out _).mono ?_); rintro e w' ⟨rfl, rfl⟩
    go_wp2_with fail
    go_ret
    exact ⟨rfl, rfl⟩
  · show Calls _ _ _ _ fun e w' => e = .returned (.bool (wrB s)) ∧ w = w'
    go_enter Tryz.func109, Tryz.ntmps109
    go_wp2_with fail
    (with_reducible refine (W.out _).mono ?_); rintro e w' ⟨rfl, rfl⟩
    go_wp2_with fail
    go_ret
    exact ⟨rfl, rfl⟩
  · show Calls _ _ _ _ fun e w' => e = .returned (.bool (!owB s)) ∧ w = w'
    generalize owB s = o at O ⊢
    go_enter Tryz.func109, Tryz.ntmps109
    go_wp2_with fail
    (with_reducible refine (O.out _).mono ?_); rintro e w' ⟨rfl, rfl⟩
    go_wp2_with fail
    go_ret
    exact ⟨rfl, rfl⟩

set_option maxHeartbeats 1000000 in
theorem keep_any (m : List Int) (hm : m.length = 64) (x : Wy) (hx : owB x.st = true → 0 ≤ x.ln ∧ x.ln ≤ 15) (w : World) : Calls Tryz.prog 106 #[memV m, x.val] w fun e w' =>
    e = .returned (.tuple #[memV (keepM m x), .int .i64 0]) ∧ Below w.heap.size w w' := by
  have O := Lib.hid fun w => owns_any x.st w
  have hk := keepM_length hm x
  generalize hK : keepM m x = K at *
  unfold keepM at hK
  have low := Below.refl w.heap.size w
  have mb := boxNext low 29 (memA m)
  replace low := gAlloc low (.cells (memA m) 29)
  try simp only [World.size_alloc] at mb
  have xb := boxNext low 80 x.arr
  replace low := gAlloc low (.cells x.arr 80)
  replace mb := mb.alloc (.cells x.arr 80)
  try simp only [World.size_alloc] at xb
  simp only [Wy.arr] at xb
  have ob := boxNext low 29 (memA zeroL)
  replace low := gAlloc low (.cells (memA zeroL) 29)
  replace mb := mb.alloc (.cells (memA zeroL) 29)
  replace xb := xb.alloc (.cells (memA zeroL) 29)
  try simp only [World.size_alloc] at ob
  cases ho : owB x.st
  · rw [ho] at O hK
    obtain rfl : m = K := by simpa using hK
    clear hx hK ho
    go_enter Tryz.func106, Tryz.ntmps106
    have xb_0 := xb.at_ 0 rfl
    go_wp2_with (with_reducible refine wp_newMem ?_)
    (with_reducible refine (O.out _).mono ?_); rintro e w' ⟨rfl, rfl⟩
    go_wp2_with (first | ((with_reducible refine wp_loadMem (⟨mb, hm⟩) ?_ ?_ ?_); rfl; rfl) | ((with_reducible refine wp_storeMem (⟨ob, zeroL_length⟩) (hm) ?_ ?_ ?_); rfl; rfl))
    intro w3 m3 st
    replace low := st.low low (by omega)
    clear st ob mb
    go_wp2_with fail
    refine bodyPost_ret (v := .tuple #[memV m, .int .i64 0]) (results_mem2 Tryz.results106 rfl rfl m3) rfl ⟨rfl, low⟩
  · rw [ho] at O hK
    rw [if_pos rfl] at hK
    obtain ⟨h1, h2⟩ := hx ho
    obtain ⟨s0, l0, a0, b0, c0, d0⟩ := x
    simp only at *
    obtain ⟨k, rfl⟩ : ∃ k : Nat, l0 = k := ⟨l0.toNat, by omega⟩
    have hk16 : k < 16 := by omega
    rw [Int.toNat_natCast] at hK
    have W := Lib.hid fun w => bankWrite_ok m hm k hk16 a0 b0 c0 d0 w
    rw [hK] at W
    clear hx hK ho h1 h2
    go_enter Tryz.func106, Tryz.ntmps106
    have xb_0 := xb.at_ 0 rfl
    have xb_1 := xb.at_ 1 rfl
    have xb_2 := xb.at_ 2 rfl
    have xb_3 := xb.at_ 3 rfl
    have xb_4 := xb.at_ 4 rfl
    have xb_5 := xb.at_ 5 rfl
    go_wp2_with (with_reducible refine wp_newMem ?_)
    (with_reducible refine (O.out _).mono ?_); rintro e w' ⟨rfl, rfl⟩
    go_wp2_with ((with_reducible refine wp_loadMem (⟨mb, hm⟩) ?_ ?_ ?_); rfl; rfl)
    (with_reducible refine (W.out _).mono ?_); rintro e w2 ⟨rfl, hb⟩
    clear xb_0 xb_1 xb_2 xb_3 xb_4 xb_5
    replace ob := ob.call hb
    replace low := gCall low hb
    clear hb mb xb
    go_wp2_with ((with_reducible refine wp_storeMem (⟨ob, zeroL_length⟩) (hk) ?_ ?_ ?_); rfl; rfl)
    intro w3 m3 st
    replace low := st.low low (by omega)
    clear st ob
    go_wp2_with fail
    refine bodyPost_ret (v := .tuple #[memV K, .int .i64 0]) (results_mem2 Tryz.results106 rfl rfl m3) rfl ⟨rfl, low⟩

/-- What memory would be without caches. -/
def flatW (css : List (List St)) (m : List Int) : List Int := flatN (copN css css.length) m 16

set_option maxRecDepth 10000 in
set_option maxHeartbeats 2000000 in
theorem plain_ok (n s y b : Int) (v : Value) (m : List Int) (css : List (List St)) (d : Dd) (k : Nat) (w : World) (h : Ks w v css) (hm : m.length = 64) (he : cohE n s y b css m = 0) (hd : deedE d = 0) (hk : k < 16) :
    Calls Tryz.prog 103 #[cfg n s y b, wldV v m, d.val, .int .i64 k] w fun e w' =>
      e = .returned (.tuple #[(l4 (doM (flatW css m) d) k).val, .int .u64 (doV (flatW css m) d), .int .i64 0]) ∧ Below w.heap.size w w' := by
  have F := Lib.hid fun w hw => flat_ok n s y b v m css w hw hm he
  have fl : (flatW css m).length = 64 := flatN_length _ _ _
  unfold flatW at *
  generalize flatN (copN css css.length) m 16 = L at F fl ⊢
  have D := Lib.hid fun w => atomicDo_ok L fl d hd w
  have gl := doM_length d fl
  generalize doM L d = G at D gl ⊢
  generalize doV L d = u at D ⊢
  have R := Lib.hid fun w => bankRead_ok G gl k hk w
  show Calls _ _ _ _ fun e w' => e = .returned (.tuple #[lineAt G k, .int .u64 u, .int .i64 0]) ∧ _
  unfold lineAt at R ⊢
  generalize wd G (k * 4) = q0 at R ⊢
  generalize wd G (k * 4 + 1) = q1 at R ⊢
  generalize wd G (k * 4 + 2) = q2 at R ⊢
  generalize wd G (k * 4 + 3) = q3 at R ⊢
  clear he hd
  obtain ⟨dn, dk, da, dv⟩ := d
  have low := Below.refl w.heap.size w
  have cb := boxNext low 23 (cfgA n s y b)
  replace low := gAlloc low (.cells (cfgA n s y b) 23)
  replace h := h.alloc (.cells (cfgA n s y b) 23)
  try simp only [World.size_alloc] at cb
  have wb := boxNext low 31 (wldA v m)
  replace low := gAlloc low (.cells (wldA v m) 31)
  replace cb := cb.alloc (.cells (wldA v m) 31)
  replace h := h.alloc (.cells (wldA v m) 31)
  try simp only [World.size_alloc] at wb
  have db := boxNext low 59 #[.int .i64 dn, .int .i64 dk, .int .i64 da, .int .u64 dv]
  replace low := gAlloc low (.cells #[.int .i64 dn, .int .i64 dk, .int .i64 da, .int .u64 dv] 59)
  replace cb := cb.alloc (.cells #[.int .i64 dn, .int .i64 dk, .int .i64 da, .int .u64 dv] 59)
  replace wb := wb.alloc (.cells #[.int .i64 dn, .int .i64 dk, .int .i64 da, .int .u64 dv] 59)
  replace h := h.alloc (.cells #[.int .i64 dn, .int .i64 dk, .int .i64 da, .int .u64 dv] 59)
  try simp only [World.size_alloc] at db
  have ob := boxNext low 27 ln0
  replace low := gAlloc low (.cells ln0 27)
  replace cb := cb.alloc (.cells ln0 27)
  replace wb := wb.alloc (.cells ln0 27)
  replace db := db.alloc (.cells ln0 27)
  replace h := h.alloc (.cells ln0 27)
  try simp only [World.size_alloc] at ob
  have wr := wb.range
  go_enter Tryz.func103, Tryz.ntmps103
  go_wp2_with (first | (with_reducible refine wp_newW (tyLine) ?_) | ((with_reducible refine wp_loadW (tyWorld) (wr) (wld_size hm) ?_ ?_ ?_); rfl; rfl))
  (with_reducible refine (F.out _ h).mono ?_); rintro e w1 ⟨rfl, hb⟩
  replace db := db.call hb
  replace ob := ob.call hb
  replace low := gCall low hb
  clear hb cb wb wr h F
  have fb := boxNext low 29 (memA L)
  replace low := gAlloc low (.cells (memA L) 29)
  replace db := db.alloc (.cells (memA L) 29)
  replace ob := ob.alloc (.cells (memA L) 29)
  try simp only [World.size_alloc] at fb
  have db_0 := db.at_ 0 rfl
  have db_1 := db.at_ 1 rfl
  have db_2 := db.at_ 2 rfl
  have db_3 := db.at_ 3 rfl
  go_wp2_with (first | (with_reducible refine wp_newMem ?_) | ((with_reducible refine wp_storeNew (zeroL_length) (fl) ?_ ?_ ?_); rfl; rfl) | ((with_reducible refine wp_loadMem (⟨fb, fl⟩) ?_ ?_ ?_); rfl; rfl))
  (with_reducible refine (D.out _).mono ?_); rintro e w2 ⟨rfl, hb⟩
  clear db_0 db_1 db_2 db_3
  replace ob := ob.call hb
  replace low := gCall low hb
  clear hb db fb D
  have gb := boxNext low 29 (memA G)
  replace low := gAlloc low (.cells (memA G) 29)
  replace ob := ob.alloc (.cells (memA G) 29)
  try simp only [World.size_alloc] at gb
  go_wp2_with (first | (with_reducible refine wp_newMem ?_) | ((with_reducible refine wp_storeNew (zeroL_length) (gl) ?_ ?_ ?_); rfl; rfl) | ((with_reducible refine wp_loadMem (⟨gb, gl⟩) ?_ ?_ ?_); rfl; rfl))
  (with_reducible refine (R.out _).mono ?_); rintro e w3 ⟨rfl, hb⟩
  replace ob := ob.call hb
  replace low := gCall low hb
  clear hb gb R
  have qb := boxNext low 27 #[.int .u64 q0, .int .u64 q1, .int .u64 q2, .int .u64 q3]
  replace low := gAlloc low (.cells #[.int .u64 q0, .int .u64 q1, .int .u64 q2, .int .u64 q3] 27)
  replace ob := ob.alloc (.cells #[.int .u64 q0, .int .u64 q1, .int .u64 q2, .int .u64 q3] 27)
  try simp only [World.size_alloc] at qb
  have qr := qb.range
  have one := lnA_one ⟨q0, q1, q2, q3⟩
  have q4 : (lnA ⟨q0, q1, q2, q3⟩).size = ln0.size := rfl
  go_wp2_with (first | (with_reducible refine wp_newW (tyLine) ?_) | ((with_reducible refine wp_freshW (tyLine) (rfl) (q4) (one) ?_ ?_ ?_); rfl; rfl) | ((with_reducible refine wp_loadW (tyLine) (qr) (q4) ?_ ?_ ?_); rfl; rfl) | ((with_reducible refine wp_storeW (tyLine) (ob) (rfl) (q4) (one) ?_ ?_ ?_); rfl; rfl))
  intro w4 ob4 st
  replace low := st.low low (by omega)
  clear st ob qb qr
  go_wp2_with fail
  exact bodyPost_ret (v := .tuple #[line q0 q1 q2 q3, .int .u64 u, .int .i64 0]) (results_first3 tyLine Tryz.results103 rfl rfl rfl ob4 rfl) rfl ⟨rfl, low⟩
end Go.Proofs.YtgdacpcifnpojaaGreat

/- DeedStep: Proved: a world behind an operation, line by line and node by node: it is coherent if it was, and what memory would be without caches is what the operation does to plain memory. No walk. No condition. -/
namespace Go.Proofs.YtgdacpcifnpojaaGreat
open Go.ChangeShapes Go.WideShapes Go.ChangeAt Go.RowKit Go.Joins

/-- The state of what a cache has of a line. -/
def stO : Option Wy → Int
  | some x => x.st
  | none => 0
theorem dat_mk (s l : Int) (q : L4) : (⟨s, l, q.a, q.b, q.c, q.d⟩ : Wy).dat = q := rfl
theorem as_dat (x : Wy) (s : Int) : (x.as s).dat = x.dat := rfl

/-- Another node's cache behind an operation. -/
structure OtherIs (n s y b : Int) (ss : List St) (L : Nat) (kd : Int) (sa : List St) : Prop where
  good : cacheE n s y b sa = 0
  here : fnd sa L = (fnd ss L).bind fun x => if otS x.st kd = 0 then none else some (x.as (otS x.st kd))
  rest : ∀ k, k < 16 → k ≠ L → fnd sa k = fnd ss k
  same : (∀ x, fnd ss L = some x → otS x.st kd = x.st) → sa = ss

/-- The node's own cache behind its operation, and what has left it. -/
structure OwnIs (n s y b : Int) (ss : List St) (L : Nat) (kd : Int) (alone : Bool) (q : L4) (sa : List St) (out : Wy) : Prop where
  good : cacheE n s y b sa = 0
  here : fnd sa L = if kd = 4 then none else some ⟨ownS (stO (fnd ss L)) kd alone, L, q.a, q.b, q.c, q.d⟩
  rest : ∀ k, k < 16 → k ≠ L → fnd sa k = if hasW k out = true then none else fnd ss k
  left : out.st ≠ 0 → ∃ k, k < 16 ∧ out.ln = (k : Nat) ∧ fnd ss k = some out
  put : kd = 4 → fnd ss L = some out
  other : kd ≠ 4 → hasW L out = false
  kept : kd ≠ 4 → fnd ss L ≠ none → out = wy0

section
variable {h h' : Nat → Option Wy} {N i0 : Nat} {D D' : L4}
theorem onF_congr : ∀ {N : Nat}, (∀ i, i < N → h' i = h i) → onF h' N = onF h N
  | 0, _ => rfl
  | N + 1, hh => by rw [onF, onF, onF_congr (fun i hi => hh i (by omega)), hh N (by omega)]

/-- A copy leaves. -/
theorem line_less (ok : LnOk h N D) {out : Wy} (hi0 : i0 < N) (h0 : h i0 = some out) (hn : h' i0 = none) (hs : ∀ i, i < N → i ≠ i0 → h' i = h i) (hD : D' = if owB out.st = true then out.dat else D) :
    LnOk h' N D' ∧ valL (onF h' N) D' = valL (onF h N) D := by
  have key : ∀ i x, i < N → h' i = some x → i ≠ i0 ∧ h i = some x := fun i x hi hx => by
    by_cases e : i = i0
    · subst e; rw [hn] at hx; cases hx
    · exact ⟨e, by rw [← hs i hi e]; exact hx⟩
  have hd : ∀ i j x y, i < N → j < N → h' i = some x → h' j = some y → x.dat = y.dat := fun i j x y hi hj hx hy => ok.dat i j x y hi hj (key i x hi hx).2 (key j y hj hy).2
  have hv : valL (onF h N) D = out.dat := valL_some ok.dat hi0 h0
  have hno : (∀ i x, i < N → h' i = some x → owB x.st = false) → owB out.st = false → out.dat = D := fun hno ho => by
    refine ok.own (fun i x hi hx => ?_) i0 out hi0 h0
    by_cases e : i = i0
    · subst e; rw [h0] at hx; cases hx; exact ho
    · exact hno i x hi (by rw [hs i hi e]; exact hx)
  have hown : (∀ i x, i < N → h' i = some x → owB x.st = false) → out.dat = D' := fun k => by
    rw [hD]
    cases ho : owB out.st
    · rw [if_neg (by decide)]; exact hno k ho
    · rw [if_pos rfl]
  refine ⟨⟨fun i j x y hi hj hij hx hy => ok.bs i j x y hi hj hij (key i x hi hx).2 (key j y hj hy).2, hd, fun k i x hi hx => ?_⟩, ?_⟩
  · rw [← hown k]
    exact ok.dat i i0 x out hi hi0 (key i x hi hx).2 h0
  · rw [hv]
    by_cases hall : ∀ i, i < N → h' i = none
    · rw [valL_none hall, hown fun i x hi hx => by rw [hall i hi] at hx; cases hx]
    · have hn' : ∃ i, i < N ∧ h' i ≠ none := Classical.byContradiction fun hc => hall fun i hi => Classical.byContradiction fun hne => hc ⟨i, hi, hne⟩
      obtain ⟨i, hi, hne⟩ := hn'
      obtain ⟨x, hx⟩ := Option.ne_none_iff_exists'.1 hne
      rw [valL_some hd hi hx]
      exact ok.dat i i0 x out hi hi0 (key i x hi hx).2 h0

/-- One node alone has the line, and owns it. -/
theorem line_one {x : Wy} (hi0 : i0 < N) (h0 : h' i0 = some x) (hx : x.st = 4) (hs : ∀ i, i < N → i ≠ i0 → h' i = none) : LnOk h' N D ∧ valL (onF h' N) D = x.dat := by
  have key : ∀ i z, i < N → h' i = some z → i = i0 ∧ z = x := fun i z hi hz => by
    by_cases e : i = i0
    · subst e; rw [h0] at hz; cases hz; exact ⟨rfl, rfl⟩
    · rw [hs i hi e] at hz; cases hz
  have hd : ∀ i j x y, i < N → j < N → h' i = some x → h' j = some y → x.dat = y.dat := fun i j x y hi hj hx hy => by rw [(key i x hi hx).2, (key j y hj hy).2]
  refine ⟨⟨fun i j x y hi hj hij hx hy => ?_, hd, fun k => ?_⟩, valL_some hd hi0 h0⟩
  · have := (key i x hi hx).1
    have := (key j y hj hy).1
    omega
  · have := k i0 x hi0 h0
    rw [hx] at this
    exact absurd this (by decide)

/-- A node loads the line. -/
theorem line_load (ok : LnOk h N D) {x : Wy} {al : Bool} (hst : ∀ i z, i < N → h i = some z → 1 ≤ z.st ∧ z.st ≤ 4) (hal : al = true ↔ ∀ i, i < N → i ≠ i0 → h i = none) (hi0 : i0 < N) (h0 : h' i0 = some x) (hx : x.st = loS (stO (h i0)) al) (hv : x.dat = valL (onF h N) D)
    (hs : ∀ i, i < N → i ≠ i0 → h' i = (h i).bind fun z => if saS z.st = 0 then none else some (z.as (saS z.st))) : LnOk h' N D ∧ valL (onF h' N) D = valL (onF h N) D := by
  have sa0 : ∀ z : Wy, 1 ≤ z.st ∧ z.st ≤ 4 → saS z.st ≠ 0 ∧ owB (saS z.st) = owB z.st := fun z hz => by
    obtain e | e | e | e : z.st = 1 ∨ z.st = 2 ∨ z.st = 3 ∨ z.st = 4 := by omega
    all_goals rw [e]; decide
  have key : ∀ i z, i < N → h' i = some z → (i = i0 ∧ z = x) ∨ (i ≠ i0 ∧ ∃ z0, h i = some z0 ∧ z = z0.as (saS z0.st) ∧ 1 ≤ z0.st ∧ z0.st ≤ 4) := fun i z hi hz => by
    by_cases e : i = i0
    · subst e; rw [h0] at hz; cases hz; exact .inl ⟨rfl, rfl⟩
    · right
      refine ⟨e, ?_⟩
      rw [hs i hi e] at hz
      cases h1 : h i with
      | none => rw [h1] at hz; cases hz
      | some z0 =>
        rw [h1] at hz
        have h2 := hst i z0 hi h1
        simp only [Option.bind_some, if_neg (sa0 z0 h2).1] at hz
        cases hz
        exact ⟨z0, rfl, rfl, h2⟩
  have hd : ∀ i j z u, i < N → j < N → h' i = some z → h' j = some u → z.dat = u.dat := by
    have one : ∀ i z, i < N → h' i = some z → z.dat = valL (onF h N) D := fun i z hi hz => by
      rcases key i z hi hz with ⟨_, rfl⟩ | ⟨_, z0, k1, rfl, _⟩
      · exact hv
      · rw [as_dat]; exact (valL_some ok.dat hi k1).symm
    intro i j z u hi hj hz hu
    rw [one i z hi hz, one j u hj hu]
  have bsx : ∀ i z0, i < N → i ≠ i0 → h i = some z0 → bsB x.st (saS z0.st) = true := fun i z0 hi e k1 => by
    have h2 := hst i z0 hi k1
    rw [hx]
    cases h3 : h i0 with
    | none =>
      have hna : al = false := by
        cases al
        · rfl
        · have := hal.1 rfl i hi e
          rw [k1] at this
          cases this
      subst hna
      obtain e | e | e | e : z0.st = 1 ∨ z0.st = 2 ∨ z0.st = 3 ∨ z0.st = 4 := by omega
      all_goals rw [e]; decide
    | some y0 =>
      have h4 := hst i0 y0 hi0 h3
      have h5 := ok.bs i0 i y0 z0 hi0 hi (Ne.symm e) h3 k1
      show bsB (loS y0.st al) (saS z0.st) = true
      have h6 : loS y0.st al = y0.st := by
        unfold loS
        rw [if_pos (show rdB y0.st = true from decide_eq_true h4)]
      rw [h6]
      simp [bsB] at h5
      have h7 : saS z0.st = z0.st := by
        unfold saS
        rw [if_neg (by omega), if_neg (by omega)]
      rw [h7]
      simp [bsB]
      omega
  refine ⟨⟨fun i j z u hi hj hij hz hu => ?_, hd, fun k i z hi hz => ?_⟩, ?_⟩
  · rcases key i z hi hz with ⟨e1, d1⟩ | ⟨e1, z0, k1, d1, k2⟩ <;> rcases key j u hj hu with ⟨e2, d2⟩ | ⟨e2, u0, k3, d2, k4⟩
    · omega
    · rw [d1, d2]
      exact bsx j u0 hj e2 k3
    · rw [d1, d2, bsB_comm]
      exact bsx i z0 hi e1 k1
    · have := ok.bs i j z0 u0 hi hj hij k1 k3
      rw [d1, d2]
      show bsB (saS z0.st) (saS u0.st) = true
      simp [bsB] at this
      have h7 : saS z0.st = z0.st := by unfold saS; rw [if_neg (by omega), if_neg (by omega)]
      have h8 : saS u0.st = u0.st := by unfold saS; rw [if_neg (by omega), if_neg (by omega)]
      rw [h7, h8]
      simp [bsB]
      omega
  · have hno : ∀ i z, i < N → h i = some z → owB z.st = false := fun i z hi hz => by
      by_cases e : i = i0
      · subst e
        have h4 := hst i z hi hz
        have := k i x hi h0
        rw [hx, hz] at this
        have h6 : loS z.st al = z.st := by
          unfold loS
          rw [if_pos (show rdB z.st = true from decide_eq_true h4)]
        have h7 : owB (loS z.st al) = false := this
        rwa [h6] at h7
      · have h4 := hst i z hi hz
        have := k i (z.as (saS z.st)) hi (by rw [hs i hi e, hz]; simp only [Option.bind_some, if_neg (sa0 z h4).1])
        rw [← (sa0 z h4).2]
        exact this
    have : valL (onF h N) D = D := by
      have := (lnE_zero.1 (lnE_iff.2 ok)).2.2
      apply this
      rcases ownN_onF (h := h) (N := N) with ⟨h4, _⟩ | ⟨i', x', h4, h5, h6, _⟩
      · omega
      · rw [hno i' x' h4 h5] at h6; cases h6
    rw [← this, ← hv]
    exact hd i i0 z x hi hi0 hz h0
  · rw [valL_some hd hi0 h0, hv]
end

theorem mem_ext {F G : List Int} (hF : F.length = 64) (hG : G.length = 64) (h : ∀ k, k < 16 → l4 F k = l4 G k) : F = G := by
  refine List.ext_getElem (hF.trans hG.symm) fun i hi hi' => ?_
  have h1 := h (i / 4) (by omega)
  simp only [l4, L4.mk.injEq] at h1
  obtain ⟨h2, h3, h4, h5⟩ := h1
  have e : ∀ (l : List Int) (hl : i < l.length), wd l i = l[i] := fun l hl => by simp [wd, List.getD, hl]
  rw [← e F hi, ← e G hi']
  have hm : i % 4 = 0 ∨ i % 4 = 1 ∨ i % 4 = 2 ∨ i % 4 = 3 := by omega
  rcases hm with hm | hm | hm | hm
  · rwa [show i / 4 * 4 = i by omega] at h2
  · rwa [show i / 4 * 4 + 1 = i by omega] at h3
  · rwa [show i / 4 * 4 + 2 = i by omega] at h4
  · rwa [show i / 4 * 4 + 3 = i by omega] at h5
theorem l4_do {F : List Int} (hF : F.length = 64) {d : Dd} {L r : Nat} (hr : r < 4) (hL : L < 16) (ha : d.ad = ((L * 4 + r : Nat) : Int)) {k : Nat} (hk : k ≠ L ∨ setsB d.kd = false) : l4 (doM F d) k = l4 F k := by
  unfold doM
  by_cases h : setsB d.kd = true
  · rw [if_pos h]
    have hk' : k ≠ L := by
      rcases hk with hk | hk
      · exact hk
      · rw [h] at hk; cases hk
    have e : d.ad.toNat = L * 4 + r := by rw [ha]; exact Int.toNat_natCast _
    unfold l4 pokeL
    rw [e, wd_set _ _ _ _ (by omega), wd_set _ _ _ _ (by omega), wd_set _ _ _ _ (by omega), wd_set _ _ _ _ (by omega), if_neg (by omega), if_neg (by omega), if_neg (by omega), if_neg (by omega)]
  · rw [if_neg h]
theorem l4_keep {m : List Int} (hm : m.length = 64) {out : Wy} (ho : owB out.st = true → ∃ k : Nat, k < 16 ∧ out.ln = k) (k : Nat) : l4 (keepM m out) k = if owB out.st = true ∧ out.ln = (k : Int) then out.dat else l4 m k := by
  unfold keepM
  by_cases h : owB out.st = true
  · obtain ⟨q, hq, e⟩ := ho h
    rw [if_pos h]
    have := l4_write m hm q hq ⟨out.a, out.b, out.c, out.d⟩ k
    rw [e, Int.toNat_natCast]
    refine this.trans ?_
    by_cases ek : k = q
    · rw [if_pos ek, if_pos ⟨h, by omega⟩]; rfl
    · rw [if_neg ek, if_neg fun c => ek (by omega)]
  · rw [if_neg h, if_neg fun c => h c.1]

set_option maxHeartbeats 1000000 in
/-- A world behind an operation is right, and plain memory is what the operation makes of it. -/
theorem step_ok {n s y b : Int} {css css' : List (List St)} {m : List Int} {d : Dd} {i0 L r : Nat} {al : Bool} {out : Wy} (hm : m.length = 64) (hc : cohE n s y b css m = 0) (hd : deedE d = 0) (hi0 : i0 < css.length) (hr : r < 4) (hL : L < 16) (ha : d.ad = ((L * 4 + r : Nat) : Int))
    (hlen : css'.length = css.length) (hal : al = true ↔ ∀ i, i < css.length → i ≠ i0 → fnd (css.getD i []) L = none)
    (oth : ∀ i, i < css.length → i ≠ i0 → OtherIs n s y b (css.getD i []) L d.kd (css'.getD i [])) (own : OwnIs n s y b (css.getD i0 []) L d.kd al (l4 (doM (flatW css m) d) L) (css'.getD i0 []) out) :
    cohE n s y b css' (keepM m out) = 0 ∧ flatW css' (keepM m out) = doM (flatW css m) d := by
  obtain ⟨⟨g1, g2, g3⟩, g4⟩ := cohE_iff.1 hc
  have hF : (flatW css m).length = 64 := flatN_length _ _ _
  have get : ∀ i, i < css.length → css.getD i [] ∈ css := fun i hi => by
    simp only [List.getD, List.getElem?_eq_getElem hi, Option.getD_some]
    exact List.getElem_mem _
  have all' : ∀ ss ∈ css', cacheE n s y b ss = 0 := fun ss hs => by
    obtain ⟨i, hi, e⟩ := List.getElem_of_mem hs
    have e' : css'.getD i [] = ss := by simp [List.getD, hi, e]
    by_cases ei : i = i0
    · subst ei; rw [← e']; exact own.good
    · rw [← e']; exact (oth i (by omega) ei).good
  have hst : ∀ k, k < 16 → ∀ i z, i < css.length → fnd (css.getD i []) k = some z → 1 ≤ z.st ∧ z.st ≤ 4 := fun k hk i z hi hz => (fnd_ok (g3 _ (get i hi)) hk hz).2.2
  have hkd := (deedE_ok hd).2.1
  have ho : owB out.st = true → ∃ k : Nat, k < 16 ∧ out.ln = k := fun h => by
    obtain ⟨k, h1, h2, _⟩ := own.left (fun e => by rw [e] at h; revert h; decide)
    exact ⟨k, h1, h2⟩
  -- line by line
  have main : ∀ k, k < 16 → LnOk (fun i => fnd (css'.getD i []) k) css.length (l4 (keepM m out) k) ∧ valL (onF (fun i => fnd (css'.getD i []) k) css.length) (l4 (keepM m out) k) = l4 (doM (flatW css m) d) k := by
    intro k hk
    have ok := g4 k hk
    have fl : l4 (flatW css m) k = valL (onF (fun i => fnd (css.getD i []) k) css.length) (l4 m k) := flat_line (m := m) g3 hk
    rw [l4_keep hm ho]
    -- a copy leaves
    have less : hasW k out = true → fnd (css.getD i0 []) k = some out → fnd (css'.getD i0 []) k = none → (∀ i, i < css.length → i ≠ i0 → fnd (css'.getD i []) k = fnd (css.getD i []) k) → l4 (doM (flatW css m) d) k = l4 (flatW css m) k →
        LnOk (fun i => fnd (css'.getD i []) k) css.length (if owB out.st = true ∧ out.ln = (k : Int) then out.dat else l4 m k) ∧ valL (onF (fun i => fnd (css'.getD i []) k) css.length) (if owB out.st = true ∧ out.ln = (k : Int) then out.dat else l4 m k) = l4 (doM (flatW css m) d) k := by
      intro k1 k2 k3 k4 k5
      obtain ⟨w1, w2⟩ := hasW_iff.1 k1
      have := line_less (h' := fun i => fnd (css'.getD i []) k) (D' := if owB out.st = true ∧ out.ln = (k : Int) then out.dat else l4 m k) ok hi0 k2 k3 k4 (by
        by_cases h : owB out.st = true
        · rw [if_pos ⟨h, w2⟩, if_pos h]
        · rw [if_neg (fun c => h c.1), if_neg h])
      refine ⟨this.1, this.2.trans ?_⟩
      rw [k5]
      exact fl.symm
    by_cases hkL : k = L
    · subst hkL
      by_cases h4 : d.kd = 4
      · have hp := own.put h4
        obtain ⟨f1, f2, _⟩ := fnd_ok (g3 _ (get i0 hi0)) hk hp
        refine less (hasW_iff.2 ⟨f1, f2⟩) hp (by rw [own.here, if_pos h4]) (fun i hi hne => ?_) (l4_do hF hr hL ha (.inr (by rw [h4]; decide)))
        rw [(oth i hi hne).here, h4]
        cases e : fnd (css.getD i []) k with
        | none => rfl
        | some z =>
          have hz := hst k hk i z hi e
          have e2 : otS z.st 4 = z.st := by
            obtain e | e | e | e : z.st = 1 ∨ z.st = 2 ∨ z.st = 3 ∨ z.st = 4 := by omega
            all_goals rw [e]; decide
          simp only [Option.bind_some, e2]
          rw [if_neg (by omega)]
      · have hno := own.other h4
        have hm2 : (if owB out.st = true ∧ out.ln = (k : Int) then out.dat else l4 m k) = l4 m k := by
          refine if_neg fun c => ?_
          have : hasW k out = true := hasW_iff.2 ⟨fun e => by rw [e] at c; exact absurd c.1 (by decide), c.2⟩
          rw [this] at hno
          cases hno
        rw [hm2]
        have h0 := own.here
        rw [if_neg h4] at h0
        by_cases h1 : d.kd = 1
        · have e5 : l4 (doM (flatW css m) d) k = l4 (flatW css m) k := l4_do hF hr hL ha (.inr (by rw [h1]; decide))
          rw [e5] at h0 ⊢
          have := line_load (h' := fun i => fnd (css'.getD i []) k) ok (hst k hk) hal hi0 h0 (by
            have hst0 : stB (stO (fnd (css.getD i0 []) k)) = true := by
              cases e : fnd (css.getD i0 []) k with
              | none => decide
              | some z => have := hst k hk i0 z hi0 e; exact decide_eq_true (by show 0 ≤ z.st ∧ z.st ≤ 4; omega)
            show ownS _ d.kd al = _
            unfold ownS
            rw [if_pos hst0, if_pos h1]) ((dat_mk _ _ _).trans fl) (fun i hi hne => by
              show fnd (css'.getD i []) k = _
              rw [(oth i hi hne).here, h1]
              cases e : fnd (css.getD i []) k with
              | none => rfl
              | some z =>
                have hz := hst k hk i z hi e
                have e2 : otS z.st 1 = saS z.st := by
                  obtain e | e | e | e : z.st = 1 ∨ z.st = 2 ∨ z.st = 3 ∨ z.st = 4 := by omega
                  all_goals rw [e]; decide
                simp only [Option.bind_some, e2])
          exact ⟨this.1, this.2.trans fl.symm⟩
        · have h23 : d.kd = 2 ∨ d.kd = 3 := by omega
          have := line_one (h' := fun i => fnd (css'.getD i []) k) (D := l4 m k) hi0 h0 (by
            have hst0 : stB (stO (fnd (css.getD i0 []) k)) = true := by
              cases e : fnd (css.getD i0 []) k with
              | none => decide
              | some z => have := hst k hk i0 z hi0 e; exact decide_eq_true (by show 0 ≤ z.st ∧ z.st ≤ 4; omega)
            show ownS _ d.kd al = _
            unfold ownS
            rw [if_pos hst0, if_neg h1, if_pos h23]) (fun i hi hne => by
              show fnd (css'.getD i []) k = _
              rw [(oth i hi hne).here]
              cases e : fnd (css.getD i []) k with
              | none => rfl
              | some z =>
                have e2 : otS z.st d.kd = 0 := by
                  unfold otS
                  rw [if_neg h1, if_neg h4]
                  split <;> rfl
                simp only [Option.bind_some, e2]
                rfl)
          exact ⟨this.1, this.2.trans (dat_mk _ _ _)⟩
    · have e5 : l4 (doM (flatW css m) d) k = l4 (flatW css m) k := l4_do hF hr hL ha (.inl hkL)
      have h0 := own.rest k hk hkL
      have hs : ∀ i, i < css.length → i ≠ i0 → fnd (css'.getD i []) k = fnd (css.getD i []) k := fun i hi hne => (oth i hi hne).rest k hk hkL
      by_cases hw : hasW k out = true
      · rw [if_pos hw] at h0
        obtain ⟨w1, w2⟩ := hasW_iff.1 hw
        obtain ⟨q, hq, e1, e2⟩ := own.left w1
        obtain rfl : q = k := by omega
        exact less hw e2 h0 hs e5
      · rw [if_neg hw] at h0
        have hm2 : (if owB out.st = true ∧ out.ln = (k : Int) then out.dat else l4 m k) = l4 m k := by
          refine if_neg fun c => hw (hasW_iff.2 ⟨fun e => by rw [e] at c; exact absurd c.1 (by decide), c.2⟩)
        rw [hm2, e5]
        have e6 : onF (fun i => fnd (css'.getD i []) k) css.length = onF (fun i => fnd (css.getD i []) k) css.length := onF_congr fun i hi => by
          by_cases e : i = i0
          · subst e; exact h0
          · exact hs i hi e
        refine ⟨lnE_iff.1 ?_, ?_⟩
        · rw [e6]; exact lnE_iff.2 ok
        · rw [e6]; exact fl.symm
  refine ⟨cohE_iff.2 ⟨⟨g1, by rw [hlen]; exact g2, all'⟩, fun k hk => ?_⟩, mem_ext (flatN_length _ _ _) (doM_length d hF) fun k hk => ?_⟩
  · rw [hlen]; exact (main k hk).1
  · refine (flat_line all' hk).trans ?_
    rw [hlen]
    exact (main k hk).2
end Go.Proofs.YtgdacpcifnpojaaGreat

/- RefPlru: Proved: what the reference's functions on trees return: Bits, Counts, TreeFault, Road. No condition. -/
namespace Go.Proofs.YtgdacpcifnpojaaGreat
open Go.ChangeShapes Go.WideShapes Go.ChangeAt Go.RowKit Go.Joins Go.Maps

/-- Three bits as an array's value. -/
abbrev bits (a b c : Bool) : Value := .agg #[.bool a, .bool b, .bool c]



end Go.Proofs.YtgdacpcifnpojaaGreat

/- RefPlru2: Proved: what the reference's Road returns: a map of the bits that are met on the road to a way. Condition: the number of ways and the way are in range. -/
namespace Go.Proofs.YtgdacpcifnpojaaGreat
open Go.ChangeShapes Go.WideShapes Go.ChangeAt Go.RowKit Go.Joins Go.Maps

/-- Which bits are met on the road to way k of n, and on which side it lies. -/
def road (n k x : Int) : Option Bool :=
  if n = 2 then (if x = 0 then some (k == 1) else none)
  else if 2 < n then (if x = 0 then some (decide (2 ≤ k)) else if k < 2 then (if x = 1 then some (k == 1) else none) else if n = 4 ∧ x = 2 then some (k == 3) else none)
  else none

/-- A map as read holds just what the function says. -/
def IsRoad (D : DataW Unit) (f : Int → Option Bool) : Prop :=
  IsMap D ∧ ∀ x, Maps.has D (.int .i64 x) = (f x).isSome ∧ ∀ g, f x = some g → ∀ zd, D.atKey (.int .i64 x) zd = .lit (.bool g)

theorem isRoad_empty : IsRoad (.map []) (fun _ => none) := ⟨isMap_empty, fun x => ⟨rfl, fun g h => by cases h⟩⟩

theorem isRoad_put {D : DataW Unit} {f : Int → Option Bool} (h : IsRoad D f) (y : Int) (g : Bool) : IsRoad (D.put (.int .i64 y) (.lit (.bool g))) (fun x => if x = y then some g else f x) := by
  refine ⟨h.1.put _ _, fun x => ?_⟩
  by_cases e : x = y
  · subst e
    refine ⟨by rw [has_put_same h.1 (by trivial)]; simp, fun g' hg zd => ?_⟩
    rw [atKey_put_same h.1 (by trivial)]
    simp at hg
    rw [hg]
  · have hne : Lit.int .i64 x ≠ Lit.int .i64 y := by intro k; injection k with _ k; exact e k
    refine ⟨by rw [has_put_other hne, (h.2 x).1]; simp [e], fun g' hg zd => ?_⟩
    rw [atKey_put_other hne]
    exact (h.2 x).2 g' (by simpa [e] using hg) zd

theorem isRoad_congr {D : DataW Unit} {f g : Int → Option Bool} (h : IsRoad D f) (e : ∀ x, f x = g x) : IsRoad D g := by
  obtain rfl : f = g := funext e
  exact h

end Go.Proofs.YtgdacpcifnpojaaGreat

/- RefPlru3: Proved: what the reference's Touched and VictimOf return, for a tree that is right. Condition: the tree is right and the way is in range. -/
namespace Go.Proofs.YtgdacpcifnpojaaGreat
open Go.ChangeShapes Go.WideShapes Go.ChangeAt Go.RowKit Go.Joins Go.Maps

theorem grownSet (w : World) (p : Addr) (u : Value) : w.grownBy (w.setCell p u) (some p.block) :=
  ⟨rfl, rfl, rfl, by simp [World.setCell], fun k _ hne => Below.heap_setCell w p u k (fun e => hne (by rw [e]))⟩

theorem plainElem_bool_shape {P : Program} {e : TypeId} (he : P.underlying e = some .bool) {v : Value} {z : DataW Unit × List MemPlace} (h : plainElem P e v = some z) : ∃ a, v = .bool a ∧ z = (.lit (.bool a), []) := by
  unfold plainElem at h
  rw [he] at h
  cases v <;> simp at h
  exact ⟨_, rfl, h.symm⟩

/-- The value that a map as read has at an int is this bool. -/
def BoolAt (D : DataW Unit) (x : Int) (v : Value) : Prop := ∃ c, v = .bool c ∧ ∀ zd, D.atKey (.int .i64 x) zd = .lit (.bool c)

/-- The step of a range over a map of bools that ints lead to. -/
theorem wpList_next_ib {P : Program} (w : World) {ops : Array Oper} {rest : List Oper} {o : Oper} {a : Act} {Q : Exit → Act → World → Prop} (hg : o.guard = none) (it : Operand) (hop : o.op = Op.next it false) (k e : TypeId) (K : Keyed P k)
    (hk : P.underlying k = some (.int .i64)) (he : P.underlying e = some .bool) (b r n : Nat) (D : DataW Unit) (left : Lit → Bool) (cnt : Nat)
    (hit : a.eval it = .pointer (some ⟨r, 0, none⟩)) (h : w.ranges P k (plainElem P e) b r n D left cnt)
    (hDone : (∀ kl, left kl = false) → wpList P ops Q rest (a.put o.dst (.tuple #[.bool false])) w)
    (hMore : ∀ (x : Int) (cv : Value) (w' : World) (cnt' : Nat), left (.int .i64 x) = true → BoolAt D x cv → w'.ranges P k (plainElem P e) b r n D (fun z => left z && !z.sameKey (.int .i64 x)) cnt' → cnt' < cnt →
      w.grownBy w' (some r) → (Instr.entry (.pointer (some ⟨r, 0, none⟩))).run P w' = .ok (.tuple #[.int .i64 x, cv]) w' → wpList P ops Q rest (a.put o.dst (.tuple #[.bool true, .int .i64 x, cv])) w') :
    wpList P ops Q (o :: rest) a w :=
  wpList_next_ranges w hg it hop k K (plainElem P e) (Value.int .i64) Value.bool (fun key kl hkey => by obtain ⟨x, rfl, _⟩ := Maps.keyOf_int_inv hk hkey; exact ⟨x, rfl⟩) (fun v y hv => by obtain ⟨c, rfl, _⟩ := plainElem_bool_shape he hv; exact ⟨c, rfl⟩)
    b r n D left cnt hit h (fun _ h => hDone h) (fun x c kl y w' cnt' hkey hlk hv hat hrg hlt hgr _ hen => by
      obtain ⟨x', ex, rfl, _⟩ := Maps.keyOf_int_inv hk hkey
      cases ex
      obtain ⟨c', ec, rfl⟩ := plainElem_bool_shape he hv
      cases ec
      exact hMore x (.bool c) w' cnt' hlk ⟨c, rfl, hat⟩ hrg hlt hgr hen)

theorem road_dom {n k x : Int} (h : (road n k x).isSome = true) : x = 0 ∨ x = 1 ∨ x = 2 := by
  unfold road at h
  split at h
  · split at h <;> simp_all
  · split at h
    · split at h
      · simp_all
      · split at h
        · split at h <;> simp_all
        · split at h
          · rename_i hh; exact Or.inr (Or.inr hh.2)
          · simp at h
    · simp at h

theorem road_at {D : DataW Unit} {f : Int → Option Bool} (h : IsRoad D f) {x : Int} {c : Bool} (hs : (f x).isSome = true) (hat : ∀ zd, D.atKey (.int .i64 x) zd = .lit (.bool c)) : f x = some c := by
  cases e : f x with
  | none => rw [e] at hs; cases hs
  | some g =>
    have := (h.2 x).2 g e (.lit (.bool c))
    rw [hat] at this
    injection this with this
    injection this with this
    rw [this]

theorem sameKey_int (x y : Int) : (Lit.int .i64 x).sameKey (.int .i64 y) = decide (x = y) := by
  by_cases e : x = y
  · subst e; simp [Lit.sameKey]
  · rw [sameKey_ne (by intro k; injection k with _ k; exact e k)]; simp [e]

/-- What a bit is while entries 'left' are still to come. -/
def mix (f : Int → Option Bool) (left : Lit → Bool) (x : Int) (old : Bool) : Bool :=
  match f x with
  | some g => if left (.int .i64 x) then old else !g
  | none => old

theorem mix_start {f : Int → Option Bool} {left : Lit → Bool} (h : ∀ x, left (.int .i64 x) = (f x).isSome) (x : Int) (old : Bool) : mix f left x old = old := by
  unfold mix
  cases e : f x with
  | none => rfl
  | some g => simp [h, e]

theorem mix_end {f : Int → Option Bool} {left : Lit → Bool} (h : ∀ kl, left kl = false) (x : Int) (old : Bool) : mix f left x old = match f x with | some g => !g | none => old := by
  unfold mix
  cases e : f x with
  | none => rfl
  | some g => simp [h]

theorem mix_hit {f : Int → Option Bool} {left : Lit → Bool} {x : Int} {g : Bool} (h : f x = some g) (old : Bool) : mix f (fun z => left z && !z.sameKey (.int .i64 x)) x old = !g := by
  unfold mix
  simp [h, sameKey_int]

theorem mix_miss {f : Int → Option Bool} {left : Lit → Bool} {x y : Int} (h : y ≠ x) (old : Bool) : mix f (fun z => left z && !z.sameKey (.int .i64 x)) y old = mix f left y old := by
  unfold mix
  cases e : f y with
  | none => rfl
  | some g => simp [sameKey_int, h]

/-- The tree whose bits on the road are set. -/
def touchR (a b c : Bool) (n k : Int) : Bool × Bool × Bool :=
  (match road n k 0 with | some g => !g | none => a, match road n k 1 with | some g => !g | none => b, match road n k 2 with | some g => !g | none => c)

theorem touchR_eq {a b c : Bool} {n k : Int} (h : treeE a b c n = 0) (h0 : 0 ≤ k) (h1 : k < n) : touchR a b c n k = touchT a b c n k := by
  obtain ⟨hn1, hn4⟩ := treeE_range h
  have hn : n = 1 ∨ n = 2 ∨ n = 3 ∨ n = 4 := by omega
  have hk : k = 0 ∨ k = 1 ∨ k = 2 ∨ k = 3 := by omega
  rcases hn with rfl | rfl | rfl | rfl <;> rcases hk with rfl | rfl | rfl | rfl <;> first | omega | (revert h; cases a <;> cases b <;> cases c <;> decide)

end Go.Proofs.YtgdacpcifnpojaaGreat

/- RefPlru4: Proved: what the reference's VictimOf returns, for a tree that is right. Condition: the tree is right. -/
namespace Go.Proofs.YtgdacpcifnpojaaGreat
open Go.ChangeShapes Go.WideShapes Go.ChangeAt Go.RowKit Go.Joins Go.Maps

/-- Does a bit lead to the way, while entries 'left' are still to come? -/
def okx (f : Int → Option Bool) (left : Lit → Bool) (x : Int) (bit : Bool) : Bool :=
  match f x with
  | some g => left (.int .i64 x) || (bit == g)
  | none => true

def okAll (f : Int → Option Bool) (left : Lit → Bool) (a b c : Bool) : Bool := okx f left 0 a && okx f left 1 b && okx f left 2 c

/-- Do all bits lead to way k? -/
def matchB (a b c : Bool) (n k : Int) : Bool := okAll (road n k) (fun _ => false) a b c

theorem okx_hit {f : Int → Option Bool} {left : Lit → Bool} {x : Int} {g : Bool} (h : f x = some g) (bit : Bool) : okx f (fun z => left z && !z.sameKey (.int .i64 x)) x bit = (bit == g) := by
  unfold okx
  simp [h, sameKey_int]

theorem okx_miss {f : Int → Option Bool} {left : Lit → Bool} {x y : Int} (h : y ≠ x) (bit : Bool) : okx f (fun z => left z && !z.sameKey (.int .i64 x)) y bit = okx f left y bit := by
  unfold okx
  cases e : f y with
  | none => rfl
  | some g => simp [sameKey_int, h]

theorem okx_left {f : Int → Option Bool} {left : Lit → Bool} {x : Int} (h : left (.int .i64 x) = true) (bit : Bool) : okx f left x bit = true := by
  unfold okx
  cases f x <;> simp [h]

theorem okAll_start {f : Int → Option Bool} {left : Lit → Bool} (h : ∀ x, left (.int .i64 x) = (f x).isSome) (a b c : Bool) : okAll f left a b c = true := by
  have k : ∀ x bit, okx f left x bit = true := by
    intro x bit
    unfold okx
    cases e : f x with
    | none => rfl
    | some g => simp [h, e]
  simp [okAll, k]

theorem okAll_end {f : Int → Option Bool} {left : Lit → Bool} (h : ∀ kl, left kl = false) (a b c : Bool) : okAll f left a b c = okAll f (fun _ => false) a b c := by
  have e : left = fun _ => false := funext h
  rw [e]

theorem okAll_step0 {f : Int → Option Bool} {left : Lit → Bool} {g : Bool} (h : f 0 = some g) (hl : left (.int .i64 0) = true) (a b c : Bool) : okAll f (fun z => left z && !z.sameKey (.int .i64 0)) a b c = (okAll f left a b c && (a == g)) := by
  unfold okAll
  rw [okx_hit h, okx_miss (by decide), okx_miss (by decide), okx_left hl]
  cases (a == g) <;> simp

theorem okAll_step1 {f : Int → Option Bool} {left : Lit → Bool} {g : Bool} (h : f 1 = some g) (hl : left (.int .i64 1) = true) (a b c : Bool) : okAll f (fun z => left z && !z.sameKey (.int .i64 1)) a b c = (okAll f left a b c && (b == g)) := by
  unfold okAll
  rw [okx_hit h, okx_miss (by decide), okx_miss (by decide), okx_left hl]
  cases (b == g) <;> simp

theorem okAll_step2 {f : Int → Option Bool} {left : Lit → Bool} {g : Bool} (h : f 2 = some g) (hl : left (.int .i64 2) = true) (a b c : Bool) : okAll f (fun z => left z && !z.sameKey (.int .i64 2)) a b c = (okAll f left a b c && (c == g)) := by
  unfold okAll
  rw [okx_hit h, okx_miss (by decide), okx_miss (by decide), okx_left hl]
  cases (c == g) <;> simp

theorem victim_least {a b c : Bool} {n : Int} (h : treeE a b c n = 0) : 0 ≤ victimN a b c n ∧ victimN a b c n < n ∧ matchB a b c n (victimN a b c n) = true ∧ ∀ k : Nat, (k : Int) < victimN a b c n → matchB a b c n k = false := by
  obtain ⟨hn1, hn4⟩ := treeE_range h
  have hn : n = 1 ∨ n = 2 ∨ n = 3 ∨ n = 4 := by omega
  have hv : victimN a b c n = 0 ∨ victimN a b c n = 1 ∨ victimN a b c n = 2 ∨ victimN a b c n = 3 := by
    unfold victimN
    cases a <;> cases b <;> cases c <;> (by_cases e : n ≤ 2) <;> simp [e]
  refine ⟨?_, ?_, ?_, ?_⟩
  · omega
  · rcases hn with rfl | rfl | rfl | rfl <;> (revert h; cases a <;> cases b <;> cases c <;> decide)
  · rcases hn with rfl | rfl | rfl | rfl <;> (revert h; cases a <;> cases b <;> cases c <;> decide)
  · intro k hk
    have hk' : k = 0 ∨ k = 1 ∨ k = 2 := by omega
    rcases hk' with rfl | rfl | rfl <;> rcases hn with rfl | rfl | rfl | rfl <;> (revert h hk; cases a <;> cases b <;> cases c <;> decide)

end Go.Proofs.YtgdacpcifnpojaaGreat

/- RefRow: Proved: what the reference's functions on sets return, for every set that can be read; none of them changes anything that was there. Condition: RowPut and RowWith are asked of a set that is right. -/
namespace Go.Proofs.YtgdacpcifnpojaaGreat
open Go.ChangeShapes Go.WideShapes Go.ChangeAt Go.RowKit Go.Joins

/-- '==' on the data of a way, on trees. -/
def eqDat (x y : Wy) : Bool := x.a == y.a && (x.b == y.b && (x.c == y.c && x.d == y.d))
theorem eqData (a b c d a' b' c' d' : Int) (w : World) : (Op.equalIn 10000 27 (.agg #[.int .u64 a, .int .u64 b, .int .u64 c, .int .u64 d]) (.agg #[.int .u64 a', .int .u64 b', .int .u64 c', .int .u64 d'])).run Tryz.prog w = .ok (a == a' && (b == b' && (c == c' && d == d'))) w := by
  have := equal_flat (P := Tryz.prog) 2 27 [.int .u64, .int .u64, .int .u64, .int .u64] (by kernel_rfl) (by kernel_rfl) 10000 (by omega) w [.int .u64 a, .int .u64 b, .int .u64 c, .int .u64 d] [.int .u64 a', .int .u64 b', .int .u64 c', .int .u64 d'] (.agg #[.int .u64 a, .int .u64 b, .int .u64 c, .int .u64 d]) (.agg #[.int .u64 a', .int .u64 b', .int .u64 c', .int .u64 d'])
    ⟨⟨a, rfl⟩, ⟨b, rfl⟩, ⟨c, rfl⟩, ⟨d, rfl⟩, trivial⟩ ⟨⟨a', rfl⟩, ⟨b', rfl⟩, ⟨c', rfl⟩, ⟨d', rfl⟩, trivial⟩ (by simp [ValIs, Tryz.underlying27]) (by simp [ValIs, Tryz.underlying27])
  simpa [eqCells, scEq] using this

theorem eqTree (a b c a' b' c' : Bool) (w : World) : (Op.equalIn 10000 75 (tree a b c) (tree a' b' c')).run Tryz.prog w = .ok (a == a' && (b == b' && c == c')) w := by
  have := equal_flat (P := Tryz.prog) 2 75 [.bool, .bool, .bool] (by kernel_rfl) (by kernel_rfl) 10000 (by omega) w [.bool a, .bool b, .bool c] [.bool a', .bool b', .bool c'] (tree a b c) (tree a' b' c')
    ⟨⟨a, rfl⟩, ⟨b, rfl⟩, ⟨c, rfl⟩, trivial⟩ ⟨⟨a', rfl⟩, ⟨b', rfl⟩, ⟨c', rfl⟩, trivial⟩ (by simp [ValIs, Tryz.underlying75]) (by simp [ValIs, Tryz.underlying75])
  simpa [eqCells, scEq] using this


/-- The reference's error of a way by itself. -/
def wayF (x : Wy) : Int := if stB x.st = true ∧ lnB x.ln = true then 0 else 4


/-- The error of a way, as the reference finds it. -/
theorem wayE_ref (x : Wy) : wayE x = if wayF x ≠ 0 then 4 else if (x.st == 0 && (x.ln != 0 || !(x.a == 0 && (x.b == 0 && (x.c == 0 && x.d == 0))))) = true then 3 else 0 := by
  unfold wayE wayF
  by_cases h : stB x.st = true ∧ lnB x.ln = true
  · have hF : ¬ ((0 : Int) ≠ 0) := by simp
    rw [if_pos h, if_pos h, if_neg hF]
    obtain ⟨s, n, a, b, c, d⟩ := x
    simp only [wy0, ne_eq, Wy.mk.injEq]
    by_cases hs : s = 0
    · subst hs
      by_cases hn : n = 0 <;> by_cases ha : a = 0 <;> by_cases hb : b = 0 <;> by_cases hc : c = 0 <;> by_cases hd : d = 0 <;> simp [hn, ha, hb, hc, hd]
    · simp [hs]
  · rw [if_neg h, if_neg h, if_pos (by decide)]



theorem idxP_hit {p : Wy → Bool} {l : List Wy} {k j : Nat} {y : Wy} (hj : j < k) (hy : l[j]? = some y) (hp : p y = true) : 0 ≤ idxP p (l.take k) := by
  rcases idxP_cases p (l.take k) with ⟨_, h⟩ | ⟨m, x, e, _⟩
  · have : y ∈ l.take k := by
      refine List.mem_of_getElem? (i := j) ?_
      rw [List.getElem?_take, if_pos hj]
      exact hy
    rw [h y this] at hp
    cases hp
  · rw [e]
    exact Int.natCast_nonneg m

theorem idxP_miss {p : Wy → Bool} {l : List Wy} {k : Nat} (h : ∀ j y, j < k → l[j]? = some y → p y = false) : idxP p (l.take k) = -1 := by
  refine idxP_none fun j y hy => ?_
  rw [List.getElem?_take] at hy
  split at hy
  · exact h j y (by assumption) hy
  · cases hy

/-- Is an empty way not all zeros? -/
def dirtB (x : Wy) : Bool := x.st == 0 && (x.ln != 0 || !(x.a == 0 && (x.b == 0 && (x.c == 0 && x.d == 0))))

theorem waysE_ref {l : List Wy} {k : Nat} {x : Wy} (h : l[k]? = some x) : waysE (l.take k) (l.drop k) =
    if wayF x ≠ 0 then 4 else if dirtB x = true then 3 else if (x.st != 0 && decide (0 ≤ idxP (hasW x.ln) (l.take k))) = true then 6 else waysE (l.take (k + 1)) (l.drop (k + 1)) := by
  rw [waysE_at h, wayE_ref]
  show _ = if wayF x ≠ 0 then 4 else if (x.st == 0 && (x.ln != 0 || !(x.a == 0 && (x.b == 0 && (x.c == 0 && x.d == 0))))) = true then 3 else _
  by_cases h1 : wayF x ≠ 0
  · simp [h1]
  · by_cases h2 : (x.st == 0 && (x.ln != 0 || !(x.a == 0 && (x.b == 0 && (x.c == 0 && x.d == 0))))) = true
    · rw [if_neg h1, if_pos h2, if_pos (by decide), if_neg h1, if_pos h2]
    · rw [if_neg h1, if_neg h2, if_neg (by simp), if_neg h1, if_neg h2]

theorem hasW_of {m : Int} {q : Wy} {z : Bool} (h1 : (q.st != 0) = true) (h2 : (m == q.ln) = z) : hasW m q = z := by
  have e : (q.ln == m) = (m == q.ln) := by
    by_cases k : q.ln = m
    · rw [k]
    · rw [beq_eq_false_iff_ne.2 k, beq_eq_false_iff_ne.2 (Ne.symm k)]
  unfold hasW
  rw [h1, e, h2]
  rfl

theorem there_no {s : Bool} {m : Int} {l : List Wy} {k : Nat} (h : ∀ i y, i < k → l[i]? = some y → (s && hasW m y) = false) : ¬ (s && decide (0 ≤ idxP (hasW m) (l.take k))) = true := by
  cases s
  · simp
  · rw [idxP_miss (fun j y hj hy => by simpa using h j y hj hy)]
    decide

end Go.Proofs.YtgdacpcifnpojaaGreat

/- RefRow2: Proved: what the reference's SameRow and RowWith return, for every set that can be read; they change nothing that was there. Condition: RowWith is asked of a set of at most four ways. -/
namespace Go.Proofs.YtgdacpcifnpojaaGreat
open Go.ChangeShapes Go.WideShapes Go.ChangeAt Go.RowKit Go.Joins

/-- Are the sets the same? -/
def sameB (l : List Wy) (a b c : Bool) (l' : List Wy) (a' b' c' : Bool) : Bool := (a == a' && (b == b' && c == c')) && decide (l = l')

theorem sameB_refl (l : List Wy) (a b c : Bool) : sameB l a b c l a b c = true := by simp [sameB]

theorem ways_eq {l l' : List Wy} (hl : l.length = l'.length) (h : ∀ j x y, j < l.length → l[j]? = some x → l'[j]? = some y → x = y) : l = l' := by
  refine List.ext_getElem hl fun j h1 h2 => ?_
  exact h j _ _ h1 (List.getElem?_eq_getElem h1) (List.getElem?_eq_getElem h2)

set_option maxHeartbeats 2000000 in
theorem sameRow_any (v : Value) (l : List Wy) (a b c : Bool) (v' : Value) (l' : List Wy) (a' b' c' : Bool) (w : World) (h : Ws w v l) (h' : Ws w v' l') :
    Calls Tryz.prog 89 #[rowV v a b c, rowV v' a' b' c'] w fun e w' => e = .returned (.bool (sameB l a b c l' a' b' c')) ∧ Below w.heap.size w w' := by
  obtain ⟨hl, A, cp, rfl, h1, h2, h3⟩ := h
  obtain ⟨hl', A', cp', rfl, h1', h2', h3'⟩ := h'
  have H3 := Lib.hid h3
  have H3' := Lib.hid h3'
  unfold maxLen at h2 h2'
  clear hl h3 hl' h3'
  generalize hE : sameB l a b c l' a' b' c' = E
  unfold sameB at hE
  have eqt := fun w => eqTree a b c a' b' c' w
  simp only [tree] at eqt
  generalize (a == a' && (b == b' && c == c')) = T at eqt hE
  have HE := Lib.hid hE
  clear hE
  have low := Below.refl w.heap.size w
  have rb := boxNext low 77 (rowA (.slice A l.length cp) a b c)
  replace low := gAlloc low (.cells (rowA (.slice A l.length cp) a b c) 77)
  try simp only [World.size_alloc] at rb
  simp only [rowA] at rb
  have sb := boxNext low 77 (rowA (.slice A' l'.length cp') a' b' c')
  replace low := gAlloc low (.cells (rowA (.slice A' l'.length cp') a' b' c') 77)
  replace rb := rb.alloc (.cells (rowA (.slice A' l'.length cp') a' b' c') 77)
  try simp only [World.size_alloc] at sb
  simp only [rowA] at sb
  cases T
  · obtain rfl : false = E := HE.out
    go_enter Tryz.func89, Tryz.ntmps89
    go_wp2_with fail
    go_ret
    exact ⟨rfl, low⟩
  cases hn : ((l.length : Int) != (l'.length : Int))
  rotate_left
  · obtain rfl : false = E := by
      have := HE.out
      rw [← this]
      have hne : ¬ l = l' := fun e => by rw [e] at hn; simp at hn
      simp [hne]
    go_enter Tryz.func89, Tryz.ntmps89
    go_wp2_with fail
    go_ret
    exact ⟨rfl, low⟩
  have hll : l.length = l'.length := by
    have : ((l.length : Int) = (l'.length : Int)) := by simpa using hn
    omega
  have HL := Lib.hid hll
  clear hll
  go_enter Tryz.func89, Tryz.ntmps89
  go_wp2_with fail
  go_loopw [23] (fun i wr => ∃ k : Nat, k ≤ l.length ∧ i = .int .i64 k ∧ Hid (∀ j x y, j < k → l[j]? = some x → l'[j]? = some y → x = y) ∧ Box wr w.heap.size 77 (rowA (.slice A l.length cp) a b c) ∧ Box wr (w.heap.size + 1) 77 (rowA (.slice A' l'.length cp') a' b' c') ∧ Below w.heap.size w wr) (fun i _ => l.length - (intOf i).toNat)
  case atStart => exact ⟨0, Nat.zero_le _, rfl, Lib.hid fun j x y hj => absurd hj (by omega), rb, sb, low⟩
  case round =>
    clear rb sb low
    obtain ⟨k, hk, rfl, hno, rb, sb, low⟩ := hrel
    simp only [rowA] at rb sb
    by_cases hlt : k < l.length
    · have hlt' : k < l'.length := by have := HL.out; omega
      obtain ⟨bb, o, rfl, hb, hc⟩ := H3.out (by omega)
      obtain ⟨bb', o', rfl, hb', hc'⟩ := H3'.out (by omega)
      have hx : l[k]? = some l[k] := List.getElem?_eq_getElem _
      have hy : l'[k]? = some l'[k] := List.getElem?_eq_getElem _
      generalize l[k] = x at hx
      generalize l'[k] = y at hy
      obtain ⟨c0, c1, c2, c3, c4, c5⟩ := wayAt_of hc hb low hx
      obtain ⟨d0, d1, d2, d3, d4, d5⟩ := wayAt_of hc' hb' low hy
      obtain ⟨r0, _, _, _⟩ := rb.rowC
      obtain ⟨s0, _, _, _⟩ := sb.rowC
      have HX := Lib.hid (And.intro hx hy)
      clear hx hc hy hc'
      have eqw := fun w => eqWay x y w
      simp only [Wy.val] at eqw
      cases he : eqW x y
      · have HW := Lib.hid (show x ≠ y from fun e => by rw [(eqW_iff x y).2 e] at he; cases he)
        rw [he] at eqw
        obtain rfl : false = E := by
          have := HE.out
          rw [← this]
          have hne : ¬ l = l' := fun e => HW.out (by obtain ⟨p, q⟩ := HX.out; rw [e, q] at p; cases p; rfl)
          simp [hne]
        go_wp2_with fail
        go_quiet (fail)
        go_wp2_with fail
        go_ret
        exact ⟨rfl, gDrewN low _⟩
      · have HW := Lib.hid (show x = y from (eqW_iff x y).1 he)
        rw [he] at eqw
        have k0 : (0 : Int) ≤ k := by omega
        have k1 : (k : Int) < l.length := by omega
        have k2 : (k : Int) < l'.length := by omega
        go_wp2_with fail
        go_quiet (fail)
        go_wp2_with fail
        go_roundw
        case rel => exact ⟨k + 1, by omega, by go_num, Lib.hid (fun j p q hj hp hq => by
          by_cases e : j < k
          · exact hno.out j p q e hp hq
          · obtain rfl : j = k := by omega
            rw [HX.out.1] at hp
            rw [HX.out.2] at hq
            cases hp
            cases hq
            exact HW.out), rb.drewN _, sb.drewN _, gDrewN low _⟩
        case measure => simp [intOf]; omega
    · obtain rfl : true = E := by
        have := HE.out
        rw [← this]
        have : l = l' := ways_eq HL.out (fun j x y hj => hno.out j x y (by omega))
        simp [this]
      go_wp2_with fail
      go_ret
      exact ⟨rfl, low⟩

/-- The first ways of a set in which one is replaced. -/
theorem take_set_succ {l : List Wy} {j k : Nat} {x y : Wy} (hy : (l.set j x)[k]? = some y) : waysC ((l.set j x).take (k + 1)) = waysC ((l.set j x).take k) ++ y.cells := by
  obtain ⟨h, rfl⟩ := List.getElem?_eq_some_iff.1 hy
  rw [List.take_succ_eq_append_getElem h]
  simp only [waysC, List.flatMap_append, List.flatMap_cons, List.flatMap_nil, List.append_nil]

theorem set_at {l : List Wy} {j k : Nat} {x z : Wy} (hz : l[k]? = some z) : (l.set j x)[k]? = some (if k = j then x else z) := by
  have hk := set_lt hz
  by_cases e : k = j
  · subst e; rw [if_pos rfl, List.getElem?_set_self hk]
  · rw [if_neg e, List.getElem?_set_ne (fun h => e h.symm), hz]

end Go.Proofs.YtgdacpcifnpojaaGreat

/- RowSpec: Proved: what Find, Put, Take and Set of package row return, in one form for every case; what the law's own closure returns. Condition: the closure is asked of a set that is right. -/
namespace Go.Proofs.YtgdacpcifnpojaaGreat
open Go.ChangeShapes Go.WideShapes Go.ChangeAt Go.RowKit Go.Joins

/-- No bit is set. -/
abbrev t0 : Bool × Bool × Bool := (false, false, false)

/-- What Put, Take and Set give. -/
def PutIs (l : List Wy) (a b c : Bool) (n : Int) (x : Wy) (la : List Wy) (t : Bool × Bool × Bool) (y : Wy) (E : Int) : Prop :=
  E = putE l a b c n x ∧ ((E ≠ 0 ∧ la = [] ∧ t = t0 ∧ y = wy0) ∨ (E = 0 ∧ ∃ k : Nat, roomN l a b c n = k ∧ l[k]? = some y ∧ la = l.set k x ∧ t = touchT a b c n k))
def TakeIs (l : List Wy) (a b c : Bool) (n m : Int) (la : List Wy) (t : Bool × Bool × Bool) (y : Wy) (E : Int) : Prop :=
  E = takeE l a b c n m ∧ ((E ≠ 0 ∧ la = [] ∧ t = t0 ∧ y = wy0) ∨ (E = 0 ∧ ∃ k : Nat, idxP (hasW m) l = k ∧ l[k]? = some y ∧ la = l.set k wy0 ∧ t = (a, b, c)))
def SetIs (l : List Wy) (a b c : Bool) (n : Int) (x : Wy) (la : List Wy) (t : Bool × Bool × Bool) (E : Int) : Prop :=
  E = setE l a b c n x ∧ ((E ≠ 0 ∧ la = [] ∧ t = t0) ∨ (E = 0 ∧ ∃ k : Nat, idxP (hasW x.ln) l = k ∧ k < l.length ∧ la = l.set k x ∧ t = touchT a b c n k))
def FindIs (l : List Wy) (a b c : Bool) (n m f E : Int) : Prop :=
  E = rowE l a b c n ∧ ((E ≠ 0 ∧ f = 0) ∨ (E = 0 ∧ f = idxP (hasW m) l))

/-- The calls that give it. -/
def GivesRW (F : Nat) (args : Array Value) (w : World) (la : List Wy) (t : Bool × Bool × Bool) (y : Wy) (E : Int) : Prop :=
  Calls Tryz.prog F args w fun e w' => (∃ A cp, e = .returned (.tuple #[rowV (.slice A la.length cp) t.1 t.2.1 t.2.2, y.val, .int .i64 E]) ∧ Ws w' (.slice A la.length cp) la) ∧ Below w.heap.size w w'
def GivesR (F : Nat) (args : Array Value) (w : World) (la : List Wy) (t : Bool × Bool × Bool) (E : Int) : Prop :=
  Calls Tryz.prog F args w fun e w' => (∃ A cp, e = .returned (.tuple #[rowV (.slice A la.length cp) t.1 t.2.1 t.2.2, .int .i64 E]) ∧ Ws w' (.slice A la.length cp) la) ∧ Below w.heap.size w w'

theorem put_spec (v : Value) (l : List Wy) (a b c : Bool) (n : Int) (x : Wy) : ∃ la t y E, PutIs l a b c n x la t y E ∧ ∀ w, Ws w v l → GivesRW 161 #[rowV v a b c, .int .i64 n, x.val] w la t y E := by
  by_cases he : putE l a b c n x = 0
  · obtain ⟨k, y, hk, hy⟩ := room_in (putE_ok he).1
    refine ⟨l.set k x, touchT a b c n k, y, 0, ⟨he.symm, .inr ⟨rfl, k, hk, hy, rfl, rfl⟩⟩, fun w h => ?_⟩
    refine (rowPut_ok v l a b c n x k y w h he hk hy).mono ?_
    rintro e w' ⟨⟨v', rfl, fr⟩, hb⟩
    obtain ⟨A, cp, rfl⟩ := fr.shape
    exact ⟨⟨A, cp, rfl, fr.ws⟩, hb⟩
  · refine ⟨[], t0, wy0, _, ⟨rfl, .inl ⟨he, rfl, rfl, rfl⟩⟩, fun w h => ?_⟩
    refine (rowPut_bad v l a b c n x w h he).mono ?_
    rintro e w' ⟨rfl, hb⟩
    exact ⟨⟨none, 0, rfl, Ws.nil _⟩, hb⟩

theorem take_spec (v : Value) (l : List Wy) (a b c : Bool) (n m : Int) : ∃ la t y E, TakeIs l a b c n m la t y E ∧ ∀ w, Ws w v l → GivesRW 158 #[rowV v a b c, .int .i64 n, .int .i64 m] w la t y E := by
  by_cases he : takeE l a b c n m = 0
  · obtain ⟨h1, h2⟩ := takeE_ok he
    obtain ⟨k, y, hk, hy, _⟩ := idxP_there h2
    refine ⟨l.set k wy0, (a, b, c), y, 0, ⟨he.symm, .inr ⟨rfl, k, hk, hy, rfl, rfl⟩⟩, fun w h => ?_⟩
    refine (rowTake_ok v l a b c n m k y w h h1 hk hy).mono ?_
    rintro e w' ⟨⟨v', rfl, fr⟩, hb⟩
    obtain ⟨A, cp, rfl⟩ := fr.shape
    exact ⟨⟨A, cp, rfl, fr.ws⟩, hb⟩
  · refine ⟨[], t0, wy0, _, ⟨rfl, .inl ⟨he, rfl, rfl, rfl⟩⟩, fun w h => ?_⟩
    refine (rowTake_bad v l a b c n m w h he).mono ?_
    rintro e w' ⟨rfl, hb⟩
    exact ⟨⟨none, 0, rfl, Ws.nil _⟩, hb⟩

theorem set_spec (v : Value) (l : List Wy) (a b c : Bool) (n : Int) (x : Wy) : ∃ la t E, SetIs l a b c n x la t E ∧ ∀ w, Ws w v l → GivesR 162 #[rowV v a b c, .int .i64 n, x.val] w la t E := by
  by_cases he : setE l a b c n x = 0
  · obtain ⟨h1, h2, h3⟩ := setE_ok he
    obtain ⟨k, y, hk, hy, _⟩ := idxP_there h3
    refine ⟨l.set k x, touchT a b c n k, 0, ⟨he.symm, .inr ⟨rfl, k, hk, set_lt hy, rfl, rfl⟩⟩, fun w h => ?_⟩
    refine (rowSet_ok v l a b c n x k w h h1 h2 hk (set_lt hy)).mono ?_
    rintro e w' ⟨⟨v', rfl, fr⟩, hb⟩
    obtain ⟨A, cp, rfl⟩ := fr.shape
    exact ⟨⟨A, cp, rfl, fr.ws⟩, hb⟩
  · refine ⟨[], t0, _, ⟨rfl, .inl ⟨he, rfl, rfl⟩⟩, fun w h => ?_⟩
    refine (rowSet_bad v l a b c n x w h he).mono ?_
    rintro e w' ⟨rfl, hb⟩
    exact ⟨⟨none, 0, rfl, Ws.nil _⟩, hb⟩

theorem find_spec (v : Value) (l : List Wy) (a b c : Bool) (n m : Int) : ∃ f E, FindIs l a b c n m f E ∧ ∀ w, Ws w v l → Calls Tryz.prog 152 #[rowV v a b c, .int .i64 n, .int .i64 m] w fun e w' => e = .returned (.tuple #[.int .i64 f, .int .i64 E]) ∧ Below w.heap.size w w' := by
  by_cases he : rowE l a b c n = 0
  · exact ⟨_, _, ⟨he.symm, .inr ⟨rfl, rfl⟩⟩, fun w h => rowFind_ok v l a b c n m w h he⟩
  · exact ⟨_, _, ⟨rfl, .inl ⟨he, rfl⟩⟩, fun w h => rowFind_bad v l a b c n m w h he⟩

end Go.Proofs.YtgdacpcifnpojaaGreat

/- Mix: Proved: a region in which a call that makes memory and one or two new variables come up in any order: what is known behind them. No condition. -/
namespace Go.Proofs.YtgdacpcifnpojaaGreat
open Go.ChangeShapes Go.WideShapes Go.ChangeAt Go.RowKit Go.Joins

/-- What follows is shown once, for all orders. -/
theorem share {M Φ : Nat → Nat → Option Addr → Nat → World → Prop} {G : Prop} (tree : (∀ ga gb A c w, M ga gb A c w → Φ ga gb A c w) → G) (last : ∀ ga gb A c w, M ga gb A c w → Φ ga gb A c w) : G := tree last
theorem share1 {M Φ : Nat → Option Addr → Nat → World → Prop} {G : Prop} (tree : (∀ ga A c w, M ga A c w → Φ ga A c w) → G) (last : ∀ ga A c w, M ga A c w → Φ ga A c w) : G := tree last

/-- Between a region's first world and world 'w' these have come up: a new variable at 'pa', one at 'pb', a call that gave a new slice of ways. -/
structure Mid (w0 : World) (ta : TypeId) (ca : Array Value) (tb : TypeId) (cb : Array Value) (w : World) (pa pb : Option Nat) (r : Option (Value × List Wy)) : Prop where
  low : Below w0.heap.size w0 w
  fa : ∀ g, pa = some g → w0.heap.size ≤ g ∧ Box w g ta ca
  fb : ∀ g, pb = some g → w0.heap.size ≤ g ∧ Box w g tb cb
  ne : ∀ g g', pa = some g → pb = some g' → g ≠ g'
  fr : ∀ u l, r = some (u, l) → ∃ B C, w0.heap.size ≤ B ∧ C ≤ w.heap.size ∧ Fr w B C u l ∧ ∀ g, pa = some g ∨ pb = some g → g < B ∨ C ≤ g

section
variable {w0 w w' : World} {ta tb : TypeId} {ca cb : Array Value} {pa pb : Option Nat} {r : Option (Value × List Wy)} {u : Value} {l : List Wy}
theorem Mid.start (w : World) (ta : TypeId) (ca : Array Value) (tb : TypeId) (cb : Array Value) : Mid w ta ca tb cb w none none none :=
  ⟨Below.refl _ _, fun _ h => (by cases h), fun _ h => (by cases h), fun _ _ h => (by cases h), fun _ _ h => (by cases h)⟩

theorem Mid.allocA (h : Mid w0 ta ca tb cb w none pb r) : Mid w0 ta ca tb cb (w.alloc (.cells ca ta)) (some w.heap.size) pb r := by
  have hs := h.low.size
  refine ⟨gAlloc h.low _, fun g e => ?_, fun g e => ?_, fun g g' e e' => ?_, fun u l e => ?_⟩
  · cases e; exact ⟨hs, Box.new w ta ca⟩
  · obtain ⟨h1, h2⟩ := h.fb g e; exact ⟨h1, h2.alloc _⟩
  · cases e; have := (h.fb g' e').2.lt; omega
  · obtain ⟨B, C, h1, h2, h3, h4⟩ := h.fr u l e
    refine ⟨B, C, h1, by simp; omega, h3.alloc _, fun g hg => ?_⟩
    rcases hg with hg | hg
    · cases hg; exact .inr h2
    · exact h4 g (.inr hg)

theorem Mid.allocB (h : Mid w0 ta ca tb cb w pa none r) : Mid w0 ta ca tb cb (w.alloc (.cells cb tb)) pa (some w.heap.size) r := by
  have hs := h.low.size
  refine ⟨gAlloc h.low _, fun g e => ?_, fun g e => ?_, fun g g' e e' => ?_, fun u l e => ?_⟩
  · obtain ⟨h1, h2⟩ := h.fa g e; exact ⟨h1, h2.alloc _⟩
  · cases e; exact ⟨hs, Box.new w tb cb⟩
  · cases e'; have := (h.fa g e).2.lt; omega
  · obtain ⟨B, C, h1, h2, h3, h4⟩ := h.fr u l e
    refine ⟨B, C, h1, by simp; omega, h3.alloc _, fun g hg => ?_⟩
    rcases hg with hg | hg
    · exact h4 g (.inl hg)
    · cases hg; exact .inr h2

theorem Mid.call (h : Mid w0 ta ca tb cb w pa pb none) (hb : Below w.heap.size w w') (fr : Fr w' w.heap.size w'.heap.size u l) : Mid w0 ta ca tb cb w' pa pb (some (u, l)) := by
  have hs := h.low.size
  refine ⟨gCall h.low hb, fun g e => ?_, fun g e => ?_, h.ne, fun u' l' e => ?_⟩
  · obtain ⟨h1, h2⟩ := h.fa g e; exact ⟨h1, h2.call hb⟩
  · obtain ⟨h1, h2⟩ := h.fb g e; exact ⟨h1, h2.call hb⟩
  · cases e
    refine ⟨_, _, hs, Nat.le_refl _, fr, fun g hg => .inl ?_⟩
    rcases hg with hg | hg
    · exact (h.fa g hg).2.lt
    · exact (h.fb g hg).2.lt
end

/-- The calls of package row, with what is new. -/
def GivesF (F : Nat) (args : Array Value) (w : World) (la : List Wy) (t : Bool × Bool × Bool) (y : Wy) (E : Int) : Prop :=
  Calls Tryz.prog F args w fun e w' => (∃ A cp, e = .returned (.tuple #[rowV (.slice A la.length cp) t.1 t.2.1 t.2.2, y.val, .int .i64 E]) ∧ Fr w' w.heap.size w'.heap.size (.slice A la.length cp) la) ∧ Below w.heap.size w w'
def GivesF2 (F : Nat) (args : Array Value) (w : World) (la : List Wy) (t : Bool × Bool × Bool) (E : Int) : Prop :=
  Calls Tryz.prog F args w fun e w' => (∃ A cp, e = .returned (.tuple #[rowV (.slice A la.length cp) t.1 t.2.1 t.2.2, .int .i64 E]) ∧ Fr w' w.heap.size w'.heap.size (.slice A la.length cp) la) ∧ Below w.heap.size w w'

theorem put_fr (v : Value) (l : List Wy) (a b c : Bool) (n : Int) (x : Wy) : ∃ la t y E, PutIs l a b c n x la t y E ∧ ∀ w, Ws w v l → GivesF 161 #[rowV v a b c, .int .i64 n, x.val] w la t y E := by
  by_cases he : putE l a b c n x = 0
  · obtain ⟨k, y, hk, hy⟩ := room_in (putE_ok he).1
    refine ⟨l.set k x, touchT a b c n k, y, 0, ⟨he.symm, .inr ⟨rfl, k, hk, hy, rfl, rfl⟩⟩, fun w h => ?_⟩
    refine (rowPut_ok v l a b c n x k y w h he hk hy).mono ?_
    rintro e w' ⟨⟨v', rfl, fr⟩, hb⟩
    obtain ⟨A, cp, rfl⟩ := fr.shape
    exact ⟨⟨A, cp, rfl, fr⟩, hb⟩
  · refine ⟨[], t0, wy0, _, ⟨rfl, .inl ⟨he, rfl, rfl, rfl⟩⟩, fun w h => ?_⟩
    refine (rowPut_bad v l a b c n x w h he).mono ?_
    rintro e w' ⟨rfl, hb⟩
    exact ⟨⟨none, 0, rfl, Fr.nil _ _ _⟩, hb⟩

theorem take_fr (v : Value) (l : List Wy) (a b c : Bool) (n m : Int) : ∃ la t y E, TakeIs l a b c n m la t y E ∧ ∀ w, Ws w v l → GivesF 158 #[rowV v a b c, .int .i64 n, .int .i64 m] w la t y E := by
  by_cases he : takeE l a b c n m = 0
  · obtain ⟨h1, h2⟩ := takeE_ok he
    obtain ⟨k, y, hk, hy, _⟩ := idxP_there h2
    refine ⟨l.set k wy0, (a, b, c), y, 0, ⟨he.symm, .inr ⟨rfl, k, hk, hy, rfl, rfl⟩⟩, fun w h => ?_⟩
    refine (rowTake_ok v l a b c n m k y w h h1 hk hy).mono ?_
    rintro e w' ⟨⟨v', rfl, fr⟩, hb⟩
    obtain ⟨A, cp, rfl⟩ := fr.shape
    exact ⟨⟨A, cp, rfl, fr⟩, hb⟩
  · refine ⟨[], t0, wy0, _, ⟨rfl, .inl ⟨he, rfl, rfl, rfl⟩⟩, fun w h => ?_⟩
    refine (rowTake_bad v l a b c n m w h he).mono ?_
    rintro e w' ⟨rfl, hb⟩
    exact ⟨⟨none, 0, rfl, Fr.nil _ _ _⟩, hb⟩

theorem set_fr (v : Value) (l : List Wy) (a b c : Bool) (n : Int) (x : Wy) : ∃ la t E, SetIs l a b c n x la t E ∧ ∀ w, Ws w v l → GivesF2 162 #[rowV v a b c, .int .i64 n, x.val] w la t E := by
  by_cases he : setE l a b c n x = 0
  · obtain ⟨h1, h2, h3⟩ := setE_ok he
    obtain ⟨k, y, hk, hy, _⟩ := idxP_there h3
    refine ⟨l.set k x, touchT a b c n k, 0, ⟨he.symm, .inr ⟨rfl, k, hk, set_lt hy, rfl, rfl⟩⟩, fun w h => ?_⟩
    refine (rowSet_ok v l a b c n x k w h h1 h2 hk (set_lt hy)).mono ?_
    rintro e w' ⟨⟨v', rfl, fr⟩, hb⟩
    obtain ⟨A, cp, rfl⟩ := fr.shape
    exact ⟨⟨A, cp, rfl, fr⟩, hb⟩
  · refine ⟨[], t0, _, ⟨rfl, .inl ⟨he, rfl, rfl⟩⟩, fun w h => ?_⟩
    refine (rowSet_bad v l a b c n x w h he).mono ?_
    rintro e w' ⟨rfl, hb⟩
    exact ⟨⟨none, 0, rfl, Fr.nil _ _ _⟩, hb⟩
end Go.Proofs.YtgdacpcifnpojaaGreat
