/-
Proved: what collect of package agree returns, for every world that can be read; it changes nothing that was there. No condition.
-/
import Derived.Test.YtmodajmjmdigfaaAgree
namespace Go.Proofs.Ytmodajmjmdigfaa
open Go.ChangeShapes Go.WideShapes Go.ChangeAt Go.RowKit Go.Joins

abbrev cp0 : Value := .agg #[.int .i64 0, .int .i64 0, .int .i64 0, .int .u64 0, .int .u64 0, .int .u64 0, .int .u64 0]
theorem info_copy : (Try.prog.info? 118).map (fun i => (i.zero, i.size, i.bytes)) = some (some cp0, 7, 56) := by kernel_rfl
theorem us_one {w : World} {base : Nat} {us : List Value} {P : List Cp} (h : Held w base us P) : us.toArray.all (·.oneCell') = true := all_oneCell_toArray fun v hv => by
  obtain ⟨k, hk, e⟩ := List.getElem_of_mem hv
  obtain ⟨A, c, rfl⟩ := own_shape (h.own k v (by rw [List.getElem?_eq_getElem hk, e])).1
  rfl
theorem nil16_one : nil16.all (·.oneCell') = true := by kernel_rfl
theorem cells_one (c : Cp) : ∀ u ∈ c.cells, u.oneCell' = true := by
  intro u hu
  simp [Cp.cells] at hu
  rcases hu with rfl | rfl | rfl | rfl | rfl | rfl | rfl <;> rfl
theorem cells_new (w : World) (t : TypeId) (x : Cp) (g q : Nat) (u : Value) (hg : g = w.heap.size) (h : x.cells[q]? = some u) : (w.alloc (.cells x.box t)).cell? ((⟨g, 0, none⟩ : Addr).add q) = some u := by
  subst hg
  have e : (⟨w.heap.size, 0, none⟩ : Addr).add q = ⟨w.heap.size, q, none⟩ := by cases q <;> simp [Addr.add]
  rw [e, (Box.new w t x.box).cell, ← h]
  simp [Cp.cells]
theorem cachesE_all {n s y b : Int} {css : List (List St)} (h : cachesE n s y b css = 0) : ∀ ss ∈ css, cacheE n s y b ss = 0 := by
  induction css with
  | nil => simp
  | cons t r ih =>
    rw [cachesE] at h
    by_cases h1 : cacheE n s y b t ≠ 0
    · rw [if_pos h1] at h; exact absurd h h1
    · rw [if_neg h1] at h
      intro ss hs
      rcases List.mem_cons.1 hs with rfl | hs
      · simpa using h1
      · exact ih h ss hs
theorem formE_ok {n s y b : Int} {css : List (List St)} (h : formE n s y b css = 0) : cfgB n s y b = true ∧ (css.length : Int) = n ∧ ∀ ss ∈ css, cacheE n s y b ss = 0 := by
  unfold formE at h
  by_cases h1 : cfgB n s y b = false
  · rw [if_pos h1] at h; omega
  · rw [if_neg h1] at h
    by_cases h2 : (css.length : Int) ≠ n
    · rw [if_pos h2] at h; omega
    · rw [if_neg h2] at h
      exact ⟨by simpa using h1, by omega, cachesE_all h⟩


set_option maxHeartbeats 1000000 in
theorem collect_bad (n s y b : Int) (v : Value) (m : List Int) (css : List (List St)) (w : World) (h : Ks w v css) (hm : m.length = 64) (he : formE n s y b css ≠ 0) :
    Calls Try.prog 90 #[cfg n s y b, wldV v m] w fun e w' => e = .returned (.tuple #[.agg nil16, .int .i64 (formE n s y b css)]) ∧ Below w.heap.size w w' := by
  have F := Lib.hid fun w hw => form_any n s y b v m css w hw
  generalize formE n s y b css = E at F he ⊢
  have he' : (E != 0) = true := by simpa using he
  clear he
  have low := Below.refl w.heap.size w
  have cb := boxNext low 44 (cfgA n s y b)
  replace low := gAlloc low (.cells (cfgA n s y b) 44)
  replace h := h.alloc (.cells (cfgA n s y b) 44)
  try simp only [World.size_alloc] at cb
  have wb := boxNext low 79 (wldA v m)
  replace low := gAlloc low (.cells (wldA v m) 79)
  replace cb := cb.alloc (.cells (wldA v m) 79)
  replace h := h.alloc (.cells (wldA v m) 79)
  try simp only [World.size_alloc] at wb
  have ob := boxNext low 112 nil16
  replace low := gAlloc low (.cells nil16 112)
  replace cb := cb.alloc (.cells nil16 112)
  replace wb := wb.alloc (.cells nil16 112)
  replace h := h.alloc (.cells nil16 112)
  try simp only [World.size_alloc] at ob
  have wr := wb.range
  go_enter Try.func90, Try.ntmps90
  go_wp2_with (first | (with_reducible refine wp_newW (tyCopies) ?_) | ((with_reducible refine wp_loadW (tyWorld) (wr) (wld_size hm) ?_ ?_ ?_); rfl; rfl))
  (with_reducible refine (F.out _ h).mono ?_); rintro e w1 ⟨rfl, hb⟩
  replace ob := ob.call hb
  replace low := gCall low hb
  clear hb cb wb wr
  go_wp2_with (first | (with_reducible refine wp_zeroW (tyCopies) ?_) | ((with_reducible refine wp_storeW (tyCopies) (ob) (rfl) (rfl) (nil16_one) ?_ ?_ ?_); rfl; rfl))
  intro w2 ob2 st
  replace low := st.low low (by omega)
  clear ob st
  go_wp2_with fail
  refine bodyPost_ret (v := .tuple #[.agg nil16, .int .i64 E]) (results_first tyCopies Try.results90 rfl rfl ob2 rfl) rfl ⟨rfl, low⟩

set_option maxRecDepth 10000 in
set_option maxHeartbeats 4000000 in
theorem collect_ok (n s y b : Int) (v : Value) (m : List Int) (css : List (List St)) (w : World) (h : Ks w v css) (hm : m.length = 64) (he : formE n s y b css = 0) :
    Calls Try.prog 90 #[cfg n s y b, wldV v m] w fun e w' => (∃ us, e = .returned (.tuple #[.agg us.toArray, .int .i64 0]) ∧ Held w' w.heap.size us (copN css css.length)) ∧ Below w.heap.size w w' := by
  have F := Lib.hid fun w hw => form_any n s y b v m css w hw
  rw [he] at F
  obtain ⟨hcf, hn, hall⟩ := formE_ok he
  have n8 : css.length ≤ 8 := by have := cfgB_iff.1 hcf; omega
  have ALL := Lib.hid hall
  have H := Lib.hid h
  obtain ⟨A, cp, rfl, h1, h2, h3⟩ := h
  have H3 := Lib.hid h3
  unfold maxLen at h2
  obtain ⟨i0, hi, hz0, hz1, hz2⟩ := info_parts info_copy
  have HI := Lib.hid hi
  have HZ := Lib.hid (And.intro hz0 (And.intro hz1 hz2))
  clear h3 hall he hcf hn hi hz0 hz1 hz2
  have low := Below.refl w.heap.size w
  have cb := boxNext low 44 (cfgA n s y b)
  replace low := gAlloc low (.cells (cfgA n s y b) 44)
  try simp only [World.size_alloc] at cb
  have wb := boxNext low 79 (wldA (.slice A css.length cp) m)
  replace low := gAlloc low (.cells (wldA (.slice A css.length cp) m) 79)
  replace cb := cb.alloc (.cells (wldA (.slice A css.length cp) m) 79)
  try simp only [World.size_alloc] at wb
  have ob := boxNext low 112 nil16
  replace low := gAlloc low (.cells nil16 112)
  replace cb := cb.alloc (.cells nil16 112)
  replace wb := wb.alloc (.cells nil16 112)
  try simp only [World.size_alloc] at ob
  have wr := wb.range
  go_enter Try.func90, Try.ntmps90
  go_wp2_with (first | (with_reducible refine wp_newW (tyCopies) ?_) | ((with_reducible refine wp_loadW (tyWorld) (wr) (wld_size hm) ?_ ?_ ?_); rfl; rfl))
  (with_reducible refine (F.out _ (H.out.call low)).mono ?_); rintro e w1 ⟨rfl, hb⟩
  replace cb := cb.call hb
  replace wb := wb.call hb
  replace ob := ob.call hb
  replace low := gCall low hb
  clear hb wr F
  have z1 : w.heap.size + 1 + 1 < w1.heap.size := ob.lt
  have hb := boxNext low 112 nil16
  replace low := gAlloc low (.cells nil16 112)
  replace cb := cb.alloc (.cells nil16 112)
  replace wb := wb.alloc (.cells nil16 112)
  replace ob := ob.alloc (.cells nil16 112)
  try simp only [World.size_alloc] at hb
  have wb0 := wb.at_ 0 (wldA_zero _ _)
  have hld := Held.start (w1.alloc (.cells nil16 112)) w.heap.size
  go_wp2_with (with_reducible refine wp_newW (tyCopies) ?_)
  go_loopw [24] (fun i wr => ∃ k : Nat, k ≤ css.length ∧ i = .int .i64 k ∧ Hid (∃ us, Box wr w1.heap.size 112 us.toArray ∧ Held wr w.heap.size us (copN css k) ∧ (copN css k).length ≤ k * 16) ∧ Box wr w.heap.size 44 (cfgA n s y b) ∧ Box wr (w.heap.size + 1 + 1) 112 nil16 ∧ Below w.heap.size w wr) (fun i _ => css.length - (intOf i).toNat)
  case atStart => exact ⟨0, Nat.zero_le _, rfl, Lib.hid ⟨_, hb, hld, Nat.zero_le _⟩, cb, ob, low⟩
  case round =>
    clear cb wb ob hb hld low wb0
    obtain ⟨k, hk, rfl, hus, cb, ob, low⟩ := hrel
    simp only [cfgA] at cb
    by_cases hlt : k < css.length
    · obtain ⟨us, hb, hld, plen⟩ := hus.out
      clear hus
      obtain ⟨bb, o, rfl, hbb, hc⟩ := H3.out (by omega)
      have hx : css[k]? = some css[k] := List.getElem?_eq_getElem _
      generalize css[k] = ss at hx
      obtain ⟨A', c', ce, cs⟩ := hc k ss hx
      replace ce := (low.cell (p := ⟨bb, o + k, none⟩) hbb).trans ce
      replace cs := cs.call low
      have he := ALL.out ss (List.mem_of_getElem? hx)
      have L16 := Lib.hid (allW_16 he)
      have LN := Lib.hid fun x hx => allW_line (x := x) he hx
      have CL := Lib.hid fun w hw => cacheLines_ok n s y b (.slice A' ss.length c') ss w hw he
      have CN := Lib.hid (copN_succ hx)
      have HLD := Lib.hid hld
      clear hx hc he hld
      have zr := low.size
      have cb_0 := cb.at_ 0 rfl
      have cb_1 := cb.at_ 1 rfl
      have cb_2 := cb.at_ 2 rfl
      have cb_3 := cb.at_ 3 rfl
      go_wp2_with fail
      (with_reducible refine (CL.out _ cs).mono ?_); rintro e w2 ⟨⟨A2, c2, rfl, fr⟩, hb2⟩
      clear cb_0 cb_1 cb_2 cb_3
      replace cb := cb.call hb2
      replace ob := ob.call hb2
      replace hb := hb.call hb2
      replace HLD := Lib.hid (HLD.out.call hb2)
      replace low := gCall low hb2
      clear hb2 ce cs CL
      generalize hW : allW ss = W at *
      have CC := Lib.hid (show cpsOf k ss = W.map (fun x => (⟨(k : Int), x⟩ : Cp)) by rw [cpsOf, hW])
      clear hW
      go_wp2_with fail
      go_loopw [41] (fun i wx => ∃ j : Nat, j ≤ W.length ∧ i = .int .i64 j ∧ Hid (∃ us, Box wx w1.heap.size 112 us.toArray ∧ Held wx w.heap.size us (copN css k ++ (W.take j).map (fun x => ⟨(k : Int), x⟩)) ∧ Fr wx w.heap.size wx.heap.size (.slice A2 W.length c2) W) ∧ Box wx w.heap.size 44 (cfgA n s y b) ∧ Box wx (w.heap.size + 1 + 1) 112 nil16 ∧ Below w.heap.size w wx) (fun i _ => W.length - (intOf i).toNat)
      case atStart => exact ⟨0, Nat.zero_le _, rfl, Lib.hid ⟨us, hb, by simpa using HLD.out, fr.more (by omega) (by omega)⟩, cb, ob, low⟩
      case round =>
        clear cb ob hb low HLD fr
        obtain ⟨j, hj, rfl, hus, cb, ob, low⟩ := hrel
        obtain ⟨us, hb, hld, fr⟩ := hus.out
        clear hus
        by_cases hlt2 : j < W.length
        · have hz : W[j]? = some W[j] := List.getElem?_eq_getElem _
          generalize W[j] = z at hz
          have ML := LN.out z (List.mem_of_getElem? hz)
          generalize hP : copN css k ++ (W.take j).map (fun x => (⟨(k : Int), x⟩ : Cp)) = P at hld
          have hzt : copN css k ++ (W.take (j + 1)).map (fun x => (⟨(k : Int), x⟩ : Cp)) = P ++ [⟨(k : Int), z⟩] := by
            obtain ⟨hj', rfl⟩ := List.getElem?_eq_some_iff.1 hz
            rw [← hP, List.take_succ_eq_append_getElem hj', List.map_append, List.append_assoc]
            rfl
          have hPl : P.length ≤ 128 := by
            have := L16.out
            rw [← hP, List.length_append, List.length_map, List.length_take]
            omega
          have PL0 := Lib.hid hPl
          clear hP hPl
          obtain ⟨hl, A3, cx, e3, g1, g2, g3⟩ := fr.ws
          cases e3
          obtain ⟨b3, o3, rfl, hb3, hc3⟩ := g3 (by omega)
          obtain ⟨x0, x1, x2, x3, x4, x5⟩ := wayAt_of hc3 hb3 (Below.refl _ _) hz
          obtain ⟨q, hq⟩ : ∃ q : Nat, z.ln = q := ⟨z.ln.toNat, by omega⟩
          obtain ⟨st, ln, wa, wb', wc, wd'⟩ := z
          simp only at hq x0 x1 x2 x3 x4 x5 ML
          subst hq
          have hq16 : q < us.length := by have := hld.len; omega
          have hu : us[q]? = some us[q] := List.getElem?_eq_getElem _
          generalize us[q] = u at hu
          have HZT := Lib.hid hzt
          have HU := Lib.hid hu
          have hcu : us.toArray[q]? = some u := by rw [List.getElem?_toArray]; exact hu
          unfold maxLen at g2
          have PL := Lib.hid (Nat.le_trans (onL_length q P) PL0.out)
          have q15 : (q : Int) < 16 := by omega
          have j0 : (0 : Int) ≤ j := by omega
          have j1 : (j : Int) < W.length := by omega
          have lz := low.size
          have hbl := hb.lt
          clear hl g3 hc3 hz hzt hu ML
          have HLD := Lib.hid (hld.alloc (.cells #[.int .i64 st, .int .i64 (q : Int), .int .u64 wa, .int .u64 wb', .int .u64 wc, .int .u64 wd'] 32))
          have FR := Lib.hid (fr.alloc (.cells #[.int .i64 st, .int .i64 (q : Int), .int .u64 wa, .int .u64 wb', .int .u64 wc, .int .u64 wd'] 32))
          clear hld fr
          have xb := boxNext low 32 #[.int .i64 st, .int .i64 (q : Int), .int .u64 wa, .int .u64 wb', .int .u64 wc, .int .u64 wd']
          replace low := gAlloc low (.cells #[.int .i64 st, .int .i64 (q : Int), .int .u64 wa, .int .u64 wb', .int .u64 wc, .int .u64 wd'] 32)
          replace cb := cb.alloc (.cells #[.int .i64 st, .int .i64 (q : Int), .int .u64 wa, .int .u64 wb', .int .u64 wc, .int .u64 wd'] 32)
          replace ob := ob.alloc (.cells #[.int .i64 st, .int .i64 (q : Int), .int .u64 wa, .int .u64 wb', .int .u64 wc, .int .u64 wd'] 32)
          replace hb := hb.alloc (.cells #[.int .i64 st, .int .i64 (q : Int), .int .u64 wa, .int .u64 wb', .int .u64 wc, .int .u64 wd'] 32)
          try simp only [World.size_alloc] at xb
          go_wp2_with fail
          clear x0 x1 x2 x3 x4 x5
          have hqc := hb.at_ q hcu
          generalize wr.alloc (.cells #[.int .i64 st, .int .i64 (q : Int), .int .u64 wa, .int .u64 wb', .int .u64 wc, .int .u64 wd'] 32) = wy at *
          generalize wr.heap.size = gx at *
          have x0 : wy.cell? ⟨gx, 0, none⟩ = some (.int .i64 st) := xb.at_ 0 rfl
          have x1 : wy.cell? ⟨gx, 1, none⟩ = some (.int .i64 (q : Int)) := xb.at_ 1 rfl
          have x2 : wy.cell? ⟨gx, 2, none⟩ = some (.int .u64 wa) := xb.at_ 2 rfl
          have x3 : wy.cell? ⟨gx, 3, none⟩ = some (.int .u64 wb') := xb.at_ 3 rfl
          have x4 : wy.cell? ⟨gx, 4, none⟩ = some (.int .u64 wc) := xb.at_ 4 rfl
          have x5 : wy.cell? ⟨gx, 5, none⟩ = some (.int .u64 wd') := xb.at_ 5 rfl
          refine wp_region_noPanic ?_
          refine wp_region_held_drew (S := fun w' => w'.cell? ⟨gx, 0, none⟩ = some (.int .i64 st) ∧ w'.cell? ⟨gx, 1, none⟩ = some (.int .i64 (q : Int)) ∧ w'.cell? ⟨gx, 2, none⟩ = some (.int .u64 wa) ∧ w'.cell? ⟨gx, 3, none⟩ = some (.int .u64 wb') ∧ w'.cell? ⟨gx, 4, none⟩ = some (.int .u64 wc) ∧ w'.cell? ⟨gx, 5, none⟩ = some (.int .u64 wd')) (by kernel_rfl) ⟨drewC x0, drewC x1, drewC x2, drewC x3, drewC x4, drewC x5⟩ (fun hHeld => ?_)
          clear x0 x1 x2 x3 x4 x5
          refine takeFirst (i := 0) (v := ?_) rfl (by kernel_rfl) (by kernel_rfl) (by kernel_rfl) (by rfl) (fun _ _ _ h => h) ?_ (by assumption) ?_
          rotate_left
          · (intro w hSw; go_simp; try (with_reducible rfl))
          try simp only [Act.put, List.setIfInBounds_toArray, List.set_cons_zero, List.set_cons_succ]
          refine takeFirst (i := 1) (v := ?_) rfl (by kernel_rfl) (by kernel_rfl) (by kernel_rfl) (by rfl) (fun _ _ _ h => h) ?_ (by assumption) ?_
          rotate_left
          · (intro w hSw; go_simp; try (with_reducible rfl))
          try simp only [Act.put, List.setIfInBounds_toArray, List.set_cons_zero, List.set_cons_succ]
          refine takeFirst (i := 2) (v := ?_) rfl (by kernel_rfl) (by kernel_rfl) (by kernel_rfl) (by rfl) (fun _ _ _ h => h) ?_ (by assumption) ?_
          rotate_left
          · (intro w hSw; go_simp; try (with_reducible rfl))
          try simp only [Act.put, List.setIfInBounds_toArray, List.set_cons_zero, List.set_cons_succ]
          refine takeFirst (i := 3) (v := ?_) rfl (by kernel_rfl) (by kernel_rfl) (by kernel_rfl) (by rfl) (fun _ _ _ h => h) ?_ (by assumption) ?_
          rotate_left
          · (intro w hSw; go_simp; try (with_reducible rfl))
          try simp only [Act.put, List.setIfInBounds_toArray, List.set_cons_zero, List.set_cons_succ]
          refine takeFirst (i := 4) (v := ?_) rfl (by kernel_rfl) (by kernel_rfl) (by kernel_rfl) (by rfl) (fun _ _ _ h => h) ?_ (by assumption) ?_
          rotate_left
          · (intro w hSw; go_simp; try (with_reducible rfl))
          try simp only [Act.put, List.setIfInBounds_toArray, List.set_cons_zero, List.set_cons_succ]
          refine takeFirst (i := 6) (v := ?_) rfl (by kernel_rfl) (by kernel_rfl) (by kernel_rfl) (by rfl) (fun _ _ _ h => h) ?_ (by assumption) ?_
          rotate_left
          · (intro w hSw; go_simp; try (with_reducible rfl))
          try simp only [Act.put, List.setIfInBounds_toArray, List.set_cons_zero, List.set_cons_succ]
          refine takeFirst (i := 7) (v := ?_) rfl (by kernel_rfl) (by kernel_rfl) (by kernel_rfl) (by rfl) (fun _ _ _ h => h) ?_ (by assumption) ?_
          rotate_left
          · (intro w hSw; go_simp; try (with_reducible rfl))
          try simp only [Act.put, List.setIfInBounds_toArray, List.set_cons_zero, List.set_cons_succ]
          refine takeFirst (i := 8) (v := ?_) rfl (by kernel_rfl) (by kernel_rfl) (by kernel_rfl) (by rfl) (fun _ _ _ h => h) ?_ (by assumption) ?_
          rotate_left
          · (intro w hSw; go_simp; try (with_reducible rfl))
          try simp only [Act.put, List.setIfInBounds_toArray, List.set_cons_zero, List.set_cons_succ]
          have hld := (HLD.out.alloc (.cells #[.int .i64 (k : Int), .int .i64 st, .int .i64 (q : Int), .int .u64 wa, .int .u64 wb', .int .u64 wc, .int .u64 wd'] 118)).drew
          have own := (hld.own q u HU.out).1
          have FR2 := Lib.hid ((FR.out.alloc (.cells #[.int .i64 (k : Int), .int .i64 st, .int .i64 (q : Int), .int .u64 wa, .int .u64 wb', .int .u64 wc, .int .u64 wd'] 118)).call (Below.refl _ _).drew)
          have hb2 := (hb.alloc (.cells #[.int .i64 (k : Int), .int .i64 st, .int .i64 (q : Int), .int .u64 wa, .int .u64 wb', .int .u64 wc, .int .u64 wd'] 118)).drew
          have cb2 := (cb.alloc (.cells #[.int .i64 (k : Int), .int .i64 st, .int .i64 (q : Int), .int .u64 wa, .int .u64 wb', .int .u64 wc, .int .u64 wd'] 118)).drew
          have ob2 := (ob.alloc (.cells #[.int .i64 (k : Int), .int .i64 st, .int .i64 (q : Int), .int .u64 wa, .int .u64 wb', .int .u64 wc, .int .u64 wd'] 118)).drew
          have xb2 := (xb.alloc (.cells #[.int .i64 (k : Int), .int .i64 st, .int .i64 (q : Int), .int .u64 wa, .int .u64 wb', .int .u64 wc, .int .u64 wd'] 118)).drew
          have low2 := (gAlloc low (.cells #[.int .i64 (k : Int), .int .i64 st, .int .i64 (q : Int), .int .u64 wa, .int .u64 wb', .int .u64 wc, .int .u64 wd'] 118)).drew
          have news := Lib.hid fun i u' h => cells_new wy 118 ⟨(k : Int), ⟨st, q, wa, wb', wc, wd'⟩⟩ wy.heap.size i u' rfl h
          have lo2 := low2.size
          have e2 : us.toArray.size = 16 := by rw [List.size_toArray]; exact hld.len
          clear HLD FR hb cb ob xb low
          refine stepTwo (i1 := 5) (i2 := 9) (by kernel_rfl) rfl rfl (by rfl) (by rfl) (fun K hK => ?_) (fun K hK => ?_)
          · go_simp
            refine hK.out _ _ hHeld ?_
            clear hK K
            try simp only [Act.put]
            try simp only [List.setIfInBounds_toArray, List.set_cons_zero, List.set_cons_succ]
            refine stepNext (i := 9) (by kernel_rfl) rfl (by rfl) (fun K hK => ?_)
            go_simp
            obtain ⟨hh0, hh1, hh2, hh3, hh4, hh5⟩ := hHeld
            have hHeld := (And.intro (drewC (allocC (.cells #[.int .i64 (k : Int), .int .i64 st, .int .i64 (q : Int), .int .u64 wa, .int .u64 wb', .int .u64 wc, .int .u64 wd'] 118) hh0)) (And.intro (drewC (allocC (.cells #[.int .i64 (k : Int), .int .i64 st, .int .i64 (q : Int), .int .u64 wa, .int .u64 wb', .int .u64 wc, .int .u64 wd'] 118) hh1)) (And.intro (drewC (allocC (.cells #[.int .i64 (k : Int), .int .i64 st, .int .i64 (q : Int), .int .u64 wa, .int .u64 wb', .int .u64 wc, .int .u64 wd'] 118) hh2)) (And.intro (drewC (allocC (.cells #[.int .i64 (k : Int), .int .i64 st, .int .i64 (q : Int), .int .u64 wa, .int .u64 wb', .int .u64 wc, .int .u64 wd'] 118) hh3)) (And.intro (drewC (allocC (.cells #[.int .i64 (k : Int), .int .i64 st, .int .i64 (q : Int), .int .u64 wa, .int .u64 wb', .int .u64 wc, .int .u64 wd'] 118) hh4)) (drewC (allocC (.cells #[.int .i64 (k : Int), .int .i64 st, .int .i64 (q : Int), .int .u64 wa, .int .u64 wb', .int .u64 wc, .int .u64 wd'] 118) hh5)))))))
            clear hh0 hh1 hh2 hh3 hh4 hh5
            refine hK.out _ _ hHeld ?_
            clear hK K
            try simp only [Act.put]
            try simp only [List.setIfInBounds_toArray, List.set_cons_zero, List.set_cons_succ]
            refine stepNext (i := 10) (by kernel_rfl) rfl (by rfl) (fun K hK => ?_)
            refine wp_append_own _ (.tmp 50) (.tmp 54) 110 rfl w.heap.size 118 i0 cp0 7 56 Try.underlying110 HI.out HZ.out.1 HZ.out.2.1 HZ.out.2.2 rfl (by decide) _ _ _ rfl own ⟨wy.heap.size, 0, none⟩ 1 1 (Cp.cells ⟨(k : Int), ⟨st, q, wa, wb', wc, wd'⟩⟩) rfl rfl news.out (cells_one _) ?f3 ?f4 ?f5 ?_
            case f3 => have := PL.out; unfold maxLen; omega
            case f4 => have := PL.out; omega
            case f5 => omega
            intro v4 w4 own4 grow4 _
            obtain ⟨A4, c4, rfl⟩ := own_shape own4
            have hb4 := hb2.grown grow4 (own_ne own hb2 (by decide))
            have cb4 := cb2.grown grow4 (own_ne own cb2 (by decide))
            have ob4 := ob2.grown grow4 (own_ne own ob2 (by decide))
            have fr4 := FR2.out.grown own (by decide) grow4
            have hld4 := hld.push HU.out (c := ⟨(k : Int), ⟨st, q, wa, wb', wc, wd'⟩⟩) rfl own4 grow4
            have low4 : Below w.heap.size w w4 := low2.grown grow4 (by omega) (fun g e => by have := own.lt _ e; omega)
            obtain ⟨hh0, hh1, hh2, hh3, hh4, hh5⟩ := hHeld
            have hHeld := (And.intro (grow4.cell hh0 (own_ne own xb2 (by decide))) (And.intro (grow4.cell hh1 (own_ne own xb2 (by decide))) (And.intro (grow4.cell hh2 (own_ne own xb2 (by decide))) (And.intro (grow4.cell hh3 (own_ne own xb2 (by decide))) (And.intro (grow4.cell hh4 (own_ne own xb2 (by decide))) (grow4.cell hh5 (own_ne own xb2 (by decide))))))))
            clear hh0 hh1 hh2 hh3 hh4 hh5
            refine hK.out _ _ hHeld ?_
            clear hK K
            try simp only [Act.put]
            try simp only [List.setIfInBounds_toArray, List.set_cons_zero, List.set_cons_succ]
            refine takeFirst (i := 11) (v := ?_) rfl (by kernel_rfl) (by kernel_rfl) (by kernel_rfl) (by rfl) (fun _ _ _ h => h) ?_ (by assumption) ?_
            rotate_left
            · (intro w hSw; go_simp; try (with_reducible rfl))
            try simp only [Act.put, List.setIfInBounds_toArray, List.set_cons_zero, List.set_cons_succ]
            refine stepNext (i := 12) (by kernel_rfl) rfl (by rfl) (fun K hK => ?_)
            have hq4 := hb4.at_ q hcu
            have hf4 := hb4.frozen q
            go_simp
            have st5 : Stored w4 w1.heap.size (w4.setCell ⟨w1.heap.size, q, none⟩ (.slice A4 ((onL q P).length + 1) c4)) := Stored.cell1 w4 ⟨w1.heap.size, q, none⟩ _
            have hb5 := hb4.set q (.slice A4 ((onL q P).length + 1) c4)
            rw [List.setIfInBounds_toArray] at hb5
            have cb5 := st5.box cb4 (by omega)
            have ob5 := st5.box ob4 (by omega)
            have HLD5 := Lib.hid (hld4.stored hb4 (by decide) st5)
            have FR5 := Lib.hid (fr4.stored hb4 (by decide) st5)
            have low5 := st5.low low4 (by omega)
            have sz5 := st5.size
            have zx := Nat.lt_of_lt_of_le xb2.lt grow4.size
            obtain ⟨hh0, hh1, hh2, hh3, hh4, hh5⟩ := hHeld
            have hHeld := (And.intro (st5.cell (by dsimp only; omega) hh0) (And.intro (st5.cell (by dsimp only; omega) hh1) (And.intro (st5.cell (by dsimp only; omega) hh2) (And.intro (st5.cell (by dsimp only; omega) hh3) (And.intro (st5.cell (by dsimp only; omega) hh4) (st5.cell (by dsimp only; omega) hh5))))))
            clear hh0 hh1 hh2 hh3 hh4 hh5
            clear st5 hld4 fr4 hb4 cb4 ob4 low4 hq4 hf4 grow4 own4 own hld hb2 cb2 ob2 xb2 low2 FR2
            generalize w4.setCell ⟨w1.heap.size, q, none⟩ (.slice A4 ((onL q P).length + 1) c4) = w5 at *
            refine hK.out _ _ hHeld ?_
            clear hK K
            try simp only [Act.put]
            try simp only [List.setIfInBounds_toArray, List.set_cons_zero, List.set_cons_succ]
            clear hHeld
            refine wpAnyH_done (by kernel_rfl) ?_ _
            refine NoPanic.normal ?_
            go_wp2_with fail
            go_roundw
            case rel => exact ⟨j + 1, by omega, by go_num, Lib.hid ⟨_, hb5, by rw [HZT.out]; exact HLD5.out, FR5.out.more (Nat.le_refl _) (by omega)⟩, cb5, ob5, low5⟩
            case measure => simp [intOf]; omega
          · go_simp
            obtain ⟨hh0, hh1, hh2, hh3, hh4, hh5⟩ := hHeld
            have hHeld := (And.intro (drewC (allocC (.cells #[.int .i64 (k : Int), .int .i64 st, .int .i64 (q : Int), .int .u64 wa, .int .u64 wb', .int .u64 wc, .int .u64 wd'] 118) hh0)) (And.intro (drewC (allocC (.cells #[.int .i64 (k : Int), .int .i64 st, .int .i64 (q : Int), .int .u64 wa, .int .u64 wb', .int .u64 wc, .int .u64 wd'] 118) hh1)) (And.intro (drewC (allocC (.cells #[.int .i64 (k : Int), .int .i64 st, .int .i64 (q : Int), .int .u64 wa, .int .u64 wb', .int .u64 wc, .int .u64 wd'] 118) hh2)) (And.intro (drewC (allocC (.cells #[.int .i64 (k : Int), .int .i64 st, .int .i64 (q : Int), .int .u64 wa, .int .u64 wb', .int .u64 wc, .int .u64 wd'] 118) hh3)) (And.intro (drewC (allocC (.cells #[.int .i64 (k : Int), .int .i64 st, .int .i64 (q : Int), .int .u64 wa, .int .u64 wb', .int .u64 wc, .int .u64 wd'] 118) hh4)) (drewC (allocC (.cells #[.int .i64 (k : Int), .int .i64 st, .int .i64 (q : Int), .int .u64 wa, .int .u64 wb', .int .u64 wc, .int .u64 wd'] 118) hh5)))))))
            clear hh0 hh1 hh2 hh3 hh4 hh5
            refine hK.out _ _ hHeld ?_
            clear hK K
            try simp only [Act.put]
            try simp only [List.setIfInBounds_toArray, List.set_cons_zero, List.set_cons_succ]
            have hqc2 := hb2.at_ q hcu
            refine stepNext (i := 5) (by kernel_rfl) rfl (by rfl) (fun K hK => ?_)
            go_simp
            refine hK.out _ _ hHeld ?_
            clear hK K
            try simp only [Act.put]
            try simp only [List.setIfInBounds_toArray, List.set_cons_zero, List.set_cons_succ]
            refine stepNext (i := 10) (by kernel_rfl) rfl (by rfl) (fun K hK => ?_)
            refine wp_append_own _ (.tmp 50) (.tmp 54) 110 rfl w.heap.size 118 i0 cp0 7 56 Try.underlying110 HI.out HZ.out.1 HZ.out.2.1 HZ.out.2.2 rfl (by decide) _ _ _ rfl own ⟨wy.heap.size, 0, none⟩ 1 1 (Cp.cells ⟨(k : Int), ⟨st, q, wa, wb', wc, wd'⟩⟩) rfl rfl news.out (cells_one _) ?f3 ?f4 ?f5 ?_
            case f3 => have := PL.out; unfold maxLen; omega
            case f4 => have := PL.out; omega
            case f5 => omega
            intro v4 w4 own4 grow4 _
            obtain ⟨A4, c4, rfl⟩ := own_shape own4
            have hb4 := hb2.grown grow4 (own_ne own hb2 (by decide))
            have cb4 := cb2.grown grow4 (own_ne own cb2 (by decide))
            have ob4 := ob2.grown grow4 (own_ne own ob2 (by decide))
            have fr4 := FR2.out.grown own (by decide) grow4
            have hld4 := hld.push HU.out (c := ⟨(k : Int), ⟨st, q, wa, wb', wc, wd'⟩⟩) rfl own4 grow4
            have low4 : Below w.heap.size w w4 := low2.grown grow4 (by omega) (fun g e => by have := own.lt _ e; omega)
            obtain ⟨hh0, hh1, hh2, hh3, hh4, hh5⟩ := hHeld
            have hHeld := (And.intro (grow4.cell hh0 (own_ne own xb2 (by decide))) (And.intro (grow4.cell hh1 (own_ne own xb2 (by decide))) (And.intro (grow4.cell hh2 (own_ne own xb2 (by decide))) (And.intro (grow4.cell hh3 (own_ne own xb2 (by decide))) (And.intro (grow4.cell hh4 (own_ne own xb2 (by decide))) (grow4.cell hh5 (own_ne own xb2 (by decide))))))))
            clear hh0 hh1 hh2 hh3 hh4 hh5
            refine hK.out _ _ hHeld ?_
            clear hK K
            try simp only [Act.put]
            try simp only [List.setIfInBounds_toArray, List.set_cons_zero, List.set_cons_succ]
            refine takeFirst (i := 11) (v := ?_) rfl (by kernel_rfl) (by kernel_rfl) (by kernel_rfl) (by rfl) (fun _ _ _ h => h) ?_ (by assumption) ?_
            rotate_left
            · (intro w hSw; go_simp; try (with_reducible rfl))
            try simp only [Act.put, List.setIfInBounds_toArray, List.set_cons_zero, List.set_cons_succ]
            refine stepNext (i := 12) (by kernel_rfl) rfl (by rfl) (fun K hK => ?_)
            have hq4 := hb4.at_ q hcu
            have hf4 := hb4.frozen q
            go_simp
            have st5 : Stored w4 w1.heap.size (w4.setCell ⟨w1.heap.size, q, none⟩ (.slice A4 ((onL q P).length + 1) c4)) := Stored.cell1 w4 ⟨w1.heap.size, q, none⟩ _
            have hb5 := hb4.set q (.slice A4 ((onL q P).length + 1) c4)
            rw [List.setIfInBounds_toArray] at hb5
            have cb5 := st5.box cb4 (by omega)
            have ob5 := st5.box ob4 (by omega)
            have HLD5 := Lib.hid (hld4.stored hb4 (by decide) st5)
            have FR5 := Lib.hid (fr4.stored hb4 (by decide) st5)
            have low5 := st5.low low4 (by omega)
            have sz5 := st5.size
            have zx := Nat.lt_of_lt_of_le xb2.lt grow4.size
            obtain ⟨hh0, hh1, hh2, hh3, hh4, hh5⟩ := hHeld
            have hHeld := (And.intro (st5.cell (by dsimp only; omega) hh0) (And.intro (st5.cell (by dsimp only; omega) hh1) (And.intro (st5.cell (by dsimp only; omega) hh2) (And.intro (st5.cell (by dsimp only; omega) hh3) (And.intro (st5.cell (by dsimp only; omega) hh4) (st5.cell (by dsimp only; omega) hh5))))))
            clear hh0 hh1 hh2 hh3 hh4 hh5
            clear st5 hld4 fr4 hb4 cb4 ob4 low4 hq4 hf4 grow4 own4 own hld hb2 cb2 ob2 xb2 low2 FR2
            generalize w4.setCell ⟨w1.heap.size, q, none⟩ (.slice A4 ((onL q P).length + 1) c4) = w5 at *
            refine hK.out _ _ hHeld ?_
            clear hK K
            try simp only [Act.put]
            try simp only [List.setIfInBounds_toArray, List.set_cons_zero, List.set_cons_succ]
            clear hHeld
            refine wpAnyH_done (by kernel_rfl) ?_ _
            refine NoPanic.normal ?_
            go_wp2_with fail
            go_roundw
            case rel => exact ⟨j + 1, by omega, by go_num, Lib.hid ⟨_, hb5, by rw [HZT.out]; exact HLD5.out, FR5.out.more (Nat.le_refl _) (by omega)⟩, cb5, ob5, low5⟩
            case measure => simp [intOf]; omega
        · obtain rfl : j = W.length := by omega
          rw [List.take_length, ← CC.out, ← CN.out] at hld
          have PLN := Lib.hid (show (copN css (k + 1)).length ≤ (k + 1) * 16 by
            have := L16.out
            rw [CN.out, CC.out, List.length_append, List.length_map]
            omega)
          have HLD := Lib.hid hld
          clear hld fr
          go_wp2_with fail
          go_roundw
          case rel => exact ⟨k + 1, by omega, by go_num, Lib.hid ⟨_, hb, HLD.out, PLN.out⟩, cb, ob, low⟩
          case measure => simp [intOf]; omega
    · obtain rfl : k = css.length := by omega
      obtain ⟨us, hb, hld, _⟩ := hus.out
      have u16 : us.toArray.size = nil16.size := by rw [List.size_toArray, hld.len, nil16_size]
      have one := us_one hld
      have HLD := Lib.hid hld
      have hbr := hb.range
      clear hus hld
      go_wp2_with (first | ((with_reducible refine wp_loadW (tyCopies) (hbr) (u16) ?_ ?_ ?_); rfl; rfl) | ((with_reducible refine wp_storeW (tyCopies) (ob) (rfl) (u16) (one) ?_ ?_ ?_); rfl; rfl))
      intro w3 ob3 st
      have HL3 := Lib.hid (HLD.out.stored ob (by decide) st)
      replace low := st.low low (by omega)
      clear ob st hb cb HLD
      go_wp2_with fail
      exact bodyPost_ret (v := .tuple #[.agg us.toArray, .int .i64 0]) (results_first tyCopies Try.results90 rfl rfl ob3 u16) rfl ⟨⟨us, rfl, HL3.out⟩, low⟩
end Go.Proofs.Ytmodajmjmdigfaa
