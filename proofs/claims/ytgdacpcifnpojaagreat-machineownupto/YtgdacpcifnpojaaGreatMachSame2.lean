/-
Proved: SameWorld of the reference returns true for two that hold the same. No other condition.
-/
import Derived.Test.YtgdacpcifnpojaaGreatMachSame
namespace Go.Proofs.YtgdacpcifnpojaaGreat
open Go.ChangeShapes Go.WideShapes Go.ChangeAt Go.RowKit Go.Joins
theorem wld_caches {w : World} {g : Nat} {t : TypeId} {v : Value} {m : List Int} (h : Box w g t (wldA v m)) : w.cell? ⟨g, 0, none⟩ = some v := h.at_ 0 (by unfold wldA; rfl)
set_option maxRecDepth 10000 in
set_option maxHeartbeats 2000000 in
theorem sameWorld_yes (v v' : Value) (m : List Int) (css : List (List St)) (w : World) (h : Ks w v css) (h' : Ks w v' css) (hm : m.length = 64) :
  Calls Tryz.prog 44 #[wldV v m, wldV v' m] w fun e w' => e = .returned (.bool true) ∧ Below w.heap.size w w' := by
 obtain ⟨A, cp, rfl, h1, h2, h3⟩ := h
 obtain ⟨A', cp', rfl, h1', h2', h3'⟩ := h'
 have H3 := Lib.hid h3
 have H3' := Lib.hid h3'
 have eqm := fun w => eqMem m m hm hm w
 rw [show sameM m m = true from decide_eq_true rfl] at eqm
 unfold maxLen at h2 h2'
 clear h3 h3'
 have low := Below.refl w.heap.size w
 have wb := boxNext low 31 (wldA (.slice A css.length cp) m)
 replace low := gAlloc low (.cells (wldA (.slice A css.length cp) m) 31)
 try simp only [World.size_alloc] at wb
 have xb := boxNext low 31 (wldA (.slice A' css.length cp') m)
 replace low := gAlloc low (.cells (wldA (.slice A' css.length cp') m) 31)
 replace wb := wb.alloc (.cells (wldA (.slice A' css.length cp') m) 31)
 try simp only [World.size_alloc] at xb
 have wm := wld_mem wb
 have xm := wld_mem xb
 have wc := wld_caches wb
 have xc := wld_caches xb
 go_enter Tryz.func44, Tryz.ntmps44
 go_wp2_with (first | ((with_reducible refine wp_loadW (tyMem) (wm) (mem_zsize hm) ?_ ?_ ?_); rfl; rfl) | ((with_reducible refine wp_loadW (tyMem) (xm) (mem_zsize hm) ?_ ?_ ?_); rfl; rfl))
 generalize (w.alloc (.cells (wldA (.slice A css.length cp) m) 31)).alloc (.cells (wldA (.slice A' css.length cp') m) 31) = wL at *
 have WB := Lib.hid wb
 have XB := Lib.hid xb
 have LW := Lib.hid low
 clear wm xm wc xc eqm wb xb
 go_loopw [23] (fun i wr => ∃ j : Nat, j ≤ css.length ∧ i = .int .i64 j ∧ Below wL.heap.size wL wr) (fun i _ => css.length - (intOf i).toNat)
 case atStart => exact ⟨0, Nat.zero_le _, rfl, Below.refl _ _⟩
 case round =>
  obtain ⟨j, hj, rfl, near⟩ := hrel
  clear low
  have low := gCall LW.out near
  by_cases hlt : j < css.length
  ·obtain ⟨b1, o1, rfl, hb1, hc1⟩ := H3.out (by omega)
   obtain ⟨b2, o2, rfl, hb2, hc2⟩ := H3'.out (by omega)
   have hx : css[j]? = some css[j] := List.getElem?_eq_getElem _
   generalize css[j] = t at hx
   obtain ⟨A1, c1, p1, cs1⟩ := hc1 j t hx
   obtain ⟨A2, c2, q1, cs2⟩ := hc2 j t hx
   have wc := wld_caches (WB.out.call near)
   have xc := wld_caches (XB.out.call near)
   replace p1 := (low.cell (p := ⟨b1, o1 + j, none⟩) hb1).trans p1
   replace q1 := (low.cell (p := ⟨b2, o2 + j, none⟩) hb2).trans q1
   have S := Lib.hid (sameCache_yes (.slice A1 t.length c1) (.slice A2 t.length c2) t wr.drew (cs1.call low).drew (cs2.call low).drew)
   have k0 : (0 : Int) ≤ j := by omega
   have k1 : (j : Int) < css.length := by omega
   clear hx hc1 hc2 cs1 cs2
   go_wp2_with fail
   refine wp_region_noPanic ?_
   refine wp_region_held_drew (S := fun w' => w'.cell? ⟨w.heap.size, 0, none⟩ = some (.slice (some ⟨b1, o1, none⟩) css.length cp) ∧ w'.cell? ⟨w.heap.size + 1, 0, none⟩ = some (.slice (some ⟨b2, o2, none⟩) css.length cp') ∧ w'.cell? ⟨b1, o1 + j, none⟩ = some (.slice A1 t.length c1) ∧ w'.cell? ⟨b2, o2 + j, none⟩ = some (.slice A2 t.length c2)) (by kernel_rfl) ⟨drewC wc, drewC xc, drewC p1, drewC q1⟩ (fun hHeld => ?_)
   refine takeA 0 ?_ rfl ?_ ?_; rotate_left
   ·(intro w hSw; go_simp; try (with_reducible rfl))
   try simp only [Act.put, List.setIfInBounds_toArray, List.set_cons_zero, List.set_cons_succ]
   refine takeA 1 ?_ rfl ?_ ?_; rotate_left
   ·(intro w hSw; go_simp; try (with_reducible rfl))
   try simp only [Act.put, List.setIfInBounds_toArray, List.set_cons_zero, List.set_cons_succ]
   refine takeA 2 ?_ rfl ?_ ?_; rotate_left
   ·(intro w hSw; go_simp; try (with_reducible rfl))
   try simp only [Act.put, List.setIfInBounds_toArray, List.set_cons_zero, List.set_cons_succ]
   refine takeA 3 ?_ rfl ?_ ?_; rotate_left
   ·(intro w hSw; go_simp; try (with_reducible rfl))
   try simp only [Act.put, List.setIfInBounds_toArray, List.set_cons_zero, List.set_cons_succ]
   refine takeA 4 ?_ rfl ?_ ?_; rotate_left
   ·(intro w hSw; go_simp; try (with_reducible rfl))
   try simp only [Act.put, List.setIfInBounds_toArray, List.set_cons_zero, List.set_cons_succ]
   refine takeA 5 ?_ rfl ?_ ?_; rotate_left
   ·(intro w hSw; go_simp; try (with_reducible rfl))
   try simp only [Act.put, List.setIfInBounds_toArray, List.set_cons_zero, List.set_cons_succ]
   refine takeA 6 ?_ rfl ?_ ?_; rotate_left
   ·(intro w hSw; go_simp; try (with_reducible rfl))
   try simp only [Act.put, List.setIfInBounds_toArray, List.set_cons_zero, List.set_cons_succ]
   refine takeA 7 ?_ rfl ?_ ?_; rotate_left
   ·(intro w hSw; go_simp; try (with_reducible rfl))
   try simp only [Act.put, List.setIfInBounds_toArray, List.set_cons_zero, List.set_cons_succ]
   refine takeA 8 ?_ rfl ?_ ?_; rotate_left
   ·(intro w hSw; go_simp; try (with_reducible rfl))
   try simp only [Act.put, List.setIfInBounds_toArray, List.set_cons_zero, List.set_cons_succ]
   refine takeA 9 ?_ rfl ?_ ?_; rotate_left
   ·(intro w hSw; go_simp; try (with_reducible rfl))
   try simp only [Act.put, List.setIfInBounds_toArray, List.set_cons_zero, List.set_cons_succ]
   refine stepNext (i := 10) (by kernel_rfl) rfl (by rfl) (fun K hK => ?_)
   go_simp
   (with_reducible refine (Calls.mono S.out ?_)); rintro e w2 ⟨rfl, hb⟩
   replace near := gCall near.drew hb
   obtain ⟨hh0, hh1, hh2, hh3⟩ := hHeld
   have hHeld := (And.intro (callC hb hh0) (And.intro (callC hb hh1) (And.intro (callC hb hh2) (callC hb hh3))))
   clear hh0 hh1 hh2 hh3
   clear hb
   refine hK.out _ _ hHeld ?_
   clear hK K
   try simp only [Act.put]
   try simp only [List.setIfInBounds_toArray, List.set_cons_zero, List.set_cons_succ]
   refine takeA 11 ?_ rfl ?_ ?_; rotate_left
   ·(intro w hSw; go_simp; try (with_reducible rfl))
   try simp only [Act.put, List.setIfInBounds_toArray, List.set_cons_zero, List.set_cons_succ]
   refine wpAnyH_done (by kernel_rfl) ?_ _
   refine NoPanic.normal ?_
   clear hHeld wc xc p1 q1 S low
   go_wp2_with fail
   go_roundw
   case rel => exact ⟨j + 1, by omega, by go_num, near⟩
   case measure => simp [intOf]; omega
  ·obtain rfl : j = css.length := by omega
   go_wp2_with fail
   go_ret
   exact ⟨rfl, low⟩
end Go.Proofs.YtgdacpcifnpojaaGreat
