/-
Proved: what SameCache, CacheAt and CacheFault of the reference and slices.Equal on ways return. Conditions: SameCache and slices.Equal are asked of two that hold the same.
-/
import Derived.Test.YtgdacpcifnpojaaGreatRefCache
import Derived.Test.YtgdacpcifnpojaaGreatWaysEqual
import Derived.Test.YtgdacpcifnpojaaGreatJoined3
namespace Go.Proofs.YtgdacpcifnpojaaGreat
open Go.ChangeShapes Go.WideShapes Go.ChangeAt Go.RowKit Go.Joins
set_option maxRecDepth 10000 in
set_option maxHeartbeats 2000000 in
theorem sameCache_yes (v v' : Value) (ss : List St) (w : World) (h : Cs w v ss) (h' : Cs w v' ss) :
  Calls Tryz.prog 69 #[v, v'] w fun e w' => e = .returned (.bool true) ∧ Below w.heap.size w w' := by
 obtain ⟨A, cp, rfl, h1, h2, h3⟩ := h
 obtain ⟨A', cp', rfl, h1', h2', h3'⟩ := h'
 have H3 := Lib.hid h3
 have H3' := Lib.hid h3'
 unfold maxLen at h2 h2'
 clear h3 h3'
 have low := Below.refl w.heap.size w
 go_enter Tryz.func69, Tryz.ntmps69
 go_wp2_with fail
 go_loopw [13] (fun i wr => ∃ j : Nat, j ≤ ss.length ∧ i = .int .i64 j ∧ Below w.heap.size w wr) (fun i _ => ss.length - (intOf i).toNat)
 case atStart => exact ⟨0, Nat.zero_le _, rfl, low⟩
 case round =>
  clear low
  obtain ⟨j, hj, rfl, low⟩ := hrel
  by_cases hlt : j < ss.length
  ·obtain ⟨b1, o1, rfl, hb1, hc1⟩ := H3.out (by omega)
   obtain ⟨b2, o2, rfl, hb2, hc2⟩ := H3'.out (by omega)
   have hx : ss[j]? = some ss[j] := List.getElem?_eq_getElem _
   generalize ss[j] = t at hx
   obtain ⟨A1, c1, ra1, ws1⟩ := hc1.at_ j t hx
   obtain ⟨A2, c2, ra2, ws2⟩ := hc2.at_ j t hx
   obtain ⟨p0, p1, p2, p3⟩ := rowAt_of ra1 hb1 low
   obtain ⟨q0, q1, q2, q3⟩ := rowAt_of ra2 hb2 low
   have S := Lib.hid (sameRow_any (.slice A1 t.l.length c1) t.l t.a t.b t.c (.slice A2 t.l.length c2) t.l t.a t.b t.c wr.drew (ws1.call low).drew (ws2.call low).drew)
   rw [sameB_refl] at S
   have k0 : (0 : Int) ≤ j := by omega
   have k1 : (j : Int) < ss.length := by omega
   clear hx ra1 ra2 hc1 hc2 ws1 ws2
   go_wp2_with fail
   refine wp_region_noPanic ?_
   refine wp_region_held_drew (S := fun w' => w'.cell? ⟨b1, o1 + j * 4, none⟩ = some (.slice A1 t.l.length c1) ∧ w'.cell? ⟨b1, o1 + j * 4 + 1, none⟩ = some (.bool t.a) ∧ w'.cell? ⟨b1, o1 + j * 4 + 2, none⟩ = some (.bool t.b) ∧ w'.cell? ⟨b1, o1 + j * 4 + 3, none⟩ = some (.bool t.c) ∧ w'.cell? ⟨b2, o2 + j * 4, none⟩ = some (.slice A2 t.l.length c2) ∧ w'.cell? ⟨b2, o2 + j * 4 + 1, none⟩ = some (.bool t.a) ∧ w'.cell? ⟨b2, o2 + j * 4 + 2, none⟩ = some (.bool t.b) ∧ w'.cell? ⟨b2, o2 + j * 4 + 3, none⟩ = some (.bool t.c)) (by kernel_rfl) ⟨drewC p0, drewC p1, drewC p2, drewC p3, drewC q0, drewC q1, drewC q2, drewC q3⟩ (fun hHeld => ?_)
   refine takeA 0 ?_ rfl ?_ ?_; rotate_left
   ·(intro w hSw; go_simp; try (with_reducible rfl))
   try simp only [Act.put, List.setIfInBounds_toArray, List.set_cons_zero, List.set_cons_succ]
   refine takeA 1 ?_ rfl ?_ ?_; rotate_left
   ·(intro w hSw; go_simp; try (with_reducible rfl))
   try simp only [Act.put, List.setIfInBounds_toArray, List.set_cons_zero, List.set_cons_succ]
   refine takeA 2 ?_ rfl ?_ ?_; rotate_left
   ·(intro w hSw; go_simp; try (with_reducible rfl))
   try simp only [Act.put, List.setIfInBounds_toArray, List.set_cons_zero, List.set_cons_succ]
   refine takeA 3 ?_ rfl ?_ ?_; rotate_left
   ·(intro w hSw; go_simp; try (with_reducible rfl))
   try simp only [Act.put, List.setIfInBounds_toArray, List.set_cons_zero, List.set_cons_succ]
   refine takeA 4 ?_ rfl ?_ ?_; rotate_left
   ·(intro w hSw; go_simp; try (with_reducible rfl))
   try simp only [Act.put, List.setIfInBounds_toArray, List.set_cons_zero, List.set_cons_succ]
   refine takeA 5 ?_ rfl ?_ ?_; rotate_left
   ·(intro w hSw; go_simp; try (with_reducible rfl))
   try simp only [Act.put, List.setIfInBounds_toArray, List.set_cons_zero, List.set_cons_succ]
   refine takeA 6 ?_ rfl ?_ ?_; rotate_left
   ·(intro w hSw; go_simp; try (with_reducible rfl))
   try simp only [Act.put, List.setIfInBounds_toArray, List.set_cons_zero, List.set_cons_succ]
   refine takeA 7 ?_ rfl ?_ ?_; rotate_left
   ·(intro w hSw; go_simp; try (with_reducible rfl))
   try simp only [Act.put, List.setIfInBounds_toArray, List.set_cons_zero, List.set_cons_succ]
   refine stepNext (i := 8) (by kernel_rfl) rfl (by rfl) (fun K hK => ?_)
   go_simp
   (with_reducible refine (Calls.mono S.out ?_)); rintro e w2 ⟨rfl, hb⟩
   replace low := gCall low.drew hb
   obtain ⟨hh0, hh1, hh2, hh3, hh4, hh5, hh6, hh7⟩ := hHeld
   have hHeld := (And.intro (callC hb hh0) (And.intro (callC hb hh1) (And.intro (callC hb hh2) (And.intro (callC hb hh3) (And.intro (callC hb hh4) (And.intro (callC hb hh5) (And.intro (callC hb hh6) (callC hb hh7))))))))
   clear hh0 hh1 hh2 hh3 hh4 hh5 hh6 hh7
   clear hb
   refine hK.out _ _ hHeld ?_
   clear hK K
   try simp only [Act.put]
   try simp only [List.setIfInBounds_toArray, List.set_cons_zero, List.set_cons_succ]
   refine takeA 9 ?_ rfl ?_ ?_; rotate_left
   ·(intro w hSw; go_simp; try (with_reducible rfl))
   try simp only [Act.put, List.setIfInBounds_toArray, List.set_cons_zero, List.set_cons_succ]
   refine wpAnyH_done (by kernel_rfl) ?_ _
   refine NoPanic.normal ?_
   clear hHeld p0 p1 p2 p3 q0 q1 q2 q3 S
   go_wp2_with fail
   go_roundw
   case rel => exact ⟨j + 1, by omega, by go_num, low⟩
   case measure => simp [intOf]; omega
  ·obtain rfl : j = ss.length := by omega
   go_wp2_with fail
   go_ret
   exact ⟨rfl, low⟩
end Go.Proofs.YtgdacpcifnpojaaGreat
