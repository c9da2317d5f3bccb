/-
Proved: what SameInts, SameDeeds, SameWorld and SameMachine of the reference and slices.Equal on events return for two that hold the same. No other condition.
-/
import Derived.Test.YtgdacpcifnpojaaGreatJoined6
import Derived.Test.YtgdacpcifnpojaaGreatOpsEqual
import Derived.Test.YtgdacpcifnpojaaGreatRefCache2
import Derived.Test.YtgdacpcifnpojaaGreatRefRing
import Derived.Test.YtgdacpcifnpojaaGreatJoined3
namespace Go.Proofs.YtgdacpcifnpojaaGreat
open Go.ChangeShapes Go.WideShapes Go.ChangeAt Go.RowKit Go.Joins
theorem sameInts_yes (v v' : Value) (n : Nat) (xs : List Int) (w : World) (h : Sl w w.heap.size 1 v n (xs.map (Value.int .i64))) (h' : Sl w w.heap.size 1 v' n (xs.map (Value.int .i64))) :
  Calls Tryz.prog 46 #[v, v'] w fun e w' => e = .returned (.bool true) ∧ Below w.heap.size w w' := by
 obtain ⟨hl, A, c, rfl, h1, h2, h3⟩ := h
 obtain ⟨hl', A', c', rfl, h1', h2', h3'⟩ := h'
 simp only [List.length_map, Nat.mul_one] at hl
 have HL := Lib.hid hl
 have H3 := Lib.hid h3
 have H3' := Lib.hid h3'
 unfold maxLen at h2
 clear hl h3 hl' h3' h2'
 go_enter Tryz.func46, Tryz.ntmps46
 go_wp2_with fail
 go_loopw [13] (fun i wr => ∃ k : Nat, k ≤ n ∧ i = .int .i64 k ∧ Below w.heap.size w wr) (fun i _ => n - (intOf i).toNat)
 case atStart => exact ⟨0, Nat.zero_le _, rfl, Below.refl _ _⟩
 case round =>
  obtain ⟨k, hk, rfl, low⟩ := hrel
  by_cases hlt : k < n
  ·obtain ⟨b, o, rfl, hb, hc⟩ := H3.out (by omega)
   obtain ⟨b', o', rfl, hb', hc'⟩ := H3'.out (by omega)
   have hx : xs[k]? = some (xs[k]'(by have := HL.out; omega)) := List.getElem?_eq_getElem _
   generalize xs[k]'(by have := HL.out; omega) = x at hx
   have e1 : wr.cell? ⟨b, o + k, none⟩ = some (.int .i64 x) := (low.cell (p := ⟨b, o + k, none⟩) hb).trans (hc k _ (by rw [List.getElem?_map, hx]; rfl))
   have e2 : wr.cell? ⟨b', o' + k, none⟩ = some (.int .i64 x) := (low.cell (p := ⟨b', o' + k, none⟩) hb').trans (hc' k _ (by rw [List.getElem?_map, hx]; rfl))
   clear hx hc hc'
   go_wp2_with fail
   go_quiet (fail)
   go_wp2_with fail
   go_roundw
   case rel => exact ⟨k + 1, by omega, by go_num, gDrewN low _⟩
   case measure => simp [intOf]; omega
  ·go_wp2_with fail
   go_ret
   exact ⟨rfl, low⟩
set_option maxRecDepth 10000 in
set_option maxHeartbeats 2000000 in
theorem sameDeeds_yes (v v' : Value) (l : List Dd) (w : World) (h : Ds w v l) (h' : Ds w v' l) :
  Calls Tryz.prog 47 #[v, v'] w fun e w' => e = .returned (.bool true) ∧ Below w.heap.size w w' := by
 obtain ⟨hl, A, cp, rfl, h1, h2, h3⟩ := h
 obtain ⟨hl', A', cp', rfl, h1', h2', h3'⟩ := h'
 have H3 := Lib.hid h3
 have H3' := Lib.hid h3'
 unfold maxLen at h2 h2'
 clear h3 h3' hl hl'
 have low := Below.refl w.heap.size w
 go_enter Tryz.func47, Tryz.ntmps47
 go_wp2_with fail
 go_loopw [13] (fun i wr => ∃ j : Nat, j ≤ l.length ∧ i = .int .i64 j ∧ Below w.heap.size w wr) (fun i _ => l.length - (intOf i).toNat)
 case atStart => exact ⟨0, Nat.zero_le _, rfl, low⟩
 case round =>
  clear low
  obtain ⟨j, hj, rfl, low⟩ := hrel
  by_cases hlt : j < l.length
  ·obtain ⟨b1, o1, rfl, hb1, hc1⟩ := H3.out (by omega)
   obtain ⟨b2, o2, rfl, hb2, hc2⟩ := H3'.out (by omega)
   have hx : l[j]? = some l[j] := List.getElem?_eq_getElem _
   generalize l[j] = x at hx
   obtain ⟨p0, p1, p2, p3⟩ := deedAt_of hc1 hb1 low hx
   obtain ⟨q0, q1, q2, q3⟩ := deedAt_of hc2 hb2 low hx
   have eqx := fun w => eqDeed x x w
   rw [(eqD_iff x x).2 rfl] at eqx
   simp only [Dd.val, Dd.arr] at eqx
   have k0 : (0 : Int) ≤ j := by omega
   have k1 : (j : Int) < l.length := by omega
   clear hx hc1 hc2
   go_wp2_with fail
   refine wp_region_noPanic ?_
   refine wp_region_held_drew (S := fun w' => w'.cell? ⟨b1, o1 + j * 4, none⟩ = some (.int .i64 x.nd) ∧ w'.cell? ⟨b1, o1 + j * 4 + 1, none⟩ = some (.int .i64 x.kd) ∧ w'.cell? ⟨b1, o1 + j * 4 + 2, none⟩ = some (.int .i64 x.ad) ∧ w'.cell? ⟨b1, o1 + j * 4 + 3, none⟩ = some (.int .u64 x.vl) ∧ w'.cell? ⟨b2, o2 + j * 4, none⟩ = some (.int .i64 x.nd) ∧ w'.cell? ⟨b2, o2 + j * 4 + 1, none⟩ = some (.int .i64 x.kd) ∧ w'.cell? ⟨b2, o2 + j * 4 + 2, none⟩ = some (.int .i64 x.ad) ∧ w'.cell? ⟨b2, o2 + j * 4 + 3, none⟩ = some (.int .u64 x.vl)) (by kernel_rfl) ⟨drewC p0, drewC p1, drewC p2, drewC p3, drewC q0, drewC q1, drewC q2, drewC q3⟩ (fun hHeld => ?_)
   refine takeA 0 ?_ rfl ?_ ?_; rotate_left
   ·(intro w hSw; go_simp; try (with_reducible rfl))
   try simp only [Act.put, List.setIfInBounds_toArray, List.set_cons_zero, List.set_cons_succ]
   refine takeA 1 ?_ rfl ?_ ?_; rotate_left
   ·(intro w hSw; go_simp; try (with_reducible rfl))
   try simp only [Act.put, List.setIfInBounds_toArray, List.set_cons_zero, List.set_cons_succ]
   refine takeA 2 ?_ rfl ?_ ?_; rotate_left
   ·(intro w hSw; go_simp; try (with_reducible rfl))
   try simp only [Act.put, List.setIfInBounds_toArray, List.set_cons_zero, List.set_cons_succ]
   refine takeA 3 ?_ rfl ?_ ?_; rotate_left
   ·(intro w hSw; go_simp; try (with_reducible rfl))
   try simp only [Act.put, List.setIfInBounds_toArray, List.set_cons_zero, List.set_cons_succ]
   refine takeA 4 ?_ rfl ?_ ?_; rotate_left
   ·(intro w hSw; go_simp; try (with_reducible rfl))
   try simp only [Act.put, List.setIfInBounds_toArray, List.set_cons_zero, List.set_cons_succ]
   refine takeA 5 ?_ rfl ?_ ?_; rotate_left
   ·(intro w hSw; go_simp; try (with_reducible rfl))
   try simp only [Act.put, List.setIfInBounds_toArray, List.set_cons_zero, List.set_cons_succ]
   refine takeA 6 ?_ rfl ?_ ?_; rotate_left
   ·(intro w hSw; go_simp; try (with_reducible rfl))
   try simp only [Act.put, List.setIfInBounds_toArray, List.set_cons_zero, List.set_cons_succ]
   refine takeA 7 ?_ rfl ?_ ?_; rotate_left
   ·(intro w hSw; go_simp; try (with_reducible rfl))
   try simp only [Act.put, List.setIfInBounds_toArray, List.set_cons_zero, List.set_cons_succ]
   refine takeA 8 ?_ rfl ?_ ?_; rotate_left
   ·(intro w hSw; go_simp; try (with_reducible rfl))
   try simp only [Act.put, List.setIfInBounds_toArray, List.set_cons_zero, List.set_cons_succ]
   refine wpAnyH_done (by kernel_rfl) ?_ _
   refine NoPanic.normal ?_
   replace low := low.drew
   clear hHeld p0 p1 p2 p3 q0 q1 q2 q3
   go_wp2_with fail
   go_roundw
   case rel => exact ⟨j + 1, by omega, by go_num, low⟩
   case measure => simp [intOf]; omega
  ·obtain rfl : j = l.length := by omega
   go_wp2_with fail
   go_ret
   exact ⟨rfl, low⟩
end Go.Proofs.YtgdacpcifnpojaaGreat
