/-
Proved: what the reference's Under, SameRing (of rings that hold the same), RingFault and RingPut return, for every ring that can be read; they change nothing that was there. No other condition.
-/
import Derived.Test.YtgdacpcifnpojaaGreatJoined1
import Derived.Test.YtgdacpcifnpojaaGreatRefLow
namespace Go.Proofs.YtgdacpcifnpojaaGreat
open Go.ChangeShapes Go.WideShapes Go.ChangeAt Go.RowKit Go.Joins
theorem eqSlot (x y : Sw) (w : World) : (Op.equalIn 10000 67 x.val y.val).run Tryz.prog w = .ok (eqS x y) w := by
 obtain ⟨a, b, c, d⟩ := x
 obtain ⟨a', b', c', d'⟩ := y
 have := equal_flat (P := Tryz.prog) 2 67 [.int .i64, .bool, .int .i64, .int .i64] (by kernel_rfl) (by kernel_rfl) 10000 (by omega) w [.int .i64 a, .bool b, .int .i64 c, .int .i64 d] [.int .i64 a', .bool b', .int .i64 c', .int .i64 d'] (.agg #[.int .i64 a, .bool b, .int .i64 c, .int .i64 d]) (.agg #[.int .i64 a', .bool b', .int .i64 c', .int .i64 d'])
  ⟨⟨a, rfl⟩, ⟨b, rfl⟩, ⟨c, rfl⟩, ⟨d, rfl⟩, trivial⟩ ⟨⟨a', rfl⟩, ⟨b', rfl⟩, ⟨c', rfl⟩, ⟨d', rfl⟩, trivial⟩ (by simp [ValIs, Tryz.underlying67]) (by simp [ValIs, Tryz.underlying67])
 simpa [eqCells, scEq, eqS] using this
set_option maxHeartbeats 1000000 in
theorem sameRing_yes (v v' : Value) (l : List Sw) (w : World) (h : Rs w v l) (h' : Rs w v' l) :
  Calls Tryz.prog 45 #[v, v'] w fun e w' => e = .returned (.bool true) ∧ Below w.heap.size w w' := by
 obtain ⟨hl, A, cp, rfl, h1, h2, h3⟩ := h
 obtain ⟨hl', A', cp', rfl, h1', h2', h3'⟩ := h'
 have H3 := Lib.hid h3
 have H3' := Lib.hid h3'
 unfold maxLen at h2 h2'
 clear h3 h3' hl hl'
 have low := Below.refl w.heap.size w
 go_enter Tryz.func45, Tryz.ntmps45
 go_wp2_with fail
 go_loopw [13] (fun i wr => ∃ j : Nat, j ≤ l.length ∧ i = .int .i64 j ∧ Below w.heap.size w wr) (fun i _ => l.length - (intOf i).toNat)
 case atStart => exact ⟨0, Nat.zero_le _, rfl, low⟩
 case round =>
  clear low
  obtain ⟨j, hj, rfl, low⟩ := hrel
  by_cases hlt : j < l.length
  ·obtain ⟨b1, o1, rfl, hb1, hc1⟩ := H3.out (by omega)
   obtain ⟨b2, o2, rfl, hb2, hc2⟩ := H3'.out (by omega)
   have hx : l[j]? = some l[j] := List.getElem?_eq_getElem _
   generalize l[j] = x at hx
   obtain ⟨p0, p1, p2, p3⟩ := slotAt_of hc1 hb1 low hx
   obtain ⟨q0, q1, q2, q3⟩ := slotAt_of hc2 hb2 low hx
   have eqx := fun w => eqSlot x x w
   rw [(eqS_iff x x).2 rfl] at eqx
   simp only [Sw.val] at eqx
   have k0 : (0 : Int) ≤ j := by omega
   have k1 : (j : Int) < l.length := by omega
   clear hx hc1 hc2
   go_wp2_with fail
   refine wp_region_noPanic ?_
   refine wp_region_held_drew (S := fun w' => w'.cell? ⟨b1, o1 + j * 4, none⟩ = some (.int .i64 x.pl) ∧ w'.cell? ⟨b1, o1 + j * 4 + 1, none⟩ = some (.bool x.fu) ∧ w'.cell? ⟨b1, o1 + j * 4 + 2, none⟩ = some (.int .i64 x.nd) ∧ w'.cell? ⟨b1, o1 + j * 4 + 3, none⟩ = some (.int .i64 x.wt) ∧ w'.cell? ⟨b2, o2 + j * 4, none⟩ = some (.int .i64 x.pl) ∧ w'.cell? ⟨b2, o2 + j * 4 + 1, none⟩ = some (.bool x.fu) ∧ w'.cell? ⟨b2, o2 + j * 4 + 2, none⟩ = some (.int .i64 x.nd) ∧ w'.cell? ⟨b2, o2 + j * 4 + 3, none⟩ = some (.int .i64 x.wt)) (by kernel_rfl) ⟨drewC p0, drewC p1, drewC p2, drewC p3, drewC q0, drewC q1, drewC q2, drewC q3⟩ (fun hHeld => ?_)
   refine takeA 0 ?_ rfl ?_ ?_; rotate_left
   ·(intro w hSw; go_simp; try (with_reducible rfl))
   try simp only [Act.put, List.setIfInBounds_toArray, List.set_cons_zero, List.set_cons_succ]
   refine takeA 1 ?_ rfl ?_ ?_; rotate_left
   ·(intro w hSw; go_simp; try (with_reducible rfl))
   try simp only [Act.put, List.setIfInBounds_toArray, List.set_cons_zero, List.set_cons_succ]
   refine takeA 2 ?_ rfl ?_ ?_; rotate_left
   ·(intro w hSw; go_simp; try (with_reducible rfl))
   try simp only [Act.put, List.setIfInBounds_toArray, List.set_cons_zero, List.set_cons_succ]
   refine takeA 3 ?_ rfl ?_ ?_; rotate_left
   ·(intro w hSw; go_simp; try (with_reducible rfl))
   try simp only [Act.put, List.setIfInBounds_toArray, List.set_cons_zero, List.set_cons_succ]
   refine takeA 4 ?_ rfl ?_ ?_; rotate_left
   ·(intro w hSw; go_simp; try (with_reducible rfl))
   try simp only [Act.put, List.setIfInBounds_toArray, List.set_cons_zero, List.set_cons_succ]
   refine takeA 5 ?_ rfl ?_ ?_; rotate_left
   ·(intro w hSw; go_simp; try (with_reducible rfl))
   try simp only [Act.put, List.setIfInBounds_toArray, List.set_cons_zero, List.set_cons_succ]
   refine takeA 6 ?_ rfl ?_ ?_; rotate_left
   ·(intro w hSw; go_simp; try (with_reducible rfl))
   try simp only [Act.put, List.setIfInBounds_toArray, List.set_cons_zero, List.set_cons_succ]
   refine takeA 7 ?_ rfl ?_ ?_; rotate_left
   ·(intro w hSw; go_simp; try (with_reducible rfl))
   try simp only [Act.put, List.setIfInBounds_toArray, List.set_cons_zero, List.set_cons_succ]
   refine takeA 8 ?_ rfl ?_ ?_; rotate_left
   ·(intro w hSw; go_simp; try (with_reducible rfl))
   try simp only [Act.put, List.setIfInBounds_toArray, List.set_cons_zero, List.set_cons_succ]
   refine wpAnyH_done (by kernel_rfl) ?_ _
   refine NoPanic.normal ?_
   replace low := low.drew
   clear hHeld p0 p1 p2 p3 q0 q1 q2 q3
   go_wp2_with fail
   go_roundw
   case rel => exact ⟨j + 1, by omega, by go_num, low⟩
   case measure => simp [intOf]; omega
  ·obtain rfl : j = l.length := by omega
   go_wp2_with fail
   go_ret
   exact ⟨rfl, low⟩
end Go.Proofs.YtgdacpcifnpojaaGreat
