/-
Proved: '==' on operations compares their cells; slices.Equal of two slices that hold the same operations returns true, and changes nothing that was there. No other condition.
-/
import Derived.Test.YtgoaedbhcldmiaaOps
import Derived.Test.YtgoaedbhcldmiaaRegion
namespace Go.Proofs.Ytgoaedbhcldmiaa
open Go.ChangeShapes Go.WideShapes Go.ChangeAt Go.RowKit Go.Joins

def eqD (x y : Dd) : Bool := x.nd == y.nd && (x.kd == y.kd && (x.ad == y.ad && x.vl == y.vl))
theorem eqD_iff (x y : Dd) : eqD x y = true ↔ x = y := by
  obtain ⟨a, b, c, d⟩ := x
  obtain ⟨a', b', c', d'⟩ := y
  simp [eqD]
theorem eqDeed (x y : Dd) (w : World) : (Op.equalIn 10000 36 x.val y.val).run Try.prog w = .ok (eqD x y) w := by
  obtain ⟨a, b, c, d⟩ := x
  obtain ⟨a', b', c', d'⟩ := y
  have := equal_flat (P := Try.prog) 2 36 [.int .i64, .int .i64, .int .i64, .int .u64] (by kernel_rfl) (by kernel_rfl) 10000 (by omega) w [.int .i64 a, .int .i64 b, .int .i64 c, .int .u64 d] [.int .i64 a', .int .i64 b', .int .i64 c', .int .u64 d'] (.agg #[.int .i64 a, .int .i64 b, .int .i64 c, .int .u64 d]) (.agg #[.int .i64 a', .int .i64 b', .int .i64 c', .int .u64 d'])
    ⟨⟨a, rfl⟩, ⟨b, rfl⟩, ⟨c, rfl⟩, ⟨d, rfl⟩, trivial⟩ ⟨⟨a', rfl⟩, ⟨b', rfl⟩, ⟨c', rfl⟩, ⟨d', rfl⟩, trivial⟩ (by simp [ValIs, Try.underlying36]) (by simp [ValIs, Try.underlying36])
  simpa [eqCells, scEq, eqD] using this

set_option maxRecDepth 10000 in
set_option maxHeartbeats 2000000 in
theorem equalDeeds_quiet (v v' : Value) (l : List Dd) (w : World) (h : Ds w v l) (h' : Ds w v' l) :
    Calls Try.prog 10 #[v, v'] w fun e w' => e = .returned (.bool true) ∧ ∃ n, w' = w.drewN n := by
  obtain ⟨hl, A, cp, rfl, h1, h2, h3⟩ := h
  obtain ⟨hl', A', cp', rfl, h1', h2', h3'⟩ := h'
  have H3 := Lib.hid h3
  have H3' := Lib.hid h3'
  unfold maxLen at h2 h2'
  clear h3 h3' hl hl'
  go_enter Try.func10, Try.ntmps10
  go_wp2_with fail
  go_loopw [13] (fun i wr => ∃ j : Nat, j ≤ l.length ∧ i = .int .i64 j ∧ ∃ n, wr = w.drewN n) (fun i _ => l.length - (intOf i).toNat)
  case atStart => exact ⟨0, Nat.zero_le _, rfl, 0, rfl⟩
  case round =>
    obtain ⟨j, hj, rfl, nn, rfl⟩ := hrel
    have low := gDrewN (Below.refl w.heap.size w) nn
    by_cases hlt : j < l.length
    · obtain ⟨b1, o1, rfl, hb1, hc1⟩ := H3.out (by omega)
      obtain ⟨b2, o2, rfl, hb2, hc2⟩ := H3'.out (by omega)
      have hx : l[j]? = some l[j] := List.getElem?_eq_getElem _
      generalize l[j] = x at hx
      obtain ⟨p0, p1, p2, p3⟩ := deedAt_of hc1 hb1 low hx
      obtain ⟨q0, q1, q2, q3⟩ := deedAt_of hc2 hb2 low hx
      have eqx := fun w => eqDeed x x w
      rw [(eqD_iff x x).2 rfl] at eqx
      simp only [Dd.val, Dd.arr] at eqx
      have k0 : (0 : Int) ≤ j := by omega
      have k1 : (j : Int) < l.length := by omega
      clear hx hc1 hc2
      go_wp2_with fail
      refine wp_region_noPanic ?_
      refine wp_region_held_drew (S := fun w' => w'.cell? ⟨b1, o1 + j * 4, none⟩ = some (.int .i64 x.nd) ∧ w'.cell? ⟨b1, o1 + j * 4 + 1, none⟩ = some (.int .i64 x.kd) ∧ w'.cell? ⟨b1, o1 + j * 4 + 2, none⟩ = some (.int .i64 x.ad) ∧ w'.cell? ⟨b1, o1 + j * 4 + 3, none⟩ = some (.int .u64 x.vl) ∧ w'.cell? ⟨b2, o2 + j * 4, none⟩ = some (.int .i64 x.nd) ∧ w'.cell? ⟨b2, o2 + j * 4 + 1, none⟩ = some (.int .i64 x.kd) ∧ w'.cell? ⟨b2, o2 + j * 4 + 2, none⟩ = some (.int .i64 x.ad) ∧ w'.cell? ⟨b2, o2 + j * 4 + 3, none⟩ = some (.int .u64 x.vl)) (by kernel_rfl) ⟨drewC p0, drewC p1, drewC p2, drewC p3, drewC q0, drewC q1, drewC q2, drewC q3⟩ (fun hHeld => ?_)
      refine takeFirst (i := 0) (v := ?_) rfl (by kernel_rfl) (by kernel_rfl) (by kernel_rfl) (by rfl) (fun _ _ _ h => h) ?_ (by assumption) ?_
      rotate_left
      · (intro w hSw; go_simp; try (with_reducible rfl))
      try simp only [Act.put, List.setIfInBounds_toArray, List.set_cons_zero, List.set_cons_succ]
      refine takeFirst (i := 1) (v := ?_) rfl (by kernel_rfl) (by kernel_rfl) (by kernel_rfl) (by rfl) (fun _ _ _ h => h) ?_ (by assumption) ?_
      rotate_left
      · (intro w hSw; go_simp; try (with_reducible rfl))
      try simp only [Act.put, List.setIfInBounds_toArray, List.set_cons_zero, List.set_cons_succ]
      refine takeFirst (i := 2) (v := ?_) rfl (by kernel_rfl) (by kernel_rfl) (by kernel_rfl) (by rfl) (fun _ _ _ h => h) ?_ (by assumption) ?_
      rotate_left
      · (intro w hSw; go_simp; try (with_reducible rfl))
      try simp only [Act.put, List.setIfInBounds_toArray, List.set_cons_zero, List.set_cons_succ]
      refine takeFirst (i := 3) (v := ?_) rfl (by kernel_rfl) (by kernel_rfl) (by kernel_rfl) (by rfl) (fun _ _ _ h => h) ?_ (by assumption) ?_
      rotate_left
      · (intro w hSw; go_simp; try (with_reducible rfl))
      try simp only [Act.put, List.setIfInBounds_toArray, List.set_cons_zero, List.set_cons_succ]
      refine takeFirst (i := 4) (v := ?_) rfl (by kernel_rfl) (by kernel_rfl) (by kernel_rfl) (by rfl) (fun _ _ _ h => h) ?_ (by assumption) ?_
      rotate_left
      · (intro w hSw; go_simp; try (with_reducible rfl))
      try simp only [Act.put, List.setIfInBounds_toArray, List.set_cons_zero, List.set_cons_succ]
      refine takeFirst (i := 5) (v := ?_) rfl (by kernel_rfl) (by kernel_rfl) (by kernel_rfl) (by rfl) (fun _ _ _ h => h) ?_ (by assumption) ?_
      rotate_left
      · (intro w hSw; go_simp; try (with_reducible rfl))
      try simp only [Act.put, List.setIfInBounds_toArray, List.set_cons_zero, List.set_cons_succ]
      refine takeFirst (i := 6) (v := ?_) rfl (by kernel_rfl) (by kernel_rfl) (by kernel_rfl) (by rfl) (fun _ _ _ h => h) ?_ (by assumption) ?_
      rotate_left
      · (intro w hSw; go_simp; try (with_reducible rfl))
      try simp only [Act.put, List.setIfInBounds_toArray, List.set_cons_zero, List.set_cons_succ]
      refine takeFirst (i := 7) (v := ?_) rfl (by kernel_rfl) (by kernel_rfl) (by kernel_rfl) (by rfl) (fun _ _ _ h => h) ?_ (by assumption) ?_
      rotate_left
      · (intro w hSw; go_simp; try (with_reducible rfl))
      try simp only [Act.put, List.setIfInBounds_toArray, List.set_cons_zero, List.set_cons_succ]
      refine takeFirst (i := 8) (v := ?_) rfl (by kernel_rfl) (by kernel_rfl) (by kernel_rfl) (by rfl) (fun _ _ _ h => h) ?_ (by assumption) ?_
      rotate_left
      · (intro w hSw; go_simp; try (with_reducible rfl))
      try simp only [Act.put, List.setIfInBounds_toArray, List.set_cons_zero, List.set_cons_succ]
      refine wpAnyH_done (by kernel_rfl) ?_ _
      refine NoPanic.normal ?_
      clear hHeld low p0 p1 p2 p3 q0 q1 q2 q3
      go_wp2_with fail
      go_roundw
      case rel => exact ⟨j + 1, by omega, by go_num, nn + 1, rfl⟩
      case measure => simp [intOf]; omega
    · obtain rfl : j = l.length := by omega
      go_wp2_with fail
      go_ret
      exact ⟨rfl, nn, rfl⟩
theorem equalDeeds_yes (v v' : Value) (l : List Dd) (w : World) (h : Ds w v l) (h' : Ds w v' l) :
    Calls Try.prog 10 #[v, v'] w fun e w' => e = .returned (.bool true) ∧ Below w.heap.size w w' := by
  refine (equalDeeds_quiet v v' l w h h').mono ?_
  rintro e w' ⟨h1, n, rfl⟩
  exact ⟨h1, gDrewN (Below.refl _ _) n⟩
end Go.Proofs.Ytgoaedbhcldmiaa
