/-
Proved: what the next place of a search is (point.after of package order); nothing that was there is changed. Conditions: the operations are right, and no more of a log is taken than it has.
-/
import Derived.Test.YtcegjehoejgofaaGreatSteps
import Derived.Test.YtcegjehoejgofaaGreatOrderFns
import Derived.Test.YtcegjehoejgofaaGreatJoined1
namespace Go.Proofs.YtcegjehoejgofaaGreat
open Go.ChangeShapes Go.WideShapes Go.ChangeAt Go.RowKit Go.Joins
def gotP (x : Option (List Nat × List Int)) : List Nat × List Int := x.getD (zero8, zeroL)
theorem tyMemo : Ty 29 (memA zeroL) := ⟨by kernel_rfl, ⟨_, Tryz.underlying29, rfl⟩, fun w => by kernel_rfl⟩
theorem pt_mem {w : World} {g : Nat} {t : TypeId} {a : List Nat} {m : List Int} (ha : a.length = 8) (b : Box w g t (ptA a m)) : w.rangeAt g 8 (memA m).toList := fun j u hu => by
 rw [b.cell, ptA, List.getElem?_toArray, ptL_mem ha]
 rwa [memA_list] at hu
theorem memA_zsize {m : List Int} (hm : m.length = 64) : (memA m).size = (memA zeroL).size := by rw [memA_size, memA_size, hm, zeroL_length]
theorem drewNC {w : World} {p : Addr} {z : Value} (n : Nat) (h : w.cell? p = some z) : (w.drewN n).cell? p = some z := h
section
variable {ops : Array Oper} {rest : List Oper} {dst : Option Tmp} {t : TypeId} {pos : String} {after : Array Edge} {act : Act} {w : World} {Q : Exit → Act → World → Prop} {x y : Operand} {g : Nat} {T : TypeId} {a : List Nat} {m m' : List Int}
theorem wp_putMem (hb : Box w g T (ptA a m)) (ha : a.length = 8) (hm : m.length = 64) (hm' : m'.length = 64) (hx : act.eval x = .pointer (some ⟨g, 8, none⟩)) (hy : act.eval y = memV m')
  (h : ∀ w', Box w' g T (ptA a m') → Stored w g w' → wpList Tryz.prog ops Q rest (act.put dst undef) w') : wpList Tryz.prog ops Q (⟨dst, .store 29 x y, t, pos, after, none⟩ :: rest) act w := by
 refine wpList_store_mid rfl 29 x y rfl g 8 (memA m') hx hy (fun j hj => ⟨?_, hb.frozen _⟩) (by rw [tyMemo.size, memA_zsize hm']) (memA_one m') ?_
 ·rw [memA_size, hm'] at hj
  rw [hb.cell, Array.getElem?_eq_getElem (by rw [ptA_size ha hm]; omega)]
  rfl
 ·obtain ⟨cur', h1, h2, h3, h4, h5⟩ := setCells_box (memA m').toList 8 hb (by rw [memA_list, List.length_map, ptA_size ha hm, hm']; exact Nat.le_refl _)
  have e : cur' = ptA a m' := by
   apply Array.ext_getElem?
   intro q
   rw [memA_list, List.length_map, hm'] at h3 h4
   by_cases h8 : q < 8
   ·rw [h3 q (.inl h8), ptA, ptA, List.getElem?_toArray, List.getElem?_toArray, ptL, ptL, List.getElem?_append_left (by simp [cntL, ha]; exact h8), List.getElem?_append_left (by simp [cntL, ha]; exact h8)]
   ·by_cases h72 : q < 72
    ·obtain ⟨j, rfl⟩ : ∃ j, q = 8 + j := ⟨q - 8, by omega⟩
     rw [h4 j (by omega), ptA, List.getElem?_toArray, ptL_mem ha]
    ·rw [Array.getElem?_eq_none (by rw [h2, ptA_size ha hm]; omega), Array.getElem?_eq_none (by rw [ptA_size ha hm']; omega)]
  rw [e] at h1
  exact h _ h1 h5
end
set_option maxRecDepth 10000 in
set_option maxHeartbeats 4000000 in
theorem after_end (v : Value) (logs : List (List Td)) (w : World) (a : List Nat) (m : List Int) (k : Nat) (l : List Td) (h : elT.RR w v logs) (h8 : logs.length ≤ 8) (_ha : a.length = 8) (_hm : m.length = 64) (h1 : logs[k]? = some l) (h2 : a[k]? = some l.length) :
  Calls Tryz.prog 66 #[.agg (ptA a m), v, .int .i64 k] w fun e w' => e = .returned (.tuple #[.agg (ptA zero8 zeroL), .bool false]) ∧ Below w.heap.size w w' := by
 have hk := (List.getElem?_eq_some_iff.1 h1).1
 obtain ⟨A, c, rfl, q1, q2, q3⟩ := h.ex
 have L3 := Lib.hid q3
 unfold maxLen at q2
 clear h q3
 have low := Below.refl w.heap.size w
 have pb := boxNext low 145 (ptA a m)
 replace low := gAlloc low (.cells (ptA a m) 145)
 try simp only [World.size_alloc] at pb
 have ob := boxNext low 145 (ptA zero8 zeroL)
 replace low := gAlloc low (.cells (ptA zero8 zeroL) 145)
 replace pb := pb.alloc (.cells (ptA zero8 zeroL) 145)
 try simp only [World.size_alloc] at ob
 obtain ⟨b1, o1, rfl, hb1, hc1⟩ := L3.out (by omega)
 obtain ⟨A8, c8, e8, ds⟩ := hc1 k l h1
 have cl := (low.cell (p := ⟨b1, o1 + k, none⟩) hb1).trans e8
 obtain ⟨_, A9, c9, e9, k1', k2', k3'⟩ := ds
 obtain ⟨rfl, rfl⟩ : A8 = A9 ∧ c8 = c9 := by injection e9 with e5 _ e6; exact ⟨e5, e6⟩
 have K3 := Lib.hid k3'
 unfold maxLen at k2'
 have ct := pb.at_ k (ptA_at h2)
 have k0 : (0 : Int) ≤ k := by omega
 have k1 : (k : Int) < logs.length := by omega
 have k8 : (k : Int) < 8 := by omega
 have d1 : decide ((logs.length : Int) ≤ (k : Int)) = false := decide_eq_false (by omega)
 have d1n : decide (logs.length ≤ k) = false := decide_eq_false (by omega)
 have H1 := Lib.hid h1
 have H2 := Lib.hid h2
 clear hc1 e8 e9 k3' h1 h2
 go_enter Tryz.func66, Tryz.ntmps66
 go_wp2_with (with_reducible refine wp_newW (tyPt) ?_)
 go_quiet (fail)
 replace ob := ob.drewN nq
 replace low := gDrewN low nq
 go_wp2_with (first | (with_reducible refine wp_zeroW (tyPt) ?_) | ((with_reducible refine wp_storeW (tyPt) (ob) (rfl) (rfl) (ptA_one zero8 zeroL) ?_ ?_ ?_); rfl; rfl))
 intro w3 ob3 st
 replace low := st.low low (by omega)
 go_wp2_with fail
 refine bodyPost_ret (v := .tuple #[.agg (ptA zero8 zeroL), .bool false]) (results_first tyPt Tryz.results66 rfl rfl ob3 rfl) rfl ⟨rfl, low⟩
def AfterIs (m : List Int) (a : List Nat) (k j : Nat) (t : Td) (e : Ending) : Prop := ∃ x, x = (if doV m t.d = t.v then some (a.set k (j + 1), doM m t.d) else none) ∧ e = .returned (.tuple #[.agg (ptA (gotP x).1 (gotP x).2), .bool x.isSome])
set_option maxRecDepth 10000 in
set_option maxHeartbeats 8000000 in
theorem after_here (v : Value) (logs : List (List Td)) (w : World) (a : List Nat) (m : List Int) (k j : Nat) (l : List Td) (t : Td) (h : elT.RR w v logs) (h8 : logs.length ≤ 8) (ha : a.length = 8) (hm : m.length = 64) (h1 : logs[k]? = some l) (h2 : a[k]? = some j) (h3 : l[j]? = some t) (hd : deedE t.d = 0) (hl : l.length ≤ 140737488355328) :
  Calls Tryz.prog 66 #[.agg (ptA a m), v, .int .i64 k] w fun e w' => AfterIs m a k j t e ∧ Below w.heap.size w w' := by
 have hk := (List.getElem?_eq_some_iff.1 h1).1
 have jl := (List.getElem?_eq_some_iff.1 h3).1
 obtain ⟨A, c, rfl, q1, q2, q3⟩ := h.ex
 have L3 := Lib.hid q3
 unfold maxLen at q2
 clear h q3
 have low := Below.refl w.heap.size w
 have pb := boxNext low 145 (ptA a m)
 replace low := gAlloc low (.cells (ptA a m) 145)
 try simp only [World.size_alloc] at pb
 have ob := boxNext low 145 (ptA zero8 zeroL)
 replace low := gAlloc low (.cells (ptA zero8 zeroL) 145)
 replace pb := pb.alloc (.cells (ptA zero8 zeroL) 145)
 try simp only [World.size_alloc] at ob
 obtain ⟨b1, o1, rfl, hb1, hc1⟩ := L3.out (by omega)
 obtain ⟨A8, c8, e8, ds⟩ := hc1 k l h1
 have cl := (low.cell (p := ⟨b1, o1 + k, none⟩) hb1).trans e8
 obtain ⟨_, A9, c9, e9, k1', k2', k3'⟩ := ds
 obtain ⟨rfl, rfl⟩ : A8 = A9 ∧ c8 = c9 := by injection e9 with e5 _ e6; exact ⟨e5, e6⟩
 have K3 := Lib.hid k3'
 unfold maxLen at k2'
 have ct := pb.at_ k (ptA_at h2)
 have k0 : (0 : Int) ≤ k := by omega
 have k1 : (k : Int) < logs.length := by omega
 have k8 : (k : Int) < 8 := by omega
 have d1 : decide ((logs.length : Int) ≤ (k : Int)) = false := decide_eq_false (by omega)
 have d1n : decide (logs.length ≤ k) = false := decide_eq_false (by omega)
 have H1 := Lib.hid h1
 have H2 := Lib.hid h2
 clear hc1 e8 e9 k3' h1 h2
 go_enter Tryz.func66, Tryz.ntmps66
 go_wp2_with (with_reducible refine wp_newW (tyPt) ?_)
 go_quiet (fail)
 replace ob := ob.drewN nq
 replace pb := pb.drewN nq
 replace low := gDrewN low nq
 replace cl := drewNC nq cl
 replace ct := drewNC nq ct
 obtain ⟨b3, o3, rfl, hb3, hc3⟩ := K3.out (by omega)
 obtain ⟨x0, x1, x2, x3, x4⟩ := toldAt_of hc3 hb3 low h3
 have DO := Lib.hid fun w => atomicDo_ok m hm t.d hd w
 have HR := Lib.hid fun w => hasResult_any t (doV m t.d) w
 have HN := doM_length t.d hm
 have VB := Lib.hid (show (t.v == doV m t.d) = decide (doV m t.d = t.v) by
  rw [Bool.eq_iff_iff]; simp only [beq_iff_eq, decide_eq_true_eq]; exact eq_comm)
 have YES := Lib.hid (show doV m t.d = t.v → AfterIs m a k j t (.returned (.tuple #[.agg (ptA (a.set k (j + 1)) (doM m t.d)), .bool true])) from fun e => ⟨_, (if_pos e).symm, rfl⟩)
 have NO := Lib.hid (show ¬ doV m t.d = t.v → AfterIs m a k j t (.returned (.tuple #[.agg (ptA zero8 zeroL), .bool false])) from fun e => ⟨_, (if_neg e).symm, rfl⟩)
 generalize hvv : doV m t.d = V at *
 generalize doM m t.d = M at *
 obtain ⟨⟨xn, xk, xa, xv⟩, tv⟩ := t
 simp only at x0 x1 x2 x3 x4 VB ⊢
 have j0 : (0 : Int) ≤ j := by omega
 have j1 : (j : Int) < l.length := by omega
 have d2 : decide ((l.length : Int) ≤ (j : Int)) = false := decide_eq_false (by omega)
 have d2n : decide (l.length ≤ j) = false := decide_eq_false (by omega)
 have djl : ((j : Int) == (l.length : Int)) = false := by simp; omega
 have gp : w.heap.size < w.heap.size + 1 := by omega
 clear hc3 h3 hvv K3
 go_wp2_with fail
 generalize ((w.alloc (.cells (ptA a m) 145)).alloc (.cells (ptA zero8 zeroL) 145)).drewN nq = wy at *
 refine wp_region_noPanic ?_
 refine wp_region_held_drew (S := fun w' => w'.cell? ⟨b1, o1 + k, none⟩ = some (.slice (some ⟨b3, o3, none⟩) l.length c8) ∧ w'.cell? ⟨w.heap.size, k, none⟩ = some (.int .i64 (j : Int)) ∧
  w'.cell? ⟨b3, o3 + j * 5, none⟩ = some (.int .i64 xn) ∧ w'.cell? ⟨b3, o3 + j * 5 + 1, none⟩ = some (.int .i64 xk) ∧ w'.cell? ⟨b3, o3 + j * 5 + 2, none⟩ = some (.int .i64 xa) ∧ w'.cell? ⟨b3, o3 + j * 5 + 3, none⟩ = some (.int .u64 xv) ∧ w'.cell? ⟨b3, o3 + j * 5 + 4, none⟩ = some (.int .u64 tv)) (by kernel_rfl) ⟨drewC cl, drewC ct, drewC x0, drewC x1, drewC x2, drewC x3, drewC x4⟩ (fun hHeld => ?_)
 clear x0 x1 x2 x3 x4 cl
 refine takeA 0 ?_ rfl ?_ ?_; rotate_left
 ·(intro w hSw; go_simp; try (with_reducible rfl))
 try simp only [Act.put, List.setIfInBounds_toArray, List.set_cons_zero, List.set_cons_succ]
 refine takeA 1 ?_ rfl ?_ ?_; rotate_left
 ·(intro w hSw; go_simp; try (with_reducible rfl))
 try simp only [Act.put, List.setIfInBounds_toArray, List.set_cons_zero, List.set_cons_succ]
 refine takeA 2 ?_ rfl ?_ ?_; rotate_left
 ·(intro w hSw; go_simp; try (with_reducible rfl))
 try simp only [Act.put, List.setIfInBounds_toArray, List.set_cons_zero, List.set_cons_succ]
 refine takeA 3 ?_ rfl ?_ ?_; rotate_left
 ·(intro w hSw; go_simp; try (with_reducible rfl))
 try simp only [Act.put, List.setIfInBounds_toArray, List.set_cons_zero, List.set_cons_succ]
 refine takeA 4 ?_ rfl ?_ ?_; rotate_left
 ·(intro w hSw; go_simp; try (with_reducible rfl))
 try simp only [Act.put, List.setIfInBounds_toArray, List.set_cons_zero, List.set_cons_succ]
 refine takeA 5 ?_ rfl ?_ ?_; rotate_left
 ·(intro w hSw; go_simp; try (with_reducible rfl))
 try simp only [Act.put, List.setIfInBounds_toArray, List.set_cons_zero, List.set_cons_succ]
 refine takeA 6 ?_ rfl ?_ ?_; rotate_left
 ·(intro w hSw; go_simp; try (with_reducible rfl))
 try simp only [Act.put, List.setIfInBounds_toArray, List.set_cons_zero, List.set_cons_succ]
 refine takeA 7 ?_ rfl ?_ ?_; rotate_left
 ·(intro w hSw; go_simp; try (with_reducible rfl))
 try simp only [Act.put, List.setIfInBounds_toArray, List.set_cons_zero, List.set_cons_succ]
 refine takeA 8 ?_ rfl ?_ ?_; rotate_left
 ·(intro w hSw; go_simp; try (with_reducible rfl))
 try simp only [Act.put, List.setIfInBounds_toArray, List.set_cons_zero, List.set_cons_succ]
 refine takeA 9 ?_ rfl ?_ ?_; rotate_left
 ·(intro w hSw; go_simp; try (with_reducible rfl))
 try simp only [Act.put, List.setIfInBounds_toArray, List.set_cons_zero, List.set_cons_succ]
 refine stepNext (i := 10) (by kernel_rfl) rfl (by rfl) (fun K hK => ?_)
 go_simp
 have gy := ob.lt
 have tb := (Box.new wy 53 #[.int .i64 0, .int .i64 0, .int .i64 0, .int .u64 0, .int .u64 0]).drew
 replace low := (gAlloc low (.cells #[.int .i64 0, .int .i64 0, .int .i64 0, .int .u64 0, .int .u64 0] 53)).drew
 replace pb := (pb.alloc (.cells #[.int .i64 0, .int .i64 0, .int .i64 0, .int .u64 0, .int .u64 0] 53)).drew
 replace ob := (ob.alloc (.cells #[.int .i64 0, .int .i64 0, .int .i64 0, .int .u64 0, .int .u64 0] 53)).drew
 obtain ⟨hh0, hh1, hh2, hh3, hh4, hh5, hh6⟩ := hHeld
 have hHeld := (And.intro (drewC (allocC (.cells #[.int .i64 0, .int .i64 0, .int .i64 0, .int .u64 0, .int .u64 0] 53) hh0)) (And.intro (drewC (allocC (.cells #[.int .i64 0, .int .i64 0, .int .i64 0, .int .u64 0, .int .u64 0] 53) hh1)) (And.intro (drewC (allocC (.cells #[.int .i64 0, .int .i64 0, .int .i64 0, .int .u64 0, .int .u64 0] 53) hh2)) (And.intro (drewC (allocC (.cells #[.int .i64 0, .int .i64 0, .int .i64 0, .int .u64 0, .int .u64 0] 53) hh3)) (And.intro (drewC (allocC (.cells #[.int .i64 0, .int .i64 0, .int .i64 0, .int .u64 0, .int .u64 0] 53) hh4)) (And.intro (drewC (allocC (.cells #[.int .i64 0, .int .i64 0, .int .i64 0, .int .u64 0, .int .u64 0] 53) hh5)) (drewC (allocC (.cells #[.int .i64 0, .int .i64 0, .int .i64 0, .int .u64 0, .int .u64 0] 53) hh6))))))))
 clear hh0 hh1 hh2 hh3 hh4 hh5 hh6
 refine hK.out _ _ hHeld ?_
 clear hK K
 try simp only [Act.put]
 try simp only [List.setIfInBounds_toArray, List.set_cons_zero, List.set_cons_succ]
 refine stepNext (i := 11) (by kernel_rfl) rfl (by rfl) (fun K hK => ?_)
 refine wp_store_box 53 (.tmp 8) (.tmp 32) rfl _ #[.int .i64 xn, .int .i64 xk, .int .i64 xa, .int .u64 xv, .int .u64 tv] rfl rfl tb (by kernel_rfl) rfl (by simp [Value.oneCell']) ?_
 intro w4 tb4 st
 have pb4 := st.box pb (by omega)
 have ob4 := st.box ob (by omega)
 replace low := st.low low (by omega)
 obtain ⟨hh0, hh1, hh2, hh3, hh4, hh5, hh6⟩ := hHeld
 have hHeld := (And.intro (st.cell (by dsimp only; omega) hh0) (And.intro (st.cell (by dsimp only; omega) hh1) (And.intro (st.cell (by dsimp only; omega) hh2) (And.intro (st.cell (by dsimp only; omega) hh3) (And.intro (st.cell (by dsimp only; omega) hh4) (And.intro (st.cell (by dsimp only; omega) hh5) (st.cell (by dsimp only; omega) hh6)))))))
 clear hh0 hh1 hh2 hh3 hh4 hh5 hh6
 clear tb st pb ob
 refine hK.out _ _ hHeld ?_
 clear hK K
 try simp only [Act.put]
 try simp only [List.setIfInBounds_toArray, List.set_cons_zero, List.set_cons_succ]
 refine wpAnyH_done (by kernel_rfl) ?_ _
 refine NoPanic.normal ?_
 have ct4 := hHeld.2.1
 clear hHeld ct
 generalize wy.heap.size = gt at *
 have tb4_0 := tb4.at_ 0 rfl
 have tb4_1 := tb4.at_ 1 rfl
 have tb4_2 := tb4.at_ 2 rfl
 have tb4_3 := tb4.at_ 3 rfl
 go_wp2_with ((with_reducible refine wp_loadW (tyMemo) (pt_mem ha pb4) (memA_zsize hm) ?_ ?_ ?_); rfl; rfl)
 (with_reducible refine (DO.out _).mono ?_); rintro e w5 ⟨rfl, hb5⟩
 clear tb4_0 tb4_1 tb4_2 tb4_3
 have nb := Mb.new (l := M) w5 HN
 have gq := (pb4.call hb5).lt
 replace pb4 := (pb4.call hb5).alloc (.cells (memA M) 29)
 replace ob4 := (ob4.call hb5).alloc (.cells (memA M) 29)
 replace tb4 := (tb4.call hb5).alloc (.cells (memA M) 29)
 replace low := gAlloc (gCall low hb5) (.cells (memA M) 29)
 have z5 := hb5.size
 clear hb5 DO
 have gn := nb.lt
 have tb4_0 := tb4.at_ 0 rfl
 have tb4_1 := tb4.at_ 1 rfl
 have tb4_2 := tb4.at_ 2 rfl
 have tb4_3 := tb4.at_ 3 rfl
 have tb4_4 := tb4.at_ 4 rfl
 go_wp2_with (first | (with_reducible refine wp_newMem ?_) | ((with_reducible refine wp_storeNew (zeroL_length) (HN) ?_ ?_ ?_); rfl; rfl))
 (with_reducible refine (HR.out _).mono ?_); rintro e w6 ⟨rfl, hb6⟩
 clear tb4_0 tb4_1 tb4_2 tb4_3 tb4_4
 replace nb := nb.call hb6
 replace pb4 := pb4.call hb6
 replace ob4 := ob4.call hb6
 replace low := gCall low hb6
 have ct6 := pb4.at_ k (ptA_at H2.out)
 clear hb6 HR tb4 ct4
 by_cases hv : V = tv
 ·have hB : decide (V = tv) = true := decide_eq_true hv
  rw [VB.out, hB]
  have fr := pb4.frozen k
  have pb7 : Box (w6.setCell ⟨w.heap.size, k, none⟩ (.int .i64 ((j : Int) + 1))) w.heap.size 145 (ptA (a.set k (j + 1)) m) := by
   have := pb4.set k (.int .i64 ((j + 1 : Nat) : Int))
   rw [ptA_set (by omega)] at this
   exact this
  have st7 := Stored.cell1 w6 ⟨w.heap.size, k, none⟩ (.int .i64 ((j : Int) + 1))
  have hs : (a.set k (j + 1)).length = 8 := by rw [List.length_set]; exact ha
  have nb7 : Mb (w6.setCell ⟨w.heap.size, k, none⟩ (.int .i64 ((j : Int) + 1))) w5.heap.size M := ⟨st7.box nb.1 (by dsimp only; omega), nb.2⟩
  have ob7 := st7.box ob4 (by dsimp only; omega)
  replace low := st7.low low (by dsimp only; omega)
  have hj47 : (j : Int) < 140737488355328 := by omega
  clear VB nb pb4 ob4 st7
  go_wp2_with (first | ((with_reducible refine wp_loadMem (nb7) ?_ ?_ ?_); rfl; rfl) | ((with_reducible refine wp_putMem pb7 hs hm HN ?_ ?_ ?_); rfl; rfl))
  intro w8 pb8 st8
  have ob8 := st8.box ob7 (by omega)
  replace low := st8.low low (by omega)
  have hz := ptA_zsize hs HN
  have on := ptA_one (a.set k (j + 1)) M
  clear st8 ob7 nb7 pb7
  go_wp2_with (first | ((with_reducible refine wp_loadW (tyPt) (pb8.range) (hz) ?_ ?_ ?_); rfl; rfl) | ((with_reducible refine wp_storeW (tyPt) (ob8) (rfl) (hz) (on) ?_ ?_ ?_); rfl; rfl))
  intro w9 ob9 st9
  replace low := st9.low low (by omega)
  clear st9 ob8 pb8
  go_wp2_with fail
  refine bodyPost_ret (v := .tuple #[.agg (ptA (a.set k (j + 1)) M), .bool true]) (results_first tyPt Tryz.results66 rfl rfl ob9 hz) rfl ⟨YES.out hv, low⟩
 ·have hB : decide (V = tv) = false := decide_eq_false hv
  rw [VB.out, hB]
  clear VB nb pb4 ct6
  go_wp2_with (first | (with_reducible refine wp_zeroW (tyPt) ?_) | ((with_reducible refine wp_storeW (tyPt) (ob4) (rfl) (rfl) (ptA_one zero8 zeroL) ?_ ?_ ?_); rfl; rfl))
  intro w9 ob9 st9
  replace low := st9.low low (by omega)
  go_wp2_with fail
  refine bodyPost_ret (v := .tuple #[.agg (ptA zero8 zeroL), .bool false]) (results_first tyPt Tryz.results66 rfl rfl ob9 rfl) rfl ⟨NO.out hv, low⟩
theorem after_any (v : Value) (logs : List (List Td)) (w : World) (a : List Nat) (m : List Int) (k : Nat) (h : elT.RR w v logs) (h8 : logs.length ≤ 8) (hfew : ∀ l ∈ logs, l.length ≤ 140737488355328) (ok : ∀ l ∈ logs, ∀ t ∈ l, deedE t.d = 0) (ha : a.length = 8) (hm : m.length = 64) (hup : Upto logs a) (hk : k < logs.length) :
  Calls Tryz.prog 66 #[.agg (ptA a m), v, .int .i64 k] w fun e w' => e = .returned (.tuple #[.agg (ptA (gotP (stepK logs m a k)).1 (gotP (stepK logs m a k)).2), .bool (stepK logs m a k).isSome]) ∧ Below w.heap.size w w' := by
 have h1 : logs[k]? = some logs[k] := List.getElem?_eq_getElem _
 have h2 : a[k]? = some (a[k]'(by omega)) := List.getElem?_eq_getElem _
 generalize logs[k] = l at h1
 generalize a[k]'(by omega) = j at h2
 have hj := hup k l j h1 h2
 have hl := List.mem_of_getElem? h1
 by_cases he : j = l.length
 ·subst he
  have e : stepK logs m a k = none := by simp [stepK, h1, h2]
  rw [e]
  exact after_end v logs w a m k l h h8 ha hm h1 h2
 ·have h3 : l[j]? = some (l[j]'(by omega)) := List.getElem?_eq_getElem _
  generalize l[j]'(by omega) = t at h3
  refine (after_here v logs w a m k j l t h h8 ha hm h1 h2 h3 (ok l hl t (List.mem_of_getElem? h3)) (hfew l hl)).mono ?_
  rintro e w' ⟨⟨x, hx, rfl⟩, hb⟩
  have e : stepK logs m a k = x := by rw [hx]; simp [stepK, h1, h2, h3]
  rw [e]
  exact ⟨rfl, hb⟩
theorem stepK_lengths {logs : List (List Td)} {m : List Int} {a : List Nat} {k : Nat} {x : List Nat × List Int} (ha : a.length = 8) (hm : m.length = 64) (h : stepK logs m a k = some x) : x.1.length = 8 ∧ x.2.length = 64 := by
 obtain ⟨l, j, t, _, _, _, _, rfl⟩ := stepK_some h
 exact ⟨by rw [List.length_set]; exact ha, doM_length t.d hm⟩
end Go.Proofs.YtcegjehoejgofaaGreat
