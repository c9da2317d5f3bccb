/-
Proved: words for the steps of a search: a step's cells; a slice of them that the call owns, read, cut and grown; steps that are built. No condition.
-/
import Derived.Test.YtcegjehoejgofaaGreatPoint
namespace Go.Proofs.YtcegjehoejgofaaGreat
open Go.ChangeShapes Go.WideShapes Go.ChangeAt Go.RowKit Go.Joins
def stL (a : List Nat) (m : List Int) (n : Nat) : List Value := ptL a m ++ [Value.int .i64 (n : Int)]
def stpA (a : List Nat) (m : List Int) (n : Nat) : Array Value := (stL a m n).toArray
theorem stL_length {a : List Nat} {m : List Int} (ha : a.length = 8) (hm : m.length = 64) (n : Nat) : (stL a m n).length = 73 := by simp [stL, ptL_length ha hm]
theorem stpA_size {a : List Nat} {m : List Int} (ha : a.length = 8) (hm : m.length = 64) (n : Nat) : (stpA a m n).size = 73 := by simp [stpA, stL_length ha hm]
theorem stL_one (a : List Nat) (m : List Int) (n : Nat) : ∀ v ∈ stL a m n, v.oneCell' = true := by
 intro v hv
 rcases List.mem_append.1 hv with h | h
 ·exact ptL_one a m v h
 ·obtain rfl := List.mem_singleton.1 h
  rfl
theorem stpA_one (a : List Nat) (m : List Int) (n : Nat) : (stpA a m n).all (·.oneCell') = true := all_oneCell_toArray (stL_one a m n)
theorem stL_pt {a : List Nat} {m : List Int} (ha : a.length = 8) (hm : m.length = 64) {n j : Nat} (hj : j < 72) : (stL a m n)[j]? = (ptL a m)[j]? := by
 unfold stL
 rw [List.getElem?_append_left (by rw [ptL_length ha hm]; exact hj)]
theorem stL_next {a : List Nat} {m : List Int} (ha : a.length = 8) (hm : m.length = 64) (n : Nat) : (stL a m n)[72]? = some (.int .i64 (n : Int)) := by
 unfold stL
 rw [List.getElem?_append_right (by rw [ptL_length ha hm]; exact Nat.le_refl _), ptL_length ha hm]
 rfl
theorem tySt : Ty 147 (stpA zero8 zeroL 0) := ⟨by kernel_rfl, ⟨_, Tryz.underlying147, rfl⟩, fun w => by kernel_rfl⟩
theorem stpA_zsize {a : List Nat} {m : List Int} (ha : a.length = 8) (hm : m.length = 64) (n : Nat) : (stpA a m n).size = (stpA zero8 zeroL 0).size := by rw [stpA_size ha hm, stpA_size zero8_length zeroL_length]
theorem info_step : (Tryz.prog.info? 147).map (fun i => (i.zero, i.size, i.bytes)) = some (some (.agg (stpA zero8 zeroL 0)), 73, 584) := by kernel_rfl
def elS : El Stp where
 F := fun s => stL s.at_ s.mem s.next
 sz := 73
 t := 147
 len := fun s => stL_length s.ha s.hm s.next
 pos := by decide
 one := fun s => stL_one s.at_ s.mem s.next
 size := by kernel_rfl
section
variable {α : Type} {E : El α} {w w' : World} {v : Value} {l : List α} {g : Nat}
theorem El.Own.range (h : E.Own w g v l) {k : Nat} {x : α} (hx : l[k]? = some x) : w.rangeAt g (k * E.sz) (E.F x) := by
 obtain ⟨cap, cur, rfl, hb, h1, h2, h3, h4⟩ := h
 intro j u hu
 have hj := (List.getElem?_eq_some_iff.1 hu).1
 rw [E.len] at hj
 rw [hb.cell, h4 k x hx j hj, hu]
theorem El.Own.free (h : E.Own w g v l) (q : Nat) : w.frozen? ⟨g, q, none⟩ = false := by
 obtain ⟨cap, cur, rfl, hb, _⟩ := h
 exact hb.frozen q
theorem El.Own.front {A : Option Addr} {n c : Nat} (h : E.Own w g (.slice A n c) l) {k : Nat} (hk : k ≤ l.length) : E.Own w g (.slice A k c) (l.take k) := by
 obtain ⟨cap, cur, e, hb, h1, h2, h3, h4⟩ := h
 injection e with e1 e2 e3
 subst e1 e3
 have hl : (l.take k).length = k := by rw [List.length_take]; omega
 refine ⟨c, cur, by rw [hl], hb, by omega, h2, h3, fun q y hq r hr => ?_⟩
 have hqk : q < k := by have := (List.getElem?_eq_some_iff.1 hq).1; omega
 rw [List.getElem?_take_of_lt hqk] at hq
 exact h4 q y hq r hr
theorem El.Own.cap {n c : Nat} {A : Option Addr} (h : E.Own w g (.slice A n c) l) : A = some ⟨g, 0, none⟩ ∧ n = l.length ∧ n ≤ c ∧ c ≤ maxLen := by
 obtain ⟨cap, cur, e, hb, h1, h2, h3, h4⟩ := h
 injection e with e1 e2 e3
 subst e1 e2 e3
 exact ⟨rfl, rfl, h1, h2⟩
theorem El.Own.box (h : E.Own w g v l) : ∃ cur, Box w g E.t cur := by
 obtain ⟨cap, cur, rfl, hb, _⟩ := h
 exact ⟨cur, hb⟩
theorem El.Own.set1 (h : E.Own w g v l) {k j : Nat} {x : α} (hk : k < l.length) (hj : j < E.sz) {u : Value} (hx : (E.F x)[j]? = some u) (same : ∀ y, l[k]? = some y → ∀ r, r ≠ j → (E.F x)[r]? = (E.F y)[r]?) : E.Own (w.setCell ⟨g, k * E.sz + j, none⟩ u) g v (l.set k x) := by
 obtain ⟨cap, cur, rfl, hb, h1, h2, h3, h4⟩ := h
 have fit : k * E.sz + j < cur.size := by
  have : (k + 1) * E.sz ≤ cap * E.sz := Nat.mul_le_mul_right _ (by omega)
  rw [Nat.succ_mul] at this
  omega
 refine ⟨cap, _, by rw [List.length_set], hb.set _ u, by rw [List.length_set]; exact h1, h2, by rw [Array.size_setIfInBounds]; exact h3, fun q y hq r hr => ?_⟩
 rw [Array.getElem?_setIfInBounds]
 by_cases e : q = k
 ·subst e
  rw [List.getElem?_set_self hk] at hq
  cases hq
  by_cases er : r = j
  ·subst er
   rw [if_pos rfl, if_pos fit, hx]
  ·rw [if_neg (by omega), h4 q _ (List.getElem?_eq_getElem hk) r hr, same _ (List.getElem?_eq_getElem hk) r er]
 ·rw [List.getElem?_set_ne (fun h => e h.symm)] at hq
  have ne : ¬ k * E.sz + j = q * E.sz + r := by
   intro e2
   rcases Nat.lt_or_gt_of_ne e with c | c
   ·have : (q + 1) * E.sz ≤ k * E.sz := Nat.mul_le_mul_right _ c
    rw [Nat.succ_mul] at this
    omega
   ·have : (k + 1) * E.sz ≤ q * E.sz := Nat.mul_le_mul_right _ c
    rw [Nat.succ_mul] at this
    omega
  rw [if_neg ne, h4 q y hq r hr]
end
section
variable {w : World} {v : Value} {g : Nat} {l : List Stp}
theorem step_place (h : elS.Own w g v l) {k : Nat} {s : Stp} (hs : l[k]? = some s) : w.rangeAt g (k * 73) (ptA s.at_ s.mem).toList := fun j u hu => by
 have hj : j < 72 := by have := (List.getElem?_eq_some_iff.1 hu).1; rw [Array.length_toList, ptA_size s.ha s.hm] at this; exact this
 refine h.range hs j u ?_
 show (stL s.at_ s.mem s.next)[j]? = some u
 rw [stL_pt s.ha s.hm hj, ← hu]
 rfl
theorem step_next (h : elS.Own w g v l) {k : Nat} {s : Stp} (hs : l[k]? = some s) : w.cell? ⟨g, k * 73 + 72, none⟩ = some (.int .i64 (s.next : Int)) := h.range hs 72 _ (stL_next s.ha s.hm s.next)
theorem step_set (h : elS.Own w g v l) {k : Nat} {s s' : Stp} (hs : l[k]? = some s) (ea : s'.at_ = s.at_) (em : s'.mem = s.mem) : elS.Own (w.setCell ⟨g, k * 73 + 72, none⟩ (.int .i64 (s'.next : Int))) g v (l.set k s') := by
 have hk := (List.getElem?_eq_some_iff.1 hs).1
 refine El.Own.set1 (E := elS) h hk (show 72 < 73 by omega) (stL_next s'.ha s'.hm s'.next) (fun y hy r hr => ?_)
 rw [hs] at hy
 cases hy
 show (stL s'.at_ s'.mem s'.next)[r]? = (stL s.at_ s.mem s.next)[r]?
 rw [ea, em]
 by_cases h72 : r < 72
 ·rw [stL_pt s.ha s.hm h72, stL_pt s.ha s.hm h72]
 ·rw [List.getElem?_eq_none (by rw [stL_length s.ha s.hm]; omega), List.getElem?_eq_none (by rw [stL_length s.ha s.hm]; omega)]
end
set_option maxRecDepth 10000 in
theorem build_pt_fn (g : Nat → Int) (w : World) : (Instr.build 145 #[(1, memV ((List.range 64).map g))]).run Tryz.prog w = .ok (.agg (ptA zero8 ((List.range 64).map g))) w := by kernel_rfl
theorem build_pt {m : List Int} (hm : m.length = 64) (w : World) : (Instr.build 145 #[(1, memV m)]).run Tryz.prog w = .ok (.agg (ptA zero8 m)) w := by
 rw [list_fn hm 0]
 exact build_pt_fn _ w
set_option maxRecDepth 10000 in
theorem build_st_fn (f : Nat → Nat) (g : Nat → Int) (w : World) : (Instr.build 147 #[(0, .agg (ptA ((List.range 8).map f) ((List.range 64).map g)))]).run Tryz.prog w = .ok (.agg (stpA ((List.range 8).map f) ((List.range 64).map g) 0)) w := by kernel_rfl
theorem build_st {a : List Nat} {m : List Int} (ha : a.length = 8) (hm : m.length = 64) (w : World) : (Instr.build 147 #[(0, .agg (ptA a m))]).run Tryz.prog w = .ok (.agg (stpA a m 0)) w := by
 rw [list_fn ha 0, list_fn hm 0]
 exact build_st_fn _ _ w
set_option maxRecDepth 10000 in
theorem slice_st_fn (f : Nat → Nat) (g : Nat → Int) (w : World) : (Instr.buildSlice 148 1 #[(0, .agg (stpA ((List.range 8).map f) ((List.range 64).map g) 0))]).run Tryz.prog w = .ok (.slice (some ⟨w.heap.size, 0, none⟩) 1 1) (w.alloc (.cells (stpA ((List.range 8).map f) ((List.range 64).map g) 0) 147)) := by kernel_rfl
theorem slice_st {a : List Nat} {m : List Int} (ha : a.length = 8) (hm : m.length = 64) (w : World) : (Instr.buildSlice 148 1 #[(0, .agg (stpA a m 0))]).run Tryz.prog w = .ok (.slice (some ⟨w.heap.size, 0, none⟩) 1 1) (w.alloc (.cells (stpA a m 0) 147)) := by
 rw [list_fn ha 0, list_fn hm 0]
 exact slice_st_fn _ _ w
section
variable {ops : Array Oper} {rest : List Oper} {dst : Option Tmp} {t : TypeId} {pos : String} {after : Array Edge} {a : Act} {w : World} {Q : Exit → Act → World → Prop} {x : Operand} {c : List Nat} {m : List Int}
theorem wp_buildPt (hm : m.length = 64) (hx : a.eval x = memV m) (h : wpList Tryz.prog ops Q rest (a.put dst (.agg (ptA zero8 m))) w) : wpList Tryz.prog ops Q (⟨dst, .build 145 #[(1, x)], t, pos, after, none⟩ :: rest) a w := by
 refine wpList_plain rfl fun K hK => ?_
 unfold Oper.wp execOp
 simp only [List.map_toArray, List.map_cons, List.map_nil, hx, build_pt hm, Sem.run_bind, Sem.run_pure, Result.andThen_ok]
 exact hK _ _ h
theorem wp_buildSt (hc : c.length = 8) (hm : m.length = 64) (hx : a.eval x = .agg (ptA c m)) (h : wpList Tryz.prog ops Q rest (a.put dst (.agg (stpA c m 0))) w) : wpList Tryz.prog ops Q (⟨dst, .build 147 #[(0, x)], t, pos, after, none⟩ :: rest) a w := by
 refine wpList_plain rfl fun K hK => ?_
 unfold Oper.wp execOp
 simp only [List.map_toArray, List.map_cons, List.map_nil, hx, build_st hc hm, Sem.run_bind, Sem.run_pure, Result.andThen_ok]
 exact hK _ _ h
theorem wp_sliceSt (hc : c.length = 8) (hm : m.length = 64) (hx : a.eval x = .agg (stpA c m 0)) (h : wpList Tryz.prog ops Q rest (a.put dst (.slice (some ⟨w.heap.size, 0, none⟩) 1 1)) (w.alloc (.cells (stpA c m 0) 147))) : wpList Tryz.prog ops Q (⟨dst, .buildSlice 148 1 #[(0, x)], t, pos, after, none⟩ :: rest) a w := by
 refine wpList_plain rfl fun K hK => ?_
 unfold Oper.wp execOp
 simp only [List.map_toArray, List.map_cons, List.map_nil, hx, slice_st hc hm, Sem.run_bind, Sem.run_pure, Result.andThen_ok]
 exact hK _ _ h
end
theorem one_step (s : Stp) {w : World} {g : Nat} (b : Box w g 147 (stpA s.at_ s.mem s.next)) : elS.Own w g (.slice (some ⟨g, 0, none⟩) 1 1) [s] := by
 refine ⟨1, _, rfl, b, Nat.le_refl _, by unfold maxLen; decide, by rw [stpA_size s.ha s.hm]; rfl, fun q y hq r hr => ?_⟩
 cases q with
 | zero =>
  cases hq
  rw [Nat.zero_mul, Nat.zero_add, stpA, List.getElem?_toArray]
  rfl
 | succ q => simp at hq
end Go.Proofs.YtcegjehoejgofaaGreat
