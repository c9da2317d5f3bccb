/-
Proved: the second half of the law 'OrderFinds': operations that were played, sorted by their nodes, are explained. Conditions: what Explain of package order gives (handed in).
-/
import Derived.Test.YtgoaedbhcldmiaaPathFacts
import Derived.Test.YtgoaedbhcldmiaaSide
import Derived.Test.YtgoaedbhcldmiaaOrderYes
import Derived.Test.YtgoaedbhcldmiaaOrderExpl
import Derived.Test.YtgoaedbhcldmiaaAtomic3
namespace Go.Proofs.Ytgoaedbhcldmiaa.orderFinds
open Go.ChangeShapes Go.WideShapes Go.ChangeAt Go.RowKit Go.Joins

/-- Operations and what they tell. -/
def tdsL (m : List Int) (r : List Dd) : List Td := List.zipWith Td.mk r (runV m r)
theorem tdsL_length (m : List Int) (r : List Dd) : (tdsL m r).length = r.length := by simp [tdsL, runV_length]
theorem tdsL_d (m : List Int) (r : List Dd) : (tdsL m r).map Td.d = r := by
  apply List.ext_getElem?
  intro i
  by_cases h : i < r.length
  · have h2 : i < (runV m r).length := by rw [runV_length]; exact h
    simp [tdsL, List.getElem?_zipWith, List.getElem?_eq_getElem h, List.getElem?_eq_getElem h2]
  · rw [List.getElem?_eq_none (by simp [tdsL, runV_length]; omega), List.getElem?_eq_none (by omega)]
theorem tdsL_v (m : List Int) (r : List Dd) : (tdsL m r).map Td.v = runV m r := by
  apply List.ext_getElem?
  intro i
  by_cases h : i < r.length
  · have h2 : i < (runV m r).length := by rw [runV_length]; exact h
    simp [tdsL, List.getElem?_zipWith, List.getElem?_eq_getElem h, List.getElem?_eq_getElem h2]
  · rw [List.getElem?_eq_none (by simp [tdsL, runV_length]; omega), List.getElem?_eq_none (by rw [runV_length]; omega)]
theorem tdsL_legal (m : List Int) (r : List Dd) : legB m (tdsL m r) = true := by
  unfold legB
  rw [tdsL_d, tdsL_v]
  simp
theorem tdsL_at {m : List Int} {r : List Dd} {j : Nat} {x : Dd} {v : Int} (h : r[j]? = some x) (hv : (runV m r)[j]? = some v) : (tdsL m r)[j]? = some ⟨x, v⟩ := by
  simp [tdsL, List.getElem?_zipWith, h, hv]
theorem tdsL_right {m : List Int} {r : List Dd} (h : runE r = 0) : ∀ t ∈ tdsL m r, deedE t.d = 0 := by
  intro t ht
  refine runE_zero.1 h t.d ?_
  rw [← tdsL_d m r]
  exact List.mem_map.2 ⟨t, ht, rfl⟩
theorem info_log : (Try.prog.info? 28).map (fun i => (i.zero, i.size, i.bytes)) = some (some (.slice none 0 0), 1, 24) := by kernel_rfl
theorem make_logs (n : Nat) (hn : n ≤ 8) (w : World) : (Instr.makeSlice 44 (.int .i64 n) (.int .i64 n)).run Try.prog w = .ok (.slice (some ⟨w.heap.size, 0, none⟩) n n) (w.alloc (.cells (List.replicate n (.slice none 0 0)).toArray 28)) := by
  obtain ⟨i0, hi, hz0, hz1, hz2⟩ := info_parts info_log
  have := run_make w 44 28 i0 (.slice none 0 0) Try.underlying44 hi hz0 .i64 .i64 n n (by omega) (Int.le_refl _) (by rw [hz2]; omega) (by omega)
  rw [this, hz1]
  have e : madeCells (Value.slice none 0 0).cells n = (List.replicate n (.slice none 0 0)).toArray := by
    apply Array.ext_getElem?
    intro i
    simp [madeCells, Value.cells]
    by_cases h : i < n <;> simp [h, Nat.mod_one]
  simp [e]
theorem told_new (w : World) (t : TypeId) (x : Td) (g q : Nat) (u : Value) (hg : g = w.heap.size) (h : x.cells[q]? = some u) : (w.alloc (.cells x.arr t)).cell? ((⟨g, 0, none⟩ : Addr).add q) = some u := by
  subst hg
  have e : (⟨w.heap.size, 0, none⟩ : Addr).add q = ⟨w.heap.size, q, none⟩ := by cases q <;> simp [Addr.add]
  rw [e, (Box.new w t x.arr).cell, ← h]
  simp [Td.arr]
theorem mine_fine {m : List Int} {r : List Dd} (hr : runE r = 0) (h12 : r.length ≤ 12) : explE (mineT 8 (tdsL m r)) = 0 ∧ (explR m (mineT 8 (tdsL m r))).isSome = true ∧ ∀ l ∈ mineT 8 (tdsL m r), l.length ≤ 140737488355328 := by
  have ok := tdsL_right (m := m) hr
  have nd : ∀ t ∈ tdsL m r, 0 ≤ t.d.nd ∧ t.d.nd < (8 : Nat) := fun t ht => by
    have := (deedE_ok (ok t ht)).1
    omega
  have tot := mineT_tot nd
  rw [tdsL_length] at tot
  refine ⟨?_, order_found nd (tdsL_legal m r), fun l hl => ?_⟩
  · unfold explE
    have hn : (mineT 8 (tdsL m r)).length = 8 := by simp [mineT]
    rw [if_neg (by omega), logsE_zero]
    intro l hl t ht
    obtain ⟨k, _, rfl⟩ := List.mem_map.1 hl
    exact ok t (List.mem_filter.1 ht).1
  · have := totL_in hl
    omega
/-- Eight empty logs. -/
def nil8 : Array Value := (List.replicate 8 (.slice none 0 0)).toArray
theorem make_mine (w : World) : (Instr.makeSlice 44 (.int .i64 8) (.int .i64 8)).run Try.prog w = .ok (.slice (some ⟨w.heap.size, 0, none⟩) 8 8) (w.alloc (.cells nil8 28)) := make_logs 8 (Nat.le_refl _) w
end Go.Proofs.Ytgoaedbhcldmiaa.orderFinds
