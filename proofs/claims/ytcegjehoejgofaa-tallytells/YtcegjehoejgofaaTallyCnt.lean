/-
Proved: what add and Counts of package tally do, for every list of events that can be read; nothing that was there is changed by Counts. Condition of add: the count is one of a list of the call's own, of at most 1000 each.
-/
import Derived.Test.YtcegjehoejgofaaTally
import Derived.Test.YtcegjehoejgofaaCntFacts
import Derived.Test.YtcegjehoejgofaaOwned
import Derived.Test.YtcegjehoejgofaaRegion
namespace Go.Proofs.Ytcegjehoejgofaa
open Go.ChangeShapes Go.WideShapes Go.ChangeAt Go.RowKit Go.Joins

abbrev Cn.cells (x : Cn) : List Value := [.int .i64 x.ld, .int .i64 x.st, .int .i64 x.sw, .int .i64 x.pt, .int .i64 x.rg]
theorem info_count : (Try.prog.info? 50).map (fun i => (i.zero, i.size, i.bytes)) = some (some (.agg #[.int .i64 0, .int .i64 0, .int .i64 0, .int .i64 0, .int .i64 0]), 5, 40) := by kernel_rfl
def elC : El Cn where
  F := Cn.cells
  sz := 5
  t := 50
  len := fun _ => rfl
  pos := by decide
  one := fun x u hu => by
    simp at hu
    rcases hu with rfl | rfl | rfl | rfl | rfl <;> rfl
  size := by kernel_rfl
/-- One cell of an element of one's own. -/
theorem El.Own.cell {α : Type} {E : El α} {w : World} {g : Nat} {v : Value} {l : List α} (h : E.Own w g v l) (k f : Nat) (x x' : α) (hk : l[k]? = some x) (hf : f < E.sz) (u : Value) (h1 : (E.F x')[f]? = some u) (h2 : ∀ r, r ≠ f → (E.F x')[r]? = (E.F x)[r]?) :
    E.Own (w.setCell ⟨g, k * E.sz + f, none⟩ u) g v (l.set k x') := by
  obtain ⟨cap, cur, rfl, hb, hn, hm, hs, ht⟩ := h
  have hkl := (List.getElem?_eq_some_iff.1 hk).1
  have fit : ∀ q, q < cap → q * E.sz + E.sz ≤ cap * E.sz := fun q hq => by
    have : (q + 1) * E.sz ≤ cap * E.sz := Nat.mul_le_mul_right _ hq
    rwa [Nat.succ_mul] at this
  have := fit k (by omega)
  refine ⟨cap, _, by rw [List.length_set], hb.set (k * E.sz + f) u, by rw [List.length_set]; exact hn, hm, by rw [Array.size_setIfInBounds]; exact hs, fun q y hy r hr => ?_⟩
  rw [Array.getElem?_setIfInBounds]
  by_cases e : q = k
  · subst e
    rw [List.getElem?_set_self hkl] at hy
    cases hy
    by_cases er : r = f
    · subst er
      rw [if_pos rfl, if_pos (by omega), h1]
    · rw [if_neg (by omega), h2 r er]
      exact ht q x hk r hr
  · rw [List.getElem?_set_ne (fun h => e h.symm)] at hy
    have ne : k * E.sz + f ≠ q * E.sz + r := by
      rcases Nat.lt_or_gt_of_ne e with c | c
      · have : (q + 1) * E.sz ≤ k * E.sz := Nat.mul_le_mul_right _ c
        rw [Nat.succ_mul] at this
        omega
      · have : (k + 1) * E.sz ≤ q * E.sz := Nat.mul_le_mul_right _ c
        rw [Nat.succ_mul] at this
        omega
    rw [if_neg ne]
    exact ht q y hy r hr
theorem El.Own.reads {α : Type} {E : El α} {w : World} {g : Nat} {v : Value} {l : List α} (h : E.Own w g v l) {k : Nat} {x : α} (hk : l[k]? = some x) (f : Nat) (u : Value) (hf : f < E.sz) (hu : (E.F x)[f]? = some u) : w.cell? ⟨g, k * E.sz + f, none⟩ = some u := by
  obtain ⟨cap, cur, rfl, hb, hn, hm, hs, ht⟩ := h
  rw [hb.cell, ht k x hk f hf, hu]
theorem El.Own.free {α : Type} {E : El α} {w : World} {g : Nat} {v : Value} {l : List α} (h : E.Own w g v l) (i : Nat) : w.frozen? ⟨g, i, none⟩ = false := by
  obtain ⟨cap, cur, rfl, hb, _⟩ := h
  exact hb.frozen _
theorem zero_counts (n : Nat) : ∀ (q : Nat) (y : Cn), (List.replicate n (⟨0, 0, 0, 0, 0⟩ : Cn))[q]? = some y → ∀ r, r < 5 → (madeCells (#[.int .i64 0, .int .i64 0, .int .i64 0, .int .i64 0, .int .i64 0] : Array Value) (n * 5))[q * 5 + r]? = (Cn.cells y)[r]? := by
  intro q y hq r hr
  have hlt : q < n := by have := (List.getElem?_eq_some_iff.1 hq).1; simpa using this
  rw [List.getElem?_replicate, if_pos hlt] at hq
  cases hq
  rw [Array.getElem?_eq_getElem (by rw [size_madeCells]; omega)]
  have hr' : r = 0 ∨ r = 1 ∨ r = 2 ∨ r = 3 ∨ r = 4 := by omega
  rcases hr' with rfl | rfl | rfl | rfl | rfl <;> simp [madeCells]
theorem make_counts (n : Nat) (hn : n ≤ 8) (w : World) : ∃ w', (Instr.makeSlice 34 (.int .i64 n) (.int .i64 n)).run Try.prog w = .ok (.slice (some ⟨w.heap.size, 0, none⟩) n n) w' ∧ elC.Own w' w.heap.size (.slice (some ⟨w.heap.size, 0, none⟩) n n) (List.replicate n ⟨0, 0, 0, 0, 0⟩) ∧ Below w.heap.size w w' := by
  obtain ⟨i0, hi, hz0, hz1, hz2⟩ := info_parts info_count
  have := run_make w 34 50 i0 (.agg #[.int .i64 0, .int .i64 0, .int .i64 0, .int .i64 0, .int .i64 0]) Try.underlying34 hi hz0 .i64 .i64 n n (by omega) (Int.le_refl _) (by rw [hz2]; omega) (by omega)
  simp only [Int.toNat_natCast, hz1] at this
  refine ⟨_, this, ⟨n, _, by rw [List.length_replicate], Box.new w _ _, by rw [List.length_replicate]; exact Nat.le_refl _, by unfold maxLen; omega, by rw [size_madeCells]; rfl, zero_counts n⟩, gAlloc (Below.refl _ _) _⟩
set_option maxHeartbeats 4000000 in
theorem tallyAdd_is (dn dk da dv tv : Int) (bv : Bool) (g k : Nat) (v : Value) (l : List Cn) (c : Cn) (w : World) (h : elC.Own w g v l) (hk : l[k]? = some c) (hc : CnIn c 1000) (hx : 1 ≤ dk ∧ dk ≤ 4) :
    Calls Try.prog 14 #[.pointer (some ⟨g, k * 5, none⟩), .agg #[.int .i64 dn, .int .i64 dk, .int .i64 da, .int .u64 dv, .int .u64 tv, .bool bv]] w fun e w' => e = .returned (.tuple #[]) ∧
      elC.Own w' g v (l.set k (addC c ⟨⟨dn, dk, da, dv⟩, tv, bv⟩)) ∧ Stored (w.alloc (.cells #[.int .i64 dn, .int .i64 dk, .int .i64 da, .int .u64 dv, .int .u64 tv, .bool bv] 43)) g w' := by
  have gl := h.lt
  have H := Lib.hid (h.alloc (.cells #[.int .i64 dn, .int .i64 dk, .int .i64 da, .int .u64 dv, .int .u64 tv, .bool bv] 43))
  have HK := Lib.hid hk
  have kl := (List.getElem?_eq_some_iff.1 hk).1
  obtain ⟨ld, st, sw, pt, rg⟩ := c
  have z0 : (w.alloc (.cells #[.int .i64 dn, .int .i64 dk, .int .i64 da, .int .u64 dv, .int .u64 tv, .bool bv] 43)).cell? ⟨g, k * 5, none⟩ = some (.int .i64 ld) := H.out.reads hk 0 _ (by decide) rfl
  have z1 : (w.alloc (.cells #[.int .i64 dn, .int .i64 dk, .int .i64 da, .int .u64 dv, .int .u64 tv, .bool bv] 43)).cell? ⟨g, k * 5 + 1, none⟩ = some (.int .i64 st) := H.out.reads hk 1 _ (by decide) rfl
  have z2 : (w.alloc (.cells #[.int .i64 dn, .int .i64 dk, .int .i64 da, .int .u64 dv, .int .u64 tv, .bool bv] 43)).cell? ⟨g, k * 5 + 2, none⟩ = some (.int .i64 sw) := H.out.reads hk 2 _ (by decide) rfl
  have z3 : (w.alloc (.cells #[.int .i64 dn, .int .i64 dk, .int .i64 da, .int .u64 dv, .int .u64 tv, .bool bv] 43)).cell? ⟨g, k * 5 + 3, none⟩ = some (.int .i64 pt) := H.out.reads hk 3 _ (by decide) rfl
  have z4 : (w.alloc (.cells #[.int .i64 dn, .int .i64 dk, .int .i64 da, .int .u64 dv, .int .u64 tv, .bool bv] 43)).cell? ⟨g, k * 5 + 4, none⟩ = some (.int .i64 rg) := H.out.reads hk 4 _ (by decide) rfl
  have f0 := H.out.free (k * 5)
  have f1 := H.out.free (k * 5 + 1)
  have f2 := H.out.free (k * 5 + 2)
  have f3 := H.out.free (k * 5 + 3)
  have f4 := H.out.free (k * 5 + 4)
  obtain ⟨hc0, hc1, hc2, hc3, hc4⟩ := hc
  simp only at hc0 hc1 hc2 hc3 hc4
  have hk4 : dk = 1 ∨ dk = 2 ∨ dk = 3 ∨ dk = 4 := by omega
  clear h hk hx
  have low := Below.refl w.heap.size w
  have db := Box.new w 43 #[.int .i64 dn, .int .i64 dk, .int .i64 da, .int .u64 dv, .int .u64 tv, .bool bv]
  have hg : g ≠ w.heap.size := by omega
  rcases hk4 with rfl | rfl | rfl | rfl
  · have S1 := H.out.cell k 0 _ ⟨ld + 1, st, sw, pt, rg⟩ HK.out (by decide) (.int .i64 (ld + 1)) rfl (fun r hr => by rcases r with _ | _ | _ | _ | _ | r <;> first | rfl | exact absurd rfl hr)
    replace S1 : elC.Own ((w.alloc (.cells #[.int .i64 dn, .int .i64 1, .int .i64 da, .int .u64 dv, .int .u64 tv, .bool bv] 43)).setCell ⟨g, k * 5, none⟩ (.int .i64 (ld + 1))) g v (l.set k ⟨ld + 1, st, sw, pt, rg⟩) := S1
    cases bv with
    | false =>
      have eC : addC ⟨ld, st, sw, pt, rg⟩ ⟨⟨dn, 1, da, dv⟩, tv, false⟩ = ⟨ld + 1, st, sw, pt, rg⟩ := by simp [addC, one1]
      have S2 := Lib.hid S1
      have EC := Lib.hid eC
      clear S1 eC
      go_enter Try.func14, Try.ntmps14
      have db_0 := db.at_ 0 rfl
      have db_1 := db.at_ 1 rfl
      have db_2 := db.at_ 2 rfl
      have db_3 := db.at_ 3 rfl
      have db_4 := db.at_ 4 rfl
      have db_5 := db.at_ 5 rfl
      go_wp2_with fail
      refine bodyPost_end (results_none Try.results14 _ _ _) rfl ?_
      refine ⟨rfl, ?_, ?_⟩
      · rw [EC.out, ← World.setCell_alloc_past _ _ _ _ gl]
        exact S2.out
      · rw [← World.setCell_alloc_past _ _ _ _ gl]
        exact Stored.cell1 _ ⟨g, k * 5, none⟩ _
    | true =>
      have eC : addC ⟨ld, st, sw, pt, rg⟩ ⟨⟨dn, 1, da, dv⟩, tv, true⟩ = ⟨ld + 1, st, sw, pt, rg + 1⟩ := by simp [addC, one1]
      have hk2 : (l.set k ⟨ld + 1, st, sw, pt, rg⟩)[k]? = some ⟨ld + 1, st, sw, pt, rg⟩ := List.getElem?_set_self kl
      have y4 := S1.reads hk2 4 (.int .i64 rg) (by decide) rfl
      have y4f := S1.free (k * 5 + 4)
      have S3 := S1.cell k 4 _ ⟨ld + 1, st, sw, pt, rg + 1⟩ hk2 (by decide) (.int .i64 (rg + 1)) rfl (fun r hr => by rcases r with _ | _ | _ | _ | _ | r <;> first | rfl | exact absurd rfl hr)
      rw [List.set_set] at S3
      rw [World.setCell_alloc_past _ _ _ _ gl] at y4 y4f
      replace y4 : ((w.setCell ⟨g, k * 5, none⟩ (.int .i64 (ld + 1))).alloc (.cells #[.int .i64 dn, .int .i64 1, .int .i64 da, .int .u64 dv, .int .u64 tv, .bool true] 43)).cell? ⟨g, k * 5 + 4, none⟩ = some (.int .i64 rg) := y4
      have S2 := Lib.hid S3
      have EC := Lib.hid eC
      clear S1 eC S3 hk2
      go_enter Try.func14, Try.ntmps14
      have db_0 := db.at_ 0 rfl
      have db_1 := db.at_ 1 rfl
      have db_2 := db.at_ 2 rfl
      have db_3 := db.at_ 3 rfl
      have db_4 := db.at_ 4 rfl
      have db_5 := db.at_ 5 rfl
      go_wp2_with fail
      refine bodyPost_end (results_none Try.results14 _ _ _) rfl ?_
      refine ⟨rfl, ?_, ?_⟩
      · rw [EC.out, ← World.setCell_alloc_past _ _ _ _ (by simpa using gl), ← World.setCell_alloc_past _ _ _ _ gl]
        exact S2.out
      · rw [← World.setCell_alloc_past _ _ _ _ (by simpa using gl), ← World.setCell_alloc_past _ _ _ _ gl]
        exact (Stored.cell1 _ ⟨g, k * 5, none⟩ _).trans (Stored.cell1 _ ⟨g, k * 5 + 4, none⟩ _)
  · have S1 := H.out.cell k 1 _ ⟨ld, st + 1, sw, pt, rg⟩ HK.out (by decide) (.int .i64 (st + 1)) rfl (fun r hr => by rcases r with _ | _ | _ | _ | _ | r <;> first | rfl | exact absurd rfl hr)
    replace S1 : elC.Own ((w.alloc (.cells #[.int .i64 dn, .int .i64 2, .int .i64 da, .int .u64 dv, .int .u64 tv, .bool bv] 43)).setCell ⟨g, k * 5 + 1, none⟩ (.int .i64 (st + 1))) g v (l.set k ⟨ld, st + 1, sw, pt, rg⟩) := S1
    cases bv with
    | false =>
      have eC : addC ⟨ld, st, sw, pt, rg⟩ ⟨⟨dn, 2, da, dv⟩, tv, false⟩ = ⟨ld, st + 1, sw, pt, rg⟩ := by simp [addC, one1]
      have S2 := Lib.hid S1
      have EC := Lib.hid eC
      clear S1 eC
      go_enter Try.func14, Try.ntmps14
      have db_0 := db.at_ 0 rfl
      have db_1 := db.at_ 1 rfl
      have db_2 := db.at_ 2 rfl
      have db_3 := db.at_ 3 rfl
      have db_4 := db.at_ 4 rfl
      have db_5 := db.at_ 5 rfl
      go_wp2_with fail
      refine bodyPost_end (results_none Try.results14 _ _ _) rfl ?_
      refine ⟨rfl, ?_, ?_⟩
      · rw [EC.out, ← World.setCell_alloc_past _ _ _ _ gl]
        exact S2.out
      · rw [← World.setCell_alloc_past _ _ _ _ gl]
        exact Stored.cell1 _ ⟨g, k * 5 + 1, none⟩ _
    | true =>
      have eC : addC ⟨ld, st, sw, pt, rg⟩ ⟨⟨dn, 2, da, dv⟩, tv, true⟩ = ⟨ld, st + 1, sw, pt, rg + 1⟩ := by simp [addC, one1]
      have hk2 : (l.set k ⟨ld, st + 1, sw, pt, rg⟩)[k]? = some ⟨ld, st + 1, sw, pt, rg⟩ := List.getElem?_set_self kl
      have y4 := S1.reads hk2 4 (.int .i64 rg) (by decide) rfl
      have y4f := S1.free (k * 5 + 4)
      have S3 := S1.cell k 4 _ ⟨ld, st + 1, sw, pt, rg + 1⟩ hk2 (by decide) (.int .i64 (rg + 1)) rfl (fun r hr => by rcases r with _ | _ | _ | _ | _ | r <;> first | rfl | exact absurd rfl hr)
      rw [List.set_set] at S3
      rw [World.setCell_alloc_past _ _ _ _ gl] at y4 y4f
      replace y4 : ((w.setCell ⟨g, k * 5 + 1, none⟩ (.int .i64 (st + 1))).alloc (.cells #[.int .i64 dn, .int .i64 2, .int .i64 da, .int .u64 dv, .int .u64 tv, .bool true] 43)).cell? ⟨g, k * 5 + 4, none⟩ = some (.int .i64 rg) := y4
      have S2 := Lib.hid S3
      have EC := Lib.hid eC
      clear S1 eC S3 hk2
      go_enter Try.func14, Try.ntmps14
      have db_0 := db.at_ 0 rfl
      have db_1 := db.at_ 1 rfl
      have db_2 := db.at_ 2 rfl
      have db_3 := db.at_ 3 rfl
      have db_4 := db.at_ 4 rfl
      have db_5 := db.at_ 5 rfl
      go_wp2_with fail
      refine bodyPost_end (results_none Try.results14 _ _ _) rfl ?_
      refine ⟨rfl, ?_, ?_⟩
      · rw [EC.out, ← World.setCell_alloc_past _ _ _ _ (by simpa using gl), ← World.setCell_alloc_past _ _ _ _ gl]
        exact S2.out
      · rw [← World.setCell_alloc_past _ _ _ _ (by simpa using gl), ← World.setCell_alloc_past _ _ _ _ gl]
        exact (Stored.cell1 _ ⟨g, k * 5 + 1, none⟩ _).trans (Stored.cell1 _ ⟨g, k * 5 + 4, none⟩ _)
  · have S1 := H.out.cell k 2 _ ⟨ld, st, sw + 1, pt, rg⟩ HK.out (by decide) (.int .i64 (sw + 1)) rfl (fun r hr => by rcases r with _ | _ | _ | _ | _ | r <;> first | rfl | exact absurd rfl hr)
    replace S1 : elC.Own ((w.alloc (.cells #[.int .i64 dn, .int .i64 3, .int .i64 da, .int .u64 dv, .int .u64 tv, .bool bv] 43)).setCell ⟨g, k * 5 + 2, none⟩ (.int .i64 (sw + 1))) g v (l.set k ⟨ld, st, sw + 1, pt, rg⟩) := S1
    cases bv with
    | false =>
      have eC : addC ⟨ld, st, sw, pt, rg⟩ ⟨⟨dn, 3, da, dv⟩, tv, false⟩ = ⟨ld, st, sw + 1, pt, rg⟩ := by simp [addC, one1]
      have S2 := Lib.hid S1
      have EC := Lib.hid eC
      clear S1 eC
      go_enter Try.func14, Try.ntmps14
      have db_0 := db.at_ 0 rfl
      have db_1 := db.at_ 1 rfl
      have db_2 := db.at_ 2 rfl
      have db_3 := db.at_ 3 rfl
      have db_4 := db.at_ 4 rfl
      have db_5 := db.at_ 5 rfl
      go_wp2_with fail
      refine bodyPost_end (results_none Try.results14 _ _ _) rfl ?_
      refine ⟨rfl, ?_, ?_⟩
      · rw [EC.out, ← World.setCell_alloc_past _ _ _ _ gl]
        exact S2.out
      · rw [← World.setCell_alloc_past _ _ _ _ gl]
        exact Stored.cell1 _ ⟨g, k * 5 + 2, none⟩ _
    | true =>
      have eC : addC ⟨ld, st, sw, pt, rg⟩ ⟨⟨dn, 3, da, dv⟩, tv, true⟩ = ⟨ld, st, sw + 1, pt, rg + 1⟩ := by simp [addC, one1]
      have hk2 : (l.set k ⟨ld, st, sw + 1, pt, rg⟩)[k]? = some ⟨ld, st, sw + 1, pt, rg⟩ := List.getElem?_set_self kl
      have y4 := S1.reads hk2 4 (.int .i64 rg) (by decide) rfl
      have y4f := S1.free (k * 5 + 4)
      have S3 := S1.cell k 4 _ ⟨ld, st, sw + 1, pt, rg + 1⟩ hk2 (by decide) (.int .i64 (rg + 1)) rfl (fun r hr => by rcases r with _ | _ | _ | _ | _ | r <;> first | rfl | exact absurd rfl hr)
      rw [List.set_set] at S3
      rw [World.setCell_alloc_past _ _ _ _ gl] at y4 y4f
      replace y4 : ((w.setCell ⟨g, k * 5 + 2, none⟩ (.int .i64 (sw + 1))).alloc (.cells #[.int .i64 dn, .int .i64 3, .int .i64 da, .int .u64 dv, .int .u64 tv, .bool true] 43)).cell? ⟨g, k * 5 + 4, none⟩ = some (.int .i64 rg) := y4
      have S2 := Lib.hid S3
      have EC := Lib.hid eC
      clear S1 eC S3 hk2
      go_enter Try.func14, Try.ntmps14
      have db_0 := db.at_ 0 rfl
      have db_1 := db.at_ 1 rfl
      have db_2 := db.at_ 2 rfl
      have db_3 := db.at_ 3 rfl
      have db_4 := db.at_ 4 rfl
      have db_5 := db.at_ 5 rfl
      go_wp2_with fail
      refine bodyPost_end (results_none Try.results14 _ _ _) rfl ?_
      refine ⟨rfl, ?_, ?_⟩
      · rw [EC.out, ← World.setCell_alloc_past _ _ _ _ (by simpa using gl), ← World.setCell_alloc_past _ _ _ _ gl]
        exact S2.out
      · rw [← World.setCell_alloc_past _ _ _ _ (by simpa using gl), ← World.setCell_alloc_past _ _ _ _ gl]
        exact (Stored.cell1 _ ⟨g, k * 5 + 2, none⟩ _).trans (Stored.cell1 _ ⟨g, k * 5 + 4, none⟩ _)
  · have S1 := H.out.cell k 3 _ ⟨ld, st, sw, pt + 1, rg⟩ HK.out (by decide) (.int .i64 (pt + 1)) rfl (fun r hr => by rcases r with _ | _ | _ | _ | _ | r <;> first | rfl | exact absurd rfl hr)
    replace S1 : elC.Own ((w.alloc (.cells #[.int .i64 dn, .int .i64 4, .int .i64 da, .int .u64 dv, .int .u64 tv, .bool bv] 43)).setCell ⟨g, k * 5 + 3, none⟩ (.int .i64 (pt + 1))) g v (l.set k ⟨ld, st, sw, pt + 1, rg⟩) := S1
    cases bv with
    | false =>
      have eC : addC ⟨ld, st, sw, pt, rg⟩ ⟨⟨dn, 4, da, dv⟩, tv, false⟩ = ⟨ld, st, sw, pt + 1, rg⟩ := by simp [addC, one1]
      have S2 := Lib.hid S1
      have EC := Lib.hid eC
      clear S1 eC
      go_enter Try.func14, Try.ntmps14
      have db_0 := db.at_ 0 rfl
      have db_1 := db.at_ 1 rfl
      have db_2 := db.at_ 2 rfl
      have db_3 := db.at_ 3 rfl
      have db_4 := db.at_ 4 rfl
      have db_5 := db.at_ 5 rfl
      go_wp2_with fail
      refine bodyPost_end (results_none Try.results14 _ _ _) rfl ?_
      refine ⟨rfl, ?_, ?_⟩
      · rw [EC.out, ← World.setCell_alloc_past _ _ _ _ gl]
        exact S2.out
      · rw [← World.setCell_alloc_past _ _ _ _ gl]
        exact Stored.cell1 _ ⟨g, k * 5 + 3, none⟩ _
    | true =>
      have eC : addC ⟨ld, st, sw, pt, rg⟩ ⟨⟨dn, 4, da, dv⟩, tv, true⟩ = ⟨ld, st, sw, pt + 1, rg + 1⟩ := by simp [addC, one1]
      have hk2 : (l.set k ⟨ld, st, sw, pt + 1, rg⟩)[k]? = some ⟨ld, st, sw, pt + 1, rg⟩ := List.getElem?_set_self kl
      have y4 := S1.reads hk2 4 (.int .i64 rg) (by decide) rfl
      have y4f := S1.free (k * 5 + 4)
      have S3 := S1.cell k 4 _ ⟨ld, st, sw, pt + 1, rg + 1⟩ hk2 (by decide) (.int .i64 (rg + 1)) rfl (fun r hr => by rcases r with _ | _ | _ | _ | _ | r <;> first | rfl | exact absurd rfl hr)
      rw [List.set_set] at S3
      rw [World.setCell_alloc_past _ _ _ _ gl] at y4 y4f
      replace y4 : ((w.setCell ⟨g, k * 5 + 3, none⟩ (.int .i64 (pt + 1))).alloc (.cells #[.int .i64 dn, .int .i64 4, .int .i64 da, .int .u64 dv, .int .u64 tv, .bool true] 43)).cell? ⟨g, k * 5 + 4, none⟩ = some (.int .i64 rg) := y4
      have S2 := Lib.hid S3
      have EC := Lib.hid eC
      clear S1 eC S3 hk2
      go_enter Try.func14, Try.ntmps14
      have db_0 := db.at_ 0 rfl
      have db_1 := db.at_ 1 rfl
      have db_2 := db.at_ 2 rfl
      have db_3 := db.at_ 3 rfl
      have db_4 := db.at_ 4 rfl
      have db_5 := db.at_ 5 rfl
      go_wp2_with fail
      refine bodyPost_end (results_none Try.results14 _ _ _) rfl ?_
      refine ⟨rfl, ?_, ?_⟩
      · rw [EC.out, ← World.setCell_alloc_past _ _ _ _ (by simpa using gl), ← World.setCell_alloc_past _ _ _ _ gl]
        exact S2.out
      · rw [← World.setCell_alloc_past _ _ _ _ (by simpa using gl), ← World.setCell_alloc_past _ _ _ _ gl]
        exact (Stored.cell1 _ ⟨g, k * 5 + 3, none⟩ _).trans (Stored.cell1 _ ⟨g, k * 5 + 4, none⟩ _)
/-- What Counts gives. -/
def CntsIs (E n : Int) (l : List Ev) (e : Ending) (w' : World) : Prop :=
  ∃ A m c, e = .returned (.tuple #[.slice A m c, .int .i64 E]) ∧ ((E ≠ 0 ∧ A = none ∧ m = 0 ∧ c = 0) ∨ (E = 0 ∧ m = n.toNat ∧ elC.R w' (.slice A m c) (cntL n.toNat l)))
set_option maxRecDepth 10000 in
set_option maxHeartbeats 8000000 in
theorem tallyCounts_is (n s y b : Int) (v : Value) (l : List Ev) (w : World) (h : elE.R w v l) :
    Calls Try.prog 6 #[cfg n s y b, v] w fun e w' => CntsIs (tallyE n s y b l) n l e w' ∧ Below w.heap.size w w' := by
  have CK := Lib.hid fun w h => tallyCheck_any n s y b v l w h
  have HR := Lib.hid h
  by_cases hE : tallyE n s y b l = 0
  · obtain ⟨hc, hl, hn⟩ := tallyE_zero.1 hE
    have hn8 := cfgB_iff.1 hc
    have ND := Lib.hid (nodeE_zero.1 hn)
    rw [hE] at CK ⊢
    obtain ⟨N, rfl⟩ : ∃ N : Nat, n = N := ⟨n.toNat, by omega⟩
    have hN : N ≤ 8 := by omega
    have hN2 : 2 ≤ N := by omega
    obtain ⟨_, A, c, rfl, g1, g2, g3⟩ := h
    have G3 := Lib.hid g3
    unfold maxLen at g2
    clear hE hc hn hn8 g3
    have low := Below.refl w.heap.size w
    have cb := boxNext low 23 #[.int .i64 (N : Int), .int .i64 s, .int .i64 y, .int .i64 b]
    replace low := gAlloc low (.cells #[.int .i64 (N : Int), .int .i64 s, .int .i64 y, .int .i64 b] 23)
    try simp only [World.size_alloc] at cb
    go_enter Try.func6, Try.ntmps6
    go_wp2_with fail
    (with_reducible refine (CK.out _ (HR.out.call low)).mono ?_); rintro e w1 ⟨rfl, hb⟩
    replace cb := cb.call hb
    replace low := gCall low hb
    clear hb CK HR
    have gB := low.size
    obtain ⟨wq, MK, own0, hb⟩ := make_counts N hN w1
    replace low := gCall low hb
    have cb_0 := cb.at_ 0 rfl
    have cb_1 := cb.at_ 1 rfl
    have cb_2 := cb.at_ 2 rfl
    have cb_3 := cb.at_ 3 rfl
    go_wp2_with fail
    clear cb_0 cb_1 cb_2 cb_3
    clear MK cb hb
    generalize w1.heap.size = g8 at *
    rw [← cntL_nil] at own0
    have OW := Lib.hid own0
    clear own0
    go_loopw [21] (fun i wr => ∃ j : Nat, j ≤ l.length ∧ i = .int .i64 j ∧ Hid (elC.Own wr g8 (.slice (some ⟨g8, 0, none⟩) N N) (cntL N (l.take j))) ∧ Below w.heap.size w wr) (fun i _ => l.length - (intOf i).toNat)
    case atStart => exact ⟨0, Nat.zero_le _, rfl, Lib.hid (by rw [List.take_zero]; exact OW.out), low⟩
    case round =>
      clear low OW
      obtain ⟨j, hj, rfl, how, low⟩ := hrel
      by_cases hlt : j < l.length
      · obtain ⟨b2, o2, rfl, hb2, hc2⟩ := G3.out (by omega)
        have hx : l[j]? = some l[j] := List.getElem?_eq_getElem _
        generalize l[j] = x at hx
        obtain ⟨c0, c1, c2, c3, c4, c5⟩ := evAt_of hc2 hb2 low hx
        have TK := Lib.hid (take_snoc hx)
        have nd := ND.out x (List.mem_of_getElem? hx)
        have nd2 := deedE_ok nd.1
        have PL0 := Lib.hid (show (l.take j).length ≤ 200 by rw [List.length_take]; omega)
        obtain ⟨⟨dn, dk, da, dv⟩, tv, bv⟩ := x
        simp only at c0 c1 c2 c3 c4 c5 nd nd2 TK
        obtain ⟨q, rfl⟩ : ∃ q : Nat, dn = q := ⟨dn.toNat, by omega⟩
        have q0 : (0 : Int) ≤ q := by omega
        have q8 : (q : Int) < N := nd.2
        have KD := Lib.hid nd2.2.1
        have CA := Lib.hid (cntL_at (n := N) (l := l.take j) (show q < N by omega))
        have CI := Lib.hid (show CnIn (cntOf q (l.take j)) 1000 by
          have ci := cntOf_in q (l.take j)
          have pl := PL0.out
          exact ⟨by have := ci.ld; omega, by have := ci.st; omega, by have := ci.sw; omega, by have := ci.pt; omega, by have := ci.rg; omega⟩)
        have NX := Lib.hid (cntL_snoc (n := N) (l := l.take j) (x := ⟨⟨(q : Int), dk, da, dv⟩, tv, bv⟩) (q := q) rfl)
        generalize cntOf q (l.take j) = cq at *
        have j0 : (0 : Int) ≤ j := by omega
        have j1 : (j : Int) < l.length := by omega
        have OW := Lib.hid (how.out.alloc (.cells #[.int .i64 (q : Int), .int .i64 dk, .int .i64 da, .int .u64 dv, .int .u64 tv, .bool bv] 43))
        have gl := how.out.lt
        clear hx hc2 nd nd2 PL0 how
        have db := boxNext low 43 #[.int .i64 (q : Int), .int .i64 dk, .int .i64 da, .int .u64 dv, .int .u64 tv, .bool bv]
        replace low := gAlloc low (.cells #[.int .i64 (q : Int), .int .i64 dk, .int .i64 da, .int .u64 dv, .int .u64 tv, .bool bv] 43)
        try simp only [World.size_alloc] at db
        have db_0 := db.at_ 0 rfl
        have db_1 := db.at_ 1 rfl
        have db_2 := db.at_ 2 rfl
        have db_3 := db.at_ 3 rfl
        have db_4 := db.at_ 4 rfl
        have db_5 := db.at_ 5 rfl
        go_wp2_with fail
        clear db_0 db_1 db_2 db_3 db_4 db_5
        clear c0 c1 c2 c3 c4 c5
        have hne : g8 ≠ wr.heap.size := by omega
        have lz := low.size
        generalize wr.alloc (.cells #[.int .i64 (q : Int), .int .i64 dk, .int .i64 da, .int .u64 dv, .int .u64 tv, .bool bv] 43) = wy at *
        generalize wr.heap.size = gx at *
        have x0 : wy.cell? ⟨gx, 0, none⟩ = some (.int .i64 (q : Int)) := db.at_ 0 rfl
        have x1 : wy.cell? ⟨gx, 1, none⟩ = some (.int .i64 dk) := db.at_ 1 rfl
        have x2 : wy.cell? ⟨gx, 2, none⟩ = some (.int .i64 da) := db.at_ 2 rfl
        have x3 : wy.cell? ⟨gx, 3, none⟩ = some (.int .u64 dv) := db.at_ 3 rfl
        have x4 : wy.cell? ⟨gx, 4, none⟩ = some (.int .u64 tv) := db.at_ 4 rfl
        have x5 : wy.cell? ⟨gx, 5, none⟩ = some (.bool bv) := db.at_ 5 rfl
        refine wp_region_noPanic ?_
        refine wp_region_held_drew (S := fun w' => w'.cell? ⟨gx, 0, none⟩ = some (.int .i64 (q : Int)) ∧ w'.cell? ⟨gx, 1, none⟩ = some (.int .i64 dk) ∧ w'.cell? ⟨gx, 2, none⟩ = some (.int .i64 da) ∧ w'.cell? ⟨gx, 3, none⟩ = some (.int .u64 dv) ∧ w'.cell? ⟨gx, 4, none⟩ = some (.int .u64 tv) ∧ w'.cell? ⟨gx, 5, none⟩ = some (.bool bv)) (by kernel_rfl) ⟨drewC x0, drewC x1, drewC x2, drewC x3, drewC x4, drewC x5⟩ (fun hHeld => ?_)
        clear x0 x1 x2 x3 x4 x5
        refine takeFirst (i := 0) (v := ?_) rfl (by kernel_rfl) (by kernel_rfl) (by kernel_rfl) (by rfl) (fun _ _ _ h => h) ?_ (by assumption) ?_
        rotate_left
        · (intro w hSw; go_simp; try (with_reducible rfl))
        try simp only [Act.put, List.setIfInBounds_toArray, List.set_cons_zero, List.set_cons_succ]
        refine takeFirst (i := 1) (v := ?_) rfl (by kernel_rfl) (by kernel_rfl) (by kernel_rfl) (by rfl) (fun _ _ _ h => h) ?_ (by assumption) ?_
        rotate_left
        · (intro w hSw; go_simp; try (with_reducible rfl))
        try simp only [Act.put, List.setIfInBounds_toArray, List.set_cons_zero, List.set_cons_succ]
        refine takeFirst (i := 2) (v := ?_) rfl (by kernel_rfl) (by kernel_rfl) (by kernel_rfl) (by rfl) (fun _ _ _ h => h) ?_ (by assumption) ?_
        rotate_left
        · (intro w hSw; go_simp; try (with_reducible rfl))
        try simp only [Act.put, List.setIfInBounds_toArray, List.set_cons_zero, List.set_cons_succ]
        refine takeFirst (i := 3) (v := ?_) rfl (by kernel_rfl) (by kernel_rfl) (by kernel_rfl) (by rfl) (fun _ _ _ h => h) ?_ (by assumption) ?_
        rotate_left
        · (intro w hSw; go_simp; try (with_reducible rfl))
        try simp only [Act.put, List.setIfInBounds_toArray, List.set_cons_zero, List.set_cons_succ]
        refine takeFirst (i := 4) (v := ?_) rfl (by kernel_rfl) (by kernel_rfl) (by kernel_rfl) (by rfl) (fun _ _ _ h => h) ?_ (by assumption) ?_
        rotate_left
        · (intro w hSw; go_simp; try (with_reducible rfl))
        try simp only [Act.put, List.setIfInBounds_toArray, List.set_cons_zero, List.set_cons_succ]
        refine takeFirst (i := 5) (v := ?_) rfl (by kernel_rfl) (by kernel_rfl) (by kernel_rfl) (by rfl) (fun _ _ _ h => h) ?_ (by assumption) ?_
        rotate_left
        · (intro w hSw; go_simp; try (with_reducible rfl))
        try simp only [Act.put, List.setIfInBounds_toArray, List.set_cons_zero, List.set_cons_succ]
        have own2 := OW.out.drew
        have low2 := low.drew
        have xb2 := db.drew
        clear OW low db
        generalize wy.drew = wz at *
        refine stepNext (i := 6) (by kernel_rfl) rfl (by rfl) (fun K hK => ?_)
        go_simp
        (with_reducible refine (tallyAdd_is _ _ _ _ _ _ g8 q _ _ cq _ own2 CA.out CI.out KD.out).mono ?_); rintro e w9 ⟨rfl, own9, st9⟩
        have low9 := st9.low (gAlloc low2 _) gB
        obtain ⟨hh0, hh1, hh2, hh3, hh4, hh5⟩ := hHeld
        have hHeld := And.intro (st9.cell (by exact hne.symm) (allocC _ hh0)) (And.intro (st9.cell (by exact hne.symm) (allocC _ hh1)) (And.intro (st9.cell (by exact hne.symm) (allocC _ hh2)) (And.intro (st9.cell (by exact hne.symm) (allocC _ hh3)) (And.intro (st9.cell (by exact hne.symm) (allocC _ hh4)) (st9.cell (by exact hne.symm) (allocC _ hh5))))))
        clear hh0 hh1 hh2 hh3 hh4 hh5
        rw [← NX.out, ← TK.out] at own9
        have OW9 := Lib.hid own9
        clear own9 own2 st9 low2 xb2
        refine hK.out _ _ hHeld ?_
        clear hK K
        try simp only [Act.put]
        try simp only [List.setIfInBounds_toArray, List.set_cons_zero, List.set_cons_succ]
        clear hHeld
        refine wpAnyH_done (by kernel_rfl) ?_ _
        refine NoPanic.normal ?_
        go_wp2_with fail
        go_roundw
        case rel => exact ⟨j + 1, by omega, by go_num, OW9, low9⟩
        case measure => simp [intOf]; omega
      · obtain rfl : j = l.length := by omega
        have ow := how.out
        rw [List.take_length] at ow
        have RR := ow.r
        clear how ow
        go_wp2_with fail
        go_ret2
        exact ⟨⟨_, _, _, rfl, .inr ⟨rfl, rfl, RR⟩⟩, low⟩
  · generalize hT : tallyE n s y b l = E at *
    have hE' : (E != 0) = true := by simpa using hE
    have HE := Lib.hid hE
    obtain ⟨A, c, rfl⟩ := h.shape
    clear hE hT h
    have low := Below.refl w.heap.size w
    go_enter Try.func6, Try.ntmps6
    go_wp2_with fail
    (with_reducible refine (CK.out _ (HR.out.alloc _)).mono ?_); rintro e w1 ⟨rfl, hb⟩
    replace low := gCall (gAlloc low _) hb
    clear hb CK HR
    go_wp2_with fail
    go_ret2
    exact ⟨⟨_, _, _, rfl, .inl ⟨HE.out, rfl, rfl, rfl⟩⟩, low⟩
end Go.Proofs.Ytcegjehoejgofaa
