/-
Proved: what setOfLine, setOfWay and Find of package cache return, for every cache that can be read; they change nothing that was there. No condition.
-/
import Derived.Test.YtmodajmjmdigfaaCache
namespace Go.Proofs.Ytmodajmjmdigfaa
open Go.ChangeShapes Go.WideShapes Go.ChangeAt Go.RowKit Go.Joins

/-- The error of a cache and a line, of a cache and a way. -/
def lineE (n s y b : Int) (ss : List St) (m : Int) : Int := if cacheE n s y b ss ≠ 0 then cacheE n s y b ss else if lnB m = false then 4 else 0
def wayCE (n s y b : Int) (ss : List St) (x : Wy) : Int := if cacheE n s y b ss ≠ 0 then cacheE n s y b ss else if hlB x = false then 4 else 0

theorem lineE_ok {n s y b : Int} {ss : List St} {m : Int} (h : lineE n s y b ss m = 0) : cacheE n s y b ss = 0 ∧ 0 ≤ m ∧ m ≤ 15 := by
  unfold lineE at h
  split at h
  · exact absurd h (by assumption)
  · split at h
    · cases h
    · rename_i h1 h2
      have : lnB m = true := by simpa using h2
      simp [lnB] at this
      exact ⟨by simpa using h1, by omega, by omega⟩

theorem wayCE_ok {n s y b : Int} {ss : List St} {x : Wy} (h : wayCE n s y b ss x = 0) : cacheE n s y b ss = 0 ∧ hlB x = true := by
  unfold wayCE at h
  split at h
  · exact absurd h (by assumption)
  · split at h
    · cases h
    · rename_i h1 h2
      exact ⟨by simpa using h1, by simpa using h2⟩

theorem lnB_iff {m : Int} : lnB m = true ↔ 0 ≤ m ∧ m ≤ 15 := by
  simp [lnB]
  omega
theorem lnB_no {m : Int} (h : lnB m = false) : m < 0 ∨ 15 < m := by
  have : ¬ (0 ≤ m ∧ m ≤ 15) := fun k => by rw [lnB_iff.2 k] at h; cases h
  omega

theorem hlB_line {x : Wy} (h : hlB x = true) : 0 ≤ x.ln ∧ x.ln ≤ 15 := by
  simp only [hlB, Bool.and_eq_true] at h
  exact lnB_iff.1 h.2

/-- The set of a line is there. -/
theorem GoodC.set_ {n s y b : Int} {ss : List St} (h : GoodC n s y b ss) (m : Int) : ∃ (k : Nat) (t : St), m % s = k ∧ ss[k]? = some t := by
  obtain ⟨h1, h2, _⟩ := h
  have hs : 1 ≤ s ∧ s ≤ 4 := by have := cfgB_iff.1 h1; omega
  have h3 : 0 ≤ m % s := Int.emod_nonneg _ (by omega)
  have h4 : m % s < s := Int.emod_lt_of_pos _ (by omega)
  have hlt : (m % s).toNat < ss.length := by omega
  exact ⟨(m % s).toNat, ss[(m % s).toNat], by omega, List.getElem?_eq_getElem hlt⟩

theorem st_lt {ss : List St} {k : Nat} {t : St} (h : ss[k]? = some t) : k < ss.length := (List.getElem?_eq_some_iff.1 h).1

theorem setOfLine_bad (n s y b : Int) (v : Value) (ss : List St) (m : Int) (w : World) (h : Cs w v ss) (he : lineE n s y b ss m ≠ 0) :
    Calls Try.prog 51 #[cfg n s y b, v, .int .i64 m] w fun e w' => e = .returned (.tuple #[.int .i64 0, .int .i64 (lineE n s y b ss m)]) ∧ Below w.heap.size w w' := by
  have low := Below.refl w.heap.size w
  have cb := boxNext low 44 (cfgA n s y b)
  replace low := gAlloc low (.cells (cfgA n s y b) 44)
  replace h := h.alloc (.cells (cfgA n s y b) 44)
  try simp only [World.size_alloc] at cb
  have C := Lib.hid fun w hw => cacheCheck_any n s y b v ss w hw
  generalize hE : lineE n s y b ss m = E at he ⊢
  unfold lineE at hE
  generalize cacheE n s y b ss = r at C hE
  have HE := Lib.hid hE
  have HH := Lib.hid he
  clear he hE
  cases hr : (r != 0)
  rotate_left
  · obtain rfl : r = E := by have := HE.out; rwa [if_pos (by simpa using hr)] at this
    go_enter Try.func51, Try.ntmps51
    go_wp2_with fail
    (with_reducible refine (C.out _ h).mono ?_); rintro e w1 ⟨rfl, hb⟩
    replace cb := cb.call hb
    replace low := gCall low hb
    clear hb
    go_wp2_with fail
    go_ret2
    exact ⟨rfl, low⟩
  obtain rfl : r = 0 := by simpa using hr
  have hm : lnB m = false := by
    cases e : lnB m
    · rfl
    · have := HE.out
      rw [if_neg (by simp), if_neg (by simp [e])] at this
      exact absurd this.symm HH.out
  obtain rfl : 4 = E := by have := HE.out; rwa [if_neg (by simp), if_pos hm] at this
  have SB := Lib.hid fun w => set_bad n s y b m w (.inr (lnB_no hm))
  clear hm
  go_enter Try.func51, Try.ntmps51
  go_wp2_with fail
  (with_reducible refine (C.out _ h).mono ?_); rintro e w1 ⟨rfl, hb⟩
  replace cb := cb.call hb
  replace low := gCall low hb
  clear hb
  have cb_0 := cb.at_ 0 rfl
  have cb_1 := cb.at_ 1 rfl
  have cb_2 := cb.at_ 2 rfl
  have cb_3 := cb.at_ 3 rfl
  go_wp2_with fail
  (with_reducible refine (SB.out _).mono ?_); rintro e w2 ⟨rfl, hb⟩
  replace cb := cb.call hb
  replace low := gCall low hb
  clear hb cb_0 cb_1 cb_2 cb_3
  go_wp2_with fail
  go_ret2
  exact ⟨rfl, low⟩

theorem setOfLine_ok (n s y b : Int) (v : Value) (ss : List St) (m : Int) (w : World) (h : Cs w v ss) (he : lineE n s y b ss m = 0) :
    Calls Try.prog 51 #[cfg n s y b, v, .int .i64 m] w fun e w' => e = .returned (.tuple #[.int .i64 (m % s), .int .i64 0]) ∧ Below w.heap.size w w' := by
  have low := Below.refl w.heap.size w
  have cb := boxNext low 44 (cfgA n s y b)
  replace low := gAlloc low (.cells (cfgA n s y b) 44)
  replace h := h.alloc (.cells (cfgA n s y b) 44)
  try simp only [World.size_alloc] at cb
  obtain ⟨h1, h2, h3⟩ := lineE_ok he
  have C := Lib.hid fun w hw => cacheCheck_any n s y b v ss w hw
  have SB := Lib.hid fun w => set_ok n s y b m w (cacheE_ok h1).1 h2 h3
  rw [h1] at C
  generalize m % s = f at SB ⊢
  clear he h1 h2 h3
  go_enter Try.func51, Try.ntmps51
  go_wp2_with fail
  (with_reducible refine (C.out _ h).mono ?_); rintro e w1 ⟨rfl, hb⟩
  replace cb := cb.call hb
  replace low := gCall low hb
  clear hb
  have cb_0 := cb.at_ 0 rfl
  have cb_1 := cb.at_ 1 rfl
  have cb_2 := cb.at_ 2 rfl
  have cb_3 := cb.at_ 3 rfl
  go_wp2_with fail
  (with_reducible refine (SB.out _).mono ?_); rintro e w2 ⟨rfl, hb⟩
  replace cb := cb.call hb
  replace low := gCall low hb
  clear hb cb_0 cb_1 cb_2 cb_3
  go_wp2_with fail
  go_ret2
  exact ⟨rfl, low⟩

theorem lineE_of {n s y b : Int} {ss : List St} {x : Wy} : wayCE n s y b ss x = if lineE n s y b ss x.ln ≠ 0 then lineE n s y b ss x.ln else if rdB x.st = false then 4 else 0 := by
  unfold wayCE lineE hlB
  by_cases h : cacheE n s y b ss ≠ 0
  · simp [h]
  · cases h1 : lnB x.ln <;> cases h2 : rdB x.st <;> simp [h]

theorem setOfWay_bad (n s y b : Int) (v : Value) (ss : List St) (x : Wy) (w : World) (h : Cs w v ss) (he : wayCE n s y b ss x ≠ 0) :
    Calls Try.prog 52 #[cfg n s y b, v, x.val] w fun e w' => e = .returned (.tuple #[.int .i64 0, .int .i64 (wayCE n s y b ss x)]) ∧ Below w.heap.size w w' := by
  have low := Below.refl w.heap.size w
  have cb := boxNext low 44 (cfgA n s y b)
  replace low := gAlloc low (.cells (cfgA n s y b) 44)
  replace h := h.alloc (.cells (cfgA n s y b) 44)
  try simp only [World.size_alloc] at cb
  have xb := boxNext low 32 x.arr
  replace low := gAlloc low (.cells x.arr 32)
  replace h := h.alloc (.cells x.arr 32)
  replace cb := cb.alloc (.cells x.arr 32)
  try simp only [World.size_alloc] at xb
  simp only [Wy.arr] at xb
  rw [lineE_of] at he ⊢
  by_cases hl : lineE n s y b ss x.ln = 0
  · have C := Lib.hid fun w hw => setOfLine_ok n s y b v ss x.ln w hw hl
    have R := Lib.hid fun w => reads_any x.st w
    rw [hl, if_neg (by simp)] at he
    rw [hl, if_neg (by simp)]
    have hr : rdB x.st = false := by
      cases e : rdB x.st
      · rfl
      · rw [if_neg (by simp [e])] at he; exact absurd rfl he
    rw [if_pos hr]
    rw [hr] at R
    generalize x.ln % s = f at C
    clear he hl hr
    go_enter Try.func52, Try.ntmps52
    go_wp2_with fail
    (with_reducible refine (C.out _ h).mono ?_); rintro e w1 ⟨rfl, hb⟩
    replace xb := xb.call hb
    replace low := gCall low hb
    clear hb
    have xb_0 := xb.at_ 0 rfl
    go_wp2_with fail
    (with_reducible refine (R.out _).mono ?_); rintro e w' ⟨rfl, rfl⟩
    clear xb_0
    go_wp2_with fail
    go_ret2
    exact ⟨rfl, low⟩
  · have C := Lib.hid fun w hw => setOfLine_bad n s y b v ss x.ln w hw hl
    rw [if_pos hl]
    generalize lineE n s y b ss x.ln = E at C hl
    have hl' : (E != 0) = true := by simpa using hl
    clear he hl
    go_enter Try.func52, Try.ntmps52
    go_wp2_with fail
    (with_reducible refine (C.out _ h).mono ?_); rintro e w1 ⟨rfl, hb⟩
    replace xb := xb.call hb
    replace low := gCall low hb
    clear hb
    go_wp2_with fail
    go_ret2
    exact ⟨rfl, low⟩

theorem setOfWay_ok (n s y b : Int) (v : Value) (ss : List St) (x : Wy) (w : World) (h : Cs w v ss) (he : wayCE n s y b ss x = 0) :
    Calls Try.prog 52 #[cfg n s y b, v, x.val] w fun e w' => e = .returned (.tuple #[.int .i64 (x.ln % s), .int .i64 0]) ∧ Below w.heap.size w w' := by
  have low := Below.refl w.heap.size w
  have cb := boxNext low 44 (cfgA n s y b)
  replace low := gAlloc low (.cells (cfgA n s y b) 44)
  replace h := h.alloc (.cells (cfgA n s y b) 44)
  try simp only [World.size_alloc] at cb
  have xb := boxNext low 32 x.arr
  replace low := gAlloc low (.cells x.arr 32)
  replace h := h.alloc (.cells x.arr 32)
  replace cb := cb.alloc (.cells x.arr 32)
  try simp only [World.size_alloc] at xb
  simp only [Wy.arr] at xb
  rw [lineE_of] at he
  have hl : lineE n s y b ss x.ln = 0 := by
    by_cases hl : lineE n s y b ss x.ln = 0
    · exact hl
    · rw [if_pos hl] at he; exact he
  have hr : rdB x.st = true := by
    cases e : rdB x.st
    · rw [hl, if_neg (by simp), if_pos e] at he; cases he
    · rfl
  have C := Lib.hid fun w hw => setOfLine_ok n s y b v ss x.ln w hw hl
  have R := Lib.hid fun w => reads_any x.st w
  rw [hr] at R
  generalize x.ln % s = f at C ⊢
  clear he hl hr
  go_enter Try.func52, Try.ntmps52
  go_wp2_with fail
  (with_reducible refine (C.out _ h).mono ?_); rintro e w1 ⟨rfl, hb⟩
  replace xb := xb.call hb
  replace low := gCall low hb
  clear hb
  have xb_0 := xb.at_ 0 rfl
  go_wp2_with fail
  (with_reducible refine (R.out _).mono ?_); rintro e w' ⟨rfl, rfl⟩
  go_wp2_with fail
  go_ret2
  exact ⟨rfl, low⟩

theorem cacheFind_bad (n s y b : Int) (v : Value) (ss : List St) (m : Int) (w : World) (h : Cs w v ss) (he : lineE n s y b ss m ≠ 0) :
    Calls Try.prog 15 #[cfg n s y b, v, .int .i64 m] w fun e w' => e = .returned (.tuple #[zeroV, .bool false, .int .i64 (lineE n s y b ss m)]) ∧ Below w.heap.size w w' := by
  have low := Below.refl w.heap.size w
  have cb := boxNext low 44 (cfgA n s y b)
  replace low := gAlloc low (.cells (cfgA n s y b) 44)
  replace h := h.alloc (.cells (cfgA n s y b) 44)
  try simp only [World.size_alloc] at cb
  have ob := boxNext low 32 zeroA
  replace low := gAlloc low (.cells zeroA 32)
  replace h := h.alloc (.cells zeroA 32)
  replace cb := cb.alloc (.cells zeroA 32)
  try simp only [World.size_alloc] at ob
  simp only [zeroA] at ob
  have C := Lib.hid fun w hw => setOfLine_bad n s y b v ss m w hw he
  generalize lineE n s y b ss m = E at C he ⊢
  have he' : (E != 0) = true := by simpa using he
  clear he
  go_enter Try.func15, Try.ntmps15
  go_wp2_with fail
  (with_reducible refine (C.out _ h).mono ?_); rintro e w1 ⟨rfl, hb⟩
  replace ob := ob.call hb
  replace low := gCall low hb
  clear hb
  have ob_0 := ob.at_ 0 rfl
  have ob_1 := ob.at_ 1 rfl
  have ob_2 := ob.at_ 2 rfl
  have ob_3 := ob.at_ 3 rfl
  have ob_4 := ob.at_ 4 rfl
  have ob_5 := ob.at_ 5 rfl
  have ob_f0 := ob.frozen 0
  have ob_f1 := ob.frozen 1
  have ob_f2 := ob.frozen 2
  have ob_f3 := ob.frozen 3
  have ob_f4 := ob.frozen 4
  have ob_f5 := ob.frozen 5
  have z1 : w.heap.size + 1 < w1.heap.size := ob.lt
  go_wp2_with fail
  refine bodyPost_ret (v := .tuple #[zeroV, .bool false, .int .i64 E]) (by simp [results, Try.results15, go_sem, ob_0, ob_1, ob_2, ob_3, ob_4, ob_5]) rfl ⟨rfl, ?_⟩
  repeat (refine gSet ?_ (by dsimp only; omega) _)
  exact low


set_option maxRecDepth 10000 in
set_option maxHeartbeats 1000000 in
theorem cacheFind_none (n s y b : Int) (v : Value) (ss : List St) (m : Int) (k : Nat) (t : St) (w : World) (h : Cs w v ss) (he : lineE n s y b ss m = 0) (hk : m % s = k) (ht : ss[k]? = some t) (hf : idxP (hasW m) t.l < 0) :
    Calls Try.prog 15 #[cfg n s y b, v, .int .i64 m] w fun e w' => e = .returned (.tuple #[zeroV, .bool false, .int .i64 0]) ∧ Below w.heap.size w w' := by
  obtain ⟨g1, g2, g3⟩ := lineE_ok he
  have good := goodC_iff.1 g1
  have e1 := (good.2.2 k t ht).1
  have kl := st_lt ht
  have low := Below.refl w.heap.size w
  have H := Lib.hid h
  have cb := boxNext low 44 (cfgA n s y b)
  replace low := gAlloc low (.cells (cfgA n s y b) 44)
  replace h := h.alloc (.cells (cfgA n s y b) 44)
  try simp only [World.size_alloc] at cb
  have ob := boxNext low 32 zeroA
  replace low := gAlloc low (.cells zeroA 32)
  replace h := h.alloc (.cells zeroA 32)
  replace cb := cb.alloc (.cells zeroA 32)
  try simp only [World.size_alloc] at ob
  simp only [zeroA] at ob
  have C := Lib.hid fun w hw => setOfLine_ok n s y b v ss m w hw he
  rw [hk] at C
  have kc : (k : Int) < ss.length := by omega
  have k0 : (0 : Int) ≤ k := by omega
  obtain ⟨A, cp, rfl, h1, h2, h3⟩ := H.out
  obtain ⟨bb, o, rfl, hb, hc⟩ := h3 (by omega)
  obtain ⟨A', c', ra, ws⟩ := hc.at_ k t ht
  have F := Lib.hid fun w hw => rowFind_ok (.slice A' t.l.length c') t.l t.a t.b t.c y m w hw e1
  clear h1 h2 h3 hc good e1 g1 g2 g3 he hk ht H
  go_enter Try.func15, Try.ntmps15
  go_wp2_with fail
  (with_reducible refine (C.out _ h).mono ?_); rintro e w1 ⟨rfl, hb⟩
  replace ob := ob.call hb
  replace cb := cb.call hb
  replace low := gCall low hb
  clear hb
  clear C
  obtain ⟨r0, r1, r2, r3⟩ := rowAt_of ra hb low
  have q2 := cb.at_ 2 rfl
  have wsr := ws.call low
  go_wp2_with fail
  refine wp_region_noPanic ?_
  refine wp_region_held_drew (S := fun w' => w'.cell? ⟨bb, o + k * 4, none⟩ = some (.slice A' t.l.length c') ∧ w'.cell? ⟨bb, o + k * 4 + 1, none⟩ = some (.bool t.a) ∧ w'.cell? ⟨bb, o + k * 4 + 2, none⟩ = some (.bool t.b) ∧ w'.cell? ⟨bb, o + k * 4 + 3, none⟩ = some (.bool t.c) ∧ w'.cell? ⟨w.heap.size, 2, none⟩ = some (.int .i64 y)) (by kernel_rfl) ⟨drewC r0, drewC r1, drewC r2, drewC r3, drewC q2⟩ (fun hHeld => ?_)
  refine takeFirst (i := 0) (v := ?_) rfl (by kernel_rfl) (by kernel_rfl) (by kernel_rfl) (by rfl) (fun _ _ _ h => h) ?_ (by assumption) ?_
  rotate_left
  · (intro w hSw; go_simp; try (with_reducible rfl))
  try simp only [Act.put, List.setIfInBounds_toArray, List.set_cons_zero, List.set_cons_succ]
  refine takeFirst (i := 1) (v := ?_) rfl (by kernel_rfl) (by kernel_rfl) (by kernel_rfl) (by rfl) (fun _ _ _ h => h) ?_ (by assumption) ?_
  rotate_left
  · (intro w hSw; go_simp; try (with_reducible rfl))
  try simp only [Act.put, List.setIfInBounds_toArray, List.set_cons_zero, List.set_cons_succ]
  refine takeFirst (i := 2) (v := ?_) rfl (by kernel_rfl) (by kernel_rfl) (by kernel_rfl) (by rfl) (fun _ _ _ h => h) ?_ (by assumption) ?_
  rotate_left
  · (intro w hSw; go_simp; try (with_reducible rfl))
  try simp only [Act.put, List.setIfInBounds_toArray, List.set_cons_zero, List.set_cons_succ]
  refine takeFirst (i := 3) (v := ?_) rfl (by kernel_rfl) (by kernel_rfl) (by kernel_rfl) (by rfl) (fun _ _ _ h => h) ?_ (by assumption) ?_
  rotate_left
  · (intro w hSw; go_simp; try (with_reducible rfl))
  try simp only [Act.put, List.setIfInBounds_toArray, List.set_cons_zero, List.set_cons_succ]
  refine takeFirst (i := 4) (v := ?_) rfl (by kernel_rfl) (by kernel_rfl) (by kernel_rfl) (by rfl) (fun _ _ _ h => h) ?_ (by assumption) ?_
  rotate_left
  · (intro w hSw; go_simp; try (with_reducible rfl))
  try simp only [Act.put, List.setIfInBounds_toArray, List.set_cons_zero, List.set_cons_succ]
  refine takeFirst (i := 5) (v := ?_) rfl (by kernel_rfl) (by kernel_rfl) (by kernel_rfl) (by rfl) (fun _ _ _ h => h) ?_ (by assumption) ?_
  rotate_left
  · (intro w hSw; go_simp; try (with_reducible rfl))
  try simp only [Act.put, List.setIfInBounds_toArray, List.set_cons_zero, List.set_cons_succ]
  refine takeFirst (i := 6) (v := ?_) rfl (by kernel_rfl) (by kernel_rfl) (by kernel_rfl) (by rfl) (fun _ _ _ h => h) ?_ (by assumption) ?_
  rotate_left
  · (intro w hSw; go_simp; try (with_reducible rfl))
  try simp only [Act.put, List.setIfInBounds_toArray, List.set_cons_zero, List.set_cons_succ]
  refine stepNext (i := 7) (by kernel_rfl) rfl (by rfl) (fun K hK => ?_)
  go_simp
  (with_reducible refine (F.out _ wsr.drew).mono ?_); rintro e w2 ⟨rfl, hb2⟩
  replace ob := ob.drew.call hb2
  replace low := gCall low.drew hb2
  obtain ⟨hh0, hh1, hh2, hh3, hh4⟩ := hHeld
  have hHeld := (And.intro (callC hb2 hh0) (And.intro (callC hb2 hh1) (And.intro (callC hb2 hh2) (And.intro (callC hb2 hh3) (callC hb2 hh4)))))
  clear hh0 hh1 hh2 hh3 hh4
  refine hK.out _ _ hHeld ?_
  clear hK K
  try simp only [Act.put]
  try simp only [List.setIfInBounds_toArray, List.set_cons_zero, List.set_cons_succ]
  refine takeFirst (i := 8) (v := ?_) rfl (by kernel_rfl) (by kernel_rfl) (by kernel_rfl) (by rfl) (fun _ _ _ h => h) ?_ (by assumption) ?_
  rotate_left
  · (intro w hSw; go_simp; try (with_reducible rfl))
  try simp only [Act.put, List.setIfInBounds_toArray, List.set_cons_zero, List.set_cons_succ]
  refine takeFirst (i := 9) (v := ?_) rfl (by kernel_rfl) (by kernel_rfl) (by kernel_rfl) (by rfl) (fun _ _ _ h => h) ?_ (by assumption) ?_
  rotate_left
  · (intro w hSw; go_simp; try (with_reducible rfl))
  try simp only [Act.put, List.setIfInBounds_toArray, List.set_cons_zero, List.set_cons_succ]
  refine takeFirst (i := 10) (v := ?_) rfl (by kernel_rfl) (by kernel_rfl) (by kernel_rfl) (by rfl) (fun _ _ _ h => h) ?_ (by assumption) ?_
  rotate_left
  · (intro w hSw; go_simp; try (with_reducible rfl))
  try simp only [Act.put, List.setIfInBounds_toArray, List.set_cons_zero, List.set_cons_succ]
  refine takeFirst (i := 11) (v := ?_) rfl (by kernel_rfl) (by kernel_rfl) (by kernel_rfl) (by rfl) (fun _ _ _ h => h) ?_ (by assumption) ?_
  rotate_left
  · (intro w hSw; go_simp; try (with_reducible rfl))
  try simp only [Act.put, List.setIfInBounds_toArray, List.set_cons_zero, List.set_cons_succ]
  refine takeFirst (i := 12) (v := ?_) rfl (by kernel_rfl) (by kernel_rfl) (by kernel_rfl) (by rfl) (fun _ _ _ h => h) ?_ (by assumption) ?_
  rotate_left
  · (intro w hSw; go_simp; try (with_reducible rfl))
  try simp only [Act.put, List.setIfInBounds_toArray, List.set_cons_zero, List.set_cons_succ]
  refine wpAnyH_done (by kernel_rfl) ?_ _
  refine NoPanic.normal ?_
  clear hHeld r0 r1 r2 r3 q2 F wsr hb2
  have z2 : w.heap.size + 1 < w2.heap.size := ob.lt
  have hd : decide (idxP (hasW m) t.l < 0) = true := decide_eq_true hf
  generalize idxP (hasW m) t.l = f at hd ⊢
  clear hf
  have ob_0 := ob.at_ 0 rfl
  have ob_1 := ob.at_ 1 rfl
  have ob_2 := ob.at_ 2 rfl
  have ob_3 := ob.at_ 3 rfl
  have ob_4 := ob.at_ 4 rfl
  have ob_5 := ob.at_ 5 rfl
  have ob_f0 := ob.frozen 0
  have ob_f1 := ob.frozen 1
  have ob_f2 := ob.frozen 2
  have ob_f3 := ob.frozen 3
  have ob_f4 := ob.frozen 4
  have ob_f5 := ob.frozen 5
  go_wp2_with fail
  refine bodyPost_ret (v := .tuple #[zeroV, .bool false, .int .i64 0]) (by simp [results, Try.results15, go_sem, ob_0, ob_1, ob_2, ob_3, ob_4, ob_5]) rfl ⟨rfl, ?_⟩
  repeat (refine gSet ?_ (by dsimp only; omega) _)
  exact low

set_option maxRecDepth 10000 in
set_option maxHeartbeats 1000000 in
theorem cacheFind_some (n s y b : Int) (v : Value) (ss : List St) (m : Int) (k : Nat) (t : St) (j : Nat) (x : Wy) (w : World) (h : Cs w v ss) (he : lineE n s y b ss m = 0) (hk : m % s = k) (ht : ss[k]? = some t) (hf : idxP (hasW m) t.l = j) (hx : t.l[j]? = some x) :
    Calls Try.prog 15 #[cfg n s y b, v, .int .i64 m] w fun e w' => e = .returned (.tuple #[x.val, .bool true, .int .i64 0]) ∧ Below w.heap.size w w' := by
  obtain ⟨g1, g2, g3⟩ := lineE_ok he
  have good := goodC_iff.1 g1
  have e1 := (good.2.2 k t ht).1
  have kl := st_lt ht
  have low := Below.refl w.heap.size w
  have H := Lib.hid h
  have cb := boxNext low 44 (cfgA n s y b)
  replace low := gAlloc low (.cells (cfgA n s y b) 44)
  replace h := h.alloc (.cells (cfgA n s y b) 44)
  try simp only [World.size_alloc] at cb
  have ob := boxNext low 32 zeroA
  replace low := gAlloc low (.cells zeroA 32)
  replace h := h.alloc (.cells zeroA 32)
  replace cb := cb.alloc (.cells zeroA 32)
  try simp only [World.size_alloc] at ob
  simp only [zeroA] at ob
  have C := Lib.hid fun w hw => setOfLine_ok n s y b v ss m w hw he
  rw [hk] at C
  have kc : (k : Int) < ss.length := by omega
  have k0 : (0 : Int) ≤ k := by omega
  obtain ⟨A, cp, rfl, h1, h2, h3⟩ := H.out
  obtain ⟨bb, o, rfl, hb, hc⟩ := h3 (by omega)
  obtain ⟨A', c', ra, ws⟩ := hc.at_ k t ht
  have F := Lib.hid fun w hw => rowFind_ok (.slice A' t.l.length c') t.l t.a t.b t.c y m w hw e1
  clear h1 h2 h3 hc good e1 g1 g2 g3 he hk ht H
  go_enter Try.func15, Try.ntmps15
  go_wp2_with fail
  (with_reducible refine (C.out _ h).mono ?_); rintro e w1 ⟨rfl, hb⟩
  replace ob := ob.call hb
  replace cb := cb.call hb
  replace low := gCall low hb
  clear hb
  clear C
  obtain ⟨r0, r1, r2, r3⟩ := rowAt_of ra hb low
  have q2 := cb.at_ 2 rfl
  have wsr := ws.call low
  go_wp2_with fail
  refine wp_region_noPanic ?_
  refine wp_region_held_drew (S := fun w' => w'.cell? ⟨bb, o + k * 4, none⟩ = some (.slice A' t.l.length c') ∧ w'.cell? ⟨bb, o + k * 4 + 1, none⟩ = some (.bool t.a) ∧ w'.cell? ⟨bb, o + k * 4 + 2, none⟩ = some (.bool t.b) ∧ w'.cell? ⟨bb, o + k * 4 + 3, none⟩ = some (.bool t.c) ∧ w'.cell? ⟨w.heap.size, 2, none⟩ = some (.int .i64 y)) (by kernel_rfl) ⟨drewC r0, drewC r1, drewC r2, drewC r3, drewC q2⟩ (fun hHeld => ?_)
  refine takeFirst (i := 0) (v := ?_) rfl (by kernel_rfl) (by kernel_rfl) (by kernel_rfl) (by rfl) (fun _ _ _ h => h) ?_ (by assumption) ?_
  rotate_left
  · (intro w hSw; go_simp; try (with_reducible rfl))
  try simp only [Act.put, List.setIfInBounds_toArray, List.set_cons_zero, List.set_cons_succ]
  refine takeFirst (i := 1) (v := ?_) rfl (by kernel_rfl) (by kernel_rfl) (by kernel_rfl) (by rfl) (fun _ _ _ h => h) ?_ (by assumption) ?_
  rotate_left
  · (intro w hSw; go_simp; try (with_reducible rfl))
  try simp only [Act.put, List.setIfInBounds_toArray, List.set_cons_zero, List.set_cons_succ]
  refine takeFirst (i := 2) (v := ?_) rfl (by kernel_rfl) (by kernel_rfl) (by kernel_rfl) (by rfl) (fun _ _ _ h => h) ?_ (by assumption) ?_
  rotate_left
  · (intro w hSw; go_simp; try (with_reducible rfl))
  try simp only [Act.put, List.setIfInBounds_toArray, List.set_cons_zero, List.set_cons_succ]
  refine takeFirst (i := 3) (v := ?_) rfl (by kernel_rfl) (by kernel_rfl) (by kernel_rfl) (by rfl) (fun _ _ _ h => h) ?_ (by assumption) ?_
  rotate_left
  · (intro w hSw; go_simp; try (with_reducible rfl))
  try simp only [Act.put, List.setIfInBounds_toArray, List.set_cons_zero, List.set_cons_succ]
  refine takeFirst (i := 4) (v := ?_) rfl (by kernel_rfl) (by kernel_rfl) (by kernel_rfl) (by rfl) (fun _ _ _ h => h) ?_ (by assumption) ?_
  rotate_left
  · (intro w hSw; go_simp; try (with_reducible rfl))
  try simp only [Act.put, List.setIfInBounds_toArray, List.set_cons_zero, List.set_cons_succ]
  refine takeFirst (i := 5) (v := ?_) rfl (by kernel_rfl) (by kernel_rfl) (by kernel_rfl) (by rfl) (fun _ _ _ h => h) ?_ (by assumption) ?_
  rotate_left
  · (intro w hSw; go_simp; try (with_reducible rfl))
  try simp only [Act.put, List.setIfInBounds_toArray, List.set_cons_zero, List.set_cons_succ]
  refine takeFirst (i := 6) (v := ?_) rfl (by kernel_rfl) (by kernel_rfl) (by kernel_rfl) (by rfl) (fun _ _ _ h => h) ?_ (by assumption) ?_
  rotate_left
  · (intro w hSw; go_simp; try (with_reducible rfl))
  try simp only [Act.put, List.setIfInBounds_toArray, List.set_cons_zero, List.set_cons_succ]
  refine stepNext (i := 7) (by kernel_rfl) rfl (by rfl) (fun K hK => ?_)
  go_simp
  (with_reducible refine (F.out _ wsr.drew).mono ?_); rintro e w2 ⟨rfl, hb2⟩
  replace ob := ob.drew.call hb2
  replace low := gCall low.drew hb2
  obtain ⟨hh0, hh1, hh2, hh3, hh4⟩ := hHeld
  have hHeld := (And.intro (callC hb2 hh0) (And.intro (callC hb2 hh1) (And.intro (callC hb2 hh2) (And.intro (callC hb2 hh3) (callC hb2 hh4)))))
  clear hh0 hh1 hh2 hh3 hh4
  refine hK.out _ _ hHeld ?_
  clear hK K
  try simp only [Act.put]
  try simp only [List.setIfInBounds_toArray, List.set_cons_zero, List.set_cons_succ]
  refine takeFirst (i := 8) (v := ?_) rfl (by kernel_rfl) (by kernel_rfl) (by kernel_rfl) (by rfl) (fun _ _ _ h => h) ?_ (by assumption) ?_
  rotate_left
  · (intro w hSw; go_simp; try (with_reducible rfl))
  try simp only [Act.put, List.setIfInBounds_toArray, List.set_cons_zero, List.set_cons_succ]
  refine takeFirst (i := 9) (v := ?_) rfl (by kernel_rfl) (by kernel_rfl) (by kernel_rfl) (by rfl) (fun _ _ _ h => h) ?_ (by assumption) ?_
  rotate_left
  · (intro w hSw; go_simp; try (with_reducible rfl))
  try simp only [Act.put, List.setIfInBounds_toArray, List.set_cons_zero, List.set_cons_succ]
  refine takeFirst (i := 10) (v := ?_) rfl (by kernel_rfl) (by kernel_rfl) (by kernel_rfl) (by rfl) (fun _ _ _ h => h) ?_ (by assumption) ?_
  rotate_left
  · (intro w hSw; go_simp; try (with_reducible rfl))
  try simp only [Act.put, List.setIfInBounds_toArray, List.set_cons_zero, List.set_cons_succ]
  refine takeFirst (i := 11) (v := ?_) rfl (by kernel_rfl) (by kernel_rfl) (by kernel_rfl) (by rfl) (fun _ _ _ h => h) ?_ (by assumption) ?_
  rotate_left
  · (intro w hSw; go_simp; try (with_reducible rfl))
  try simp only [Act.put, List.setIfInBounds_toArray, List.set_cons_zero, List.set_cons_succ]
  refine takeFirst (i := 12) (v := ?_) rfl (by kernel_rfl) (by kernel_rfl) (by kernel_rfl) (by rfl) (fun _ _ _ h => h) ?_ (by assumption) ?_
  rotate_left
  · (intro w hSw; go_simp; try (with_reducible rfl))
  try simp only [Act.put, List.setIfInBounds_toArray, List.set_cons_zero, List.set_cons_succ]
  refine wpAnyH_done (by kernel_rfl) ?_ _
  refine NoPanic.normal ?_
  clear hHeld r0 r1 r2 r3 q2 F wsr hb2
  have z2 : w.heap.size + 1 < w2.heap.size := ob.lt
  rw [hf]
  have hd : decide ((j : Int) < 0) = false := decide_eq_false (by omega)
  have jl := set_lt hx
  have j0 : (0 : Int) ≤ j := by omega
  have j1 : (j : Int) < t.l.length := by omega
  obtain ⟨r0, r1, r2, r3⟩ := rowAt_of ra hb low
  obtain ⟨hl, A2, c2, e2, _, _, h3⟩ := ws
  cases e2
  obtain ⟨b2, o2, rfl, hb2, hc2⟩ := h3 (by omega)
  obtain ⟨x0, x1, x2, x3, x4, x5⟩ := wayAt_of hc2 hb2 low hx
  clear hf hx hc2 h3 hl
  have ob_0 := ob.at_ 0 rfl
  have ob_1 := ob.at_ 1 rfl
  have ob_2 := ob.at_ 2 rfl
  have ob_3 := ob.at_ 3 rfl
  have ob_4 := ob.at_ 4 rfl
  have ob_5 := ob.at_ 5 rfl
  have ob_f0 := ob.frozen 0
  have ob_f1 := ob.frozen 1
  have ob_f2 := ob.frozen 2
  have ob_f3 := ob.frozen 3
  have ob_f4 := ob.frozen 4
  have ob_f5 := ob.frozen 5
  go_wp2_with fail
  refine bodyPost_ret (v := .tuple #[x.val, .bool true, .int .i64 0]) (by simp [results, Try.results15, go_sem, ob_0, ob_1, ob_2, ob_3, ob_4, ob_5]) rfl ⟨rfl, ?_⟩
  repeat (refine gSet ?_ (by dsimp only; omega) _)
  exact low
end Go.Proofs.Ytmodajmjmdigfaa
