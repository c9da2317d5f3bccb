/-
Proved: what the texts below say at the head of each. No condition but theirs.
-/
import Derived.Test.YtgdacpcifnpojaaGreatJoined2
import Derived.Laws.MakeOwn
import Derived.Test.YtgdacpcifnpojaaGreatJoined1
import Derived.Deep.WholeRow
/- Cache2: Proved: what setOfLine, setOfWay and Find of package cache return, for every cache that can be read; they change nothing that was there. No condition. -/
namespace Go.Proofs.YtgdacpcifnpojaaGreat
open Go.ChangeShapes Go.WideShapes Go.ChangeAt Go.RowKit Go.Joins

/-- The error of a cache and a line, of a cache and a way. -/
def lineE (n s y b : Int) (ss : List St) (m : Int) : Int := if cacheE n s y b ss ≠ 0 then cacheE n s y b ss else if lnB m = false then 4 else 0
def wayCE (n s y b : Int) (ss : List St) (x : Wy) : Int := if cacheE n s y b ss ≠ 0 then cacheE n s y b ss else if hlB x = false then 4 else 0

theorem lineE_ok {n s y b : Int} {ss : List St} {m : Int} (h : lineE n s y b ss m = 0) : cacheE n s y b ss = 0 ∧ 0 ≤ m ∧ m ≤ 15 := by
  unfold lineE at h
  split at h
  · exact absurd h (by assumption)
  · split at h
    · cases h
    · rename_i h1 h2
      have : lnB m = true := by simpa using h2
      simp [lnB] at this
      exact ⟨by simpa using h1, by omega, by omega⟩

theorem wayCE_ok {n s y b : Int} {ss : List St} {x : Wy} (h : wayCE n s y b ss x = 0) : cacheE n s y b ss = 0 ∧ hlB x = true := by
  unfold wayCE at h
  split at h
  · exact absurd h (by assumption)
  · split at h
    · cases h
    · rename_i h1 h2
      exact ⟨by simpa using h1, by simpa using h2⟩

theorem lnB_iff {m : Int} : lnB m = true ↔ 0 ≤ m ∧ m ≤ 15 := by
  simp [lnB]
  omega
theorem lnB_no {m : Int} (h : lnB m = false) : m < 0 ∨ 15 < m := by
  have : ¬ (0 ≤ m ∧ m ≤ 15) := fun k => by rw [lnB_iff.2 k] at h; cases h
  omega

theorem hlB_line {x : Wy} (h : hlB x = true) : 0 ≤ x.ln ∧ x.ln ≤ 15 := by
  simp only [hlB, Bool.and_eq_true] at h
  exact lnB_iff.1 h.2

/-- The set of a line is there. -/
theorem GoodC.set_ {n s y b : Int} {ss : List St} (h : GoodC n s y b ss) (m : Int) : ∃ (k : Nat) (t : St), m % s = k ∧ ss[k]? = some t := by
  obtain ⟨h1, h2, _⟩ := h
  have hs : 1 ≤ s ∧ s ≤ 4 := by have := cfgB_iff.1 h1; omega
  have h3 : 0 ≤ m % s := Int.emod_nonneg _ (by omega)
  have h4 : m % s < s := Int.emod_lt_of_pos _ (by omega)
  have hlt : (m % s).toNat < ss.length := by omega
  exact ⟨(m % s).toNat, ss[(m % s).toNat], by omega, List.getElem?_eq_getElem hlt⟩

theorem st_lt {ss : List St} {k : Nat} {t : St} (h : ss[k]? = some t) : k < ss.length := (List.getElem?_eq_some_iff.1 h).1

theorem setOfLine_bad (n s y b : Int) (v : Value) (ss : List St) (m : Int) (w : World) (h : Cs w v ss) (he : lineE n s y b ss m ≠ 0) :
    Calls Tryz.prog 151 #[cfg n s y b, v, .int .i64 m] w fun e w' => e = .returned (.tuple #[.int .i64 0, .int .i64 (lineE n s y b ss m)]) ∧ Below w.heap.size w w' := by
  have low := Below.refl w.heap.size w
  have cb := boxNext low 23 (cfgA n s y b)
  replace low := gAlloc low (.cells (cfgA n s y b) 23)
  replace h := h.alloc (.cells (cfgA n s y b) 23)
  try simp only [World.size_alloc] at cb
  have C := Lib.hid fun w hw => cacheCheck_any n s y b v ss w hw
  generalize hE : lineE n s y b ss m = E at he ⊢
  unfold lineE at hE
  generalize cacheE n s y b ss = r at C hE
  have HE := Lib.hid hE
  have HH := Lib.hid he
  clear he hE
  cases hr : (r != 0)
  rotate_left
  · obtain rfl : r = E := by have := HE.out; rwa [if_pos (by simpa using hr)] at this
    go_enter Tryz.func151, Tryz.ntmps151
    go_wp2_with fail
    (with_reducible refine (C.out _ h).mono ?_); rintro e w1 ⟨rfl, hb⟩
    replace cb := cb.call hb
    replace low := gCall low hb
    clear hb
    go_wp2_with fail
    go_ret2
    exact ⟨rfl, low⟩
  obtain rfl : r = 0 := by simpa using hr
  have hm : lnB m = false := by
    cases e : lnB m
    · rfl
    · have := HE.out
      rw [if_neg (by simp), if_neg (by simp [e])] at this
      exact absurd this.symm HH.out
  obtain rfl : 4 = E := by have := HE.out; rwa [if_neg (by simp), if_pos hm] at this
  have SB := Lib.hid fun w => set_bad n s y b m w (.inr (lnB_no hm))
  clear hm
  go_enter Tryz.func151, Tryz.ntmps151
  go_wp2_with fail
  (with_reducible refine (C.out _ h).mono ?_); rintro e w1 ⟨rfl, hb⟩
  replace cb := cb.call hb
  replace low := gCall low hb
  clear hb
  have cb_0 := cb.at_ 0 rfl
  have cb_1 := cb.at_ 1 rfl
  have cb_2 := cb.at_ 2 rfl
  have cb_3 := cb.at_ 3 rfl
  go_wp2_with fail
  (with_reducible refine (SB.out _).mono ?_); rintro e w2 ⟨rfl, hb⟩
  replace cb := cb.call hb
  replace low := gCall low hb
  clear hb cb_0 cb_1 cb_2 cb_3
  go_wp2_with fail
  go_ret2
  exact ⟨rfl, low⟩

theorem setOfLine_ok (n s y b : Int) (v : Value) (ss : List St) (m : Int) (w : World) (h : Cs w v ss) (he : lineE n s y b ss m = 0) :
    Calls Tryz.prog 151 #[cfg n s y b, v, .int .i64 m] w fun e w' => e = .returned (.tuple #[.int .i64 (m % s), .int .i64 0]) ∧ Below w.heap.size w w' := by
  have low := Below.refl w.heap.size w
  have cb := boxNext low 23 (cfgA n s y b)
  replace low := gAlloc low (.cells (cfgA n s y b) 23)
  replace h := h.alloc (.cells (cfgA n s y b) 23)
  try simp only [World.size_alloc] at cb
  obtain ⟨h1, h2, h3⟩ := lineE_ok he
  have C := Lib.hid fun w hw => cacheCheck_any n s y b v ss w hw
  have SB := Lib.hid fun w => set_ok n s y b m w (cacheE_ok h1).1 h2 h3
  rw [h1] at C
  generalize m % s = f at SB ⊢
  clear he h1 h2 h3
  go_enter Tryz.func151, Tryz.ntmps151
  go_wp2_with fail
  (with_reducible refine (C.out _ h).mono ?_); rintro e w1 ⟨rfl, hb⟩
  replace cb := cb.call hb
  replace low := gCall low hb
  clear hb
  have cb_0 := cb.at_ 0 rfl
  have cb_1 := cb.at_ 1 rfl
  have cb_2 := cb.at_ 2 rfl
  have cb_3 := cb.at_ 3 rfl
  go_wp2_with fail
  (with_reducible refine (SB.out _).mono ?_); rintro e w2 ⟨rfl, hb⟩
  replace cb := cb.call hb
  replace low := gCall low hb
  clear hb cb_0 cb_1 cb_2 cb_3
  go_wp2_with fail
  go_ret2
  exact ⟨rfl, low⟩

theorem lineE_of {n s y b : Int} {ss : List St} {x : Wy} : wayCE n s y b ss x = if lineE n s y b ss x.ln ≠ 0 then lineE n s y b ss x.ln else if rdB x.st = false then 4 else 0 := by
  unfold wayCE lineE hlB
  by_cases h : cacheE n s y b ss ≠ 0
  · simp [h]
  · cases h1 : lnB x.ln <;> cases h2 : rdB x.st <;> simp [h]

theorem setOfWay_bad (n s y b : Int) (v : Value) (ss : List St) (x : Wy) (w : World) (h : Cs w v ss) (he : wayCE n s y b ss x ≠ 0) :
    Calls Tryz.prog 160 #[cfg n s y b, v, x.val] w fun e w' => e = .returned (.tuple #[.int .i64 0, .int .i64 (wayCE n s y b ss x)]) ∧ Below w.heap.size w w' := by
  have low := Below.refl w.heap.size w
  have cb := boxNext low 23 (cfgA n s y b)
  replace low := gAlloc low (.cells (cfgA n s y b) 23)
  replace h := h.alloc (.cells (cfgA n s y b) 23)
  try simp only [World.size_alloc] at cb
  have xb := boxNext low 80 x.arr
  replace low := gAlloc low (.cells x.arr 80)
  replace h := h.alloc (.cells x.arr 80)
  replace cb := cb.alloc (.cells x.arr 80)
  try simp only [World.size_alloc] at xb
  simp only [Wy.arr] at xb
  rw [lineE_of] at he ⊢
  by_cases hl : lineE n s y b ss x.ln = 0
  · have C := Lib.hid fun w hw => setOfLine_ok n s y b v ss x.ln w hw hl
    have R := Lib.hid fun w => reads_any x.st w
    rw [hl, if_neg (by simp)] at he
    rw [hl, if_neg (by simp)]
    have hr : rdB x.st = false := by
      cases e : rdB x.st
      · rfl
      · rw [if_neg (by simp [e])] at he; exact absurd rfl he
    rw [if_pos hr]
    rw [hr] at R
    generalize x.ln % s = f at C
    clear he hl hr
    go_enter Tryz.func160, Tryz.ntmps160
    go_wp2_with fail
    (with_reducible refine (C.out _ h).mono ?_); rintro e w1 ⟨rfl, hb⟩
    replace xb := xb.call hb
    replace low := gCall low hb
    clear hb
    have xb_0 := xb.at_ 0 rfl
    go_wp2_with fail
    (with_reducible refine (R.out _).mono ?_); rintro e w' ⟨rfl, rfl⟩
    clear xb_0
    go_wp2_with fail
    go_ret2
    exact ⟨rfl, low⟩
  · have C := Lib.hid fun w hw => setOfLine_bad n s y b v ss x.ln w hw hl
    rw [if_pos hl]
    generalize lineE n s y b ss x.ln = E at C hl
    have hl' : (E != 0) = true := by simpa using hl
    clear he hl
    go_enter Tryz.func160, Tryz.ntmps160
    go_wp2_with fail
    (with_reducible refine (C.out _ h).mono ?_); rintro e w1 ⟨rfl, hb⟩
    replace xb := xb.call hb
    replace low := gCall low hb
    clear hb
    go_wp2_with fail
    go_ret2
    exact ⟨rfl, low⟩

theorem setOfWay_ok (n s y b : Int) (v : Value) (ss : List St) (x : Wy) (w : World) (h : Cs w v ss) (he : wayCE n s y b ss x = 0) :
    Calls Tryz.prog 160 #[cfg n s y b, v, x.val] w fun e w' => e = .returned (.tuple #[.int .i64 (x.ln % s), .int .i64 0]) ∧ Below w.heap.size w w' := by
  have low := Below.refl w.heap.size w
  have cb := boxNext low 23 (cfgA n s y b)
  replace low := gAlloc low (.cells (cfgA n s y b) 23)
  replace h := h.alloc (.cells (cfgA n s y b) 23)
  try simp only [World.size_alloc] at cb
  have xb := boxNext low 80 x.arr
  replace low := gAlloc low (.cells x.arr 80)
  replace h := h.alloc (.cells x.arr 80)
  replace cb := cb.alloc (.cells x.arr 80)
  try simp only [World.size_alloc] at xb
  simp only [Wy.arr] at xb
  rw [lineE_of] at he
  have hl : lineE n s y b ss x.ln = 0 := by
    by_cases hl : lineE n s y b ss x.ln = 0
    · exact hl
    · rw [if_pos hl] at he; exact he
  have hr : rdB x.st = true := by
    cases e : rdB x.st
    · rw [hl, if_neg (by simp), if_pos e] at he; cases he
    · rfl
  have C := Lib.hid fun w hw => setOfLine_ok n s y b v ss x.ln w hw hl
  have R := Lib.hid fun w => reads_any x.st w
  rw [hr] at R
  generalize x.ln % s = f at C ⊢
  clear he hl hr
  go_enter Tryz.func160, Tryz.ntmps160
  go_wp2_with fail
  (with_reducible refine (C.out _ h).mono ?_); rintro e w1 ⟨rfl, hb⟩
  replace xb := xb.call hb
  replace low := gCall low hb
  clear hb
  have xb_0 := xb.at_ 0 rfl
  go_wp2_with fail
  (with_reducible refine (R.out _).mono ?_); rintro e w' ⟨rfl, rfl⟩
  go_wp2_with fail
  go_ret2
  exact ⟨rfl, low⟩

theorem cacheFind_bad (n s y b : Int) (v : Value) (ss : List St) (m : Int) (w : World) (h : Cs w v ss) (he : lineE n s y b ss m ≠ 0) :
    Calls Tryz.prog 128 #[cfg n s y b, v, .int .i64 m] w fun e w' => e = .returned (.tuple #[zeroV, .bool false, .int .i64 (lineE n s y b ss m)]) ∧ Below w.heap.size w w' := by
  have low := Below.refl w.heap.size w
  have cb := boxNext low 23 (cfgA n s y b)
  replace low := gAlloc low (.cells (cfgA n s y b) 23)
  replace h := h.alloc (.cells (cfgA n s y b) 23)
  try simp only [World.size_alloc] at cb
  have ob := boxNext low 80 zeroA
  replace low := gAlloc low (.cells zeroA 80)
  replace h := h.alloc (.cells zeroA 80)
  replace cb := cb.alloc (.cells zeroA 80)
  try simp only [World.size_alloc] at ob
  simp only [zeroA] at ob
  have C := Lib.hid fun w hw => setOfLine_bad n s y b v ss m w hw he
  generalize lineE n s y b ss m = E at C he ⊢
  have he' : (E != 0) = true := by simpa using he
  clear he
  go_enter Tryz.func128, Tryz.ntmps128
  go_wp2_with fail
  (with_reducible refine (C.out _ h).mono ?_); rintro e w1 ⟨rfl, hb⟩
  replace ob := ob.call hb
  replace low := gCall low hb
  clear hb
  have ob_0 := ob.at_ 0 rfl
  have ob_1 := ob.at_ 1 rfl
  have ob_2 := ob.at_ 2 rfl
  have ob_3 := ob.at_ 3 rfl
  have ob_4 := ob.at_ 4 rfl
  have ob_5 := ob.at_ 5 rfl
  have ob_f0 := ob.frozen 0
  have ob_f1 := ob.frozen 1
  have ob_f2 := ob.frozen 2
  have ob_f3 := ob.frozen 3
  have ob_f4 := ob.frozen 4
  have ob_f5 := ob.frozen 5
  have z1 : w.heap.size + 1 < w1.heap.size := ob.lt
  go_wp2_with fail
  refine bodyPost_ret (v := .tuple #[zeroV, .bool false, .int .i64 E]) (by simp [results, Tryz.results128, go_sem, ob_0, ob_1, ob_2, ob_3, ob_4, ob_5]) rfl ⟨rfl, ?_⟩
  repeat (refine gSet ?_ (by dsimp only; omega) _)
  exact low


set_option maxRecDepth 10000 in
set_option maxHeartbeats 1000000 in
theorem cacheFind_none (n s y b : Int) (v : Value) (ss : List St) (m : Int) (k : Nat) (t : St) (w : World) (h : Cs w v ss) (he : lineE n s y b ss m = 0) (hk : m % s = k) (ht : ss[k]? = some t) (hf : idxP (hasW m) t.l < 0) :
    Calls Tryz.prog 128 #[cfg n s y b, v, .int .i64 m] w fun e w' => e = .returned (.tuple #[zeroV, .bool false, .int .i64 0]) ∧ Below w.heap.size w w' := by
  obtain ⟨g1, g2, g3⟩ := lineE_ok he
  have good := goodC_iff.1 g1
  have e1 := (good.2.2 k t ht).1
  have kl := st_lt ht
  have low := Below.refl w.heap.size w
  have H := Lib.hid h
  have cb := boxNext low 23 (cfgA n s y b)
  replace low := gAlloc low (.cells (cfgA n s y b) 23)
  replace h := h.alloc (.cells (cfgA n s y b) 23)
  try simp only [World.size_alloc] at cb
  have ob := boxNext low 80 zeroA
  replace low := gAlloc low (.cells zeroA 80)
  replace h := h.alloc (.cells zeroA 80)
  replace cb := cb.alloc (.cells zeroA 80)
  try simp only [World.size_alloc] at ob
  simp only [zeroA] at ob
  have C := Lib.hid fun w hw => setOfLine_ok n s y b v ss m w hw he
  rw [hk] at C
  have kc : (k : Int) < ss.length := by omega
  have k0 : (0 : Int) ≤ k := by omega
  obtain ⟨A, cp, rfl, h1, h2, h3⟩ := H.out
  obtain ⟨bb, o, rfl, hb, hc⟩ := h3 (by omega)
  obtain ⟨A', c', ra, ws⟩ := hc.at_ k t ht
  have F := Lib.hid fun w hw => rowFind_ok (.slice A' t.l.length c') t.l t.a t.b t.c y m w hw e1
  clear h1 h2 h3 hc good e1 g1 g2 g3 he hk ht H
  go_enter Tryz.func128, Tryz.ntmps128
  go_wp2_with fail
  (with_reducible refine (C.out _ h).mono ?_); rintro e w1 ⟨rfl, hb⟩
  replace ob := ob.call hb
  replace cb := cb.call hb
  replace low := gCall low hb
  clear hb
  clear C
  obtain ⟨r0, r1, r2, r3⟩ := rowAt_of ra hb low
  have q2 := cb.at_ 2 rfl
  have wsr := ws.call low
  go_wp2_with fail
  refine wp_region_noPanic ?_
  refine wp_region_held_drew (S := fun w' => w'.cell? ⟨bb, o + k * 4, none⟩ = some (.slice A' t.l.length c') ∧ w'.cell? ⟨bb, o + k * 4 + 1, none⟩ = some (.bool t.a) ∧ w'.cell? ⟨bb, o + k * 4 + 2, none⟩ = some (.bool t.b) ∧ w'.cell? ⟨bb, o + k * 4 + 3, none⟩ = some (.bool t.c) ∧ w'.cell? ⟨w.heap.size, 2, none⟩ = some (.int .i64 y)) (by kernel_rfl) ⟨drewC r0, drewC r1, drewC r2, drewC r3, drewC q2⟩ (fun hHeld => ?_)
  refine takeFirst (i := 0) (v := ?_) rfl (by kernel_rfl) (by kernel_rfl) (by kernel_rfl) (by rfl) (fun _ _ _ h => h) ?_ (by assumption) ?_
  rotate_left
  · (intro w hSw; go_simp; try (with_reducible rfl))
  try simp only [Act.put, List.setIfInBounds_toArray, List.set_cons_zero, List.set_cons_succ]
  refine takeFirst (i := 1) (v := ?_) rfl (by kernel_rfl) (by kernel_rfl) (by kernel_rfl) (by rfl) (fun _ _ _ h => h) ?_ (by assumption) ?_
  rotate_left
  · (intro w hSw; go_simp; try (with_reducible rfl))
  try simp only [Act.put, List.setIfInBounds_toArray, List.set_cons_zero, List.set_cons_succ]
  refine takeFirst (i := 2) (v := ?_) rfl (by kernel_rfl) (by kernel_rfl) (by kernel_rfl) (by rfl) (fun _ _ _ h => h) ?_ (by assumption) ?_
  rotate_left
  · (intro w hSw; go_simp; try (with_reducible rfl))
  try simp only [Act.put, List.setIfInBounds_toArray, List.set_cons_zero, List.set_cons_succ]
  refine takeFirst (i := 3) (v := ?_) rfl (by kernel_rfl) (by kernel_rfl) (by kernel_rfl) (by rfl) (fun _ _ _ h => h) ?_ (by assumption) ?_
  rotate_left
  · (intro w hSw; go_simp; try (with_reducible rfl))
  try simp only [Act.put, List.setIfInBounds_toArray, List.set_cons_zero, List.set_cons_succ]
  refine takeFirst (i := 4) (v := ?_) rfl (by kernel_rfl) (by kernel_rfl) (by kernel_rfl) (by rfl) (fun _ _ _ h => h) ?_ (by assumption) ?_
  rotate_left
  · (intro w hSw; go_simp; try (with_reducible rfl))
  try simp only [Act.put, List.setIfInBounds_toArray, List.set_cons_zero, List.set_cons_succ]
  refine takeFirst (i := 5) (v := ?_) rfl (by kernel_rfl) (by kernel_rfl) (by kernel_rfl) (by rfl) (fun _ _ _ h => h) ?_ (by assumption) ?_
  rotate_left
  · (intro w hSw; go_simp; try (with_reducible rfl))
  try simp only [Act.put, List.setIfInBounds_toArray, List.set_cons_zero, List.set_cons_succ]
  refine takeFirst (i := 6) (v := ?_) rfl (by kernel_rfl) (by kernel_rfl) (by kernel_rfl) (by rfl) (fun _ _ _ h => h) ?_ (by assumption) ?_
  rotate_left
  · (intro w hSw; go_simp; try (with_reducible rfl))
  try simp only [Act.put, List.setIfInBounds_toArray, List.set_cons_zero, List.set_cons_succ]
  refine stepNext (i := 7) (by kernel_rfl) rfl (by rfl) (fun K hK => ?_)
  go_simp
  (with_reducible refine (F.out _ wsr.drew).mono ?_); rintro e w2 ⟨rfl, hb2⟩
  replace ob := ob.drew.call hb2
  replace low := gCall low.drew hb2
  obtain ⟨hh0, hh1, hh2, hh3, hh4⟩ := hHeld
  have hHeld := (And.intro (callC hb2 hh0) (And.intro (callC hb2 hh1) (And.intro (callC hb2 hh2) (And.intro (callC hb2 hh3) (callC hb2 hh4)))))
  clear hh0 hh1 hh2 hh3 hh4
  refine hK.out _ _ hHeld ?_
  clear hK K
  try simp only [Act.put]
  try simp only [List.setIfInBounds_toArray, List.set_cons_zero, List.set_cons_succ]
  refine takeFirst (i := 8) (v := ?_) rfl (by kernel_rfl) (by kernel_rfl) (by kernel_rfl) (by rfl) (fun _ _ _ h => h) ?_ (by assumption) ?_
  rotate_left
  · (intro w hSw; go_simp; try (with_reducible rfl))
  try simp only [Act.put, List.setIfInBounds_toArray, List.set_cons_zero, List.set_cons_succ]
  refine takeFirst (i := 9) (v := ?_) rfl (by kernel_rfl) (by kernel_rfl) (by kernel_rfl) (by rfl) (fun _ _ _ h => h) ?_ (by assumption) ?_
  rotate_left
  · (intro w hSw; go_simp; try (with_reducible rfl))
  try simp only [Act.put, List.setIfInBounds_toArray, List.set_cons_zero, List.set_cons_succ]
  refine takeFirst (i := 10) (v := ?_) rfl (by kernel_rfl) (by kernel_rfl) (by kernel_rfl) (by rfl) (fun _ _ _ h => h) ?_ (by assumption) ?_
  rotate_left
  · (intro w hSw; go_simp; try (with_reducible rfl))
  try simp only [Act.put, List.setIfInBounds_toArray, List.set_cons_zero, List.set_cons_succ]
  refine takeFirst (i := 11) (v := ?_) rfl (by kernel_rfl) (by kernel_rfl) (by kernel_rfl) (by rfl) (fun _ _ _ h => h) ?_ (by assumption) ?_
  rotate_left
  · (intro w hSw; go_simp; try (with_reducible rfl))
  try simp only [Act.put, List.setIfInBounds_toArray, List.set_cons_zero, List.set_cons_succ]
  refine takeFirst (i := 12) (v := ?_) rfl (by kernel_rfl) (by kernel_rfl) (by kernel_rfl) (by rfl) (fun _ _ _ h => h) ?_ (by assumption) ?_
  rotate_left
  · (intro w hSw; go_simp; try (with_reducible rfl))
  try simp only [Act.put, List.setIfInBounds_toArray, List.set_cons_zero, List.set_cons_succ]
  refine wpAnyH_done (by kernel_rfl) ?_ _
  refine NoPanic.normal ?_
  clear hHeld r0 r1 r2 r3 q2 F wsr hb2
  have z2 : w.heap.size + 1 < w2.heap.size := ob.lt
  have hd : decide (idxP (hasW m) t.l < 0) = true := decide_eq_true hf
  generalize idxP (hasW m) t.l = f at hd ⊢
  clear hf
  have ob_0 := ob.at_ 0 rfl
  have ob_1 := ob.at_ 1 rfl
  have ob_2 := ob.at_ 2 rfl
  have ob_3 := ob.at_ 3 rfl
  have ob_4 := ob.at_ 4 rfl
  have ob_5 := ob.at_ 5 rfl
  have ob_f0 := ob.frozen 0
  have ob_f1 := ob.frozen 1
  have ob_f2 := ob.frozen 2
  have ob_f3 := ob.frozen 3
  have ob_f4 := ob.frozen 4
  have ob_f5 := ob.frozen 5
  go_wp2_with fail
  refine bodyPost_ret (v := .tuple #[zeroV, .bool false, .int .i64 0]) (by simp [results, Tryz.results128, go_sem, ob_0, ob_1, ob_2, ob_3, ob_4, ob_5]) rfl ⟨rfl, ?_⟩
  repeat (refine gSet ?_ (by dsimp only; omega) _)
  exact low

set_option maxRecDepth 10000 in
set_option maxHeartbeats 1000000 in
theorem cacheFind_some (n s y b : Int) (v : Value) (ss : List St) (m : Int) (k : Nat) (t : St) (j : Nat) (x : Wy) (w : World) (h : Cs w v ss) (he : lineE n s y b ss m = 0) (hk : m % s = k) (ht : ss[k]? = some t) (hf : idxP (hasW m) t.l = j) (hx : t.l[j]? = some x) :
    Calls Tryz.prog 128 #[cfg n s y b, v, .int .i64 m] w fun e w' => e = .returned (.tuple #[x.val, .bool true, .int .i64 0]) ∧ Below w.heap.size w w' := by
  obtain ⟨g1, g2, g3⟩ := lineE_ok he
  have good := goodC_iff.1 g1
  have e1 := (good.2.2 k t ht).1
  have kl := st_lt ht
  have low := Below.refl w.heap.size w
  have H := Lib.hid h
  have cb := boxNext low 23 (cfgA n s y b)
  replace low := gAlloc low (.cells (cfgA n s y b) 23)
  replace h := h.alloc (.cells (cfgA n s y b) 23)
  try simp only [World.size_alloc] at cb
  have ob := boxNext low 80 zeroA
  replace low := gAlloc low (.cells zeroA 80)
  replace h := h.alloc (.cells zeroA 80)
  replace cb := cb.alloc (.cells zeroA 80)
  try simp only [World.size_alloc] at ob
  simp only [zeroA] at ob
  have C := Lib.hid fun w hw => setOfLine_ok n s y b v ss m w hw he
  rw [hk] at C
  have kc : (k : Int) < ss.length := by omega
  have k0 : (0 : Int) ≤ k := by omega
  obtain ⟨A, cp, rfl, h1, h2, h3⟩ := H.out
  obtain ⟨bb, o, rfl, hb, hc⟩ := h3 (by omega)
  obtain ⟨A', c', ra, ws⟩ := hc.at_ k t ht
  have F := Lib.hid fun w hw => rowFind_ok (.slice A' t.l.length c') t.l t.a t.b t.c y m w hw e1
  clear h1 h2 h3 hc good e1 g1 g2 g3 he hk ht H
  go_enter Tryz.func128, Tryz.ntmps128
  go_wp2_with fail
  (with_reducible refine (C.out _ h).mono ?_); rintro e w1 ⟨rfl, hb⟩
  replace ob := ob.call hb
  replace cb := cb.call hb
  replace low := gCall low hb
  clear hb
  clear C
  obtain ⟨r0, r1, r2, r3⟩ := rowAt_of ra hb low
  have q2 := cb.at_ 2 rfl
  have wsr := ws.call low
  go_wp2_with fail
  refine wp_region_noPanic ?_
  refine wp_region_held_drew (S := fun w' => w'.cell? ⟨bb, o + k * 4, none⟩ = some (.slice A' t.l.length c') ∧ w'.cell? ⟨bb, o + k * 4 + 1, none⟩ = some (.bool t.a) ∧ w'.cell? ⟨bb, o + k * 4 + 2, none⟩ = some (.bool t.b) ∧ w'.cell? ⟨bb, o + k * 4 + 3, none⟩ = some (.bool t.c) ∧ w'.cell? ⟨w.heap.size, 2, none⟩ = some (.int .i64 y)) (by kernel_rfl) ⟨drewC r0, drewC r1, drewC r2, drewC r3, drewC q2⟩ (fun hHeld => ?_)
  refine takeFirst (i := 0) (v := ?_) rfl (by kernel_rfl) (by kernel_rfl) (by kernel_rfl) (by rfl) (fun _ _ _ h => h) ?_ (by assumption) ?_
  rotate_left
  · (intro w hSw; go_simp; try (with_reducible rfl))
  try simp only [Act.put, List.setIfInBounds_toArray, List.set_cons_zero, List.set_cons_succ]
  refine takeFirst (i := 1) (v := ?_) rfl (by kernel_rfl) (by kernel_rfl) (by kernel_rfl) (by rfl) (fun _ _ _ h => h) ?_ (by assumption) ?_
  rotate_left
  · (intro w hSw; go_simp; try (with_reducible rfl))
  try simp only [Act.put, List.setIfInBounds_toArray, List.set_cons_zero, List.set_cons_succ]
  refine takeFirst (i := 2) (v := ?_) rfl (by kernel_rfl) (by kernel_rfl) (by kernel_rfl) (by rfl) (fun _ _ _ h => h) ?_ (by assumption) ?_
  rotate_left
  · (intro w hSw; go_simp; try (with_reducible rfl))
  try simp only [Act.put, List.setIfInBounds_toArray, List.set_cons_zero, List.set_cons_succ]
  refine takeFirst (i := 3) (v := ?_) rfl (by kernel_rfl) (by kernel_rfl) (by kernel_rfl) (by rfl) (fun _ _ _ h => h) ?_ (by assumption) ?_
  rotate_left
  · (intro w hSw; go_simp; try (with_reducible rfl))
  try simp only [Act.put, List.setIfInBounds_toArray, List.set_cons_zero, List.set_cons_succ]
  refine takeFirst (i := 4) (v := ?_) rfl (by kernel_rfl) (by kernel_rfl) (by kernel_rfl) (by rfl) (fun _ _ _ h => h) ?_ (by assumption) ?_
  rotate_left
  · (intro w hSw; go_simp; try (with_reducible rfl))
  try simp only [Act.put, List.setIfInBounds_toArray, List.set_cons_zero, List.set_cons_succ]
  refine takeFirst (i := 5) (v := ?_) rfl (by kernel_rfl) (by kernel_rfl) (by kernel_rfl) (by rfl) (fun _ _ _ h => h) ?_ (by assumption) ?_
  rotate_left
  · (intro w hSw; go_simp; try (with_reducible rfl))
  try simp only [Act.put, List.setIfInBounds_toArray, List.set_cons_zero, List.set_cons_succ]
  refine takeFirst (i := 6) (v := ?_) rfl (by kernel_rfl) (by kernel_rfl) (by kernel_rfl) (by rfl) (fun _ _ _ h => h) ?_ (by assumption) ?_
  rotate_left
  · (intro w hSw; go_simp; try (with_reducible rfl))
  try simp only [Act.put, List.setIfInBounds_toArray, List.set_cons_zero, List.set_cons_succ]
  refine stepNext (i := 7) (by kernel_rfl) rfl (by rfl) (fun K hK => ?_)
  go_simp
  (with_reducible refine (F.out _ wsr.drew).mono ?_); rintro e w2 ⟨rfl, hb2⟩
  replace ob := ob.drew.call hb2
  replace low := gCall low.drew hb2
  obtain ⟨hh0, hh1, hh2, hh3, hh4⟩ := hHeld
  have hHeld := (And.intro (callC hb2 hh0) (And.intro (callC hb2 hh1) (And.intro (callC hb2 hh2) (And.intro (callC hb2 hh3) (callC hb2 hh4)))))
  clear hh0 hh1 hh2 hh3 hh4
  refine hK.out _ _ hHeld ?_
  clear hK K
  try simp only [Act.put]
  try simp only [List.setIfInBounds_toArray, List.set_cons_zero, List.set_cons_succ]
  refine takeFirst (i := 8) (v := ?_) rfl (by kernel_rfl) (by kernel_rfl) (by kernel_rfl) (by rfl) (fun _ _ _ h => h) ?_ (by assumption) ?_
  rotate_left
  · (intro w hSw; go_simp; try (with_reducible rfl))
  try simp only [Act.put, List.setIfInBounds_toArray, List.set_cons_zero, List.set_cons_succ]
  refine takeFirst (i := 9) (v := ?_) rfl (by kernel_rfl) (by kernel_rfl) (by kernel_rfl) (by rfl) (fun _ _ _ h => h) ?_ (by assumption) ?_
  rotate_left
  · (intro w hSw; go_simp; try (with_reducible rfl))
  try simp only [Act.put, List.setIfInBounds_toArray, List.set_cons_zero, List.set_cons_succ]
  refine takeFirst (i := 10) (v := ?_) rfl (by kernel_rfl) (by kernel_rfl) (by kernel_rfl) (by rfl) (fun _ _ _ h => h) ?_ (by assumption) ?_
  rotate_left
  · (intro w hSw; go_simp; try (with_reducible rfl))
  try simp only [Act.put, List.setIfInBounds_toArray, List.set_cons_zero, List.set_cons_succ]
  refine takeFirst (i := 11) (v := ?_) rfl (by kernel_rfl) (by kernel_rfl) (by kernel_rfl) (by rfl) (fun _ _ _ h => h) ?_ (by assumption) ?_
  rotate_left
  · (intro w hSw; go_simp; try (with_reducible rfl))
  try simp only [Act.put, List.setIfInBounds_toArray, List.set_cons_zero, List.set_cons_succ]
  refine takeFirst (i := 12) (v := ?_) rfl (by kernel_rfl) (by kernel_rfl) (by kernel_rfl) (by rfl) (fun _ _ _ h => h) ?_ (by assumption) ?_
  rotate_left
  · (intro w hSw; go_simp; try (with_reducible rfl))
  try simp only [Act.put, List.setIfInBounds_toArray, List.set_cons_zero, List.set_cons_succ]
  refine wpAnyH_done (by kernel_rfl) ?_ _
  refine NoPanic.normal ?_
  clear hHeld r0 r1 r2 r3 q2 F wsr hb2
  have z2 : w.heap.size + 1 < w2.heap.size := ob.lt
  rw [hf]
  have hd : decide ((j : Int) < 0) = false := decide_eq_false (by omega)
  have jl := set_lt hx
  have j0 : (0 : Int) ≤ j := by omega
  have j1 : (j : Int) < t.l.length := by omega
  obtain ⟨r0, r1, r2, r3⟩ := rowAt_of ra hb low
  obtain ⟨hl, A2, c2, e2, _, _, h3⟩ := ws
  cases e2
  obtain ⟨b2, o2, rfl, hb2, hc2⟩ := h3 (by omega)
  obtain ⟨x0, x1, x2, x3, x4, x5⟩ := wayAt_of hc2 hb2 low hx
  clear hf hx hc2 h3 hl
  have ob_0 := ob.at_ 0 rfl
  have ob_1 := ob.at_ 1 rfl
  have ob_2 := ob.at_ 2 rfl
  have ob_3 := ob.at_ 3 rfl
  have ob_4 := ob.at_ 4 rfl
  have ob_5 := ob.at_ 5 rfl
  have ob_f0 := ob.frozen 0
  have ob_f1 := ob.frozen 1
  have ob_f2 := ob.frozen 2
  have ob_f3 := ob.frozen 3
  have ob_f4 := ob.frozen 4
  have ob_f5 := ob.frozen 5
  go_wp2_with fail
  refine bodyPost_ret (v := .tuple #[x.val, .bool true, .int .i64 0]) (by simp [results, Tryz.results128, go_sem, ob_0, ob_1, ob_2, ob_3, ob_4, ob_5]) rfl ⟨rfl, ?_⟩
  repeat (refine gSet ?_ (by dsimp only; omega) _)
  exact low
end Go.Proofs.YtgdacpcifnpojaaGreat

/- Cache3: Proved: words for caches of a call's own; what replace of package cache returns. Conditions: the cache has at most four sets, each of one to four ways. -/
namespace Go.Proofs.YtgdacpcifnpojaaGreat
open Go.ChangeShapes Go.WideShapes Go.ChangeAt Go.RowKit Go.Joins

/-- The cells of set 'q' in a block. -/
def SetIn (cur : Array Value) (q : Nat) (u : Value) (t : St) : Prop :=
  cur[q * 4]? = some u ∧ cur[q * 4 + 1]? = some (.bool t.a) ∧ cur[q * 4 + 2]? = some (.bool t.b) ∧ cur[q * 4 + 3]? = some (.bool t.c)

/-- The ways are new, and do not lie in block 'g'. -/
def Frx (w : World) (B C g : Nat) (u : Value) (l : List Wy) : Prop := Fr w B g u l ∨ Fr w (g + 1) C u l

/-- The slice lies in block 'g', which is known whole and of which the sets are the first; their ways are new. -/
def OwnC (w : World) (B C g : Nat) (v : Value) (ss : List St) : Prop :=
  ∃ cap cur, v = .slice (some ⟨g, 0, none⟩) ss.length cap ∧ Box w g 77 cur ∧ ss.length ≤ cap ∧ cap ≤ maxLen ∧ cur.size = cap * 4 ∧ ∀ (q : Nat) (t : St), ss[q]? = some t → ∃ u, SetIn cur q u t ∧ Frx w B C g u t.l

/-- A cache that is new: it lies in no block below 'B', and in none from 'C' on. -/
def CFr (w : World) (B C : Nat) (v : Value) (ss : List St) : Prop := (v = .slice none 0 0 ∧ ss = []) ∨ ∃ g, B ≤ g ∧ g < C ∧ OwnC w B C g v ss

section
variable {w w' : World} {B B' C C' g : Nat} {v u : Value} {l : List Wy} {ss : List St}
theorem Frx.call (h : Frx w B C g u l) (hb : Below w.heap.size w w') : Frx w' B C g u l := h.imp (·.call hb) (·.call hb)
theorem Frx.more (h : Frx w B C g u l) (hB : B' ≤ B) (hC : C ≤ C') : Frx w B' C' g u l := h.imp (·.more hB (Nat.le_refl _)) (·.more (Nat.le_refl _) hC)
theorem Frx.stored (h : Frx w B C g u l) (st : Stored w g w') : Frx w' B C g u l := h.imp (fun k => st.fr k (.inr (Nat.le_refl _))) (fun k => st.fr k (.inl (Nat.lt_succ_self _)))
theorem Frx.out (h : Frx w B C g u l) {x : Nat} (st : Stored w x w') (hx : x < B ∨ C ≤ x) (hB : B ≤ g) (hC : g < C) : Frx w' B C g u l := h.imp (fun k => st.fr k (by omega)) (fun k => st.fr k (by omega))
theorem Frx.ws (h : Frx w B C g u l) : Ws w u l := h.elim (·.ws) (·.ws)
theorem Frx.nil (w : World) (B C g : Nat) : Frx w B C g (.slice none 0 0) [] := .inl (Fr.nil _ _ _)
theorem Frx.fr (h : Frx w B C g u l) (hB : B ≤ g) (hC : g < C) : Fr w B C u l := h.elim (·.more (Nat.le_refl _) (by omega)) (·.more (by omega) (Nat.le_refl _))

theorem OwnC.lt (h : OwnC w B C g v ss) : g < w.heap.size := by
  obtain ⟨_, _, _, hb, _⟩ := h
  exact hb.lt
theorem OwnC.call (h : OwnC w B C g v ss) (hb : Below w.heap.size w w') : OwnC w' B C g v ss := by
  obtain ⟨cap, cur, e, h1, h2, h3, h4, h5⟩ := h
  refine ⟨cap, cur, e, h1.call hb, h2, h3, h4, fun q t hq => ?_⟩
  obtain ⟨u, k1, k2⟩ := h5 q t hq
  exact ⟨u, k1, k2.call hb⟩
theorem OwnC.more (h : OwnC w B C g v ss) (hB : B' ≤ B) (hC : C ≤ C') : OwnC w B' C' g v ss := by
  obtain ⟨cap, cur, e, h1, h2, h3, h4, h5⟩ := h
  refine ⟨cap, cur, e, h1, h2, h3, h4, fun q t hq => ?_⟩
  obtain ⟨u, k1, k2⟩ := h5 q t hq
  exact ⟨u, k1, k2.more hB hC⟩
theorem OwnC.alloc (h : OwnC w B C g v ss) (o : Obj) : OwnC (w.alloc o) B C g v ss := h.call (gAlloc (Below.refl _ _) o)
theorem OwnC.drew (h : OwnC w B C g v ss) : OwnC w.drew B C g v ss := h.call (Below.refl _ _).drew

theorem OwnC.cs (h : OwnC w B C g v ss) : Cs w v ss := by
  obtain ⟨cap, cur, rfl, h1, h2, h3, h4, h5⟩ := h
  refine ⟨some ⟨g, 0, none⟩, cap, rfl, h2, h3, fun _ => ⟨g, 0, rfl, h1.lt, ⟨fun k t hk => ?_⟩⟩⟩
  obtain ⟨u, ⟨k0, k1, k2, k3⟩, k4⟩ := h5 k t hk
  obtain ⟨_, A, c, rfl, _⟩ := k4.ws
  refine ⟨A, c, ⟨?_, ?_, ?_, ?_⟩, k4.ws⟩
  · rw [h1.cell, Nat.zero_add]; exact k0
  · rw [h1.cell, Nat.zero_add]; exact k1
  · rw [h1.cell, Nat.zero_add]; exact k2
  · rw [h1.cell, Nat.zero_add]; exact k3

theorem OwnC.out (h : OwnC w B C g v ss) {x : Nat} (st : Stored w x w') (hx : x < B ∨ C ≤ x) (hB : B ≤ g) (hC : g < C) : OwnC w' B C g v ss := by
  obtain ⟨cap, cur, e, h1, h2, h3, h4, h5⟩ := h
  refine ⟨cap, cur, e, st.box h1 (by omega), h2, h3, h4, fun q t hq => ?_⟩
  obtain ⟨u, k1, k2⟩ := h5 q t hq
  exact ⟨u, k1, k2.out st hx hB hC⟩

theorem CFr.nil (w : World) (B C : Nat) : CFr w B C (.slice none 0 0) [] := .inl ⟨rfl, rfl⟩
theorem CFr.cs (h : CFr w B C v ss) : Cs w v ss := by
  rcases h with ⟨rfl, rfl⟩ | ⟨g, _, _, h⟩
  · exact Cs.nil w
  · exact h.cs
theorem CFr.shape (h : CFr w B C v ss) : ∃ A c, v = .slice A ss.length c := by
  obtain ⟨A, c, e, _⟩ := h.cs
  exact ⟨A, c, e⟩
theorem CFr.call (h : CFr w B C v ss) (hb : Below w.heap.size w w') : CFr w' B C v ss := h.imp id fun ⟨g, h1, h2, h3⟩ => ⟨g, h1, h2, h3.call hb⟩
theorem CFr.more (h : CFr w B C v ss) (hB : B' ≤ B) (hC : C ≤ C') : CFr w B' C' v ss := h.imp id fun ⟨g, h1, h2, h3⟩ => ⟨g, by omega, by omega, h3.more hB hC⟩
theorem CFr.out (h : CFr w B C v ss) {x : Nat} (st : Stored w x w') (hx : x < B ∨ C ≤ x) : CFr w' B C v ss := h.imp id fun ⟨g, h1, h2, h3⟩ => ⟨g, h1, h2, h3.out st hx h1 h2⟩
theorem CFr.alloc (h : CFr w B C v ss) (o : Obj) : CFr (w.alloc o) B C v ss := h.call (gAlloc (Below.refl _ _) o)
end

theorem CFr.far {w : World} {B C : Nat} {v : Value} {ss : List St} (h : CFr w B C v ss) {p : Addr} (hp : p.block < B ∨ C ≤ p.block) (x : Value) : CFr (w.setCell p x) B C v ss := h.out (Stored.cell1 w p x) hp

theorem set4_ne {cur : Array Value} {k i : Nat} {a b c d : Value} (h : i < k * 4 ∨ k * 4 + 3 < i) : ((((cur.setIfInBounds (k * 4) a).setIfInBounds (k * 4 + 1) b).setIfInBounds (k * 4 + 2) c).setIfInBounds (k * 4 + 3) d)[i]? = cur[i]? := by
  simp only [Array.getElem?_setIfInBounds]
  repeat rw [if_neg (by omega)]

/-- A set stored into a cache of one's own. -/
theorem wp_put_set {op : Oper} {a : Act} {w : World} {K : Act → World → Prop} {Q : Exit → Act → World → Prop} (x y : Operand) (ho : op.op = .store 77 x y)
    (B C g : Nat) (v : Value) (L : List St) (k : Nat) (A : Option Addr) (c : Nat) (t : St) (own : OwnC w B C g v L) (hk : k < L.length) (fr : Frx w B C g (.slice A t.l.length c) t.l)
    (hx : a.eval x = .pointer (some ⟨g, k * 4, none⟩)) (hy : a.eval y = rowV (.slice A t.l.length c) t.a t.b t.c)
    (h : ∀ w', OwnC w' B C g v (L.set k t) → Stored w g w' → K (a.put op.dst undef) w') : op.wp Tryz.prog a w K Q := by
  obtain ⟨cap, cur, rfl, hb, h2, h3, h4, h5⟩ := own
  refine wp_store_mid 77 x y ho g (k * 4) (rowA (.slice A t.l.length c) t.a t.b t.c) hx hy ?_ size_row (by simp [Value.oneCell']) ?_
  · intro j hj
    have hj4 : j < 4 := hj
    refine ⟨?_, hb.frozen _⟩
    rw [hb.cell, Array.getElem?_eq_getElem (by omega)]
    rfl
  · have b1 := (((hb.set (k * 4) (.slice A t.l.length c)).set (k * 4 + 1) (.bool t.a)).set (k * 4 + 2) (.bool t.b)).set (k * 4 + 3) (.bool t.c)
    have st : Stored w g ((((w.setCell ⟨g, k * 4, none⟩ (.slice A t.l.length c)).setCell ⟨g, k * 4 + 1, none⟩ (.bool t.a)).setCell ⟨g, k * 4 + 2, none⟩ (.bool t.b)).setCell ⟨g, k * 4 + 3, none⟩ (.bool t.c)) :=
      (((Stored.cell1 w ⟨g, k * 4, none⟩ _).trans (Stored.cell1 _ ⟨g, k * 4 + 1, none⟩ _)).trans (Stored.cell1 _ ⟨g, k * 4 + 2, none⟩ _)).trans (Stored.cell1 _ ⟨g, k * 4 + 3, none⟩ _)
    refine h _ ⟨cap, _, by rw [List.length_set], b1, by rw [List.length_set]; exact h2, h3, by simpa using h4, fun q z hz => ?_⟩ st
    by_cases e : q = k
    · subst e
      rw [List.getElem?_set_self hk] at hz
      cases hz
      refine ⟨_, ?_, fr.stored st⟩
      have hsz : q * 4 + 3 < cur.size := by omega
      refine ⟨?_, ?_, ?_, ?_⟩ <;> (simp [Array.getElem?_setIfInBounds]; omega)
    · rw [List.getElem?_set_ne (fun h => e h.symm)] at hz
      obtain ⟨u, ⟨k0, k1, k2, k3⟩, k4⟩ := h5 q z hz
      exact ⟨u, ⟨(set4_ne (by omega)).trans k0, (set4_ne (by omega)).trans k1, (set4_ne (by omega)).trans k2, (set4_ne (by omega)).trans k3⟩, k4.stored st⟩

theorem wpList_put_set {ops : Array Oper} {rest : List Oper} {op : Oper} {a : Act} {w : World} {Q : Exit → Act → World → Prop} (hgd : op.guard = none) (x y : Operand) (ho : op.op = .store 77 x y)
    (B C g : Nat) (v : Value) (L : List St) (k : Nat) (A : Option Addr) (c : Nat) (t : St) (own : OwnC w B C g v L) (hk : k < L.length) (fr : Frx w B C g (.slice A t.l.length c) t.l)
    (hx : a.eval x = .pointer (some ⟨g, k * 4, none⟩)) (hy : a.eval y = rowV (.slice A t.l.length c) t.a t.b t.c)
    (h : ∀ w', OwnC w' B C g v (L.set k t) → Stored w g w' → wpList Tryz.prog ops Q rest (a.put op.dst undef) w') : wpList Tryz.prog ops Q (op :: rest) a w :=
  wpList_plain hgd fun _ hK => wp_put_set x y ho B C g v L k A c t own hk fr hx hy fun w' h1 h2 => hK _ _ (h w' h1 h2)

/-- A set without a way. -/
def st0 : St := ⟨[], false, false, false⟩

/-- The first 'k' of a list, the others without a way. -/
def partL (L : List St) (k : Nat) : List St := L.take k ++ List.replicate (L.length - k) st0
theorem partL_length {L : List St} {k : Nat} (h : k ≤ L.length) : (partL L k).length = L.length := by
  simp [partL]; omega
theorem partL_all (L : List St) : partL L L.length = L := by simp [partL]
theorem partL_zero (L : List St) : partL L 0 = List.replicate L.length st0 := by simp [partL]
theorem partL_succ {L : List St} {k : Nat} {t : St} (h : L[k]? = some t) : (partL L k).set k t = partL L (k + 1) := by
  obtain ⟨hk, rfl⟩ := List.getElem?_eq_some_iff.1 h
  have e : L.length - k = (L.length - (k + 1)) + 1 := by omega
  unfold partL
  rw [e, List.replicate_succ, List.take_succ_eq_append_getElem hk, List.set_append_right _ _ (by rw [List.length_take]; omega), List.length_take, Nat.min_eq_left (Nat.le_of_lt hk), Nat.sub_self, List.set_cons_zero, List.append_assoc]
  rfl

theorem info_row : (Tryz.prog.info? 77).map (fun i => (i.zero, i.size, i.bytes)) = some (some noRow, 4, 32) := by kernel_rfl

/-- The cells of 'n' sets without a way. -/
def newC (n : Nat) : Array Value := madeCells (rowA (.slice none 0 0) false false false) (n * 4)

theorem newC_in {n q : Nat} (h : q < n) : SetIn (newC n) q (.slice none 0 0) st0 := by
  unfold newC
  refine ⟨?_, ?_, ?_, ?_⟩ <;> (rw [Array.getElem?_eq_getElem (by rw [size_madeCells]; omega)]; simp [madeCells, st0])

theorem OwnC.new (w : World) (B C n : Nat) (hn : n ≤ maxLen) : OwnC (w.alloc (.cells (newC n) 77)) B C w.heap.size (.slice (some ⟨w.heap.size, 0, none⟩) n n) (List.replicate n st0) := by
  refine ⟨n, newC n, by rw [List.length_replicate], Box.new w _ _, by rw [List.length_replicate]; exact Nat.le_refl _, hn, size_madeCells _ _, fun q t hq => ?_⟩
  have hlt : q < n := by have := st_lt hq; simpa using this
  rw [List.getElem?_replicate, if_pos hlt] at hq
  cases hq
  exact ⟨_, newC_in hlt, Frx.nil _ _ _ _⟩

/-- make, as the walk has it. -/
theorem make_sets (n : Nat) (hn : n ≤ 4) (w : World) : (Instr.makeSlice 72 (.int .i64 n) (.int .i64 n)).run Tryz.prog w = .ok (.slice (some ⟨w.heap.size, 0, none⟩) n n) (w.alloc (.cells (newC n) 77)) := by
  obtain ⟨i0, hi, hz0, hz1, hz2⟩ := info_parts info_row
  have := run_make w 72 77 i0 noRow Tryz.underlying72 hi hz0 .i64 .i64 n n (by omega) (Int.le_refl _) (by rw [hz2]; omega) (by omega)
  rw [this, hz1]
  simp [newC, Value.cells]

set_option maxRecDepth 10000 in
set_option maxHeartbeats 1000000 in
theorem cacheReplace_any (v : Value) (ss : List St) (k : Nat) (A : Option Addr) (c : Nat) (t : St) (w : World) (B : Nat) (h : Cs w v ss) (hk : k < ss.length) (hn : ss.length ≤ 4)
    (hl : ∀ (q : Nat) t, ss[q]? = some t → 0 < t.l.length ∧ t.l.length ≤ 4) (fr : Fr w B w.heap.size (.slice A t.l.length c) t.l) (hB : B ≤ w.heap.size) :
    Calls Tryz.prog 159 #[v, .int .i64 k, rowV (.slice A t.l.length c) t.a t.b t.c] w fun e w' => (∃ v', e = .returned v' ∧ CFr w' B w'.heap.size v' (ss.set k t)) ∧ Below w.heap.size w w' := by
  have HL := Lib.hid hl
  obtain ⟨Ah, cp, rfl, h1, h2, h3⟩ := h
  obtain ⟨bb, o, rfl, hb, hc⟩ := h3 (by omega)
  have HC := Lib.hid hc
  have MS := fun w => make_sets ss.length hn w
  unfold maxLen at h2
  clear hl h3 hc
  obtain ⟨L, hL⟩ : ∃ L, L = ss.set k t := ⟨_, rfl⟩
  rw [← hL]
  have LL := Lib.hid (show L.length = ss.length by rw [hL, List.length_set])
  have GL := Lib.hid (fun (q : Nat) z (hz : ss[q]? = some z) => show L[q]? = some (if q = k then t else z) by
    rw [hL]
    by_cases e : q = k
    · subst e; rw [if_pos rfl, List.getElem?_set_self hk]
    · rw [if_neg e, List.getElem?_set_ne (fun h => e h.symm), hz])
  clear hL
  have low := Below.refl w.heap.size w
  have rb := boxNext low 77 (rowA (.slice A t.l.length c) t.a t.b t.c)
  replace low := gAlloc low (.cells (rowA (.slice A t.l.length c) t.a t.b t.c) 77)
  replace fr := fr.alloc (.cells (rowA (.slice A t.l.length c) t.a t.b t.c) 77)
  try simp only [World.size_alloc] at rb
  simp only [rowA] at rb
  have own := OwnC.new (w.alloc (.cells (rowA (.slice A t.l.length c) t.a t.b t.c) 77)) B (w.heap.size + 1 + 1) ss.length (by unfold maxLen; omega)
  simp only [World.size_alloc] at own
  rw [show List.replicate ss.length st0 = partL L 0 by rw [partL_zero, LL.out]] at own
  replace fr := fr.alloc (.cells (newC ss.length) 77)
  replace rb := rb.alloc (.cells (newC ss.length) 77)
  replace low := gAlloc low (.cells (newC ss.length) 77)
  have FR := Lib.hid fr
  have OW := Lib.hid own
  clear fr own
  go_enter Tryz.func159, Tryz.ntmps159
  go_wp2_with fail
  go_loopw [15] (fun i wr => ∃ j : Nat, j ≤ ss.length ∧ i = .int .i64 j ∧ Hid (OwnC wr B wr.heap.size (w.heap.size + 1) (.slice (some ⟨w.heap.size + 1, 0, none⟩) ss.length ss.length) (partL L j)) ∧
      Hid (Fr wr B w.heap.size (.slice A t.l.length c) t.l) ∧ Box wr w.heap.size 77 (rowA (.slice A t.l.length c) t.a t.b t.c) ∧ Below w.heap.size w wr) (fun i _ => ss.length - (intOf i).toNat)
  case atStart => exact ⟨0, Nat.zero_le _, rfl, Lib.hid (OW.out.more (Nat.le_refl _) (by simp)), FR, rb, low⟩
  case round =>
    clear rb low OW FR
    obtain ⟨j, hj, rfl, own, fr, rb, low⟩ := hrel
    simp only [rowA] at rb
    by_cases hlt : j < ss.length
    · have hx : ss[j]? = some ss[j] := List.getElem?_eq_getElem _
      generalize ss[j] = z at hx
      obtain ⟨A', c', ra, ws⟩ := HC.out.at_ j z hx
      obtain ⟨c0, c1, c2, c3⟩ := rowAt_of ra hb low
      replace ws := ws.call low
      obtain ⟨z0, z4⟩ := HL.out j z hx
      have HX := Lib.hid (GL.out j z hx)
      have jp := Lib.hid (show j < (partL L j).length by rw [partL_length (by rw [LL.out]; omega), LL.out]; omega)
      clear hx ra
      have k0 : (0 : Int) ≤ j := by omega
      have k1 : (j : Int) < ss.length := by omega
      have zr : w.heap.size + 1 < wr.heap.size := own.out.lt
      by_cases hjk : j = k
      · have kj : ((j : Int) == (k : Int)) = true := by simp [hjk]
        replace HX := Lib.hid (HX.out.trans (by rw [if_pos hjk]))
        clear hjk
        have zb := boxNext low 77 (rowA (.slice A' z.l.length c') z.a z.b z.c)
        replace low := gAlloc low (.cells (rowA (.slice A' z.l.length c') z.a z.b z.c) 77)
        replace rb := rb.alloc (.cells (rowA (.slice A' z.l.length c') z.a z.b z.c) 77)
        try simp only [World.size_alloc] at zb
        simp only [rowA] at zb
        have rb_0 := rb.at_ 0 rfl
        have rb_1 := rb.at_ 1 rfl
        have rb_2 := rb.at_ 2 rfl
        have rb_3 := rb.at_ 3 rfl
        go_wp2_with (refine wpList_put_set rfl (.tmp 26) (.tmp 25) rfl B (wr.heap.size + 1) (w.heap.size + 1) _ (partL L j) j A c t ((own.out.alloc _).more (Nat.le_refl _) (by omega)) jp.out (.inl ((fr.out.alloc _).more (Nat.le_refl _) (by omega))) rfl rfl ?_)
        intro w2 own2 st
        clear rb_0 rb_1 rb_2 rb_3
        rw [partL_succ HX.out] at own2
        replace rb := st.box rb (by omega)
        replace low := st.low low (by omega)
        have fr2 := Lib.hid (st.fr (fr.out.alloc (.cells (rowA (.slice A' z.l.length c') z.a z.b z.c) 77)) (.inr (by omega)))
        have z2 := st.size
        have OW := Lib.hid own2
        clear st own2 c0 c1 c2 c3
        simp only [World.size_alloc] at z2
        go_wp2_with fail
        go_roundw
        case rel => exact ⟨j + 1, by omega, by go_num, Lib.hid (OW.out.more (Nat.le_refl _) (by omega)), fr2, rb, low⟩
        case measure => simp [intOf]; omega
      · have kj : ((j : Int) == (k : Int)) = false := by simp; omega
        replace HX := Lib.hid (HX.out.trans (by rw [if_neg hjk]))
        clear hjk
        have zb := boxNext low 77 (rowA (.slice A' z.l.length c') z.a z.b z.c)
        replace low := gAlloc low (.cells (rowA (.slice A' z.l.length c') z.a z.b z.c) 77)
        replace rb := rb.alloc (.cells (rowA (.slice A' z.l.length c') z.a z.b z.c) 77)
        replace ws := ws.alloc (.cells (rowA (.slice A' z.l.length c') z.a z.b z.c) 77)
        try simp only [World.size_alloc] at zb
        simp only [rowA] at zb
        obtain ⟨s0, s1, s2, s3⟩ := zb.rowC
        have CL := Lib.hid fun w hw => clone_any (.slice A' z.l.length c') z.l w hw z0 z4
        go_wp2_with fail
        refine wp_region_noPanic ?_
        refine wp_region_held_drew (S := fun w' => w'.cell? ⟨wr.heap.size, 0, none⟩ = some (.slice A' z.l.length c') ∧ w'.cell? ⟨wr.heap.size, 1, none⟩ = some (.bool z.a) ∧ w'.cell? ⟨wr.heap.size, 2, none⟩ = some (.bool z.b) ∧ w'.cell? ⟨wr.heap.size, 3, none⟩ = some (.bool z.c)) (by kernel_rfl) ⟨drewC s0, drewC s1, drewC s2, drewC s3⟩ (fun hHeld => ?_)
        refine takeFirst (i := 0) (v := ?_) rfl (by kernel_rfl) (by kernel_rfl) (by kernel_rfl) (by rfl) (fun _ _ _ h => h) ?_ (by assumption) ?_
        rotate_left
        · (intro w hSw; go_simp; try (with_reducible rfl))
        try simp only [Act.put, List.setIfInBounds_toArray, List.set_cons_zero, List.set_cons_succ]
        refine takeFirst (i := 1) (v := ?_) rfl (by kernel_rfl) (by kernel_rfl) (by kernel_rfl) (by rfl) (fun _ _ _ h => h) ?_ (by assumption) ?_
        rotate_left
        · (intro w hSw; go_simp; try (with_reducible rfl))
        try simp only [Act.put, List.setIfInBounds_toArray, List.set_cons_zero, List.set_cons_succ]
        refine takeFirst (i := 2) (v := ?_) rfl (by kernel_rfl) (by kernel_rfl) (by kernel_rfl) (by rfl) (fun _ _ _ h => h) ?_ (by assumption) ?_
        rotate_left
        · (intro w hSw; go_simp; try (with_reducible rfl))
        try simp only [Act.put, List.setIfInBounds_toArray, List.set_cons_zero, List.set_cons_succ]
        refine takeFirst (i := 3) (v := ?_) rfl (by kernel_rfl) (by kernel_rfl) (by kernel_rfl) (by rfl) (fun _ _ _ h => h) ?_ (by assumption) ?_
        rotate_left
        · (intro w hSw; go_simp; try (with_reducible rfl))
        try simp only [Act.put, List.setIfInBounds_toArray, List.set_cons_zero, List.set_cons_succ]
        refine takeFirst (i := 5) (v := ?_) rfl (by kernel_rfl) (by kernel_rfl) (by kernel_rfl) (by rfl) (fun _ _ _ h => h) ?_ (by assumption) ?_
        rotate_left
        · (intro w hSw; go_simp; try (with_reducible rfl))
        try simp only [Act.put, List.setIfInBounds_toArray, List.set_cons_zero, List.set_cons_succ]
        refine takeFirst (i := 6) (v := ?_) rfl (by kernel_rfl) (by kernel_rfl) (by kernel_rfl) (by rfl) (fun _ _ _ h => h) ?_ (by assumption) ?_
        rotate_left
        · (intro w hSw; go_simp; try (with_reducible rfl))
        try simp only [Act.put, List.setIfInBounds_toArray, List.set_cons_zero, List.set_cons_succ]
        refine stepNext (i := 4) (by kernel_rfl) rfl (by rfl) (fun K hK => ?_)
        go_simp
        (with_reducible refine (CL.out _ ws.drew).mono ?_); rintro e w2 ⟨v', g', rfl, own', hg', hb2⟩
        have frz := fr_of_own own' hg'
        obtain ⟨Az, cz, rfl⟩ := frz.shape
        have own2 := (own.out.alloc (.cells (rowA (.slice A' z.l.length c') z.a z.b z.c) 77)).drew.call hb2
        have fr2 := (fr.out.alloc (.cells (rowA (.slice A' z.l.length c') z.a z.b z.c) 77)).call (Below.refl _ _).drew |>.call hb2
        have sz2 : wr.heap.size + 1 ≤ w2.heap.size := by have := hb2.size; simpa using this
        simp only [World.size_drew, World.size_alloc] at frz
        replace rb := rb.drew.call hb2
        replace low := gCall low.drew hb2
        obtain ⟨hh0, hh1, hh2, hh3⟩ := hHeld
        have hHeld := (And.intro (callC hb2 hh0) (And.intro (callC hb2 hh1) (And.intro (callC hb2 hh2) (callC hb2 hh3))))
        clear hh0 hh1 hh2 hh3
        clear hb2 own'
        refine hK.out _ _ hHeld ?_
        clear hK K
        try simp only [Act.put]
        try simp only [List.setIfInBounds_toArray, List.set_cons_zero, List.set_cons_succ]
        refine takeFirst (i := 7) (v := ?_) rfl (by kernel_rfl) (by kernel_rfl) (by kernel_rfl) (by rfl) (fun _ _ _ h => h) ?_ (by assumption) ?_
        rotate_left
        · (intro w hSw; go_simp; try (with_reducible rfl))
        try simp only [Act.put, List.setIfInBounds_toArray, List.set_cons_zero, List.set_cons_succ]
        refine takeFirst (i := 8) (v := ?_) rfl (by kernel_rfl) (by kernel_rfl) (by kernel_rfl) (by rfl) (fun _ _ _ h => h) ?_ (by assumption) ?_
        rotate_left
        · (intro w hSw; go_simp; try (with_reducible rfl))
        try simp only [Act.put, List.setIfInBounds_toArray, List.set_cons_zero, List.set_cons_succ]
        refine stepNext (i := 9) (by kernel_rfl) rfl (by rfl) (fun K hK => ?_)
        refine wp_put_set (.tmp 35) (.tmp 34) rfl B w2.heap.size (w.heap.size + 1) _ (partL L j) j Az cz z (own2.more (Nat.le_refl _) (by omega)) jp.out (.inr (frz.more (by omega) (Nat.le_refl _))) rfl rfl ?_
        intro w3 own3 st
        rw [partL_succ HX.out] at own3
        replace rb := st.box rb (by omega)
        replace low := st.low low (by omega)
        have fr3 := Lib.hid (st.fr fr2 (.inr (by omega)))
        have z3 := st.size
        have OW := Lib.hid own3
        obtain ⟨hh0, hh1, hh2, hh3⟩ := hHeld
        have hHeld := (And.intro (st.cell (by dsimp only; omega) hh0) (And.intro (st.cell (by dsimp only; omega) hh1) (And.intro (st.cell (by dsimp only; omega) hh2) (st.cell (by dsimp only; omega) hh3))))
        clear hh0 hh1 hh2 hh3
        clear st own3 fr2 own2 frz
        refine hK.out _ _ hHeld ?_
        clear hK K
        try simp only [Act.put]
        try simp only [List.setIfInBounds_toArray, List.set_cons_zero, List.set_cons_succ]
        refine wpAnyH_done (by kernel_rfl) ?_ _
        refine NoPanic.normal ?_
        clear hHeld s0 s1 s2 s3 c0 c1 c2 c3 zb ws
        go_wp2_with fail
        go_roundw
        case rel => exact ⟨j + 1, by omega, by go_num, Lib.hid (OW.out.more (Nat.le_refl _) (by omega)), fr3, rb, low⟩
        case measure => simp [intOf]; omega
    · obtain rfl : j = ss.length := by omega
      have OW := own.out
      rw [← LL.out, partL_all, LL.out] at OW
      have CF := Lib.hid (show CFr wr B wr.heap.size _ L from .inr ⟨_, by omega, OW.lt, OW⟩)
      clear OW own
      go_wp2_with fail
      go_ret
      exact ⟨⟨_, rfl, CF.out⟩, low⟩

theorem GoodC.small {n s y b : Int} {ss : List St} (h : GoodC n s y b ss) : ss.length ≤ 4 ∧ ∀ (q : Nat) t, ss[q]? = some t → 0 < t.l.length ∧ t.l.length ≤ 4 := by
  obtain ⟨h1, h2, h3⟩ := h
  have hs := cfgB_iff.1 h1
  refine ⟨by omega, fun q t hq => ?_⟩
  obtain ⟨_, h4, _⟩ := rowE_ok (h3 q t hq).1
  omega
end Go.Proofs.YtgdacpcifnpojaaGreat

/- Cache5: Proved: what New and Lines of package cache return, for every configuration and every cache that can be read; they change nothing that was there. No condition. -/
namespace Go.Proofs.YtgdacpcifnpojaaGreat
open Go.ChangeShapes Go.WideShapes Go.ChangeAt Go.RowKit Go.Joins

/-- Has the way a line? All such ways of a cache. -/
def heldB (x : Wy) : Bool := x.st != 0
def allW (ss : List St) : List Wy := ss.flatMap fun t => t.l.filter heldB

theorem waysC_append (l l' : List Wy) : waysC (l ++ l') = waysC l ++ waysC l' := by simp [waysC]
theorem waysC_single (x : Wy) : waysC [x] = x.cells := by simp [waysC]

theorem allW_succ {ss : List St} {k : Nat} {t : St} (h : ss[k]? = some t) : allW (ss.take (k + 1)) = allW (ss.take k) ++ t.l.filter heldB := by
  obtain ⟨hk, rfl⟩ := List.getElem?_eq_some_iff.1 h
  rw [List.take_succ_eq_append_getElem hk]
  simp only [allW, List.flatMap_append, List.flatMap_cons, List.flatMap_nil, List.append_nil]

theorem filter_succ {l : List Wy} {p : Wy → Bool} {j : Nat} {x : Wy} (h : l[j]? = some x) : (l.take (j + 1)).filter p = (l.take j).filter p ++ if p x = true then [x] else [] := by
  obtain ⟨hk, rfl⟩ := List.getElem?_eq_some_iff.1 h
  rw [List.take_succ_eq_append_getElem hk, List.filter_append]
  cases h : p l[j] <;> simp [h]

/-- A slice of empty ways that was just made. -/
def newW (n : Nat) : Array Value := madeCells zeroA (n * 6)
theorem newW_in {n q r : Nat} (h : q < n) (hr : r < 6) : (newW n)[q * 6 + r]? = wy0.cells[r]? := by
  unfold newW
  rw [Array.getElem?_eq_getElem (by rw [size_madeCells]; omega)]
  match r, hr with
  | 0, _ | 1, _ | 2, _ | 3, _ | 4, _ | 5, _ => simp [madeCells, Wy.cells, wy0]
theorem Own.new (w : World) (n : Nat) (hn : n ≤ maxLen) : Own (w.alloc (.cells (newW n) 80)) w.heap.size (.slice (some ⟨w.heap.size, 0, none⟩) n n) (List.replicate n wy0) := by
  refine ⟨n, newW n, by rw [List.length_replicate], Box.new w _ _, by rw [List.length_replicate]; exact Nat.le_refl _, hn, size_madeCells _ _, fun q y hq r hr => ?_⟩
  have hlt : q < n := by have := set_lt hq; simpa using this
  rw [List.getElem?_replicate, if_pos hlt] at hq
  cases hq
  exact newW_in hlt hr
theorem make_ways (n : Nat) (hn : n ≤ 4) (w : World) : (Instr.makeSlice 73 (.int .i64 n) (.int .i64 n)).run Tryz.prog w = .ok (.slice (some ⟨w.heap.size, 0, none⟩) n n) (w.alloc (.cells (newW n) 80)) := by
  obtain ⟨i0, hi, hz0, hz1, hz2⟩ := info_parts info_way
  have := run_make w 73 80 i0 wy0.val Tryz.underlying73 hi hz0 .i64 .i64 n n (by omega) (Int.le_refl _) (by rw [hz2]; omega) (by omega)
  rw [this, hz1]
  simp [newW, Value.cells, wy0]

/-- The ways of one set are stored anew. -/
theorem OwnC.ways {w : World} {B C g : Nat} {v u : Value} {L : List St} {k : Nat} {t : St} {l : List Wy} (own : OwnC w B C g v L) (hk : L[k]? = some t) (fr : Frx w B C g u l) : OwnC (w.setCell ⟨g, k * 4, none⟩ u) B C g v (L.set k ⟨l, t.a, t.b, t.c⟩) := by
  obtain ⟨cap, cur, rfl, hb, h2, h3, h4, h5⟩ := own
  have hlt := st_lt hk
  have st : Stored w g (w.setCell ⟨g, k * 4, none⟩ u) := Stored.cell1 w ⟨g, k * 4, none⟩ u
  refine ⟨cap, _, by rw [List.length_set], hb.set (k * 4) u, by rw [List.length_set]; exact h2, h3, by simpa using h4, fun q z hz => ?_⟩
  by_cases e : q = k
  · subst e
    rw [List.getElem?_set_self hlt] at hz
    cases hz
    obtain ⟨_, ⟨_, k1, k2, k3⟩, _⟩ := h5 q t hk
    refine ⟨u, ⟨?_, ?_, ?_, ?_⟩, fr.stored st⟩
    · simp [Array.getElem?_setIfInBounds]; omega
    · rw [Array.getElem?_setIfInBounds, if_neg (by omega)]; exact k1
    · rw [Array.getElem?_setIfInBounds, if_neg (by omega)]; exact k2
    · rw [Array.getElem?_setIfInBounds, if_neg (by omega)]; exact k3
  · rw [List.getElem?_set_ne (fun h => e h.symm)] at hz
    obtain ⟨u', ⟨k0, k1, k2, k3⟩, k4⟩ := h5 q z hz
    refine ⟨u', ⟨?_, ?_, ?_, ?_⟩, k4.stored st⟩
    · rw [Array.getElem?_setIfInBounds, if_neg (by omega)]; exact k0
    · rw [Array.getElem?_setIfInBounds, if_neg (by omega)]; exact k1
    · rw [Array.getElem?_setIfInBounds, if_neg (by omega)]; exact k2
    · rw [Array.getElem?_setIfInBounds, if_neg (by omega)]; exact k3

theorem OwnC.first {w : World} {B C g : Nat} {v : Value} {L : List St} {k : Nat} (own : OwnC w B C g v L) (hk : k < L.length) : ∃ u, w.cell? ⟨g, k * 4, none⟩ = some u ∧ w.frozen? ⟨g, k * 4, none⟩ = false := by
  obtain ⟨cap, cur, rfl, hb, h2, h3, h4, h5⟩ := own
  obtain ⟨u, ⟨k0, _⟩, _⟩ := h5 k _ (List.getElem?_eq_getElem hk)
  exact ⟨u, (hb.cell _).trans k0, hb.frozen _⟩

/-- A new cache: so many sets of so many empty ways. -/
def emptyC (p q : Nat) : List St := List.replicate p ⟨List.replicate q wy0, false, false, false⟩
theorem emptyC_at {p q k : Nat} (h : k < p) : (emptyC p q)[k]? = some ⟨List.replicate q wy0, false, false, false⟩ := by
  unfold emptyC; rw [List.getElem?_replicate, if_pos h]
theorem partL_at {L : List St} {k : Nat} (h : k < L.length) : (partL L k)[k]? = some st0 := by
  unfold partL
  rw [List.getElem?_append_right (by rw [List.length_take]; omega), List.length_take, Nat.min_eq_left (Nat.le_of_lt h), Nat.sub_self, List.getElem?_replicate, if_pos (by omega)]

theorem cacheNew_bad (n s y b : Int) (w : World) (he : cfgB n s y b = false) :
    Calls Tryz.prog 66 #[cfg n s y b] w fun e w' => e = .returned (.tuple #[.slice none 0 0, .int .i64 4]) ∧ Below w.heap.size w w' := by
  have low := Below.refl w.heap.size w
  have cb := boxNext low 23 (cfgA n s y b)
  replace low := gAlloc low (.cells (cfgA n s y b) 23)
  try simp only [World.size_alloc] at cb
  have C := Lib.hid fun w => check_bad n s y b w he
  clear he
  go_enter Tryz.func66, Tryz.ntmps66
  go_wp2_with fail
  (with_reducible refine (C.out _).mono ?_); rintro e w1 ⟨rfl, hb⟩
  replace low := gCall low hb
  clear hb
  go_wp2_with fail
  go_ret2
  exact ⟨rfl, low⟩

set_option maxRecDepth 10000 in
set_option maxHeartbeats 2000000 in
theorem cacheNew_ok (n b : Int) (p q : Nat) (w : World) (he : cfgB n p q b = true) :
    Calls Tryz.prog 66 #[cfg n p q b] w fun e w' => (∃ A c, e = .returned (.tuple #[.slice A p c, .int .i64 0]) ∧ CFr w' w.heap.size w'.heap.size (.slice A p c) (emptyC p q)) ∧ Below w.heap.size w w' := by
  have C := Lib.hid fun w => check_ok n p q b w he
  have hp4 : p ≤ 4 ∧ q ≤ 4 := by have := cfgB_iff.1 he; omega
  have MS := fun w => make_sets p hp4.1 w
  have MW := fun w => make_ways q hp4.2 w
  obtain ⟨L, hL⟩ : ∃ L, L = emptyC p q := ⟨_, rfl⟩
  rw [← hL]
  have LL := Lib.hid (show L.length = p by rw [hL]; unfold emptyC; rw [List.length_replicate])
  have LA := Lib.hid (fun k (hk : k < p) => show L[k]? = some ⟨List.replicate q wy0, false, false, false⟩ by rw [hL]; exact emptyC_at hk)
  clear he hL
  have low := Below.refl w.heap.size w
  have cb := boxNext low 23 (cfgA n p q b)
  replace low := gAlloc low (.cells (cfgA n p q b) 23)
  try simp only [World.size_alloc] at cb
  go_enter Tryz.func66, Tryz.ntmps66
  go_wp2_with fail
  (with_reducible refine (C.out _).mono ?_); rintro e w1 ⟨rfl, hb⟩
  replace cb := cb.call hb
  replace low := gCall low hb
  clear hb
  clear C
  have z1 : w.heap.size < w1.heap.size := cb.lt
  have own := OwnC.new w1 w.heap.size (w1.heap.size + 1) p (by unfold maxLen; omega)
  rw [show List.replicate p st0 = partL L 0 by rw [partL_zero, LL.out]] at own
  have cb_1 := cb.at_ 1 rfl
  have cb_2 := cb.at_ 2 rfl
  replace cb := cb.alloc (.cells (newC p) 77)
  replace low := gAlloc low (.cells (newC p) 77)
  have OW := Lib.hid own
  clear own
  go_wp2_with fail
  go_loopw [17] (fun i wr => ∃ j : Nat, j ≤ p ∧ i = .int .i64 j ∧ Hid (OwnC wr w.heap.size wr.heap.size w1.heap.size (.slice (some ⟨w1.heap.size, 0, none⟩) p p) (partL L j)) ∧
      Box wr w.heap.size 23 (cfgA n p q b) ∧ Below w.heap.size w wr) (fun i _ => p - (intOf i).toNat)
  case atStart => exact ⟨0, Nat.zero_le _, rfl, Lib.hid (OW.out.more (Nat.le_refl _) (by simp)), cb, low⟩
  case round =>
    clear cb_1 cb_2
    clear cb low OW
    obtain ⟨j, hj, rfl, own, cb, low⟩ := hrel
    simp only [cfgA] at cb
    by_cases hlt : j < p
    · have k0 : (0 : Int) ≤ j := by omega
      have k1 : (j : Int) < p := by omega
      have zr : w1.heap.size < wr.heap.size := own.out.lt
      have hjL : j < (partL L j).length := by rw [partL_length (by rw [LL.out]; omega), LL.out]; exact hlt
      have cb_2 := cb.at_ 2 rfl
      have own2 := own.out.alloc (.cells (newW q) 80)
      obtain ⟨u, cu, fu⟩ := own2.first hjL
      have fr := (fr_of_own (B := w1.heap.size + 1) (Own.new wr q (by unfold maxLen; omega)) (by omega))
      have own3 := (own2.more (B' := w.heap.size) (C' := wr.heap.size + 1) (Nat.le_refl _) (by omega)).ways (partL_at (by rw [LL.out]; exact hlt)) (.inr (fr.more (Nat.le_refl _) (by simp)))
      have e3 : (partL L j).set j ⟨List.replicate q wy0, st0.a, st0.b, st0.c⟩ = partL L (j + 1) := partL_succ (LA.out j hlt)
      rw [e3, World.setCell_alloc_past _ _ _ _ zr] at own3
      have OW := Lib.hid own3
      clear own own2 own3 fr e3 hjL
      go_wp2_with fail
      go_roundw
      case rel => exact ⟨j + 1, by omega, by go_num, Lib.hid (OW.out.more (Nat.le_refl _) (by simp)), (cb.far (by simp; omega) _).alloc _, gAlloc (gSet low (by dsimp only; omega) _) _⟩
      case measure => simp [intOf]; omega
    · obtain rfl : j = p := by omega
      have OW := own.out
      rw [← LL.out, partL_all, LL.out] at OW
      have CF := Lib.hid (show CFr wr w.heap.size wr.heap.size _ L from .inr ⟨_, by omega, OW.lt, OW⟩)
      clear OW own
      go_wp2_with fail
      go_ret2
      exact ⟨⟨_, _, rfl, CF.out⟩, low⟩

theorem cacheLines_bad (n s y b : Int) (v : Value) (ss : List St) (w : World) (h : Cs w v ss) (he : cacheE n s y b ss ≠ 0) :
    Calls Tryz.prog 91 #[cfg n s y b, v] w fun e w' => e = .returned (.tuple #[.slice none 0 0, .int .i64 (cacheE n s y b ss)]) ∧ Below w.heap.size w w' := by
  have low := Below.refl w.heap.size w
  have cb := boxNext low 23 (cfgA n s y b)
  replace low := gAlloc low (.cells (cfgA n s y b) 23)
  replace h := h.alloc (.cells (cfgA n s y b) 23)
  try simp only [World.size_alloc] at cb
  have C := Lib.hid fun w hw => cacheCheck_any n s y b v ss w hw
  generalize cacheE n s y b ss = E at C he ⊢
  have he' : (E != 0) = true := by simpa using he
  clear he
  go_enter Tryz.func91, Tryz.ntmps91
  go_wp2_with fail
  (with_reducible refine (C.out _ h).mono ?_); rintro e w1 ⟨rfl, hb⟩
  replace low := gCall low hb
  clear hb
  go_wp2_with fail
  go_ret2
  exact ⟨rfl, low⟩

set_option maxRecDepth 10000 in
set_option maxHeartbeats 4000000 in
theorem cacheLines_ok (n s y b : Int) (v : Value) (ss : List St) (w : World) (h : Cs w v ss) (he : cacheE n s y b ss = 0) :
    Calls Tryz.prog 91 #[cfg n s y b, v] w fun e w' => (∃ A c, e = .returned (.tuple #[.slice A (allW ss).length c, .int .i64 0]) ∧ Fr w' w.heap.size w'.heap.size (.slice A (allW ss).length c) (allW ss)) ∧ Below w.heap.size w w' := by
  have good := goodC_iff.1 he
  have SM := Lib.hid good.small
  have sl : 0 < ss.length := by have := good.2.1; have := cfgB_iff.1 good.1; omega
  have C := Lib.hid fun w hw => cacheCheck_any n s y b v ss w hw
  rw [he] at C
  have s4 := SM.out.1
  have H := Lib.hid h
  obtain ⟨A, cp, rfl, h1, h2, h3⟩ := h
  obtain ⟨bb, o, rfl, hb, hc⟩ := h3 sl
  have HC := Lib.hid hc
  unfold maxLen at h2
  obtain ⟨i0, hi, hz0, hz1, hz2⟩ := info_parts info_way
  have HI := Lib.hid hi
  have HZ := Lib.hid (And.intro hz0 (And.intro hz1 hz2))
  clear h3 hc good he hi hz0 hz1 hz2
  have low := Below.refl w.heap.size w
  have cb := boxNext low 23 (cfgA n s y b)
  replace low := gAlloc low (.cells (cfgA n s y b) 23)
  try simp only [World.size_alloc] at cb
  go_enter Tryz.func91, Tryz.ntmps91
  go_wp2_with fail
  (with_reducible refine (C.out _ (H.out.alloc _)).mono ?_); rintro e w1 ⟨rfl, hb⟩
  replace low := gCall low hb
  clear hb
  clear C H
  go_wp2_with fail
  go_loopw [7, 20] (fun s i wr => ∃ k m : Nat, k ≤ ss.length ∧ i = .int .i64 k ∧ m ≤ k * 4 ∧ Hid (m = (allW (ss.take k)).length) ∧ wr.ownsRow w.heap.size 80 6 s m (waysC (allW (ss.take k))) ∧ Below w.heap.size w wr) (fun _ i _ => ss.length - (intOf i).toNat)
  case atStart => exact ⟨0, 0, Nat.zero_le _, rfl, Nat.zero_le _, Lib.hid rfl, World.ownsRow_nil _ _ _ _, low⟩
  case round =>
    clear low
    obtain ⟨k, m, hk, rfl, mk, hm, own, low⟩ := hrel
    obtain ⟨As, cs, rfl⟩ := own_shape own
    by_cases hlt : k < ss.length
    · have hx : ss[k]? = some ss[k] := List.getElem?_eq_getElem _
      generalize ss[k] = t at hx
      obtain ⟨A', c', ra, ws⟩ := HC.out.at_ k t hx
      obtain ⟨c0, c1, c2, c3⟩ := rowAt_of ra hb low
      obtain ⟨t0, t4⟩ := SM.out.2 k t hx
      obtain ⟨hl, A2, cx, e2, g1, g2, g3⟩ := ws
      cases e2
      obtain ⟨b2, o2, rfl, hb2, hc2⟩ := g3 t0
      have HC2 := Lib.hid hc2
      have AS := Lib.hid (allW_succ hx)
      have k0 : (0 : Int) ≤ k := by omega
      have k1 : (k : Int) < ss.length := by omega
      unfold maxLen at g2
      clear hx ra hl g3 hc2
      have rb := boxNext low 77 (rowA (.slice (some ⟨b2, o2, none⟩) t.l.length c') t.a t.b t.c)
      replace low := gAlloc low (.cells (rowA (.slice (some ⟨b2, o2, none⟩) t.l.length c') t.a t.b t.c) 77)
      try simp only [World.size_alloc] at rb
      simp only [rowA] at rb
      replace own := own.alloc (.cells (rowA (.slice (some ⟨b2, o2, none⟩) t.l.length c') t.a t.b t.c) 77)
      have rb_0 := rb.at_ 0 rfl
      go_wp2_with fail
      go_loopw [7, 27] (fun s i wx => ∃ j p : Nat, j ≤ t.l.length ∧ i = .int .i64 j ∧ p ≤ k * 4 + j ∧ Hid (p = (allW (ss.take k) ++ (t.l.take j).filter heldB).length) ∧ wx.ownsRow w.heap.size 80 6 s p (waysC (allW (ss.take k) ++ (t.l.take j).filter heldB)) ∧ Below w.heap.size w wx) (fun _ i _ => t.l.length - (intOf i).toNat)
      case atStart => exact ⟨0, m, Nat.zero_le _, rfl, by omega, Lib.hid (by simpa using hm.out), by simpa using own, low⟩
      case round =>
        clear rb_0
        clear own low rb
        obtain ⟨j, p, hj, rfl, pk, hp, own, low⟩ := hrel
        obtain ⟨Ap, cq, rfl⟩ := own_shape own
        by_cases hlt2 : j < t.l.length
        · have hz : t.l[j]? = some t.l[j] := List.getElem?_eq_getElem _
          generalize t.l[j] = z at hz
          obtain ⟨x0, x1, x2, x3, x4, x5⟩ := wayAt_of HC2.out hb2 low hz
          have FSuc := Lib.hid (filter_succ (p := heldB) hz)
          clear hz
          have j0 : (0 : Int) ≤ j := by omega
          have j1 : (j : Int) < t.l.length := by omega
          have lz := low.size
          have zb := boxNext low 80 z.arr
          replace low := gAlloc low (.cells z.arr 80)
          try simp only [World.size_alloc] at zb
          simp only [Wy.arr] at zb
          replace own := own.alloc (.cells z.arr 80)
          have zb_0 := zb.at_ 0 rfl
          have zb_1 := zb.at_ 1 rfl
          have zb_2 := zb.at_ 2 rfl
          have zb_3 := zb.at_ 3 rfl
          have zb_4 := zb.at_ 4 rfl
          have zb_5 := zb.at_ 5 rfl
          cases hzs : (z.st != 0)
          · replace FSuc := FSuc.out
            rw [if_neg (by unfold heldB; rw [hzs]; decide), List.append_nil] at FSuc
            replace FSuc := Lib.hid FSuc
            go_wp2_with fail
            go_roundw
            case rel => exact ⟨j + 1, p, by omega, by go_num, by omega, Lib.hid (by rw [FSuc.out]; exact hp.out), by rw [FSuc.out]; exact own, low⟩
            case measure => simp [intOf]; omega
          · replace FSuc := FSuc.out
            rw [if_pos (by unfold heldB; exact hzs)] at FSuc
            replace FSuc := Lib.hid FSuc
            go_wp2_with (at_builtin; refine wpList_append_own _ rfl _ _ 73 rfl w.heap.size 80 i0 wy0.val 6 48 Tryz.underlying73 HI.out HZ.out.1 HZ.out.2.1 HZ.out.2.2 rfl (by decide) _ _ _ rfl (own.alloc _) ⟨wr.heap.size + 1, 0, none⟩ 1 1 z.cells rfl rfl ?e1 (waysC_one1 z) ?e3 ?e4 ?e5 ?_)
            case e1 => exact fun q u hq => new_cells _ _ z _ q u (by simp) hq
            case e3 => unfold maxLen; omega
            case e4 => omega
            case e5 => simp; omega
            intro v4 w4 own4 grow4 _
            obtain ⟨A4, c4', rfl⟩ := own_shape own4
            replace low : Below w.heap.size w w4 := (gAlloc low (.cells z.arr 80)).grown grow4 (by simp; omega) (fun g e => by have := own.lt _ e; omega)
            clear zb_0 zb_1 zb_2 zb_3 zb_4 zb_5
            clear grow4 own x0 x1 x2 x3 x4 x5 zb
            rw [← waysC_single, ← waysC_append, List.append_assoc, ← FSuc.out] at own4
            go_wp2_with fail
            go_roundw
            case rel => exact ⟨j + 1, p + 1, by omega, by go_num, by omega, Lib.hid (by rw [FSuc.out, ← List.append_assoc, List.length_append, ← hp.out]; rfl), own4, low⟩
            case measure => simp [intOf]; omega
        · obtain rfl : j = t.l.length := by omega
          have hp' := hp.out
          rw [List.take_length, ← AS.out] at hp' own
          have HP := Lib.hid hp'
          clear hp hp'
          go_wp2_with fail
          go_roundw
          case rel => exact ⟨k + 1, p, by omega, by go_num, by omega, HP, own, low⟩
          case measure => simp [intOf]; omega
    · obtain rfl : k = ss.length := by omega
      have hm' := hm.out
      rw [List.take_length] at hm' own
      clear hm
      subst hm'
      have FR := Lib.hid (fr_own own rfl rfl)
      clear own
      go_wp2_with fail
      go_ret2
      exact ⟨⟨_, _, rfl, FR.out⟩, low⟩
end Go.Proofs.YtgdacpcifnpojaaGreat

/- DeedCopy: Proved: what copyCache and withState of package deed return; they change nothing that was there, and what they return is new. Condition: the cache is right. -/
namespace Go.Proofs.YtgdacpcifnpojaaGreat
open Go.ChangeShapes Go.WideShapes Go.ChangeAt Go.RowKit Go.Joins

set_option maxRecDepth 10000 in
set_option maxHeartbeats 1000000 in
theorem copyCache_any (v : Value) (ss : List St) (w : World) (h : Cs w v ss) (h0 : 0 < ss.length) (hn : ss.length ≤ 4) (hl : ∀ (q : Nat) t, ss[q]? = some t → 0 < t.l.length ∧ t.l.length ≤ 4) :
    Calls Tryz.prog 116 #[v] w fun e w' => (e = .returned (.slice (some ⟨w.heap.size, 0, none⟩) ss.length ss.length) ∧ OwnC w' w.heap.size w'.heap.size w.heap.size (.slice (some ⟨w.heap.size, 0, none⟩) ss.length ss.length) ss) ∧ Below w.heap.size w w' := by
  have HL := Lib.hid hl
  obtain ⟨Ah, cp, rfl, h1, h2, h3⟩ := h
  obtain ⟨bb, o, rfl, hb, hc⟩ := h3 h0
  have HC := Lib.hid hc
  have MS := fun w => make_sets ss.length hn w
  unfold maxLen at h2
  clear hl h3 hc
  have low := Below.refl w.heap.size w
  have own := OwnC.new w w.heap.size (w.heap.size + 1) ss.length (by unfold maxLen; omega)
  rw [show List.replicate ss.length st0 = partL ss 0 by rw [partL_zero]] at own
  replace low := gAlloc low (.cells (newC ss.length) 77)
  have OW := Lib.hid own
  clear own
  go_enter Tryz.func116, Tryz.ntmps116
  go_wp2_with fail
  go_loopw [11] (fun i wr => ∃ j : Nat, j ≤ ss.length ∧ i = .int .i64 j ∧ Hid (OwnC wr w.heap.size wr.heap.size w.heap.size (.slice (some ⟨w.heap.size, 0, none⟩) ss.length ss.length) (partL ss j)) ∧ Below w.heap.size w wr) (fun i _ => ss.length - (intOf i).toNat)
  case atStart => exact ⟨0, Nat.zero_le _, rfl, Lib.hid (OW.out.more (Nat.le_refl _) (by simp)), low⟩
  case round =>
    clear low OW
    obtain ⟨j, hj, rfl, own, low⟩ := hrel
    by_cases hlt : j < ss.length
    · have hx : ss[j]? = some ss[j] := List.getElem?_eq_getElem _
      generalize ss[j] = z at hx
      obtain ⟨A', c', ra, ws⟩ := HC.out.at_ j z hx
      obtain ⟨c0, c1, c2, c3⟩ := rowAt_of ra hb low
      replace ws := ws.call low
      obtain ⟨z0, z4⟩ := HL.out j z hx
      have HX := Lib.hid hx
      have jp := Lib.hid (show j < (partL ss j).length by rw [partL_length (by omega)]; omega)
      clear hx ra
      have k0 : (0 : Int) ≤ j := by omega
      have k1 : (j : Int) < ss.length := by omega
      have zr : w.heap.size < wr.heap.size := own.out.lt
      have zb := boxNext low 77 (rowA (.slice A' z.l.length c') z.a z.b z.c)
      replace low := gAlloc low (.cells (rowA (.slice A' z.l.length c') z.a z.b z.c) 77)
      replace ws := ws.alloc (.cells (rowA (.slice A' z.l.length c') z.a z.b z.c) 77)
      try simp only [World.size_alloc] at zb
      simp only [rowA] at zb
      obtain ⟨s0, s1, s2, s3⟩ := zb.rowC
      have CL := Lib.hid fun w hw => clone_any (.slice A' z.l.length c') z.l w hw z0 z4
      go_wp2_with fail
      refine wp_region_noPanic ?_
      refine wp_region_held_drew (S := fun w' => w'.cell? ⟨wr.heap.size, 0, none⟩ = some (.slice A' z.l.length c') ∧ w'.cell? ⟨wr.heap.size, 1, none⟩ = some (.bool z.a) ∧ w'.cell? ⟨wr.heap.size, 2, none⟩ = some (.bool z.b) ∧ w'.cell? ⟨wr.heap.size, 3, none⟩ = some (.bool z.c)) (by kernel_rfl) ⟨drewC s0, drewC s1, drewC s2, drewC s3⟩ (fun hHeld => ?_)
      refine takeFirst (i := 0) (v := ?_) rfl (by kernel_rfl) (by kernel_rfl) (by kernel_rfl) (by rfl) (fun _ _ _ h => h) ?_ (by assumption) ?_
      rotate_left
      · (intro w hSw; go_simp; try (with_reducible rfl))
      try simp only [Act.put, List.setIfInBounds_toArray, List.set_cons_zero, List.set_cons_succ]
      refine takeFirst (i := 1) (v := ?_) rfl (by kernel_rfl) (by kernel_rfl) (by kernel_rfl) (by rfl) (fun _ _ _ h => h) ?_ (by assumption) ?_
      rotate_left
      · (intro w hSw; go_simp; try (with_reducible rfl))
      try simp only [Act.put, List.setIfInBounds_toArray, List.set_cons_zero, List.set_cons_succ]
      refine takeFirst (i := 2) (v := ?_) rfl (by kernel_rfl) (by kernel_rfl) (by kernel_rfl) (by rfl) (fun _ _ _ h => h) ?_ (by assumption) ?_
      rotate_left
      · (intro w hSw; go_simp; try (with_reducible rfl))
      try simp only [Act.put, List.setIfInBounds_toArray, List.set_cons_zero, List.set_cons_succ]
      refine takeFirst (i := 3) (v := ?_) rfl (by kernel_rfl) (by kernel_rfl) (by kernel_rfl) (by rfl) (fun _ _ _ h => h) ?_ (by assumption) ?_
      rotate_left
      · (intro w hSw; go_simp; try (with_reducible rfl))
      try simp only [Act.put, List.setIfInBounds_toArray, List.set_cons_zero, List.set_cons_succ]
      refine takeFirst (i := 5) (v := ?_) rfl (by kernel_rfl) (by kernel_rfl) (by kernel_rfl) (by rfl) (fun _ _ _ h => h) ?_ (by assumption) ?_
      rotate_left
      · (intro w hSw; go_simp; try (with_reducible rfl))
      try simp only [Act.put, List.setIfInBounds_toArray, List.set_cons_zero, List.set_cons_succ]
      refine takeFirst (i := 6) (v := ?_) rfl (by kernel_rfl) (by kernel_rfl) (by kernel_rfl) (by rfl) (fun _ _ _ h => h) ?_ (by assumption) ?_
      rotate_left
      · (intro w hSw; go_simp; try (with_reducible rfl))
      try simp only [Act.put, List.setIfInBounds_toArray, List.set_cons_zero, List.set_cons_succ]
      refine stepNext (i := 4) (by kernel_rfl) rfl (by rfl) (fun K hK => ?_)
      go_simp
      (with_reducible refine (CL.out _ ws.drew).mono ?_); rintro e w2 ⟨v', g', rfl, own', hg', hb2⟩
      have frz := fr_of_own own' hg'
      obtain ⟨Az, cz, rfl⟩ := frz.shape
      have own2 := (own.out.alloc (.cells (rowA (.slice A' z.l.length c') z.a z.b z.c) 77)).drew.call hb2
      have sz2 : wr.heap.size + 1 ≤ w2.heap.size := by have := hb2.size; simpa using this
      simp only [World.size_drew, World.size_alloc] at frz
      replace low := gCall low.drew hb2
      obtain ⟨hh0, hh1, hh2, hh3⟩ := hHeld
      have hHeld := (And.intro (callC hb2 hh0) (And.intro (callC hb2 hh1) (And.intro (callC hb2 hh2) (callC hb2 hh3))))
      clear hh0 hh1 hh2 hh3
      clear hb2 own'
      refine hK.out _ _ hHeld ?_
      clear hK K
      try simp only [Act.put]
      try simp only [List.setIfInBounds_toArray, List.set_cons_zero, List.set_cons_succ]
      refine takeFirst (i := 7) (v := ?_) rfl (by kernel_rfl) (by kernel_rfl) (by kernel_rfl) (by rfl) (fun _ _ _ h => h) ?_ (by assumption) ?_
      rotate_left
      · (intro w hSw; go_simp; try (with_reducible rfl))
      try simp only [Act.put, List.setIfInBounds_toArray, List.set_cons_zero, List.set_cons_succ]
      refine takeFirst (i := 8) (v := ?_) rfl (by kernel_rfl) (by kernel_rfl) (by kernel_rfl) (by rfl) (fun _ _ _ h => h) ?_ (by assumption) ?_
      rotate_left
      · (intro w hSw; go_simp; try (with_reducible rfl))
      try simp only [Act.put, List.setIfInBounds_toArray, List.set_cons_zero, List.set_cons_succ]
      refine stepNext (i := 9) (by kernel_rfl) rfl (by rfl) (fun K hK => ?_)
      refine wp_put_set (.tmp 24) (.tmp 23) rfl w.heap.size w2.heap.size w.heap.size _ (partL ss j) j Az cz z (own2.more (Nat.le_refl _) (by omega)) jp.out (.inr (frz.more (by omega) (Nat.le_refl _))) rfl rfl ?_
      intro w3 own3 st
      rw [partL_succ HX.out] at own3
      replace low := st.low low (by omega)
      have z3 := st.size
      have OW := Lib.hid own3
      obtain ⟨hh0, hh1, hh2, hh3⟩ := hHeld
      have hHeld := (And.intro (st.cell (by dsimp only; omega) hh0) (And.intro (st.cell (by dsimp only; omega) hh1) (And.intro (st.cell (by dsimp only; omega) hh2) (st.cell (by dsimp only; omega) hh3))))
      clear hh0 hh1 hh2 hh3
      clear st own3 own2 frz
      refine hK.out _ _ hHeld ?_
      clear hK K
      try simp only [Act.put]
      try simp only [List.setIfInBounds_toArray, List.set_cons_zero, List.set_cons_succ]
      refine wpAnyH_done (by kernel_rfl) ?_ _
      refine NoPanic.normal ?_
      clear hHeld s0 s1 s2 s3 c0 c1 c2 c3 zb ws
      go_wp2_with fail
      go_roundw
      case rel => exact ⟨j + 1, by omega, by go_num, Lib.hid (OW.out.more (Nat.le_refl _) (by omega)), low⟩
      case measure => simp [intOf]; omega
    · obtain rfl : j = ss.length := by omega
      have OW := own.out
      rw [partL_all] at OW
      have CF := Lib.hid OW
      clear OW own
      go_wp2_with fail
      go_ret
      exact ⟨⟨rfl, CF.out⟩, low⟩

/-- The way with another state. -/
abbrev Wy.as (x : Wy) (s : Int) : Wy := ⟨s, x.ln, x.a, x.b, x.c, x.d⟩

/-- Block 'g' holds the sets, as the array 'cur' has them; their ways are new. -/
structure OwnX (w : World) (B C g : Nat) (cur : Array Value) (ss : List St) : Prop where
  box : Box w g 77 cur
  size : cur.size = ss.length * 4
  sets : ∀ (q : Nat) (t : St), ss[q]? = some t → ∃ u, SetIn cur q u t ∧ Frx w B C g u t.l
section
variable {w w' : World} {B C g : Nat} {cur : Array Value} {ss : List St}
theorem OwnX.call (h : OwnX w B C g cur ss) (hb : Below w.heap.size w w') : OwnX w' B C g cur ss :=
  ⟨h.box.call hb, h.size, fun q t hq => by obtain ⟨u, h1, h2⟩ := h.sets q t hq; exact ⟨u, h1, h2.call hb⟩⟩
theorem OwnX.alloc (h : OwnX w B C g cur ss) (o : Obj) : OwnX (w.alloc o) B C g cur ss := h.call (gAlloc (Below.refl _ _) o)
theorem OwnX.ownC (h : OwnX w B C g cur ss) (hn : ss.length ≤ maxLen) : OwnC w B C g (.slice (some ⟨g, 0, none⟩) ss.length ss.length) ss :=
  ⟨ss.length, cur, rfl, h.box, Nat.le_refl _, hn, h.size, h.sets⟩
theorem OwnC.ownX (h : OwnC w B C g (.slice (some ⟨g, 0, none⟩) ss.length ss.length) ss) : ∃ cur, OwnX w B C g cur ss := by
  obtain ⟨cap, cur, e, h1, h2, h3, h4, h5⟩ := h
  cases e
  exact ⟨cur, h1, h4, h5⟩
/-- Set q's ways lie in one block. -/
theorem OwnX.at_ (h : OwnX w B C g cur ss) {q : Nat} {t : St} (hq : ss[q]? = some t) (h0 : 0 < t.l.length) : ∃ g' cap, SetIn cur q (.slice (some ⟨g', 0, none⟩) t.l.length cap) t ∧ g' ≠ g ∧ (B ≤ g' ∨ g < g') ∧ Own w g' (.slice (some ⟨g', 0, none⟩) t.l.length cap) t.l := by
  obtain ⟨u, h1, h2⟩ := h.sets q t hq
  have key : ∀ B' C', Fr w B' C' u t.l → ∃ g' cap, u = .slice (some ⟨g', 0, none⟩) t.l.length cap ∧ B' ≤ g' ∧ g' < C' ∧ Own w g' u t.l := by
    rintro B' C' (⟨_, e⟩ | ⟨g', hB, hC, own⟩)
    · rw [e] at h0; simp at h0
    · have := own
      obtain ⟨cap, _, e, _⟩ := this
      exact ⟨g', cap, e, hB, hC, own⟩
  rcases h2 with h2 | h2
  · obtain ⟨g', cap, rfl, k1, k2, k3⟩ := key _ _ h2
    exact ⟨g', cap, h1, by omega, .inl k1, k3⟩
  · obtain ⟨g', cap, rfl, k1, k2, k3⟩ := key _ _ h2
    exact ⟨g', cap, h1, by omega, .inr (by omega), k3⟩

theorem Own.state {g' : Nat} {v : Value} {l : List Wy} (h : Own w g' v l) {j : Nat} {x : Wy} (hj : l[j]? = some x) (s : Int) : Own (w.setCell ⟨g', j * 6, none⟩ (.int .i64 s)) g' v (l.set j (x.as s)) := by
  obtain ⟨cap, cur, rfl, hb, hn, hm, hs, ht⟩ := h
  have hk := (List.getElem?_eq_some_iff.1 hj).1
  refine ⟨cap, _, by rw [List.length_set], hb.set (j * 6) (.int .i64 s), by rw [List.length_set]; exact hn, hm, by simpa using hs, fun q y hy r hr6 => ?_⟩
  by_cases e : q = j
  · subst e
    rw [List.getElem?_set_self hk] at hy
    cases hy
    have hsz : q * 6 + 5 < cur.size := by omega
    have := ht q x hj r hr6
    match r, hr6 with
    | 0, _ => simp [Array.getElem?_setIfInBounds, Wy.cells]; omega
    | 1, _ | 2, _ | 3, _ | 4, _ | 5, _ =>
      rw [Array.getElem?_setIfInBounds, if_neg (by omega), this]
      rfl
  · rw [List.getElem?_set_ne (fun h => e h.symm)] at hy
    have := ht q y hy r hr6
    rw [Array.getElem?_setIfInBounds, if_neg (by omega)]
    exact this

theorem Fr.unless {v : Value} {l : List Wy} (h : Fr w B C v l) {g' : Nat} (hne : ∀ v', Own w g' v' l → False) (o : Nat) (u : Value) : Fr (w.setCell ⟨g', o, none⟩ u) B C v l := by
  rcases h with h | ⟨x, hx, hc, own⟩
  · exact .inl h
  · refine .inr ⟨x, hx, hc, own.far ?_ u⟩
    rintro rfl
    exact hne _ own
theorem Frx.unless {v : Value} {l : List Wy} (h : Frx w B C g v l) {g' : Nat} (hne : ∀ v', Own w g' v' l → False) (o : Nat) (u : Value) : Frx (w.setCell ⟨g', o, none⟩ u) B C g v l :=
  h.imp (·.unless hne o u) (·.unless hne o u)

/-- The state of one way is stored anew: no other set has it. -/
theorem OwnX.state (h : OwnX w B C g cur ss) {r j g' cap : Nat} {t : St} {x : Wy} (hr : ss[r]? = some t) (hu : cur[r * 4]? = some (.slice (some ⟨g', 0, none⟩) t.l.length cap)) (hj : t.l[j]? = some x)
    (hg : g' ≠ g) (own : Own w g' (.slice (some ⟨g', 0, none⟩) t.l.length cap) t.l) (hne : ∀ (q : Nat) t', q ≠ r → ss[q]? = some t' → ∃ x', t'.l[j]? = some x' ∧ x' ≠ x) (s : Int) :
    OwnX (w.setCell ⟨g', j * 6, none⟩ (.int .i64 s)) B C g cur (ss.set r ⟨t.l.set j (x.as s), t.a, t.b, t.c⟩) := by
  refine ⟨h.box.far (Ne.symm hg) _, by rw [List.length_set]; exact h.size, fun q z hz => ?_⟩
  by_cases e : q = r
  · subst e
    rw [List.getElem?_set_self (st_lt hr)] at hz
    cases hz
    obtain ⟨u, ⟨k0, k1, k2, k3⟩, k4⟩ := h.sets q t hr
    rw [hu] at k0
    cases k0
    refine ⟨_, ⟨hu, k1, k2, k3⟩, ?_⟩
    have key : ∀ B' C', Fr w B' C' (.slice (some ⟨g', 0, none⟩) t.l.length cap) t.l → Fr (w.setCell ⟨g', j * 6, none⟩ (.int .i64 s)) B' C' (.slice (some ⟨g', 0, none⟩) t.l.length cap) (t.l.set j (x.as s)) := by
      rintro B' C' (⟨e, _⟩ | ⟨g2, hB, hC, own2⟩)
      · cases e
      · have e2 : g2 = g' := by obtain ⟨_, _, e, _⟩ := own2; cases e; rfl
        subst e2
        exact .inr ⟨g2, hB, hC, own2.state hj s⟩
    exact k4.imp (key _ _) (key _ _)
  · rw [List.getElem?_set_ne (fun h => e h.symm)] at hz
    obtain ⟨u, k1, k4⟩ := h.sets q z hz
    refine ⟨u, k1, k4.unless (fun v' own2 => ?_) _ _⟩
    obtain ⟨x', hx', hxx⟩ := hne q z e hz
    obtain ⟨_, c1, _, b1, _, _, _, f1⟩ := own
    obtain ⟨_, c2, _, b2, _, _, _, f2⟩ := own2
    have ec : c1 = c2 := by
      have := b1.symm.trans b2
      simpa using this
    subst ec
    apply hxx
    have f : ∀ i, i < 6 → x'.cells[i]? = x.cells[i]? := fun i hi => (f2 j x' hx' i hi).symm.trans (f1 j x hj i hi)
    have g0 := f 0 (by omega)
    have g1 := f 1 (by omega)
    have g2 := f 2 (by omega)
    have g3 := f 3 (by omega)
    have g4 := f 4 (by omega)
    have g5 := f 5 (by omega)
    simp [Wy.cells] at g0 g1 g2 g3 g4 g5
    obtain ⟨a1, a2, a3, a4, a5, a6⟩ := x
    obtain ⟨b1, b2, b3, b4, b5, b6⟩ := x'
    simp_all
end
end Go.Proofs.YtgdacpcifnpojaaGreat

/- DeedState: Proved: what withState of package deed returns; it changes nothing that was there, and what it returns is new. Conditions: the cache is right, and has the line in one place. -/
namespace Go.Proofs.YtgdacpcifnpojaaGreat
open Go.ChangeShapes Go.WideShapes Go.ChangeAt Go.RowKit Go.Joins

theorem Own.alloc_ {w : World} {g : Nat} {v : Value} {l : List Wy} (h : Own w g v l) (o : Obj) : Own (w.alloc o) g v l := by
  obtain ⟨cap, cur, e, hb, r⟩ := h
  exact ⟨cap, cur, e, hb.alloc o, r⟩
theorem allocF {w : World} {p : Addr} {z : Value} (o : Obj) (h : w.cell? p = some z) : (w.alloc o).frozen? p = w.frozen? p := (gAlloc (Below.refl _ _) o).frozen (block_lt_of_cell h)
theorem Own.wayAt {w : World} {g : Nat} {v : Value} {l : List Wy} (h : Own w g v l) {i : Nat} {x : Wy} (hx : l[i]? = some x) : WayAt w g (i * 6) x ∧ w.frozen? ⟨g, i * 6, none⟩ = false := by
  obtain ⟨cap, cur, rfl, hb, _, _, _, ht⟩ := h
  have f : ∀ r u, r < 6 → x.cells[r]? = some u → w.cell? ⟨g, i * 6 + r, none⟩ = some u := fun r u hr hu => by rw [hb.cell, ht i x hx r hr, hu]
  exact ⟨⟨f 0 _ (by omega) rfl, f 1 _ (by omega) rfl, f 2 _ (by omega) rfl, f 3 _ (by omega) rfl, f 4 _ (by omega) rfl, f 5 _ (by omega) rfl⟩, hb.frozen _⟩

/-- One way's state is another. -/
def relS (ss : List St) (r : Nat) (t : St) (j : Nat) (x : Wy) (s : Int) : List St := ss.set r ⟨t.l.set j (x.as s), t.a, t.b, t.c⟩
/-- The sets while set q, way i is looked at. -/
def contS (ss ss' : List St) (r j q i : Nat) : List St := if q < r ∨ (q = r ∧ i ≤ j) then ss else ss'
section
variable {ss : List St} {r j q i : Nat} {t z : St} {x : Wy} {s : Int}
theorem contS_at (hr : ss[r]? = some t) (hz : ss[q]? = some z) (hi : ¬ (q = r ∧ i = j)) : ∃ z', (contS ss (relS ss r t j x s) r j q i)[q]? = some z' ∧ z'.l.length = z.l.length ∧ z'.l[i]? = z.l[i]? := by
  unfold contS
  by_cases h : q < r ∨ (q = r ∧ i ≤ j)
  · rw [if_pos h]; exact ⟨z, hz, rfl, rfl⟩
  · rw [if_neg h]
    unfold relS
    by_cases e : q = r
    · subst e
      rw [hr] at hz
      cases hz
      rw [List.getElem?_set_self (st_lt hr)]
      exact ⟨_, rfl, by simp, by rw [List.getElem?_set_ne (by omega)]⟩
    · rw [List.getElem?_set_ne (fun h => e h.symm)]
      exact ⟨z, hz, rfl, rfl⟩
theorem contS_step (hi : ¬ (q = r ∧ i = j)) (ss' : List St) : contS ss ss' r j q (i + 1) = contS ss ss' r j q i := by
  unfold contS
  by_cases h : q < r ∨ (q = r ∧ i ≤ j)
  · rw [if_pos h, if_pos (by omega)]
  · rw [if_neg h, if_neg (by omega)]
theorem contS_next (ss' : List St) {n : Nat} (hn : j < n) : contS ss ss' r j q n = contS ss ss' r j (q + 1) 0 := by
  unfold contS
  by_cases h : q < r
  · rw [if_pos (.inl h), if_pos (by omega)]
  · rw [if_neg (by omega), if_neg (by omega)]
theorem contS_start (ss' : List St) : contS ss ss' r j 0 0 = ss := by unfold contS; rw [if_pos (by omega)]
theorem contS_here (ss' : List St) : contS ss ss' r j r j = ss := by unfold contS; rw [if_pos (by omega)]
theorem contS_past (ss' : List St) : contS ss ss' r j r (j + 1) = ss' := by unfold contS; rw [if_neg (by omega)]
theorem contS_end (ss' : List St) (hq : r < q) : contS ss ss' r j q 0 = ss' := by unfold contS; rw [if_neg (by omega)]
theorem contS_first (hz : ss[q]? = some z) : (contS ss (relS ss r t j x s) r j q 0)[q]? = some z := by
  unfold contS
  by_cases h : q < r ∨ (q = r ∧ 0 ≤ j)
  · rw [if_pos h]; exact hz
  · rw [if_neg h]
    unfold relS
    rw [List.getElem?_set_ne (by omega)]
    exact hz
end

set_option maxRecDepth 10000 in
set_option maxHeartbeats 2000000 in
theorem withState_ok (v : Value) (ss : List St) (m s : Int) (r : Nat) (t : St) (j : Nat) (x0 : Wy) (w : World) (h : Cs w v ss) (hn : ss.length ≤ 4) (hl : ∀ (q : Nat) t, ss[q]? = some t → 0 < t.l.length ∧ t.l.length ≤ 4)
    (hlen : ∀ (q : Nat) z, ss[q]? = some z → z.l.length = t.l.length) (hr : ss[r]? = some t) (hj : t.l[j]? = some x0) (hx0 : hasW m x0 = true) (hu : ∀ (q : Nat) z (i : Nat) x, ss[q]? = some z → z.l[i]? = some x → hasW m x = true → q = r ∧ i = j) :
    Calls Tryz.prog 164 #[v, .int .i64 m, .int .i64 s] w fun e w' => (e = .returned (.slice (some ⟨w.heap.size, 0, none⟩) ss.length ss.length) ∧ CFr w' w.heap.size w'.heap.size (.slice (some ⟨w.heap.size, 0, none⟩) ss.length ss.length) (relS ss r t j x0 s)) ∧ Below w.heap.size w w' := by
  have h0 : 0 < ss.length := Nat.lt_of_le_of_lt (Nat.zero_le _) (st_lt hr)
  have CC := Lib.hid (copyCache_any v ss w h h0 hn hl)
  have jt : j < t.l.length := (List.getElem?_eq_some_iff.1 hj).1
  have rs := st_lt hr
  obtain ⟨S', hS'⟩ : ∃ S', S' = relS ss r t j x0 s := ⟨_, rfl⟩
  have HL := Lib.hid hl
  have HN := Lib.hid hlen
  have HR := Lib.hid hr
  have HJ := Lib.hid hj
  have HU := Lib.hid hu
  have HS := Lib.hid hS'
  have HX0 := Lib.hid hx0
  have HNE := Lib.hid (fun (q : Nat) z (i : Nat) x (hz : ss[q]? = some z) (hx : z.l[i]? = some x) (hw : hasW m x = true) (q' : Nat) (z' : St) (hne : q' ≠ q) (hz' : ss[q']? = some z') =>
    show ∃ x', z'.l[i]? = some x' ∧ x' ≠ x from by
      have hi : i < z'.l.length := by
        have h1 := hlen q z hz
        have h2 := hlen q' z' hz'
        have := (List.getElem?_eq_some_iff.1 hx).1
        omega
      refine ⟨z'.l[i], List.getElem?_eq_getElem hi, fun e => hne ?_⟩
      have h1 := hu q' z' i x hz' (by rw [List.getElem?_eq_getElem hi, e]) hw
      have h2 := hu q z i x hz hx hw
      omega)
  have sl : (relS ss r t j x0 s).length = ss.length := by unfold relS; rw [List.length_set]
  have SL := Lib.hid (show S'.length = ss.length by rw [hS', sl])
  rw [← hS']
  clear hl hlen hr hj hu hx0 hS' sl h
  have low := Below.refl w.heap.size w
  go_enter Tryz.func164, Tryz.ntmps164
  go_wp2_with fail
  (with_reducible refine CC.out.mono ?_); rintro e w1 ⟨⟨rfl, own⟩, hb⟩
  replace low := gCall low hb
  obtain ⟨cur, ox⟩ := own.ownX
  have OX := Lib.hid ox
  clear hb own ox CC
  go_wp2_with fail
  go_loopw [16] (fun a wr => ∃ q : Nat, q ≤ ss.length ∧ a = .int .i64 q ∧ Hid (OwnX wr w.heap.size w1.heap.size w.heap.size cur (contS ss S' r j q 0)) ∧ Hid (w1.heap.size ≤ wr.heap.size) ∧ Below w.heap.size w wr) (fun a _ => ss.length - (intOf a).toNat)
  case atStart => exact ⟨0, Nat.zero_le _, rfl, Lib.hid (by rw [contS_start]; exact OX.out), Lib.hid (Nat.le_refl _), low⟩
  case round =>
    clear low OX
    obtain ⟨q, hq, rfl, ox, ZW, low⟩ := hrel
    by_cases hlt : q < ss.length
    · have hz : ss[q]? = some ss[q] := List.getElem?_eq_getElem _
      generalize ss[q] = z at hz
      obtain ⟨z0, z4⟩ := HL.out q z hz
      have ZL := Lib.hid (HN.out q z hz)
      have HZ := Lib.hid hz
      have hz1 : (contS ss S' r j q 0)[q]? = some z := by rw [HS.out]; exact contS_first hz
      obtain ⟨g', cap, ⟨si0, si1, si2, si3⟩, gne, gB, ow⟩ := ox.out.at_ hz1 z0
      have gl := ow.lt
      have bx := ox.out.box
      have d0 := bx.at_ _ si0
      have d1 := bx.at_ _ si1
      have d2 := bx.at_ _ si2
      have d3 := bx.at_ _ si3
      have SI := Lib.hid si0
      clear hz hz1 si0 si1 si2 si3 bx ow
      have q0 : (0 : Int) ≤ q := by omega
      have q1 : (q : Int) < ss.length := by omega
      have zr : w.heap.size < wr.heap.size := ox.out.box.lt
      have OX := Lib.hid (ox.out.alloc (.cells (rowA (.slice (some ⟨g', 0, none⟩) z.l.length cap) z.a z.b z.c) 77))
      clear ox
      have zb := boxNext low 77 (rowA (.slice (some ⟨g', 0, none⟩) z.l.length cap) z.a z.b z.c)
      replace low := gAlloc low (.cells (rowA (.slice (some ⟨g', 0, none⟩) z.l.length cap) z.a z.b z.c) 77)
      try simp only [World.size_alloc] at zb
      simp only [rowA] at zb
      go_wp2_with fail
      go_loopw [23] (fun a wx => ∃ i : Nat, i ≤ z.l.length ∧ a = .int .i64 i ∧ Hid (OwnX wx w.heap.size w1.heap.size w.heap.size cur (contS ss S' r j q i)) ∧ Box wx wr.heap.size 77 (rowA (.slice (some ⟨g', 0, none⟩) z.l.length cap) z.a z.b z.c) ∧ Below w.heap.size w wx) (fun a _ => z.l.length - (intOf a).toNat)
      case atStart => exact ⟨0, Nat.zero_le _, rfl, OX, zb, low⟩
      case round =>
        clear OX zb low d0 d1 d2 d3
        obtain ⟨i, hi, rfl, ox, zb, low⟩ := hrel
        simp only [rowA] at zb
        by_cases hlt2 : i < z.l.length
        · have hx : z.l[i]? = some z.l[i] := List.getElem?_eq_getElem _
          generalize z.l[i] = x at hx
          have i0 : (0 : Int) ≤ i := by omega
          have i1 : (i : Int) < z.l.length := by omega
          have zx := zb.lt
          by_cases hqi : q = r ∧ i = j
          · obtain ⟨rfl, rfl⟩ := hqi
            have hzt : z = t := by have := HZ.out.symm.trans HR.out; simpa using this
            subst hzt
            have hxx : x = x0 := by have := hx.symm.trans HJ.out; simpa using this
            subst hxx
            have oy := ox.out
            rw [contS_here] at oy
            obtain ⟨g2, cap2, ⟨si0, _⟩, _, _, own⟩ := oy.at_ HZ.out (by omega)
            have e2 := si0.symm.trans SI.out
            simp only [Option.some.injEq, Value.slice.injEq, Addr.mk.injEq, and_true, true_and] at e2
            obtain ⟨rfl, rfl⟩ := e2
            obtain ⟨⟨c0, c1, c2, c3, c4, c5⟩, cf⟩ := own.wayAt hx
            have hxs : (x.st != 0) = true ∧ (x.ln == m) = true := by have := HX0.out; unfold hasW at this; rwa [Bool.and_eq_true] at this
            obtain ⟨hs, hm⟩ := hxs
            have OY := Lib.hid ((oy.alloc (.cells x.arr 80)).state HZ.out SI.out hx gne (own.alloc_ (.cells x.arr 80)) (HNE.out q z i x HZ.out hx HX0.out) s)
            rw [← relS, ← HS.out, ← contS_past (ss := ss) (r := q) (j := i) S'] at OY
            clear ox oy own si0
            have xb := boxNext low 80 x.arr
            replace low := gAlloc low (.cells x.arr 80)
            replace zb := zb.alloc (.cells x.arr 80)
            try simp only [World.size_alloc] at xb
            simp only [Wy.arr] at xb
            have xb_0 := xb.at_ 0 rfl
            have xb_1 := xb.at_ 1 rfl
            have zb_0 := zb.at_ 0 rfl
            have cg := allocC (.cells x.arr 80) c0
            have cf2 := (allocF (.cells x.arr 80) c0).trans cf
            go_wp2_with fail
            have zb4 := zb.far (p := ⟨g2, i * 6, none⟩) (by dsimp only; omega) (.int .i64 s)
            have low4 := gSet low (p := ⟨g2, i * 6, none⟩) (by dsimp only; omega) (.int .i64 s)
            go_roundw
            case rel => exact ⟨i + 1, by omega, by go_num, OY, zb4, low4⟩
            case measure => simp [intOf]; omega
          · obtain ⟨z', hz', hzl, hzx⟩ := contS_at (i := i) (x := x0) (s := s) HR.out HZ.out hqi
            rw [← HS.out] at hz'
            obtain ⟨g2, cap2, ⟨si0, _⟩, _, _, own⟩ := ox.out.at_ hz' (by omega)
            have e2 := si0.symm.trans SI.out
            simp only [Option.some.injEq, Value.slice.injEq, Addr.mk.injEq, and_true] at e2
            obtain ⟨rfl, -, rfl⟩ := e2
            obtain ⟨⟨c0, c1, c2, c3, c4, c5⟩, _⟩ := own.wayAt (hzx.trans hx)
            have OY := Lib.hid (ox.out.alloc (.cells x.arr 80))
            rw [← contS_step hqi] at OY
            have hno : hasW m x = false := by
              cases e : hasW m x
              · rfl
              · exact absurd (HU.out q z i x HZ.out hx e) hqi
            clear ox own si0 hz' hzl hzx hx
            have xb := boxNext low 80 x.arr
            replace low := gAlloc low (.cells x.arr 80)
            replace zb := zb.alloc (.cells x.arr 80)
            try simp only [World.size_alloc] at xb
            simp only [Wy.arr] at xb
            have xb_0 := xb.at_ 0 rfl
            have xb_1 := xb.at_ 1 rfl
            cases hs : (x.st != 0)
            · clear hno
              go_wp2_with fail
              go_roundw
              case rel => exact ⟨i + 1, by omega, by go_num, OY, zb, low⟩
              case measure => simp [intOf]; omega
            · have hm : (x.ln == m) = false := by unfold hasW at hno; rwa [hs, Bool.true_and] at hno
              clear hno
              go_wp2_with fail
              go_roundw
              case rel => exact ⟨i + 1, by omega, by go_num, OY, zb, low⟩
              case measure => simp [intOf]; omega
        · obtain rfl : i = z.l.length := by omega
          have OY := Lib.hid (ox.out)
          rw [contS_next (ss := ss) S' (by have := ZL.out; omega)] at OY
          clear ox
          go_wp2_with fail
          go_roundw
          case rel => exact ⟨q + 1, by omega, by go_num, OY, Lib.hid (by have := ZW.out; have := zb.lt; omega), low⟩
          case measure => simp [intOf]; omega
    · obtain rfl : q = ss.length := by omega
      have oy := ox.out
      rw [contS_end S' rs] at oy
      have CF := Lib.hid (show CFr wr w.heap.size wr.heap.size (.slice (some ⟨w.heap.size, 0, none⟩) ss.length ss.length) S' by
        have := oy.ownC (by rw [SL.out]; unfold maxLen; omega)
        rw [SL.out] at this
        exact .inr ⟨_, Nat.le_refl _, oy.box.lt, this.more (Nat.le_refl _) ZW.out⟩)
      clear oy ox
      go_wp2_with fail
      go_ret
      exact ⟨⟨rfl, CF.out⟩, low⟩
end Go.Proofs.YtgdacpcifnpojaaGreat

/- Words: Proved: what Load, Store and Swap of package words return, for every argument; none of them changes anything that was there. No condition. -/
namespace Go.Proofs.YtgdacpcifnpojaaGreat
open Go.ChangeShapes Go.WideShapes Go.ChangeAt Go.RowKit Go.Joins

section
variable {H : Type} {enc : TypeId × Value → H} {W : World} {base : Nat} {v : Value} {d : DataW H} {p : List MemPlace}
set_option maxRecDepth 10000 in
theorem openLine (hv : Value.okWide Tryz.prog W .any base 27 v) (h : DataW.Trod enc Tryz.prog W 0 (fun _ => true) true 27 v d p) : IsLine v := by
  obtain ⟨cs, rfl, hk⟩ := flat_value (n := 2) (ks := [.int .u64, .int .u64, .int .u64, .int .u64]) (by kernel_rfl) (.inr ⟨_, _, Tryz.underlying27⟩) hv h
  match cs, hk with
  | [c0, c1, c2, c3], hk =>
    obtain ⟨⟨a, rfl, wa⟩, ⟨b, rfl, wb⟩, ⟨c, rfl, wc⟩, ⟨d, rfl, wd⟩, _⟩ := hk
    exact ⟨a, b, c, d, rfl, bounds_u64 wa, bounds_u64 wb, bounds_u64 wc, bounds_u64 wd⟩
end

/-- '==' on lines. -/
theorem eqLine (a b c d a' b' c' d' : Int) (w : World) : (Op.equalIn 10000 27 (line a b c d) (line a' b' c' d')).run Tryz.prog w = .ok (a == a' && (b == b' && (c == c' && d == d'))) w := by
  have := equal_flat (P := Tryz.prog) 2 27 [.int .u64, .int .u64, .int .u64, .int .u64] (by kernel_rfl) (by kernel_rfl) 10000 (by omega) w [.int .u64 a, .int .u64 b, .int .u64 c, .int .u64 d] [.int .u64 a', .int .u64 b', .int .u64 c', .int .u64 d'] (line a b c d) (line a' b' c' d')
    ⟨⟨a, rfl⟩, ⟨b, rfl⟩, ⟨c, rfl⟩, ⟨d, rfl⟩, trivial⟩ ⟨⟨a', rfl⟩, ⟨b', rfl⟩, ⟨c', rfl⟩, ⟨d', rfl⟩, trivial⟩ (by simp [ValIs, Tryz.underlying27]) (by simp [ValIs, Tryz.underlying27])
  simpa [eqCells, scEq] using this

/-- Word k of a line. -/
def wordAt (a b c d k : Int) : Int := if k = 0 then a else if k = 1 then b else if k = 2 then c else if k = 3 then d else 0

/-- What is said of the number of a word. -/
def wordE (k : Int) : Int := if 0 ≤ k ∧ k ≤ 3 then 0 else 4

/-- A line with another word k. -/
def putA (a k v : Int) : Int := if k = 0 then v else if k = 1 ∨ k = 2 ∨ k = 3 then a else 0
def putB (b k v : Int) : Int := if k = 1 then v else if k = 0 ∨ k = 2 ∨ k = 3 then b else 0
def putC (c k v : Int) : Int := if k = 2 then v else if k = 0 ∨ k = 1 ∨ k = 3 then c else 0
def putD (d k v : Int) : Int := if k = 3 then v else if k = 0 ∨ k = 1 ∨ k = 2 then d else 0
abbrev putL (a b c d k v : Int) : Value := line (putA a k v) (putB b k v) (putC c k v) (putD d k v)





end Go.Proofs.YtgdacpcifnpojaaGreat

/- Bank: Proved: what the functions of package bank return, for every argument; none of them changes anything that was there. No condition. -/
namespace Go.Proofs.YtgdacpcifnpojaaGreat
open Go.ChangeShapes Go.WideShapes Go.ChangeAt Go.RowKit Go.Joins

/-- The words of a memory as cells. -/
def memA (l : List Int) : Array Value := (l.map (Value.int .u64)).toArray
/-- A memory as a value. -/
abbrev memV (l : List Int) : Value := .agg (memA l)
/-- The memory of zeros. -/
def zeroL : List Int := List.replicate 64 0

/-- Word i of a memory. -/
def wd (l : List Int) (i : Nat) : Int := l.getD i 0

theorem memA_at {l : List Int} (i : Nat) (h : i < l.length) : (memA l)[i]? = some (.int .u64 (wd l i)) := by
  simp [memA, wd, List.getD, h]
theorem memA_size (l : List Int) : (memA l).size = l.length := by simp [memA]
theorem memA_one (l : List Int) : (memA l).all (·.oneCell') = true := all_oneCell_toArray fun v hv => by
  obtain ⟨x, _, rfl⟩ := List.mem_map.1 hv
  rfl
theorem memA_list (l : List Int) : (memA l).toList = l.map (Value.int .u64) := by simp [memA]
theorem zeroL_length : zeroL.length = 64 := by simp [zeroL]
theorem mem_info : (Tryz.prog.info? 29).map (fun i => (i.zero, i.size)) = some (some (memV zeroL), 64) := by kernel_rfl
theorem mem_size : (Tryz.prog.info? 29).map (·.size) = some 64 := (zero_of_info mem_info).2

/-- A memory that lies in a block of its own. -/
structure Mb (w : World) (g : Nat) (l : List Int) : Prop where
  box : Box w g 29 (memA l)
  len : l.length = 64

section
variable {w w' : World} {g : Nat} {l : List Int}
theorem Mb.range (h : Mb w g l) : w.rangeAt g 0 (l.map (Value.int .u64)) := fun j v hv => by
  rw [Nat.zero_add, h.1.cell, ← hv, memA, List.getElem?_toArray]
theorem Mb.load (h : Mb w g l) : (loadVar 29 ⟨g, 0, none⟩).run Tryz.prog w = .ok (memV l) w :=
  run_loadVar_mid w g 0 29 _ _ h.range Tryz.underlying29 rfl (by rw [mem_size, List.length_map, h.2])
theorem Mb.new (w : World) (hl : l.length = 64) : Mb (w.alloc (.cells (memA l) 29)) w.heap.size l := ⟨Box.new w _ _, hl⟩
theorem Mb.alloc (h : Mb w g l) (o : Obj) : Mb (w.alloc o) g l := ⟨h.1.alloc o, h.2⟩
theorem Mb.call (h : Mb w g l) (hb : Below w.heap.size w w') : Mb w' g l := ⟨h.1.call hb, h.2⟩
theorem Mb.far (h : Mb w g l) {p : Addr} (hp : g ≠ p.block) (u : Value) : Mb (w.setCell p u) g l := ⟨h.1.far hp u, h.2⟩
theorem Mb.drew (h : Mb w g l) : Mb w.drew g l := ⟨h.1.drew, h.2⟩
theorem Mb.lt (h : Mb w g l) : g < w.heap.size := h.1.lt
end

section
variable {ops : Array Oper} {rest : List Oper} {dst : Option Tmp} {t : TypeId} {pos : String} {after : Array Edge} {a : Act} {w : World} {Q : Exit → Act → World → Prop}

/-- A new memory. -/
theorem wp_newMem (h : wpList Tryz.prog ops Q rest (a.put dst (.pointer (some ⟨w.heap.size, 0, none⟩))) (w.alloc (.cells (memA zeroL) 29))) :
    wpList Tryz.prog ops Q (⟨dst, .alloc 29, t, pos, after, none⟩ :: rest) a w := by
  refine wpList_plain rfl fun K hK => ?_
  unfold Oper.wp execOp
  simp only [Instr.alloc, Sem.run_bind, (zero_of_info mem_info).1, newVar, newRow, run_newObj_alloc, Sem.run_pure, Result.andThen_ok]
  exact hK _ _ h

/-- The literal 'Memory{}'. -/
theorem wp_zeroMem (h : wpList Tryz.prog ops Q rest (a.put dst (memV zeroL)) w) :
    wpList Tryz.prog ops Q (⟨dst, .build 29 #[], t, pos, after, none⟩ :: rest) a w := by
  refine wpList_plain rfl fun K hK => ?_
  have e : (Instr.build 29 #[]).run Tryz.prog w = .ok (memV zeroL) w := by kernel_rfl
  unfold Oper.wp execOp
  simp only [Array.map_empty, e, Sem.run_bind, Sem.run_pure, Result.andThen_ok]
  exact hK _ _ h

/-- A memory is read whole. -/
theorem wp_loadMem {gd : Option (Nat × Bool)} {x : Operand} {g : Nat} {l : List Int} (hb : Mb w g l) (hw : Region.wanted ⟨dst, .load 29 x, t, pos, after, gd⟩ (yielded ops a.tmps) = true) (hx : a.eval x = .pointer (some ⟨g, 0, none⟩)) (h : wpList Tryz.prog ops Q rest (a.put dst (memV l)) w) :
    wpList Tryz.prog ops Q (⟨dst, .load 29 x, t, pos, after, gd⟩ :: rest) a w := by
  unfold wpList
  rw [if_pos hw]
  refine .inl ?_
  unfold Oper.wp execOp
  simp only [hx, Instr.loadAt, Instr.sureAddr, Sem.run_bind, Sem.run_pure, Result.andThen_ok, hb.load]
  exact h

/-- A memory is stored whole. -/
theorem wp_storeMem {x y : Operand} {g : Nat} {l m : List Int} (hb : Mb w g l) (hm : m.length = 64) (hx : a.eval x = .pointer (some ⟨g, 0, none⟩)) (hy : a.eval y = memV m)
    (h : ∀ w', Mb w' g m → Stored w g w' → wpList Tryz.prog ops Q rest (a.put dst undef) w') :
    wpList Tryz.prog ops Q (⟨dst, .store 29 x y, t, pos, after, none⟩ :: rest) a w := by
  refine wpList_plain rfl fun K hK => ?_
  refine wp_store_row 29 x y rfl g (memA m) hx hy 29 (memA l) hb.1 (by rw [mem_size, memA_size, hm]) (by rw [memA_size, memA_size, hb.2, hm]) (memA_one m) ?_
  have := Stored.row w hb.1 (memA m)
  exact hK _ _ (h _ ⟨this.1, hm⟩ this.2)

/-- A memory is stored whole into the block that was made last. -/
theorem wp_storeNew {x y : Operand} {l m : List Int} (hl : l.length = 64) (hm : m.length = 64) (hx : a.eval x = .pointer (some ⟨w.heap.size, 0, none⟩)) (hy : a.eval y = memV m)
    (h : wpList Tryz.prog ops Q rest (a.put dst undef) (w.alloc (.cells (memA m) 29))) :
    wpList Tryz.prog ops Q (⟨dst, .store 29 x y, t, pos, after, none⟩ :: rest) a (w.alloc (.cells (memA l) 29)) := by
  refine wpList_plain rfl fun K hK => ?_
  unfold Oper.wp execOp
  simp only [hx, hy, Sem.run_bind, run_storeAt_new w 29 (memA l) (memA m) (by rw [mem_size, memA_size, hm]) (by rw [memA_size, memA_size, hl, hm]) (memA_one m), Sem.run_pure, Result.andThen_ok]
  exact hK _ _ h
end

/-- A memory is read whole, in a region that draws. -/
theorem exec_loadMem {ρ : Operand → Value} {dst : Option Tmp} {t : TypeId} {pos : String} {after : Array Edge} {gd : Option (Nat × Bool)} {x : Operand} {g : Nat} {l : List Int} {w : World} (hx : ρ x = .pointer (some ⟨g, 0, none⟩)) (hb : Mb w g l) :
    (execOp ρ ⟨dst, .load 29 x, t, pos, after, gd⟩).run Tryz.prog w = .ok (.value (memV l)) w := by
  unfold execOp
  simp only [hx, Instr.loadAt, Instr.sureAddr, Sem.run_bind, Sem.run_pure, Result.andThen_ok, hb.load]

theorem results_mem {fn : Func} {tmps : Array Value} {i g : Nat} {l : List Int} {w : World} (hr : fn.results = #[.cell i 29]) (hi : tmps.getD i undef = .pointer (some ⟨g, 0, none⟩)) (hb : Mb w g l) :
    (results fn tmps).run Tryz.prog w = .ok (memV l) w := by
  rw [Array.getD_eq_getD_getElem?] at hi
  simp [results, hr, hi, asAddr, hb.load]

theorem results_mem2 {fn : Func} {tmps : Array Value} {i j g : Nat} {l : List Int} {v : Value} {w : World} (hr : fn.results = #[.cell i 29, .tmp j]) (hi : tmps.getD i undef = .pointer (some ⟨g, 0, none⟩)) (hj : tmps.getD j undef = v) (hb : Mb w g l) :
    (results fn tmps).run Tryz.prog w = .ok (.tuple #[memV l, v]) w := by
  rw [Array.getD_eq_getD_getElem?] at hi hj
  simp [results, hr, hi, hj, asAddr, hb.load]

/-- A memory with another word, with another line. -/
def pokeL (l : List Int) (i : Nat) (v : Int) : List Int := l.set i v
def writeL (l : List Int) (k : Nat) (a b c d : Int) : List Int := (((l.set (k * 4) a).set (k * 4 + 1) b).set (k * 4 + 2) c).set (k * 4 + 3) d
theorem pokeL_length (l : List Int) (i : Nat) (v : Int) : (pokeL l i v).length = l.length := by simp [pokeL]
theorem writeL_length (l : List Int) (k : Nat) (a b c d : Int) : (writeL l k a b c d).length = l.length := by simp [writeL]
theorem memA_set (l : List Int) (i : Nat) (v : Int) : (memA l).setIfInBounds i (.int .u64 v) = memA (l.set i v) := by
  simp [memA, List.map_set]

theorem Mb.there {w : World} {g : Nat} {l : List Int} (h : Mb w g l) (o n : Nat) (hn : o + n ≤ 64) : w.there g o n := fun j hj => by
  refine ⟨?_, h.1.frozen _⟩
  rw [h.1.cell, memA_at (o + j) (by have := h.2; omega)]
  rfl

theorem Mb.poke {w : World} {g : Nat} {l : List Int} (h : Mb w g l) (i : Nat) (v : Int) : Mb (w.setCell ⟨g, i, none⟩ (.int .u64 v)) g (pokeL l i v) := by
  refine ⟨?_, by rw [pokeL_length, h.2]⟩
  have := h.1.set i (.int .u64 v)
  rwa [memA_set] at this

theorem Mb.write {w : World} {g : Nat} {l : List Int} (h : Mb w g l) (k : Nat) (a b c d : Int) : Mb (w.setCells g (k * 4) [.int .u64 a, .int .u64 b, .int .u64 c, .int .u64 d]) g (writeL l k a b c d) := by
  have := (((h.poke (k * 4) a).poke (k * 4 + 1) b).poke (k * 4 + 2) c).poke (k * 4 + 3) d
  exact this

theorem setCells_stored (g : Nat) : ∀ (vs : List Value) (o : Nat) (w : World), Stored w g (w.setCells g o vs)
  | [], _, _ => ⟨fun _ => rfl, rfl, fun b _ => b⟩
  | v :: vs, o, w => (Stored.cell1 w ⟨g, o, none⟩ v).trans (setCells_stored g vs (o + 1) _)

theorem run_storeWord {w : World} {g : Nat} {l : List Int} (h : Mb w g l) (i : Nat) (hi : i < 64) (v : Int) :
    (storeVar 25 ⟨g, i, none⟩ (.int .u64 v)).run Tryz.prog w = .ok () (w.setCell ⟨g, i, none⟩ (.int .u64 v)) := by
  have c := h.1.cell i
  rw [memA_at i (by rw [h.2]; exact hi)] at c
  have f := h.1.frozen i
  have z : (Tryz.prog.info? 25).map (·.size) = some 1 := by kernel_rfl
  have := run_storeCells_cells (P := Tryz.prog) g i [.int .u64 v] 0 w (fun j hj => by obtain rfl : j = 0 := (by simpa using hj); simp [c]) (fun j hj => by obtain rfl : j = 0 := (by simpa using hj); simp [f]) (fun u hu => by simp at hu; subst hu; rfl)
  cases hq : Tryz.prog.info? 25 with
  | none => rw [hq] at z; cases z
  | some y =>
    have hs : y.size = 1 := by rw [hq] at z; simpa using z
    simp only [Nat.add_zero] at this
    simp [storeVar, sizeOf, typeInfo, hq, Value.cells, hs, this, World.setCells]

section
variable {ops : Array Oper} {rest : List Oper} {dst : Option Tmp} {t : TypeId} {pos : String} {after : Array Edge} {a : Act} {w : World} {Q : Exit → Act → World → Prop}

/-- A word is stored into a memory. -/
theorem wp_storeWord {x y : Operand} {g : Nat} {l : List Int} (hb : Mb w g l) (i : Nat) (hi : i < 64) (v : Int) (hx : a.eval x = .pointer (some ⟨g, i, none⟩)) (hy : a.eval y = .int .u64 v)
    (h : ∀ w', Mb w' g (pokeL l i v) → Stored w g w' → wpList Tryz.prog ops Q rest (a.put dst undef) w') :
    wpList Tryz.prog ops Q (⟨dst, .store 25 x y, t, pos, after, none⟩ :: rest) a w := by
  refine wpList_plain rfl fun K hK => ?_
  unfold Oper.wp execOp
  simp only [hx, hy, Instr.storeAt, Instr.sureAddr, Sem.run_bind, Sem.run_pure, Result.andThen_ok, run_storeWord hb i hi v]
  exact hK _ _ (h _ (hb.poke i v) (Stored.cell1 w ⟨g, i, none⟩ _))

/-- A line is stored into a memory. -/
theorem wp_storeLine {x y : Operand} {g : Nat} {l : List Int} (hb : Mb w g l) (k : Nat) (hk : k < 16) (p q r s : Int) (hx : a.eval x = .pointer (some ⟨g, k * 4, none⟩)) (hy : a.eval y = line p q r s)
    (h : ∀ w', Mb w' g (writeL l k p q r s) → Stored w g w' → wpList Tryz.prog ops Q rest (a.put dst undef) w') :
    wpList Tryz.prog ops Q (⟨dst, .store 27 x y, t, pos, after, none⟩ :: rest) a w := by
  refine wpList_store_mid rfl 27 x y rfl g (k * 4) _ hx hy (hb.there _ _ (by simp; omega)) (by kernel_rfl) (by simp [Value.oneCell']) ?_
  exact h _ (hb.write k p q r s) (setCells_stored g _ _ w)
end

/-- A line of a memory. -/
abbrev lineAt (l : List Int) (k : Nat) : Value := line (wd l (k * 4)) (wd l (k * 4 + 1)) (wd l (k * 4 + 2)) (wd l (k * 4 + 3))

theorem bankLine_in (k : Nat) (w : World) (h1 : k < 16) : Calls Tryz.prog 156 #[.int .i64 k] w fun e w' => e = .returned (.bool true) ∧ w = w' := by
  have h2 : (k : Int) < 16 := by omega
  go_enter Tryz.func156, Tryz.ntmps156
  go_wp2
  go_ret
  exact ⟨rfl, rfl⟩

theorem bankLine_out (k : Int) (w : World) (h : k < 0 ∨ 15 < k) : Calls Tryz.prog 156 #[.int .i64 k] w fun e w' => e = .returned (.bool false) ∧ w = w' := by
  by_cases h0 : k < 0
  · go_enter Tryz.func156, Tryz.ntmps156
    go_wp2
    go_ret
    exact ⟨rfl, rfl⟩
  · have h1 : 0 ≤ k := by omega
    have h2 : decide (k < 16) = false := by simp; omega
    clear h h0
    go_enter Tryz.func156, Tryz.ntmps156
    go_wp2
    go_ret
    exact ⟨rfl, rfl⟩

set_option maxHeartbeats 1000000 in
theorem bankRead_ok (l : List Int) (hl : l.length = 64) (k : Nat) (hk : k < 16) (w : World) : Calls Tryz.prog 133 #[memV l, .int .i64 k] w fun e w' =>
    e = .returned (.tuple #[lineAt l k, .int .i64 0]) ∧ Below w.heap.size w w' := by
  have B := Lib.hid fun W => bankLine_in k W hk
  have m0 := memA_at (l := l) (k * 4) (by omega)
  have m1 := memA_at (l := l) (k * 4 + 1) (by omega)
  have m2 := memA_at (l := l) (k * 4 + 2) (by omega)
  have m3 := memA_at (l := l) (k * 4 + 3) (by omega)
  clear hl
  go_enter Tryz.func133, Tryz.ntmps133
  go_wp2_with fail
  refine (B.out _).mono ?_; rintro e w' ⟨rfl, rfl⟩
  go_wp2_with fail
  refine bodyPost_ret (v := .tuple #[lineAt l k, .int .i64 0]) (by simp [results, Tryz.results133, go_sem]) rfl ⟨rfl, ?_⟩
  exact gAlloc (gAlloc (Below.refl _ _) _) _

theorem bankRead_out (l : List Int) (k : Int) (h : k < 0 ∨ 15 < k) (w : World) : Calls Tryz.prog 133 #[memV l, .int .i64 k] w fun e w' =>
    e = .returned (.tuple #[line 0 0 0 0, .int .i64 4]) ∧ Below w.heap.size w w' := by
  have B := Lib.hid fun W => bankLine_out k W h
  clear h
  go_enter Tryz.func133, Tryz.ntmps133
  go_wp2_with fail
  refine (B.out _).mono ?_; rintro e w' ⟨rfl, rfl⟩
  go_wp2_with fail
  refine bodyPost_ret (v := .tuple #[line 0 0 0 0, .int .i64 4]) (by simp [results, Tryz.results133, go_sem]) rfl ⟨rfl, ?_⟩
  exact gAlloc (gAlloc (Below.refl _ _) _) _

set_option maxHeartbeats 1000000 in
theorem bankWrite_ok (l : List Int) (hl : l.length = 64) (k : Nat) (hk : k < 16) (a b c d : Int) (w : World) : Calls Tryz.prog 139 #[memV l, .int .i64 k, line a b c d] w fun e w' =>
    e = .returned (.tuple #[memV (writeL l k a b c d), .int .i64 0]) ∧ Below w.heap.size w w' := by
  have B := Lib.hid fun W => bankLine_in k W hk
  have low := Below.refl w.heap.size w
  have mb := boxNext low 29 (memA l)
  replace low := gAlloc low (.cells (memA l) 29)
  try simp only [World.size_alloc] at mb
  have xb := boxNext low 27 #[.int .u64 a, .int .u64 b, .int .u64 c, .int .u64 d]
  replace low := gAlloc low (.cells #[.int .u64 a, .int .u64 b, .int .u64 c, .int .u64 d] 27)
  replace mb := mb.alloc (.cells #[.int .u64 a, .int .u64 b, .int .u64 c, .int .u64 d] 27)
  try simp only [World.size_alloc] at xb
  have ob := boxNext low 29 (memA zeroL)
  replace low := gAlloc low (.cells (memA zeroL) 29)
  replace mb := mb.alloc (.cells (memA zeroL) 29)
  replace xb := xb.alloc (.cells (memA zeroL) 29)
  try simp only [World.size_alloc] at ob
  go_enter Tryz.func139, Tryz.ntmps139
  go_wp2_with (with_reducible refine wp_newMem ?_)
  refine (B.out _).mono ?_; rintro e w' ⟨rfl, rfl⟩
  go_wp2_with ((with_reducible refine wp_storeLine (⟨mb, hl⟩) (k) (hk) a b c d ?_ ?_ ?_); rfl; rfl)
  intro w2 m2 st
  replace ob := st.box ob (by omega)
  replace low := st.low low (Nat.le_refl _)
  clear mb xb st
  have hl2 := m2.2
  go_wp2_with (first | ((with_reducible refine wp_loadMem (m2) ?_ ?_ ?_); rfl; rfl) | ((with_reducible refine wp_storeMem (⟨ob, zeroL_length⟩) (hl2) ?_ ?_ ?_); rfl; rfl))
  intro w3 m3 st
  replace low := st.low low (by omega)
  clear m2 st ob
  go_wp2_with fail
  refine bodyPost_ret (v := .tuple #[memV (writeL l k a b c d), .int .i64 0]) (results_mem2 Tryz.results139 rfl rfl m3) rfl ⟨rfl, low⟩

set_option maxHeartbeats 1000000 in
theorem bankWrite_out (l : List Int) (k : Int) (h : k < 0 ∨ 15 < k) (a b c d : Int) (w : World) : Calls Tryz.prog 139 #[memV l, .int .i64 k, line a b c d] w fun e w' =>
    e = .returned (.tuple #[memV zeroL, .int .i64 4]) ∧ Below w.heap.size w w' := by
  have B := Lib.hid fun W => bankLine_out k W h
  clear h
  have low := Below.refl w.heap.size w
  have mb := boxNext low 29 (memA l)
  replace low := gAlloc low (.cells (memA l) 29)
  try simp only [World.size_alloc] at mb
  have xb := boxNext low 27 #[.int .u64 a, .int .u64 b, .int .u64 c, .int .u64 d]
  replace low := gAlloc low (.cells #[.int .u64 a, .int .u64 b, .int .u64 c, .int .u64 d] 27)
  try simp only [World.size_alloc] at xb
  have ob := boxNext low 29 (memA zeroL)
  replace low := gAlloc low (.cells (memA zeroL) 29)
  try simp only [World.size_alloc] at ob
  clear mb xb
  go_enter Tryz.func139, Tryz.ntmps139
  go_wp2_with (with_reducible refine wp_newMem ?_)
  refine (B.out _).mono ?_; rintro e w' ⟨rfl, rfl⟩
  go_wp2_with (first | (with_reducible refine wp_zeroMem ?_) | ((with_reducible refine wp_storeMem (⟨ob, zeroL_length⟩) (zeroL_length) ?_ ?_ ?_); rfl; rfl))
  intro w3 m3 st
  replace low := st.low low (by omega)
  clear st ob
  go_wp2_with fail
  refine bodyPost_ret (v := .tuple #[memV zeroL, .int .i64 4]) (results_mem2 Tryz.results139 rfl rfl m3) rfl ⟨rfl, low⟩

theorem bankNew_any (w : World) : Calls Tryz.prog 65 #[] w fun e w' => e = .returned (memV zeroL) ∧ Below w.heap.size w w' := by
  have low := Below.refl w.heap.size w
  have ob := boxNext low 29 (memA zeroL)
  replace low := gAlloc low (.cells (memA zeroL) 29)
  try simp only [World.size_alloc] at ob
  go_enter Tryz.func65, Tryz.ntmps65
  go_wp2_with (first | (with_reducible refine wp_newMem ?_) | (with_reducible refine wp_zeroMem ?_) | ((with_reducible refine wp_storeMem (⟨ob, zeroL_length⟩) (zeroL_length) ?_ ?_ ?_); rfl; rfl))
  intro w3 m3 st
  replace low := st.low low (Nat.le_refl _)
  clear st ob
  go_wp2_with fail
  refine bodyPost_ret (v := memV zeroL) (results_mem Tryz.results65 rfl m3) rfl ⟨rfl, low⟩

theorem addrLine_at (q r : Nat) (w : World) (hq : q < 16) (hr : r < 4) :
    Calls Tryz.prog 97 #[.int .i64 ((q * 4 + r : Nat) : Int)] w fun e w' => e = .returned (.tuple #[.int .i64 q, .int .i64 r, .int .i64 0]) ∧ w = w' := by
  have := line_ok ((q * 4 + r : Nat) : Int) w (by omega) (by omega)
  rwa [show ((q * 4 + r : Nat) : Int) / 4 = q by omega, show ((q * 4 + r : Nat) : Int) % 4 = r by omega] at this

theorem bankWord_at (l : List Int) (hl : l.length = 64) (q r : Nat) (hq : q < 16) (hr : r < 4) (w : World) : Calls Tryz.prog 153 #[memV l, .int .i64 ((q * 4 + r : Nat) : Int)] w fun e w' =>
    e = .returned (.tuple #[.int .u64 (wd l (q * 4 + r)), .int .i64 0]) ∧ Below w.heap.size w w' := by
  have B := Lib.hid fun W => addrLine_at q r W hq hr
  have m0 := memA_at (l := l) (q * 4 + r) (by omega)
  generalize ((q * 4 + r : Nat) : Int) = i at *
  clear hl
  go_enter Tryz.func153, Tryz.ntmps153
  go_wp2_with fail
  refine (B.out _).mono ?_; rintro e w' ⟨rfl, rfl⟩
  go_wp2_with fail
  go_ret2
  exact ⟨rfl, gAlloc (Below.refl _ _) _⟩

theorem bankWord_ok (l : List Int) (hl : l.length = 64) (i : Nat) (hi : i < 64) (w : World) : Calls Tryz.prog 153 #[memV l, .int .i64 i] w fun e w' =>
    e = .returned (.tuple #[.int .u64 (wd l i), .int .i64 0]) ∧ Below w.heap.size w w' := by
  have := bankWord_at l hl (i / 4) (i % 4) (by omega) (by omega) w
  rwa [show i / 4 * 4 + i % 4 = i by omega] at this

theorem bankWord_out (l : List Int) (i : Int) (h : i < 0 ∨ 63 < i) (w : World) : Calls Tryz.prog 153 #[memV l, .int .i64 i] w fun e w' =>
    e = .returned (.tuple #[.int .u64 0, .int .i64 4]) ∧ Below w.heap.size w w' := by
  have B := Lib.hid fun W => line_out i W h
  clear h
  go_enter Tryz.func153, Tryz.ntmps153
  go_wp2_with fail
  refine (B.out _).mono ?_; rintro e w' ⟨rfl, rfl⟩
  go_wp2_with fail
  go_ret2
  exact ⟨rfl, gAlloc (Below.refl _ _) _⟩

set_option maxHeartbeats 1000000 in
theorem bankPoke_at (l : List Int) (hl : l.length = 64) (q r : Nat) (hq : q < 16) (hr : r < 4) (v : Int) (w : World) : Calls Tryz.prog 154 #[memV l, .int .i64 ((q * 4 + r : Nat) : Int), .int .u64 v] w fun e w' =>
    e = .returned (.tuple #[memV (pokeL l (q * 4 + r) v), .int .i64 0]) ∧ Below w.heap.size w w' := by
  have B := Lib.hid fun W => addrLine_at q r W hq hr
  generalize ((q * 4 + r : Nat) : Int) = i at *
  have low := Below.refl w.heap.size w
  have mb := boxNext low 29 (memA l)
  replace low := gAlloc low (.cells (memA l) 29)
  try simp only [World.size_alloc] at mb
  have ob := boxNext low 29 (memA zeroL)
  replace low := gAlloc low (.cells (memA zeroL) 29)
  replace mb := mb.alloc (.cells (memA zeroL) 29)
  try simp only [World.size_alloc] at ob
  go_enter Tryz.func154, Tryz.ntmps154
  go_wp2_with (with_reducible refine wp_newMem ?_)
  refine (B.out _).mono ?_; rintro e w' ⟨rfl, rfl⟩
  go_wp2_with ((with_reducible refine wp_storeWord (⟨mb, hl⟩) (q * 4 + r) (by omega) (v) ?_ ?_ ?_); rfl; rfl)
  intro w2 m2 st
  replace ob := st.box ob (by omega)
  replace low := st.low low (Nat.le_refl _)
  clear mb st
  have hl2 := m2.2
  go_wp2_with (first | ((with_reducible refine wp_loadMem (m2) ?_ ?_ ?_); rfl; rfl) | ((with_reducible refine wp_storeMem (⟨ob, zeroL_length⟩) (hl2) ?_ ?_ ?_); rfl; rfl))
  intro w3 m3 st
  replace low := st.low low (by omega)
  clear m2 st ob
  go_wp2_with fail
  refine bodyPost_ret (v := .tuple #[memV (pokeL l (q * 4 + r) v), .int .i64 0]) (results_mem2 Tryz.results154 rfl rfl m3) rfl ⟨rfl, low⟩

theorem bankPoke_ok (l : List Int) (hl : l.length = 64) (i : Nat) (hi : i < 64) (v : Int) (w : World) : Calls Tryz.prog 154 #[memV l, .int .i64 i, .int .u64 v] w fun e w' =>
    e = .returned (.tuple #[memV (pokeL l i v), .int .i64 0]) ∧ Below w.heap.size w w' := by
  have := bankPoke_at l hl (i / 4) (i % 4) (by omega) (by omega) v w
  rwa [show i / 4 * 4 + i % 4 = i by omega] at this

set_option maxHeartbeats 1000000 in
theorem bankPoke_out (l : List Int) (i : Int) (h : i < 0 ∨ 63 < i) (v : Int) (w : World) : Calls Tryz.prog 154 #[memV l, .int .i64 i, .int .u64 v] w fun e w' =>
    e = .returned (.tuple #[memV zeroL, .int .i64 4]) ∧ Below w.heap.size w w' := by
  have B := Lib.hid fun W => line_out i W h
  clear h
  have low := Below.refl w.heap.size w
  have mb := boxNext low 29 (memA l)
  replace low := gAlloc low (.cells (memA l) 29)
  try simp only [World.size_alloc] at mb
  have ob := boxNext low 29 (memA zeroL)
  replace low := gAlloc low (.cells (memA zeroL) 29)
  try simp only [World.size_alloc] at ob
  clear mb
  go_enter Tryz.func154, Tryz.ntmps154
  go_wp2_with (with_reducible refine wp_newMem ?_)
  refine (B.out _).mono ?_; rintro e w' ⟨rfl, rfl⟩
  go_wp2_with (first | (with_reducible refine wp_zeroMem ?_) | ((with_reducible refine wp_storeMem (⟨ob, zeroL_length⟩) (zeroL_length) ?_ ?_ ?_); rfl; rfl))
  intro w3 m3 st
  replace low := st.low low (by omega)
  clear st ob
  go_wp2_with fail
  refine bodyPost_ret (v := .tuple #[memV zeroL, .int .i64 4]) (results_mem2 Tryz.results154 rfl rfl m3) rfl ⟨rfl, low⟩
end Go.Proofs.YtgdacpcifnpojaaGreat

/- Copies: Proved: words for copies of a line (a node and its way) and slices of them; what ownerOf and valueOf of package agree return, for every slice that can be read. No condition. -/
namespace Go.Proofs.YtgdacpcifnpojaaGreat
open Go.ChangeShapes Go.WideShapes Go.ChangeAt Go.RowKit Go.Joins

/-- The four words of a line. -/
structure L4 where
  a : Int
  b : Int
  c : Int
  d : Int
abbrev L4.val (x : L4) : Value := line x.a x.b x.c x.d
def eq4 (x y : L4) : Bool := x.a == y.a && (x.b == y.b && (x.c == y.c && x.d == y.d))
theorem eq4_iff {x y : L4} : eq4 x y = true ↔ x = y := by
  obtain ⟨a, b, c, d⟩ := x
  obtain ⟨a', b', c', d'⟩ := y
  simp [eq4]
theorem eq4_refl (x : L4) : eq4 x x = true := eq4_iff.2 rfl
theorem eqL4 (x y : L4) (w : World) : (Op.equalIn 10000 27 (line x.a x.b x.c x.d) (line y.a y.b y.c y.d)).run Tryz.prog w = .ok (eq4 x y) w := eqLine _ _ _ _ _ _ _ _ w
def Wy.dat (x : Wy) : L4 := ⟨x.a, x.b, x.c, x.d⟩
/-- A line of a memory. -/
def l4 (m : List Int) (k : Nat) : L4 := ⟨wd m (k * 4), wd m (k * 4 + 1), wd m (k * 4 + 2), wd m (k * 4 + 3)⟩

/-- A line in the cache of a node. -/
structure Cp where
  nd : Int
  x : Wy
def Cp.cells (c : Cp) : List Value := [.int .i64 c.nd, .int .i64 c.x.st, .int .i64 c.x.ln, .int .u64 c.x.a, .int .u64 c.x.b, .int .u64 c.x.c, .int .u64 c.x.d]
abbrev Cp.box (c : Cp) : Array Value := #[.int .i64 c.nd, .int .i64 c.x.st, .int .i64 c.x.ln, .int .u64 c.x.a, .int .u64 c.x.b, .int .u64 c.x.c, .int .u64 c.x.d]
def cpsC (l : List Cp) : List Value := l.flatMap Cp.cells

theorem cpsC_length (l : List Cp) : (cpsC l).length = l.length * 7 := by
  induction l with
  | nil => rfl
  | cons x r ih => simp only [cpsC, List.flatMap_cons, List.length_append, List.length_cons] at *; rw [ih]; simp [Cp.cells]; omega
theorem cpsC_at {l : List Cp} {k : Nat} {x : Cp} (h : l[k]? = some x) (j : Nat) (hj : j < 7) : (cpsC l)[k * 7 + j]? = x.cells[j]? := by
  induction l generalizing k with
  | nil => simp at h
  | cons y r ih =>
    have hy : y.cells.length = 7 := rfl
    simp only [cpsC, List.flatMap_cons] at *
    cases k with
    | zero =>
      simp at h
      subst h
      rw [List.getElem?_append_left (by omega)]
      simp
    | succ k =>
      rw [List.getElem?_append_right (by omega), hy]
      have : (k + 1) * 7 + j - 7 = k * 7 + j := by omega
      rw [this]
      exact ih (by simpa using h)
theorem cpsC_snoc (l : List Cp) (c : Cp) : cpsC (l ++ [c]) = cpsC l ++ c.cells := by simp [cpsC]

/-- The slice holds the copies. -/
structure Cps (w : World) (v : Value) (l : List Cp) : Prop where
  sl : Sl w w.heap.size 7 v l.length (cpsC l)
theorem Cps.call {w w' : World} {v : Value} {l : List Cp} (h : Cps w v l) (hb : Below w.heap.size w w') : Cps w' v l := ⟨Sl.call h.sl hb⟩
theorem Cps.alloc {w : World} {v : Value} {l : List Cp} (h : Cps w v l) (o : Obj) : Cps (w.alloc o) v l := h.call (gAlloc (Below.refl _ _) o)
theorem Cps.drew {w : World} {v : Value} {l : List Cp} (h : Cps w v l) : Cps w.drew v l := h.call (Below.refl _ _).drew
theorem Cps.nil (w : World) : Cps w (.slice none 0 0) [] := ⟨rfl, none, 0, rfl, Nat.le_refl _, Nat.zero_le _, fun h => absurd h (Nat.lt_irrefl 0)⟩

def CpAt (w : World) (b o : Nat) (c : Cp) : Prop :=
  w.cell? ⟨b, o, none⟩ = some (.int .i64 c.nd) ∧ w.cell? ⟨b, o + 1, none⟩ = some (.int .i64 c.x.st) ∧ w.cell? ⟨b, o + 2, none⟩ = some (.int .i64 c.x.ln) ∧
  w.cell? ⟨b, o + 3, none⟩ = some (.int .u64 c.x.a) ∧ w.cell? ⟨b, o + 4, none⟩ = some (.int .u64 c.x.b) ∧ w.cell? ⟨b, o + 5, none⟩ = some (.int .u64 c.x.c) ∧ w.cell? ⟨b, o + 6, none⟩ = some (.int .u64 c.x.d)

theorem cpAt_of {w w' : World} {b o B : Nat} {l : List Cp} {k : Nat} {x : Cp} (hc : ∀ j u, (cpsC l)[j]? = some u → w.cell? ⟨b, o + j, none⟩ = some u) (hb : b < B) (low : Below B w w') (h : l[k]? = some x) : CpAt w' b (o + k * 7) x := by
  have f : ∀ j u, j < 7 → x.cells[j]? = some u → w'.cell? ⟨b, o + k * 7 + j, none⟩ = some u := by
    intro j u hj hu
    refine (low.cell (p := ⟨b, o + k * 7 + j, none⟩) hb).trans ?_
    rw [Nat.add_assoc]
    exact hc _ _ ((cpsC_at h j hj).trans hu)
  exact ⟨f 0 _ (by omega) rfl, f 1 _ (by omega) rfl, f 2 _ (by omega) rfl, f 3 _ (by omega) rfl, f 4 _ (by omega) rfl, f 5 _ (by omega) rfl, f 6 _ (by omega) rfl⟩

/-- The node that owns the line, or -1; the line as every node would read it. -/
def ownN (l : List Cp) : Int := match l.find? (fun c => owB c.x.st) with | some c => c.nd | none => -1
def valL (l : List Cp) (d : L4) : L4 := match l with | [] => d | c :: _ => c.x.dat

theorem ownN_none {l : List Cp} (h : ∀ (j : Nat) c, l[j]? = some c → owB c.x.st = false) : ownN l = -1 := by
  have : l.find? (fun c => owB c.x.st) = none := by
    rw [List.find?_eq_none]
    intro c hc
    obtain ⟨k, hk, e⟩ := List.getElem_of_mem hc
    have := h k c (by rw [List.getElem?_eq_getElem hk, e])
    simp [this]
  rw [ownN, this]
theorem ownN_some {l : List Cp} {k : Nat} {c : Cp} (h : ∀ j y, j < k → l[j]? = some y → owB y.x.st = false) (hk : l[k]? = some c) (hp : owB c.x.st = true) : ownN l = c.nd := by
  have : l.find? (fun c => owB c.x.st) = some c := by
    rw [List.find?_eq_some_iff_getElem]
    obtain ⟨hlt, e⟩ := List.getElem?_eq_some_iff.1 hk
    refine ⟨hp, k, hlt, e, fun j hj => ?_⟩
    rw [h j _ hj (List.getElem?_eq_getElem (by omega))]
    decide
  rw [ownN, this]

set_option maxHeartbeats 1000000 in
theorem ownerOf_any (v : Value) (l : List Cp) (w : World) (h : Cps w v l) :
    Calls Tryz.prog 93 #[v] w fun e w' => e = .returned (.int .i64 (ownN l)) ∧ Below w.heap.size w w' := by
  obtain ⟨hl, A, c, rfl, h1, h2, h3⟩ := h
  have H3 := Lib.hid h3
  unfold maxLen at h2
  clear hl h3
  generalize hE : ownN l = E
  have HE := Lib.hid hE
  clear hE
  go_enter Tryz.func93, Tryz.ntmps93
  go_wp2_with fail
  go_loopw [7] (fun i wr => ∃ k : Nat, k ≤ l.length ∧ i = .int .i64 k ∧ Hid (∀ j x, j < k → l[j]? = some x → owB x.x.st = false) ∧ Below w.heap.size w wr) (fun i _ => l.length - (intOf i).toNat)
  case atStart => exact ⟨0, Nat.zero_le _, rfl, Lib.hid fun j x hj => absurd hj (by omega), Below.refl _ _⟩
  case round =>
    obtain ⟨k, hk, rfl, hno, low⟩ := hrel
    by_cases hlt : k < l.length
    · obtain ⟨bb, o, rfl, hb, hc⟩ := H3.out (by omega)
      have hx : l[k]? = some l[k] := List.getElem?_eq_getElem _
      generalize l[k] = x at hx
      obtain ⟨c0, c1, c2, c3, c4, c5, c6⟩ := cpAt_of hc hb low hx
      have HX := Lib.hid hx
      have OW := Lib.hid fun w => owns_any x.x.st w
      clear hx hc
      cases ho : owB x.x.st
      · rw [ho] at OW
        have HO := Lib.hid ho
        clear ho
        go_wp2_with fail
        (with_reducible refine (OW.out _).mono ?_); rintro e w2 ⟨rfl, rfl⟩
        go_wp2_with fail
        go_roundw
        case rel => exact ⟨k + 1, by omega, by go_num, Lib.hid fun j y hj hy => by
          by_cases e : j < k
          · exact hno.out j y e hy
          · obtain rfl : j = k := by omega
            rw [HX.out] at hy
            cases hy
            exact HO.out, gAlloc low _⟩
        case measure => simp [intOf]; omega
      · rw [ho] at OW
        obtain rfl : x.nd = E := (ownN_some hno.out HX.out ho).symm.trans HE.out
        clear ho
        go_wp2_with fail
        (with_reducible refine (OW.out _).mono ?_); rintro e w2 ⟨rfl, rfl⟩
        go_wp2_with fail
        go_ret
        exact ⟨rfl, gAlloc low _⟩
    · obtain rfl : -1 = E := (ownN_none (fun j c hj => hno.out j c (by have := (List.getElem?_eq_some_iff.1 hj).1; omega) hj)).symm.trans HE.out
      go_wp2_with fail
      go_ret
      exact ⟨rfl, low⟩

theorem valueOf_any (v : Value) (l : List Cp) (d : L4) (w : World) (h : Cps w v l) :
    Calls Tryz.prog 94 #[v, line d.a d.b d.c d.d] w fun e w' => e = .returned (line (valL l d).a (valL l d).b (valL l d).c (valL l d).d) ∧ Below w.heap.size w w' := by
  obtain ⟨hl, A, c, rfl, h1, h2, h3⟩ := h
  have low := Below.refl w.heap.size w
  cases l with
  | nil =>
    clear h3
    simp only [List.length_nil] at *
    go_enter Tryz.func94, Tryz.ntmps94
    go_wp2_with fail
    refine bodyPost_ret (v := line d.a d.b d.c d.d) (by simp [results, Tryz.results94, go_sem]) rfl ⟨rfl, ?_⟩
    exact gAlloc (gAlloc low _) _
  | cons x r =>
    obtain ⟨bb, o, rfl, hb, hc⟩ := h3 (by simp)
    obtain ⟨c0, c1, c2, c3, c4, c5, c6⟩ := cpAt_of hc hb low (k := 0) (x := x) rfl
    simp only [Nat.zero_mul, Nat.add_zero] at c0 c1 c2 c3 c4 c5 c6
    have hn : ((x :: r).length == 0) = false := by simp
    have hn1 : 0 < (x :: r).length := by simp
    generalize (x :: r).length = n at *
    clear hc hl h3
    show Calls _ _ _ _ fun e w' => e = .returned (line x.x.a x.x.b x.x.c x.x.d) ∧ _
    go_enter Tryz.func94, Tryz.ntmps94
    go_wp2_with fail
    refine bodyPost_ret (v := line x.x.a x.x.b x.x.c x.x.d) (by simp [results, Tryz.results94, go_sem]) rfl ⟨rfl, ?_⟩
    exact gAlloc (gAlloc low _) _
end Go.Proofs.YtgdacpcifnpojaaGreat

/- Copies2: Proved: what checkLine of package agree returns, for every slice of copies that can be read; it changes nothing that was there. No condition. -/
namespace Go.Proofs.YtgdacpcifnpojaaGreat
open Go.ChangeShapes Go.WideShapes Go.ChangeAt Go.RowKit Go.Joins

/-- The state, the data of copy i. -/
def stA (l : List Cp) (i : Nat) : Int := ((l[i]?).map (fun c => c.x.st)).getD 0
def datA (l : List Cp) (i : Nat) : L4 := ((l[i]?).map (fun c => c.x.dat)).getD ⟨0, 0, 0, 0⟩
theorem stA_at {l : List Cp} {i : Nat} {c : Cp} (h : l[i]? = some c) : stA l i = c.x.st := by simp [stA, h]
theorem datA_at {l : List Cp} {i : Nat} {c : Cp} (h : l[i]? = some c) : datA l i = c.x.dat := by simp [datA, h]

/-- May all of them be beside one another? Have all the same data? -/
def pairsB (l : List Cp) : Bool := (List.range l.length).all fun i => (List.range i).all fun j => bsB (stA l i) (stA l j)
def sameD (l : List Cp) : Bool := (List.range l.length).all fun i => eq4 (datA l i) (datA l 0)
/-- The error of a line with these copies and these data in memory. -/
def lnE (l : List Cp) (d : L4) : Int := if pairsB l = false then 8 else if sameD l = false then 3 else if ownN l < 0 ∧ eq4 (valL l d) d = false then 3 else 0

theorem pairsB_iff {l : List Cp} : pairsB l = true ↔ ∀ i j, i < l.length → j < i → bsB (stA l i) (stA l j) = true := by
  simp only [pairsB, List.all_eq_true, List.mem_range]
  exact ⟨fun h i j hi hj => h i hi j hj, fun h i hi j hj => h i j hi hj⟩
theorem sameD_iff {l : List Cp} : sameD l = true ↔ ∀ i, i < l.length → eq4 (datA l i) (datA l 0) = true := by
  simp only [sameD, List.all_eq_true, List.mem_range]
theorem pairsB_no {l : List Cp} {i j : Nat} (hi : i < l.length) (hj : j < i) (h : bsB (stA l i) (stA l j) = false) : pairsB l = false := by
  cases hp : pairsB l
  · rfl
  · have := pairsB_iff.1 hp i j hi hj
    rw [h] at this
    cases this
theorem sameD_no {l : List Cp} {i : Nat} (hi : i < l.length) (h : eq4 (datA l i) (datA l 0) = false) : sameD l = false := by
  cases hp : sameD l
  · rfl
  · have := sameD_iff.1 hp i hi
    rw [h] at this
    cases this

set_option maxRecDepth 10000 in
set_option maxHeartbeats 4000000 in
theorem checkLine_any (v : Value) (l : List Cp) (d : L4) (w : World) (h : Cps w v l) :
    Calls Tryz.prog 72 #[v, line d.a d.b d.c d.d] w fun e w' => e = .returned (.int .i64 (lnE l d)) ∧ Below w.heap.size w w' := by
  have H := Lib.hid h
  obtain ⟨hl, A, cp, rfl, h1, h2, h3⟩ := h
  have H3 := Lib.hid h3
  unfold maxLen at h2
  clear hl h3
  generalize hE : lnE l d = E
  unfold lnE at hE
  have HE := Lib.hid hE
  clear hE
  have low := Below.refl w.heap.size w
  have db := boxNext low 27 #[.int .u64 d.a, .int .u64 d.b, .int .u64 d.c, .int .u64 d.d]
  replace low := gAlloc low (.cells #[.int .u64 d.a, .int .u64 d.b, .int .u64 d.c, .int .u64 d.d] 27)
  try simp only [World.size_alloc] at db
  go_enter Tryz.func72, Tryz.ntmps72
  go_wp2_with fail
  go_loopw [13] (fun i wr => ∃ k : Nat, k ≤ l.length ∧ i = .int .i64 k ∧ Hid (∀ i j, i < k → j < i → bsB (stA l i) (stA l j) = true) ∧ Box wr w.heap.size 27 #[.int .u64 d.a, .int .u64 d.b, .int .u64 d.c, .int .u64 d.d] ∧ Below w.heap.size w wr) (fun i _ => l.length - (intOf i).toNat)
  case atStart => exact ⟨0, Nat.zero_le _, rfl, Lib.hid fun i j hi => absurd hi (by omega), db, low⟩
  case round =>
    clear db low
    obtain ⟨k, hk, rfl, hno, db, low⟩ := hrel
    by_cases hlt : k < l.length
    · obtain ⟨bb, o, rfl, hb, hc⟩ := H3.out (by omega)
      have hx : l[k]? = some l[k] := List.getElem?_eq_getElem _
      generalize l[k] = x at hx
      obtain ⟨c0, c1, c2, c3, c4, c5, c6⟩ := cpAt_of hc hb low hx
      have HX := Lib.hid (stA_at hx)
      have HC := Lib.hid hc
      clear hx hc
      have xb := boxNext low 168 x.box
      replace low := gAlloc low (.cells x.box 168)
      replace db := db.alloc (.cells x.box 168)
      try simp only [World.size_alloc] at xb
      simp only [Cp.box] at xb
      have k0 : (0 : Int) ≤ k := by omega
      have k1 : (k : Int) ≤ cp := by omega
      have k2 : (k : Int) < l.length := by omega
      have WH := Lib.hid (Nat.le_refl wr.heap.size)
      go_wp2_with fail
      go_loopw [22] (fun i wx => ∃ q : Nat, q ≤ k ∧ i = .int .i64 q ∧ Hid (∀ j, j < q → bsB x.x.st (stA l j) = true) ∧ Box wx wr.heap.size 168 x.box ∧ Box wx w.heap.size 27 #[.int .u64 d.a, .int .u64 d.b, .int .u64 d.c, .int .u64 d.d] ∧ Below w.heap.size w wx) (fun i _ => k - (intOf i).toNat)
      case atStart => exact ⟨0, Nat.zero_le _, rfl, Lib.hid fun j hj => absurd hj (by omega), xb, db, low⟩
      case round =>
        clear xb db low c0 c1 c2 c3 c4 c5 c6
        obtain ⟨q, hq, rfl, hyes, xb, db, low⟩ := hrel
        simp only [Cp.box] at xb
        by_cases hlt2 : q < k
        · have hy : l[q]? = some (l[q]'(by omega)) := List.getElem?_eq_getElem _
          generalize l[q]'(by omega) = y at hy
          obtain ⟨c0, c1, c2, c3, c4, c5, c6⟩ := cpAt_of HC.out hb low hy
          have HY := Lib.hid (stA_at hy)
          have BS := Lib.hid fun w => beside_any x.x.st y.x.st w
          clear hy
          have q0 : (0 : Int) ≤ q := by omega
          have q1 : (q : Int) < k := by omega
          have yb := boxNext low 168 y.box
          replace low := gAlloc low (.cells y.box 168)
          replace xb := xb.alloc (.cells y.box 168)
          replace db := db.alloc (.cells y.box 168)
          try simp only [World.size_alloc] at yb
          simp only [Cp.box] at yb
          have xb_1 := xb.at_ 1 rfl
          cases hbs : bsB x.x.st y.x.st
          · rw [hbs] at BS
            obtain rfl : 8 = E := by
              have := HE.out
              rwa [if_pos (pairsB_no hlt hlt2 (by rw [HX.out, HY.out]; exact hbs))] at this
            clear hbs
            go_wp2_with fail
            (with_reducible refine (BS.out _).mono ?_); rintro e w2 ⟨rfl, rfl⟩
            go_wp2_with fail
            go_ret
            exact ⟨rfl, low⟩
          · rw [hbs] at BS
            have HB := Lib.hid hbs
            clear hbs
            go_wp2_with fail
            (with_reducible refine (BS.out _).mono ?_); rintro e w2 ⟨rfl, rfl⟩
            go_wp2_with fail
            go_roundw
            case rel => exact ⟨q + 1, by omega, by go_num, Lib.hid fun j hj => by
              by_cases e : j < q
              · exact hyes.out j e
              · obtain rfl : j = q := by omega
                rw [HY.out]
                exact HB.out, xb, db, low⟩
            case measure => simp [intOf]; omega
        · obtain rfl : q = k := by omega
          go_wp2_with fail
          go_roundw
          case rel => exact ⟨q + 1, by omega, by go_num, Lib.hid fun i j hi hj => by
            by_cases e : i < q
            · exact hno.out i j e hj
            · obtain rfl : i = q := by omega
              rw [HX.out]
              exact hyes.out j hj, db, low⟩
          case measure => simp [intOf]; omega
    · have PB := Lib.hid (pairsB_iff.2 (fun i j hi hj => hno.out i j (by omega) hj))
      replace HE := Lib.hid (HE.out.symm.trans (if_neg (by rw [PB.out]; decide))).symm
      clear hno
      go_wp2_with fail
      clear hlt hk
      go_loopw [38] (fun i wr => ∃ k : Nat, k ≤ l.length ∧ i = .int .i64 k ∧ Hid (∀ i, i < k → eq4 (datA l i) (datA l 0) = true) ∧ Box wr w.heap.size 27 #[.int .u64 d.a, .int .u64 d.b, .int .u64 d.c, .int .u64 d.d] ∧ Below w.heap.size w wr) (fun i _ => l.length - (intOf i).toNat)
      case atStart => exact ⟨0, Nat.zero_le _, rfl, Lib.hid fun i hi => absurd hi (by omega), db, low⟩
      case round =>
        clear db low
        obtain ⟨k, hk, rfl, hno, db, low⟩ := hrel
        by_cases hlt : k < l.length
        · obtain ⟨bb, o, rfl, hb, hc⟩ := H3.out (by omega)
          have hx : l[k]? = some l[k] := List.getElem?_eq_getElem _
          generalize l[k] = x at hx
          have hz : l[0]? = some (l[0]'(by omega)) := List.getElem?_eq_getElem _
          generalize l[0]'(by omega) = z at hz
          obtain ⟨c0, c1, c2, c3, c4, c5, c6⟩ := cpAt_of hc hb low hx
          have HX := Lib.hid (show datA l k = x.x.dat from datA_at hx)
          have HZ := Lib.hid (show datA l 0 = z.x.dat from datA_at hz)
          have xb := boxNext low 168 x.box
          replace low := gAlloc low (.cells x.box 168)
          replace db := db.alloc (.cells x.box 168)
          try simp only [World.size_alloc] at xb
          simp only [Cp.box] at xb
          obtain ⟨z0, z1, z2, z3, z4, z5, z6⟩ := cpAt_of hc hb low hz
          simp only [Nat.zero_mul, Nat.add_zero] at z0 z1 z2 z3 z4 z5 z6
          clear hx hc hz z0 z1 z2
          have k2 : (k : Int) < l.length := by omega
          have k3 : (0 : Int) < l.length := by omega
          have eqL := fun w => eqL4 x.x.dat z.x.dat w
          simp only [Wy.dat] at eqL
          have xb_3 := xb.at_ 3 rfl
          have xb_4 := xb.at_ 4 rfl
          have xb_5 := xb.at_ 5 rfl
          have xb_6 := xb.at_ 6 rfl
          have HQ := Lib.hid (show eq4 (datA l k) (datA l 0) = eq4 x.x.dat z.x.dat by rw [HX.out, HZ.out])
          simp only [Wy.dat] at HQ
          generalize eq4 ⟨x.x.a, x.x.b, x.x.c, x.x.d⟩ ⟨z.x.a, z.x.b, z.x.c, z.x.d⟩ = Z at eqL HQ
          cases Z
          · obtain rfl : 3 = E := by
              have := HE.out
              rwa [if_pos (sameD_no hlt HQ.out)] at this
            go_wp2_with fail
            go_quiet (fail)
            go_wp2_with fail
            go_ret
            exact ⟨rfl, gDrewN low _⟩
          · go_wp2_with fail
            go_quiet (fail)
            go_wp2_with fail
            go_roundw
            case rel => exact ⟨k + 1, by omega, by go_num, Lib.hid fun i hi => by
              by_cases e : i < k
              · exact hno.out i e
              · obtain rfl : i = k := by omega
                exact HQ.out, db.drewN _, gDrewN low _⟩
            case measure => simp [intOf]; omega
        · have SB := Lib.hid (sameD_iff.2 (fun i hi => hno.out i (by omega)))
          replace HE := Lib.hid (HE.out.symm.trans (if_neg (by rw [SB.out]; decide))).symm
          clear hno
          go_wp2_with fail
          clear hlt hk
          have cps := H.out.call low
          have OW := Lib.hid fun w hw => ownerOf_any (.slice A l.length cp) l w hw
          have VA := Lib.hid fun w hw => valueOf_any (.slice A l.length cp) l d w hw
          generalize ownN l = O at OW HE
          have eqL := fun w => eqL4 (valL l d) d w
          generalize valL l d = z at VA HE eqL
          have d0 := db.at_ 0 rfl
          have d1 := db.at_ 1 rfl
          have d2 := db.at_ 2 rfl
          have d3 := db.at_ 3 rfl
          refine wp_region_noPanic ?_
          refine wp_region_held_drew (S := fun w' => w'.cell? ⟨w.heap.size, 0, none⟩ = some (.int .u64 d.a) ∧ w'.cell? ⟨w.heap.size, 1, none⟩ = some (.int .u64 d.b) ∧ w'.cell? ⟨w.heap.size, 2, none⟩ = some (.int .u64 d.c) ∧ w'.cell? ⟨w.heap.size, 3, none⟩ = some (.int .u64 d.d)) (by kernel_rfl) ⟨drewC d0, drewC d1, drewC d2, drewC d3⟩ (fun hHeld => ?_)
          clear db d0 d1 d2 d3
          refine takeFirst (i := 0) (v := ?_) rfl (by kernel_rfl) (by kernel_rfl) (by kernel_rfl) (by rfl) (fun _ _ _ h => h) ?_ (by assumption) ?_
          rotate_left
          · (intro w hSw; go_simp; try (with_reducible rfl))
          try simp only [Act.put, List.setIfInBounds_toArray, List.set_cons_zero, List.set_cons_succ]
          refine stepNext (i := 1) (by kernel_rfl) rfl (by rfl) (fun K hK => ?_)
          go_simp
          (with_reducible refine (OW.out _ cps.drew).mono ?_); rintro e w1 ⟨rfl, hb1⟩
          replace cps := cps.drew.call hb1
          replace low := gCall low.drew hb1
          obtain ⟨hh0, hh1, hh2, hh3⟩ := hHeld
          have hHeld := (And.intro (callC hb1 hh0) (And.intro (callC hb1 hh1) (And.intro (callC hb1 hh2) (callC hb1 hh3))))
          clear hh0 hh1 hh2 hh3
          refine hK.out _ _ hHeld ?_
          clear hK K
          try simp only [Act.put]
          try simp only [List.setIfInBounds_toArray, List.set_cons_zero, List.set_cons_succ]
          cases ho : decide (O < 0)
          · obtain rfl : 0 = E := by have := HE.out; rwa [if_neg (by have := of_decide_eq_false ho; omega)] at this
            refine takeFirst (i := 2) (v := ?_) rfl (by kernel_rfl) (by kernel_rfl) (by kernel_rfl) (by rfl) (fun _ _ _ h => h) ?_ (by assumption) ?_
            rotate_left
            · (intro w hSw; go_simp; try (with_reducible rfl))
            try simp only [Act.put, List.setIfInBounds_toArray, List.set_cons_zero, List.set_cons_succ]
            refine takeFirst (i := 3) (v := ?_) rfl (by kernel_rfl) (by kernel_rfl) (by kernel_rfl) (by rfl) (fun _ _ _ h => h) ?_ (by assumption) ?_
            rotate_left
            · (intro w hSw; go_simp; try (with_reducible rfl))
            try simp only [Act.put, List.setIfInBounds_toArray, List.set_cons_zero, List.set_cons_succ]
            refine skipFirst (i := 4) rfl (by kernel_rfl) (by kernel_rfl) (by kernel_rfl) (by rfl) (fun _ _ _ h => h) (by assumption) ?_
            try simp only [Act.put, List.setIfInBounds_toArray, List.set_cons_zero, List.set_cons_succ]
            refine skipFirst (i := 5) rfl (by kernel_rfl) (by kernel_rfl) (by kernel_rfl) (by rfl) (fun _ _ _ h => h) (by assumption) ?_
            try simp only [Act.put, List.setIfInBounds_toArray, List.set_cons_zero, List.set_cons_succ]
            refine skipFirst (i := 6) rfl (by kernel_rfl) (by kernel_rfl) (by kernel_rfl) (by rfl) (fun _ _ _ h => h) (by assumption) ?_
            try simp only [Act.put, List.setIfInBounds_toArray, List.set_cons_zero, List.set_cons_succ]
            refine skipFirst (i := 7) rfl (by kernel_rfl) (by kernel_rfl) (by kernel_rfl) (by rfl) (fun _ _ _ h => h) (by assumption) ?_
            try simp only [Act.put, List.setIfInBounds_toArray, List.set_cons_zero, List.set_cons_succ]
            refine skipFirst (i := 8) rfl (by kernel_rfl) (by kernel_rfl) (by kernel_rfl) (by rfl) (fun _ _ _ h => h) (by assumption) ?_
            try simp only [Act.put, List.setIfInBounds_toArray, List.set_cons_zero, List.set_cons_succ]
            refine takeFirst (i := 9) (v := ?_) rfl (by kernel_rfl) (by kernel_rfl) (by kernel_rfl) (by rfl) (fun _ _ _ h => h) ?_ (by assumption) ?_
            rotate_left
            · (intro w hSw; go_simp; try (with_reducible rfl))
            try simp only [Act.put, List.setIfInBounds_toArray, List.set_cons_zero, List.set_cons_succ]
            refine wpAnyH_done (by kernel_rfl) ?_ _
            refine NoPanic.normal ?_
            go_wp2_with fail
            go_ret
            exact ⟨rfl, low⟩
          · refine takeFirst (i := 2) (v := ?_) rfl (by kernel_rfl) (by kernel_rfl) (by kernel_rfl) (by rfl) (fun _ _ _ h => h) ?_ (by assumption) ?_
            rotate_left
            · (intro w hSw; go_simp; try (with_reducible rfl))
            try simp only [Act.put, List.setIfInBounds_toArray, List.set_cons_zero, List.set_cons_succ]
            refine takeFirst (i := 3) (v := ?_) rfl (by kernel_rfl) (by kernel_rfl) (by kernel_rfl) (by rfl) (fun _ _ _ h => h) ?_ (by assumption) ?_
            rotate_left
            · (intro w hSw; go_simp; try (with_reducible rfl))
            try simp only [Act.put, List.setIfInBounds_toArray, List.set_cons_zero, List.set_cons_succ]
            refine takeFirst (i := 4) (v := ?_) rfl (by kernel_rfl) (by kernel_rfl) (by kernel_rfl) (by rfl) (fun _ _ _ h => h) ?_ (by assumption) ?_
            rotate_left
            · (intro w hSw; go_simp; try (with_reducible rfl))
            try simp only [Act.put, List.setIfInBounds_toArray, List.set_cons_zero, List.set_cons_succ]
            refine takeFirst (i := 5) (v := ?_) rfl (by kernel_rfl) (by kernel_rfl) (by kernel_rfl) (by rfl) (fun _ _ _ h => h) ?_ (by assumption) ?_
            rotate_left
            · (intro w hSw; go_simp; try (with_reducible rfl))
            try simp only [Act.put, List.setIfInBounds_toArray, List.set_cons_zero, List.set_cons_succ]
            refine takeFirst (i := 7) (v := ?_) rfl (by kernel_rfl) (by kernel_rfl) (by kernel_rfl) (by rfl) (fun _ _ _ h => h) ?_ (by assumption) ?_
            rotate_left
            · (intro w hSw; go_simp; try (with_reducible rfl))
            try simp only [Act.put, List.setIfInBounds_toArray, List.set_cons_zero, List.set_cons_succ]
            refine stepNext (i := 6) (by kernel_rfl) rfl (by rfl) (fun K hK => ?_)
            go_simp
            (with_reducible refine (VA.out _ cps).mono ?_); rintro e w2 ⟨rfl, hb2⟩
            replace low := gCall low hb2
            obtain ⟨hh0, hh1, hh2, hh3⟩ := hHeld
            have hHeld := (And.intro (callC hb2 hh0) (And.intro (callC hb2 hh1) (And.intro (callC hb2 hh2) (callC hb2 hh3))))
            clear hh0 hh1 hh2 hh3
            refine hK.out _ _ hHeld ?_
            clear hK K
            try simp only [Act.put]
            try simp only [List.setIfInBounds_toArray, List.set_cons_zero, List.set_cons_succ]
            cases hz : eq4 z d
            · obtain rfl : 3 = E := by have := HE.out; rwa [if_pos ⟨of_decide_eq_true ho, hz⟩] at this
              simp only [hz] at eqL
              refine takeFirst (i := 8) (v := ?_) rfl (by kernel_rfl) (by kernel_rfl) (by kernel_rfl) (by rfl) (fun _ _ _ h => h) ?_ (by assumption) ?_
              rotate_left
              · (intro w hSw; go_simp; try (with_reducible rfl))
              try simp only [Act.put, List.setIfInBounds_toArray, List.set_cons_zero, List.set_cons_succ]
              refine takeFirst (i := 9) (v := ?_) rfl (by kernel_rfl) (by kernel_rfl) (by kernel_rfl) (by rfl) (fun _ _ _ h => h) ?_ (by assumption) ?_
              rotate_left
              · (intro w hSw; go_simp; try (with_reducible rfl))
              try simp only [Act.put, List.setIfInBounds_toArray, List.set_cons_zero, List.set_cons_succ]
              refine wpAnyH_done (by kernel_rfl) ?_ _
              refine NoPanic.normal ?_
              go_wp2_with fail
              go_ret
              exact ⟨rfl, low⟩
            · obtain rfl : 0 = E := by have := HE.out; rwa [if_neg (by rw [hz]; simp)] at this
              simp only [hz] at eqL
              refine takeFirst (i := 8) (v := ?_) rfl (by kernel_rfl) (by kernel_rfl) (by kernel_rfl) (by rfl) (fun _ _ _ h => h) ?_ (by assumption) ?_
              rotate_left
              · (intro w hSw; go_simp; try (with_reducible rfl))
              try simp only [Act.put, List.setIfInBounds_toArray, List.set_cons_zero, List.set_cons_succ]
              refine takeFirst (i := 9) (v := ?_) rfl (by kernel_rfl) (by kernel_rfl) (by kernel_rfl) (by rfl) (fun _ _ _ h => h) ?_ (by assumption) ?_
              rotate_left
              · (intro w hSw; go_simp; try (with_reducible rfl))
              try simp only [Act.put, List.setIfInBounds_toArray, List.set_cons_zero, List.set_cons_succ]
              refine wpAnyH_done (by kernel_rfl) ?_ _
              refine NoPanic.normal ?_
              go_wp2_with fail
              go_ret
              exact ⟨rfl, low⟩
end Go.Proofs.YtgdacpcifnpojaaGreat

/- Worlds: Proved: words for slices of caches and for worlds; what Form of package agree returns, for every world that can be read; it changes nothing that was there. No condition. -/
namespace Go.Proofs.YtgdacpcifnpojaaGreat
open Go.ChangeShapes Go.WideShapes Go.ChangeAt Go.RowKit Go.Joins

/-- The cells of a world: its slice of caches, then the words of its memory. -/
def wldA (v : Value) (m : List Int) : Array Value := (v :: m.map (Value.int .u64)).toArray
abbrev wldV (v : Value) (m : List Int) : Value := .agg (wldA v m)
theorem wldA_size (v : Value) (m : List Int) : (wldA v m).size = m.length + 1 := by simp [wldA]
theorem wldA_zero (v : Value) (m : List Int) : (wldA v m)[0]? = some v := by simp [wldA]
theorem wldA_one {A : Option Addr} {n c : Nat} (m : List Int) : (wldA (.slice A n c) m).all (·.oneCell') = true := all_oneCell_toArray fun v hv => by
  rcases List.mem_cons.1 hv with rfl | hv
  · rfl
  · obtain ⟨x, _, rfl⟩ := List.mem_map.1 hv
    rfl
theorem tyWorld : Ty 31 (wldA (.slice none 0 0) zeroL) := ⟨by kernel_rfl, ⟨_, Tryz.underlying31, rfl⟩, fun w => by kernel_rfl⟩
theorem tyMem : Ty 29 (memA zeroL) := ⟨by kernel_rfl, ⟨_, Tryz.underlying29, rfl⟩, fun w => by kernel_rfl⟩
/-- Its memory's cells lie behind the first. -/
theorem wld_mem {w : World} {g : Nat} {t : TypeId} {v : Value} {m : List Int} (h : Box w g t (wldA v m)) : w.rangeAt g 1 (memA m).toList := fun j u hu => by
  rw [h.cell, wldA, List.getElem?_toArray, Nat.add_comm, List.getElem?_cons_succ, ← hu, memA_list]
theorem zero_size : (wldA (.slice none 0 0) zeroL).size = 65 := by rw [wldA_size, zeroL_length]
theorem wld_size {v : Value} {m : List Int} (h : m.length = 64) : (wldA v m).size = (wldA (.slice none 0 0) zeroL).size := by rw [wldA_size, wldA_size, zeroL_length, h]
theorem mem_zsize {m : List Int} (h : m.length = 64) : (memA m).size = (memA zeroL).size := by rw [memA_size, memA_size, zeroL_length, h]

/-- The slice holds the caches. -/
structure Ks (w : World) (v : Value) (css : List (List St)) : Prop where
  ex : ∃ A c, v = .slice A css.length c ∧ css.length ≤ c ∧ c ≤ maxLen ∧ (0 < css.length → ∃ b o, A = some ⟨b, o, none⟩ ∧ b < w.heap.size ∧ ∀ (k : Nat) ss, css[k]? = some ss → ∃ A' c', w.cell? ⟨b, o + k, none⟩ = some (.slice A' ss.length c') ∧ Cs w (.slice A' ss.length c') ss)
theorem Ks.call {w w' : World} {v : Value} {css : List (List St)} (h : Ks w v css) (hb : Below w.heap.size w w') : Ks w' v css := by
  obtain ⟨A, c, e, h1, h2, h3⟩ := h
  refine ⟨A, c, e, h1, h2, fun h0 => ?_⟩
  obtain ⟨b, o, eA, hlt, hl⟩ := h3 h0
  refine ⟨b, o, eA, Nat.lt_of_lt_of_le hlt hb.size, fun k ss hk => ?_⟩
  obtain ⟨A', c', k1, k2⟩ := hl k ss hk
  exact ⟨A', c', (hb.cell (p := ⟨b, o + k, none⟩) hlt).trans k1, k2.call hb⟩
theorem Ks.alloc {w : World} {v : Value} {css : List (List St)} (h : Ks w v css) (o : Obj) : Ks (w.alloc o) v css := h.call (gAlloc (Below.refl _ _) o)
theorem Ks.drew {w : World} {v : Value} {css : List (List St)} (h : Ks w v css) : Ks w.drew v css := h.call (Below.refl _ _).drew

/-- The first error of the caches, of the structure of a world. -/
def cachesE (n s y b : Int) : List (List St) → Int
  | [] => 0
  | ss :: r => if cacheE n s y b ss ≠ 0 then cacheE n s y b ss else cachesE n s y b r
def formE (n s y b : Int) (css : List (List St)) : Int := if cfgB n s y b = false then 4 else if (css.length : Int) ≠ n then 3 else cachesE n s y b css
theorem cachesE_at {n s y b : Int} {css : List (List St)} {k : Nat} {ss : List St} (h : css[k]? = some ss) : cachesE n s y b (css.drop k) =
    if cacheE n s y b ss ≠ 0 then cacheE n s y b ss else cachesE n s y b (css.drop (k + 1)) := by
  obtain ⟨hk, rfl⟩ := List.getElem?_eq_some_iff.1 h
  rw [List.drop_eq_getElem_cons hk, cachesE]

set_option maxHeartbeats 1000000 in
theorem form_any (n s y b : Int) (v : Value) (m : List Int) (css : List (List St)) (w : World) (h : Ks w v css) :
    Calls Tryz.prog 90 #[cfg n s y b, wldV v m] w fun e w' => e = .returned (.int .i64 (formE n s y b css)) ∧ Below w.heap.size w w' := by
  have H := Lib.hid h
  obtain ⟨A, cp, rfl, h1, h2, h3⟩ := h
  have H3 := Lib.hid h3
  unfold maxLen at h2
  clear h3
  generalize hE : formE n s y b css = E
  unfold formE at hE
  have HE := Lib.hid hE
  clear hE
  have low := Below.refl w.heap.size w
  have cb := boxNext low 23 (cfgA n s y b)
  replace low := gAlloc low (.cells (cfgA n s y b) 23)
  try simp only [World.size_alloc] at cb
  have wb := boxNext low 31 (wldA (.slice A css.length cp) m)
  replace low := gAlloc low (.cells (wldA (.slice A css.length cp) m) 31)
  replace cb := cb.alloc (.cells (wldA (.slice A css.length cp) m) 31)
  try simp only [World.size_alloc] at wb
  cases hcf : cfgB n s y b
  · obtain rfl : 4 = E := by have := HE.out; rwa [if_pos hcf] at this
    have HC := Lib.hid hcf
    clear hcf
    go_enter Tryz.func90, Tryz.ntmps90
    go_wp2_with fail
    (with_reducible refine (check_bad _ _ _ _ _ HC.out).mono ?_); rintro e w1 ⟨rfl, hb⟩
    replace cb := cb.call hb
    replace low := gCall low hb
    clear hb
    go_wp2_with fail
    go_ret
    exact ⟨rfl, low⟩
  replace HE := Lib.hid (HE.out.symm.trans (if_neg (by simp [hcf]))).symm
  have HC := Lib.hid hcf
  clear hcf
  cases hn : ((css.length : Int) != n)
  rotate_left
  · obtain rfl : 3 = E := by have := HE.out; rwa [if_pos (by simpa using hn)] at this
    go_enter Tryz.func90, Tryz.ntmps90
    go_wp2_with fail
    (with_reducible refine (check_ok _ _ _ _ _ HC.out).mono ?_); rintro e w1 ⟨rfl, hb⟩
    replace cb := cb.call hb
    replace wb := wb.call hb
    replace low := gCall low hb
    clear hb
    have cb_0 := cb.at_ 0 rfl
    have cb_1 := cb.at_ 1 rfl
    have cb_2 := cb.at_ 2 rfl
    have cb_3 := cb.at_ 3 rfl
    have wb0 := wb.at_ 0 (wldA_zero _ _)
    go_wp2_with fail
    go_ret
    exact ⟨rfl, low⟩
  replace HE := Lib.hid (HE.out.symm.trans (if_neg (by simpa using hn))).symm
  go_enter Tryz.func90, Tryz.ntmps90
  go_wp2_with fail
  (with_reducible refine (check_ok _ _ _ _ _ HC.out).mono ?_); rintro e w1 ⟨rfl, hb⟩
  replace cb := cb.call hb
  replace wb := wb.call hb
  replace low := gCall low hb
  clear hb
  have cb_0 := cb.at_ 0 rfl
  have cb_1 := cb.at_ 1 rfl
  have cb_2 := cb.at_ 2 rfl
  have cb_3 := cb.at_ 3 rfl
  have wb0 := wb.at_ 0 (wldA_zero _ _)
  go_wp2_with fail
  go_loopw [23] (fun j wr => ∃ k : Nat, k ≤ css.length ∧ j = .int .i64 k ∧ Hid (cachesE n s y b (css.drop k) = E) ∧ Box wr w.heap.size 23 (cfgA n s y b) ∧ Below w.heap.size w wr) (fun j _ => css.length - (intOf j).toNat)
  case atStart => exact ⟨0, Nat.zero_le _, rfl, Lib.hid (by rw [List.drop_zero]; exact HE.out), cb, low⟩
  case round =>
    clear cb_0 cb_1 cb_2 cb_3
    clear cb wb low wb0
    obtain ⟨k, hk, rfl, hno, cb, low⟩ := hrel
    simp only [cfgA] at cb
    by_cases hlt : k < css.length
    · obtain ⟨bb, o, rfl, hb, hc⟩ := H3.out (by omega)
      have hx : css[k]? = some css[k] := List.getElem?_eq_getElem _
      generalize css[k] = ss at hx
      obtain ⟨A', c', ce, cs⟩ := hc k ss hx
      replace ce := (low.cell (p := ⟨bb, o + k, none⟩) hb).trans ce
      replace cs := cs.call low
      have hs := hno.out
      rw [cachesE_at hx] at hs
      have HS := Lib.hid hs
      have CW := Lib.hid fun w hw => cacheCheck_any n s y b (.slice A' ss.length c') ss w hw
      clear hx hc hs
      generalize cacheE n s y b ss = f at CW HS
      have cb_0 := cb.at_ 0 rfl
      have cb_1 := cb.at_ 1 rfl
      have cb_2 := cb.at_ 2 rfl
      have cb_3 := cb.at_ 3 rfl
      go_wp2_with fail
      (with_reducible refine (CW.out _ cs).mono ?_); rintro e w2 ⟨rfl, hb2⟩
      clear cb_0 cb_1 cb_2 cb_3
      replace cb := cb.call hb2
      replace low := gCall low hb2
      clear hb2 ce cs
      cases hf : (f != 0)
      rotate_left
      · obtain rfl : f = E := by have := HS.out; rwa [if_pos (by simpa using hf)] at this
        go_wp2_with fail
        go_ret
        exact ⟨rfl, low⟩
      obtain rfl : f = 0 := by simpa using hf
      replace HS := Lib.hid (HS.out.symm.trans (if_neg (by simp)))
      clear hf
      go_wp2_with fail
      go_roundw
      case rel => exact ⟨k + 1, by omega, by go_num, Lib.hid HS.out.symm, cb, low⟩
      case measure => simp [intOf]; omega
    · obtain rfl : k = css.length := by omega
      obtain rfl : 0 = E := by have := hno.out; rwa [List.drop_length] at this
      go_wp2_with fail
      go_ret
      exact ⟨rfl, low⟩
end Go.Proofs.YtgdacpcifnpojaaGreat

/- Owned: Proved: rows and ints that a call owns, from world to world, beside blocks of another type. No condition. -/
namespace Go.Proofs.YtgdacpcifnpojaaGreat
open Go.ChangeShapes Go.WideShapes Go.ChangeAt Go.RowKit Go.Joins

/-! A row that a call owns, and other blocks. -/
theorem own_ne {w : World} {base size n g : Nat} {e t : TypeId} {v : Value} {xs : List Value} {cs : Array Value} (h : w.ownsRow base e size v n xs) (b : Box w g t cs) (ht : t ≠ e) : some g ≠ v.ownBlock := by
  rcases h.2 with ⟨rfl, _⟩ | ⟨g', cap, cur, rfl, _, hh, _⟩
  · simp [Value.ownBlock]
  · simp only [Value.ownBlock]
    intro e'
    cases e'
    unfold Box at b
    rw [hh] at b
    simp only [Option.some.injEq, Obj.cells.injEq] at b
    exact ht b.2.1.symm
theorem own_stored {w w' : World} {base size n g : Nat} {e : TypeId} {v : Value} {xs : List Value} (h : w.ownsRow base e size v n xs) (st : Stored w g w') (hne : some g ≠ v.ownBlock) : w'.ownsRow base e size v n xs := by
  refine ⟨h.1, ?_⟩
  rcases h.2 with hn | ⟨g', cap, cur, rfl, hb, hgg, rest⟩
  · exact .inl hn
  · exact .inr ⟨g', cap, cur, rfl, hb, (st.heap (fun e => hne (by simp [Value.ownBlock, e]))).trans hgg, rest⟩

section
variable {w w' : World} {g : Nat} {v : Value} {l : List Int}
theorem OwnI.call (h : OwnI w g v l) (hb : Below w.heap.size w w') : OwnI w' g v l := by
  obtain ⟨cap, cur, rfl, h1, h2⟩ := h
  exact ⟨cap, cur, rfl, h1.call hb, h2⟩
theorem OwnI.alloc (h : OwnI w g v l) (o : Obj) : OwnI (w.alloc o) g v l := h.call (gAlloc (Below.refl _ _) o)
theorem OwnI.sl (h : OwnI w g v l) : Sl w w.heap.size 1 v l.length (l.map (Value.int .i64)) := Sl.ofOwn (h.row (Nat.le_refl g))
theorem OwnI.ne {base size n : Nat} {e : TypeId} {u : Value} {xs : List Value} (h : OwnI w g v l) (row : w.ownsRow base e size u n xs) (ht : 3 ≠ e) : some g ≠ u.ownBlock := by
  obtain ⟨_, _, _, hb, _⟩ := h
  exact own_ne row hb ht
theorem OwnI.grown {row : Option Nat} (h : OwnI w g v l) (hb : w.grownBy w' row) (hg : some g ≠ row) : OwnI w' g v l := by
  obtain ⟨cap, cur, rfl, h1, h2⟩ := h
  exact ⟨cap, cur, rfl, h1.grown hb hg, h2⟩
theorem OwnI.far (h : OwnI w g v l) {p : Addr} (hp : g ≠ p.block) (u : Value) : OwnI (w.setCell p u) g v l := by
  obtain ⟨cap, cur, rfl, h1, h2⟩ := h
  exact ⟨cap, cur, rfl, h1.far hp u, h2⟩
/-- A store into the ints leaves a row of another type. -/
theorem OwnI.row_far {base size n : Nat} {e : TypeId} {u : Value} {xs : List Value} (h : OwnI w g v l) (row : w.ownsRow base e size u n xs) (ht : 3 ≠ e) (k : Nat) (y : Value) : (w.setCell ⟨g, k, none⟩ y).ownsRow base e size u n xs :=
  own_stored row (Stored.cell1 w ⟨g, k, none⟩ y) (h.ne row ht)
end

theorem info_int1 : (Tryz.prog.info? 3).map (fun i => (i.zero, i.size, i.bytes)) = some (some (.int .i64 0), 1, 8) := by kernel_rfl
/-- A few ints, each 0. -/
theorem make_ints (n : Nat) (hn : n ≤ 200) (w : World) : ∃ w', (Instr.makeSlice 35 (.int .i64 n) (.int .i64 n)).run Tryz.prog w = .ok (.slice (some ⟨w.heap.size, 0, none⟩) n n) w' ∧ OwnI w' w.heap.size (.slice (some ⟨w.heap.size, 0, none⟩) n n) (List.replicate n 0) ∧ Below w.heap.size w w' := by
  obtain ⟨i0, hi, hz0, hz1, hz2⟩ := info_parts info_int1
  have := run_make w 35 3 i0 (.int .i64 0) Tryz.underlying35 hi hz0 .i64 .i64 n n (by omega) (Int.le_refl _) (by rw [hz2]; omega) (by omega)
  simp only [Int.toNat_natCast] at this
  refine ⟨_, this, ⟨n, _, by rw [List.length_replicate], Box.new w _ _, by rw [List.length_replicate]; exact Nat.le_refl _, by unfold maxLen; omega, by rw [size_madeCells, hz1], fun q y hq => ?_⟩, gAlloc (Below.refl _ _) _⟩
  have hlt : q < n := by have := (List.getElem?_eq_some_iff.1 hq).1; simpa using this
  rw [List.getElem?_replicate, if_pos hlt] at hq
  cases hq
  rw [Array.getElem?_eq_getElem (by rw [size_madeCells, hz1]; omega)]
  simp [madeCells, Value.cells, Nat.mod_one]
end Go.Proofs.YtgdacpcifnpojaaGreat

/- Agree: Proved: words for the copies of all lines; what collect of package agree returns, for every world that can be read; it changes nothing that was there. No condition. -/
namespace Go.Proofs.YtgdacpcifnpojaaGreat
open Go.ChangeShapes Go.WideShapes Go.ChangeAt Go.RowKit Go.Joins

/-- The lines that a node has; those of the first nodes; the copies of one line among them. -/
def cpsOf (i : Nat) (ss : List St) : List Cp := (allW ss).map fun x => ⟨i, x⟩
def copN (css : List (List St)) : Nat → List Cp
  | 0 => []
  | k + 1 => copN css k ++ cpsOf k (css.getD k [])
def onL (k : Nat) (P : List Cp) : List Cp := P.filter fun c => c.x.ln == (k : Int)

theorem copN_succ {css : List (List St)} {k : Nat} {ss : List St} (h : css[k]? = some ss) : copN css (k + 1) = copN css k ++ cpsOf k ss := by
  simp [copN, List.getD, h]
theorem onL_ln {k : Nat} {P : List Cp} {c : Cp} (h : c ∈ onL k P) : c.x.ln = k := by
  simpa using (List.mem_filter.1 h).2
theorem onL_same {k : Nat} (P : List Cp) {c : Cp} (h : c.x.ln = (k : Int)) : onL k (P ++ [c]) = onL k P ++ [c] := by
  simp [onL, List.filter_append, h]
theorem onL_other {k : Nat} (P : List Cp) {c : Cp} (h : c.x.ln ≠ (k : Int)) : onL k (P ++ [c]) = onL k P := by
  simp [onL, List.filter_append, h]
theorem onL_length (k : Nat) (P : List Cp) : (onL k P).length ≤ P.length := List.length_filter_le _ _

theorem allW_length {ss : List St} (h : ∀ t ∈ ss, t.l.length ≤ 4) : (allW ss).length ≤ ss.length * 4 := by
  induction ss with
  | nil => simp [allW]
  | cons t r ih =>
    have h1 := h t (by simp)
    have h2 := ih (fun u hu => h u (by simp [hu]))
    have h3 : (t.l.filter heldB).length ≤ t.l.length := List.length_filter_le _ _
    simp only [allW, List.flatMap_cons, List.length_append, List.length_cons] at *
    omega
theorem allW_16 {n s y b : Int} {ss : List St} (h : cacheE n s y b ss = 0) : (allW ss).length ≤ 16 := by
  obtain ⟨h1, h2⟩ := (goodC_iff.1 h).small
  have := allW_length (ss := ss) (fun t ht => by
    obtain ⟨k, hk, e⟩ := List.getElem_of_mem ht
    exact (h2 k t (by rw [List.getElem?_eq_getElem hk, e])).2)
  omega
theorem allW_line {n s y b : Int} {ss : List St} (h : cacheE n s y b ss = 0) {x : Wy} (hx : x ∈ allW ss) : 0 ≤ x.ln ∧ x.ln ≤ 15 := by
  obtain ⟨t, ht, hm⟩ := List.mem_flatMap.1 hx
  obtain ⟨k, hk, e⟩ := List.getElem_of_mem ht
  obtain ⟨j, hj, e'⟩ := List.getElem_of_mem (List.mem_filter.1 hm).1
  exact rowE_line ((goodC_iff.1 h).2.2 k t (by rw [List.getElem?_eq_getElem hk, e])).1 (k := j) (by rw [List.getElem?_eq_getElem hj, e'])

/-- No copies at all. -/
def nil16 : Array Value := (List.replicate 16 (.slice none 0 0)).toArray
theorem nil16_size : nil16.size = 16 := by simp [nil16]
theorem tyCopies : Ty 116 nil16 := ⟨by kernel_rfl, ⟨_, Tryz.underlying116, rfl⟩, fun w => by kernel_rfl⟩

theorem Own.grown {w w' : World} {g : Nat} {v : Value} {l : List Wy} {row : Option Nat} (h : Own w g v l) (hg : w.grownBy w' row) (hne : some g ≠ row) : Own w' g v l := by
  obtain ⟨cap, cur, rfl, hb, r⟩ := h
  exact ⟨cap, cur, rfl, hb.grown hg hne, r⟩
theorem Fr.grown {w w' : World} {B C base size n : Nat} {v u : Value} {l : List Wy} {e : TypeId} {xs : List Value} (h : Fr w B C v l) (own : w.ownsRow base e size u n xs) (he : 80 ≠ e) (hg : w.grownBy w' u.ownBlock) : Fr w' B C v l := by
  rcases h with h | ⟨g, h1, h2, h3⟩
  · exact .inl h
  · refine .inr ⟨g, h1, h2, h3.grown hg ?_⟩
    obtain ⟨cap, cur, _, hb, _⟩ := h3
    exact own_ne own hb he
theorem Fr.stored {w w' : World} {B C g : Nat} {v : Value} {l : List Wy} {t : TypeId} {cs : Array Value} (h : Fr w B C v l) (b : Box w g t cs) (ht : 80 ≠ t) (st : Stored w g w') : Fr w' B C v l := by
  rcases h with h | ⟨g', h1, h2, cap, cur, e, hb, r⟩
  · exact .inl h
  · refine .inr ⟨g', h1, h2, cap, cur, e, st.box hb ?_, r⟩
    intro e'
    subst e'
    unfold Box at b hb
    rw [hb] at b
    simp only [Option.some.injEq, Obj.cells.injEq] at b
    exact ht b.2.1

/-- The slices of copies, line by line. -/
structure Held (w : World) (base : Nat) (us : List Value) (P : List Cp) : Prop where
  len : us.length = 16
  own : ∀ (k : Nat) u, us[k]? = some u → w.ownsRow base 168 7 u (onL k P).length (cpsC (onL k P)) ∧ (u = .slice none 0 0 ∨ onL k P ≠ [])

theorem Held.start (w : World) (base : Nat) : Held w base (List.replicate 16 (.slice none 0 0)) [] := by
  refine ⟨by simp, fun k u hu => ?_⟩
  have : u = .slice none 0 0 := List.eq_of_mem_replicate (List.mem_of_getElem? hu)
  subst this
  exact ⟨World.ownsRow_nil _ _ _ _, .inl rfl⟩
theorem Held.call {w w' : World} {base : Nat} {us : List Value} {P : List Cp} (h : Held w base us P) (hb : Below w.heap.size w w') : Held w' base us P :=
  ⟨h.len, fun k u hu => ⟨own_below (h.own k u hu).1 hb, (h.own k u hu).2⟩⟩
theorem Held.alloc {w : World} {base : Nat} {us : List Value} {P : List Cp} (h : Held w base us P) (o : Obj) : Held (w.alloc o) base us P := h.call (gAlloc (Below.refl _ _) o)
theorem Held.drew {w : World} {base : Nat} {us : List Value} {P : List Cp} (h : Held w base us P) : Held w.drew base us P := h.call (Below.refl _ _).drew
theorem Held.stored {w w' : World} {base g : Nat} {us : List Value} {P : List Cp} {t : TypeId} {cs : Array Value} (h : Held w base us P) (b : Box w g t cs) (ht : t ≠ 168) (st : Stored w g w') : Held w' base us P :=
  ⟨h.len, fun k u hu => ⟨own_stored (h.own k u hu).1 st (own_ne (h.own k u hu).1 b ht), (h.own k u hu).2⟩⟩

/-- The line of the first copy that a slice holds. -/
theorem Held.first {w : World} {base : Nat} {us : List Value} {P : List Cp} (h : Held w base us P) {k g : Nat} {u : Value} (hu : us[k]? = some u) (hg : u.ownBlock = some g) : w.cell? ⟨g, 2, none⟩ = some (.int .i64 k) := by
  obtain ⟨h1, h2⟩ := h.own k u hu
  rcases h2 with rfl | h2
  · simp [Value.ownBlock] at hg
  · have e : (⟨g, 0, none⟩ : Addr).add 2 = ⟨g, 2, none⟩ := by simp [Addr.add]
    rw [← e]
    refine h1.cells hg 2 _ ?_
    cases hl : onL k P with
    | nil => exact absurd hl h2
    | cons c r =>
      have hc : c.x.ln = k := onL_ln (P := P) (by rw [hl]; simp)
      have := cpsC_at (l := c :: r) (k := 0) (x := c) rfl 2 (by omega)
      simp only [Nat.zero_mul, Nat.zero_add] at this
      rw [this]
      simp [Cp.cells, hc]

/-- One copy more. -/
theorem Held.push {w w' : World} {base : Nat} {us : List Value} {P : List Cp} (h : Held w base us P) {k : Nat} {u v' : Value} (hu : us[k]? = some u) {c : Cp} (hc : c.x.ln = (k : Int))
    (own : w'.ownsRow base 168 7 v' ((onL k P).length + 1) (cpsC (onL k P) ++ c.cells)) (grow : w.grownBy w' u.ownBlock) : Held w' base (us.set k v') (P ++ [c]) := by
  have hk := (List.getElem?_eq_some_iff.1 hu).1
  refine ⟨by rw [List.length_set]; exact h.len, fun j z hz => ?_⟩
  by_cases e : j = k
  · subst e
    rw [List.getElem?_set_self hk] at hz
    cases hz
    rw [onL_same P hc, cpsC_snoc, List.length_append]
    exact ⟨own, .inr (by simp)⟩
  · rw [List.getElem?_set_ne (fun h => e h.symm)] at hz
    rw [onL_other P (by rw [hc]; omega)]
    refine ⟨(h.own j z hz).1.kept grow ?_, (h.own j z hz).2⟩
    cases hzb : z.ownBlock with
    | none => exact .inl rfl
    | some g =>
      refine .inr fun e' => ?_
      have a1 := h.first hz hzb
      have a2 := h.first hu e'.symm
      rw [a1] at a2
      simp at a2
      omega

/-- What a caller may read. -/
theorem Held.cps {w : World} {base : Nat} {us : List Value} {P : List Cp} (h : Held w base us P) {k : Nat} {u : Value} (hu : us[k]? = some u) : Cps w u (onL k P) := ⟨Sl.ofOwn (h.own k u hu).1⟩
end Go.Proofs.YtgdacpcifnpojaaGreat
