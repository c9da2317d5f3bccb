/-
Proved: what Find, Put, Take and Set of package row return, for every set that can be read; none of them changes anything that was there. No condition.
-/
import Derived.Test.YtmodajmjmdigfaaRow2
import Derived.Test.YtmodajmjmdigfaaRegion
namespace Go.Proofs.Ytmodajmjmdigfaa
open Go.ChangeShapes Go.WideShapes Go.ChangeAt Go.RowKit Go.Joins

theorem rowE_ok {l : List Wy} {a b c : Bool} {n : Int} (h : rowE l a b c n = 0) : treeE a b c n = 0 ∧ (l.length : Int) = n ∧ waysE [] l = 0 := by
  unfold rowE at h
  by_cases h1 : treeE a b c n ≠ 0
  · rw [if_pos h1] at h; exact absurd h h1
  · rw [if_neg h1] at h
    by_cases h2 : (l.length : Int) ≠ n
    · rw [if_pos h2] at h; omega
    · rw [if_neg h2] at h
      exact ⟨by omega, by omega, h⟩

theorem victim_in {a b c : Bool} {n : Int} (h : treeE a b c n = 0) : 0 ≤ victimN a b c n ∧ victimN a b c n < n := by
  obtain ⟨hn1, hn4⟩ := treeE_range h
  have hn : n = 1 ∨ n = 2 ∨ n = 3 ∨ n = 4 := by omega
  rcases hn with rfl | rfl | rfl | rfl <;> (revert h; cases a <;> cases b <;> cases c <;> decide)

/-- The place for a new line is there. -/
theorem room_in {l : List Wy} {a b c : Bool} {n : Int} (h : rowE l a b c n = 0) : ∃ (k : Nat) (y : Wy), roomN l a b c n = k ∧ l[k]? = some y := by
  obtain ⟨h1, h2, _⟩ := rowE_ok h
  obtain ⟨v1, v2⟩ := victim_in h1
  unfold roomN
  rcases idxP_cases empW l with ⟨e, _⟩ | ⟨k, x, e, hk, _⟩
  · rw [e, if_pos (by decide)]
    have hlt : (victimN a b c n).toNat < l.length := by omega
    exact ⟨(victimN a b c n).toNat, l[(victimN a b c n).toNat], by omega, List.getElem?_eq_getElem hlt⟩
  · rw [e, if_neg (by omega)]
    exact ⟨k, x, rfl, hk⟩

theorem rowFind_bad (v : Value) (l : List Wy) (a b c : Bool) (n m : Int) (w : World) (h : Ws w v l) (he : rowE l a b c n ≠ 0) :
    Calls Try.prog 10 #[rowV v a b c, .int .i64 n, .int .i64 m] w fun e w' => e = .returned (.tuple #[.int .i64 0, .int .i64 (rowE l a b c n)]) ∧ Below w.heap.size w w' := by
  have low := Below.refl w.heap.size w
  have rb := boxNext low 26 (rowA v a b c)
  replace low := gAlloc low (.cells (rowA v a b c) 26)
  replace h := h.alloc (.cells (rowA v a b c) 26)
  try simp only [World.size_alloc] at rb
  simp only [rowA] at rb
  have R := Lib.hid fun w' hw => rowCheck_any v l a b c n w' hw
  generalize rowE l a b c n = E at R he ⊢
  have he' : (E != 0) = true := by simpa using he
  clear he
  go_enter Try.func10, Try.ntmps10
  go_wp2_with fail
  (with_reducible refine (R.out _ h).mono ?_); rintro e w1 ⟨rfl, hb⟩
  replace rb := rb.call hb
  replace low := gCall low hb
  clear hb
  go_wp2_with fail
  go_ret2
  exact ⟨rfl, low⟩

theorem rowFind_ok (v : Value) (l : List Wy) (a b c : Bool) (n m : Int) (w : World) (h : Ws w v l) (he : rowE l a b c n = 0) :
    Calls Try.prog 10 #[rowV v a b c, .int .i64 n, .int .i64 m] w fun e w' => e = .returned (.tuple #[.int .i64 (idxP (hasW m) l), .int .i64 0]) ∧ Below w.heap.size w w' := by
  have low := Below.refl w.heap.size w
  have rb := boxNext low 26 (rowA v a b c)
  replace low := gAlloc low (.cells (rowA v a b c) 26)
  replace h := h.alloc (.cells (rowA v a b c) 26)
  try simp only [World.size_alloc] at rb
  simp only [rowA] at rb
  have R := Lib.hid fun w' hw => rowCheck_any v l a b c n w' hw
  rw [he] at R
  clear he
  go_enter Try.func10, Try.ntmps10
  go_wp2_with fail
  (with_reducible refine (R.out _ h).mono ?_); rintro e w1 ⟨rfl, hb⟩
  replace rb := rb.call hb
  replace h := h.call hb
  replace low := gCall low hb
  clear hb
  have rb_0 := rb.at_ 0 rfl
  go_wp2_with fail
  (with_reducible refine (find_any _ l _ _ h).mono ?_); rintro e w2 ⟨rfl, hb⟩
  replace rb := rb.call hb
  replace low := gCall low hb
  clear hb rb_0
  go_wp2_with fail
  go_ret2
  exact ⟨rfl, low⟩

/-- The errors of Put, Take, Set. -/
def putE (l : List Wy) (a b c : Bool) (n : Int) (x : Wy) : Int := if rowE l a b c n ≠ 0 then rowE l a b c n else if hlB x = false then 4 else if 0 ≤ idxP (hasW x.ln) l then 6 else 0
def takeE (l : List Wy) (a b c : Bool) (n m : Int) : Int := if rowE l a b c n ≠ 0 then rowE l a b c n else if idxP (hasW m) l < 0 then 5 else 0
def setE (l : List Wy) (a b c : Bool) (n : Int) (x : Wy) : Int := if rowE l a b c n ≠ 0 then rowE l a b c n else if hlB x = false then 4 else if idxP (hasW x.ln) l < 0 then 5 else 0

theorem putE_ok {l : List Wy} {a b c : Bool} {n : Int} {x : Wy} (h : putE l a b c n x = 0) : rowE l a b c n = 0 ∧ hlB x = true ∧ idxP (hasW x.ln) l < 0 := by
  unfold putE at h
  split at h
  · exact absurd h (by assumption)
  · split at h
    · omega
    · split at h
      · omega
      · rename_i h1 h2 h3
        exact ⟨by omega, by simpa using h2, by omega⟩

theorem takeE_ok {l : List Wy} {a b c : Bool} {n m : Int} (h : takeE l a b c n m = 0) : rowE l a b c n = 0 ∧ 0 ≤ idxP (hasW m) l := by
  unfold takeE at h
  split at h
  · exact absurd h (by assumption)
  · split at h
    · omega
    · rename_i h1 h2
      exact ⟨by omega, by omega⟩

theorem setE_ok {l : List Wy} {a b c : Bool} {n : Int} {x : Wy} (h : setE l a b c n x = 0) : rowE l a b c n = 0 ∧ hlB x = true ∧ 0 ≤ idxP (hasW x.ln) l := by
  unfold setE at h
  split at h
  · exact absurd h (by assumption)
  · split at h
    · omega
    · split at h
      · omega
      · rename_i h1 h2 h3
        exact ⟨by omega, by simpa using h2, by omega⟩

theorem Box.wayC {w : World} {g : Nat} {t : TypeId} {x : Wy} (h : Box w g t x.arr) : w.cell? ⟨g, 0, none⟩ = some (.int .i64 x.st) ∧ w.cell? ⟨g, 1, none⟩ = some (.int .i64 x.ln) ∧ w.cell? ⟨g, 2, none⟩ = some (.int .u64 x.a) ∧ w.cell? ⟨g, 3, none⟩ = some (.int .u64 x.b) ∧ w.cell? ⟨g, 4, none⟩ = some (.int .u64 x.c) ∧ w.cell? ⟨g, 5, none⟩ = some (.int .u64 x.d) :=
  ⟨h.at_ 0 rfl, h.at_ 1 rfl, h.at_ 2 rfl, h.at_ 3 rfl, h.at_ 4 rfl, h.at_ 5 rfl⟩
theorem Box.rowC {w : World} {g : Nat} {t : TypeId} {v : Value} {a b c : Bool} (h : Box w g t (rowA v a b c)) : w.cell? ⟨g, 0, none⟩ = some (v) ∧ w.cell? ⟨g, 1, none⟩ = some (.bool a) ∧ w.cell? ⟨g, 2, none⟩ = some (.bool b) ∧ w.cell? ⟨g, 3, none⟩ = some (.bool c) :=
  ⟨h.at_ 0 rfl, h.at_ 1 rfl, h.at_ 2 rfl, h.at_ 3 rfl⟩

theorem size_row : (Try.prog.info? 26).map (·.size) = some 4 := by kernel_rfl

theorem set_lt {l : List Wy} {k : Nat} {y : Wy} (h : l[k]? = some y) : k < l.length := (List.getElem?_eq_some_iff.1 h).1

set_option maxHeartbeats 2000000 in
theorem rowPut_bad (v : Value) (l : List Wy) (a b c : Bool) (n : Int) (x : Wy) (w : World) (h : Ws w v l) (he : putE l a b c n x ≠ 0) :
    Calls Try.prog 9 #[rowV v a b c, .int .i64 n, x.val] w fun e w' => e = .returned (.tuple #[noRow, zeroV, .int .i64 (putE l a b c n x)]) ∧ Below w.heap.size w w' := by
  have low := Below.refl w.heap.size w
  have rb := boxNext low 26 (rowA v a b c)
  replace low := gAlloc low (.cells (rowA v a b c) 26)
  replace h := h.alloc (.cells (rowA v a b c) 26)
  try simp only [World.size_alloc] at rb
  simp only [rowA] at rb
  have xb := boxNext low 32 x.arr
  replace low := gAlloc low (.cells x.arr 32)
  replace h := h.alloc (.cells x.arr 32)
  replace rb := rb.alloc (.cells x.arr 32)
  try simp only [World.size_alloc] at xb
  simp only [Wy.arr] at xb
  have ob := boxNext low 26 (rowA (.slice none 0 0) false false false)
  replace low := gAlloc low (.cells (rowA (.slice none 0 0) false false false) 26)
  replace h := h.alloc (.cells (rowA (.slice none 0 0) false false false) 26)
  replace rb := rb.alloc (.cells (rowA (.slice none 0 0) false false false) 26)
  replace xb := xb.alloc (.cells (rowA (.slice none 0 0) false false false) 26)
  try simp only [World.size_alloc] at ob
  simp only [rowA] at ob
  have wb := boxNext low 32 zeroA
  replace low := gAlloc low (.cells zeroA 32)
  replace h := h.alloc (.cells zeroA 32)
  replace rb := rb.alloc (.cells zeroA 32)
  replace xb := xb.alloc (.cells zeroA 32)
  replace ob := ob.alloc (.cells zeroA 32)
  try simp only [World.size_alloc] at wb
  simp only [zeroA] at wb
  have R := Lib.hid fun w' hw => rowCheck_any v l a b c n w' hw
  have HL := Lib.hid fun w' => hasLine_any x w'
  have FA := Lib.hid fun w' hw => find_any v l x.ln w' hw
  generalize hE : putE l a b c n x = E at he ⊢
  unfold putE at hE
  generalize rowE l a b c n = r at R hE
  generalize hlB x = t at HL hE
  generalize idxP (hasW x.ln) l = f at FA hE
  have HE := Lib.hid hE
  have HH := Lib.hid he
  clear he hE
  cases hr : (r != 0)
  rotate_left
  · obtain rfl : r = E := by have := HE.out; rwa [if_pos (by simpa using hr)] at this
    go_enter Try.func9, Try.ntmps9
    go_wp2_with fail
    (with_reducible refine (R.out _ h).mono ?_); rintro e w1 ⟨rfl, hb⟩
    replace rb := rb.call hb
    replace xb := xb.call hb
    replace ob := ob.call hb
    replace wb := wb.call hb
    replace low := gCall low hb
    clear hb
    have ob_0 := ob.at_ 0 rfl
    have ob_1 := ob.at_ 1 rfl
    have ob_2 := ob.at_ 2 rfl
    have ob_3 := ob.at_ 3 rfl
    have wb_0 := wb.at_ 0 rfl
    have wb_1 := wb.at_ 1 rfl
    have wb_2 := wb.at_ 2 rfl
    have wb_3 := wb.at_ 3 rfl
    have wb_4 := wb.at_ 4 rfl
    have wb_5 := wb.at_ 5 rfl
    have ob_f0 := ob.frozen 0
    have ob_f1 := ob.frozen 1
    have ob_f2 := ob.frozen 2
    have ob_f3 := ob.frozen 3
    have wb_f0 := wb.frozen 0
    have wb_f1 := wb.frozen 1
    have wb_f2 := wb.frozen 2
    have wb_f3 := wb.frozen 3
    have wb_f4 := wb.frozen 4
    have wb_f5 := wb.frozen 5
    have z1 : w.heap.size + 1 + 1 + 1 < w1.heap.size := wb.lt
    go_wp2_with fail
    refine bodyPost_ret (v := .tuple #[noRow, zeroV, .int .i64 r]) (by simp [results, Try.results9, go_sem, ob_0, ob_1, ob_2, ob_3, wb_0, wb_1, wb_2, wb_3, wb_4, wb_5]) rfl ⟨rfl, ?_⟩
    repeat (refine gSet ?_ (by dsimp only; omega) _)
    exact low
  obtain rfl : r = 0 := by simpa using hr
  cases t
  · obtain rfl : 4 = E := by simpa using HE.out
    go_enter Try.func9, Try.ntmps9
    go_wp2_with fail
    (with_reducible refine (R.out _ h).mono ?_); rintro e w0 ⟨rfl, hb⟩
    replace rb := rb.call hb
    replace xb := xb.call hb
    replace ob := ob.call hb
    replace wb := wb.call hb
    replace low := gCall low hb
    clear hb
    have xb_0 := xb.at_ 0 rfl
    have xb_1 := xb.at_ 1 rfl
    have xb_2 := xb.at_ 2 rfl
    have xb_3 := xb.at_ 3 rfl
    have xb_4 := xb.at_ 4 rfl
    have xb_5 := xb.at_ 5 rfl
    go_wp2_with fail
    (with_reducible refine (HL.out _).mono ?_); rintro e w1 ⟨rfl, hb⟩
    replace rb := rb.call hb
    replace xb := xb.call hb
    replace ob := ob.call hb
    replace wb := wb.call hb
    replace low := gCall low hb
    clear hb xb_0 xb_1 xb_2 xb_3 xb_4 xb_5
    have ob_0 := ob.at_ 0 rfl
    have ob_1 := ob.at_ 1 rfl
    have ob_2 := ob.at_ 2 rfl
    have ob_3 := ob.at_ 3 rfl
    have wb_0 := wb.at_ 0 rfl
    have wb_1 := wb.at_ 1 rfl
    have wb_2 := wb.at_ 2 rfl
    have wb_3 := wb.at_ 3 rfl
    have wb_4 := wb.at_ 4 rfl
    have wb_5 := wb.at_ 5 rfl
    have ob_f0 := ob.frozen 0
    have ob_f1 := ob.frozen 1
    have ob_f2 := ob.frozen 2
    have ob_f3 := ob.frozen 3
    have wb_f0 := wb.frozen 0
    have wb_f1 := wb.frozen 1
    have wb_f2 := wb.frozen 2
    have wb_f3 := wb.frozen 3
    have wb_f4 := wb.frozen 4
    have wb_f5 := wb.frozen 5
    have z1 : w.heap.size + 1 + 1 + 1 < w1.heap.size := wb.lt
    go_wp2_with fail
    refine bodyPost_ret (v := .tuple #[noRow, zeroV, .int .i64 4]) (by simp [results, Try.results9, go_sem, ob_0, ob_1, ob_2, ob_3, wb_0, wb_1, wb_2, wb_3, wb_4, wb_5]) rfl ⟨rfl, ?_⟩
    repeat (refine gSet ?_ (by dsimp only; omega) _)
    exact low
  cases hf : decide (0 ≤ f)
  · have := HE.out
    rw [if_neg (by simp), if_neg (by simp), if_neg (by simpa using hf)] at this
    exact absurd this.symm HH.out
  · obtain rfl : 6 = E := by have := HE.out; rwa [if_neg (by simp), if_neg (by simp), if_pos (by simpa using hf)] at this
    go_enter Try.func9, Try.ntmps9
    go_wp2_with fail
    (with_reducible refine (R.out _ h).mono ?_); rintro e w0 ⟨rfl, hb⟩
    replace rb := rb.call hb
    replace xb := xb.call hb
    replace ob := ob.call hb
    replace wb := wb.call hb
    replace h := h.call hb
    replace low := gCall low hb
    clear hb
    have xb_0 := xb.at_ 0 rfl
    have xb_1 := xb.at_ 1 rfl
    have xb_2 := xb.at_ 2 rfl
    have xb_3 := xb.at_ 3 rfl
    have xb_4 := xb.at_ 4 rfl
    have xb_5 := xb.at_ 5 rfl
    go_wp2_with fail
    (with_reducible refine (HL.out _).mono ?_); rintro e w00 ⟨rfl, hb⟩
    replace rb := rb.call hb
    replace xb := xb.call hb
    replace ob := ob.call hb
    replace wb := wb.call hb
    replace h := h.call hb
    replace low := gCall low hb
    clear hb xb_0 xb_1 xb_2 xb_3 xb_4 xb_5
    have xb_0 := xb.at_ 0 rfl
    have xb_1 := xb.at_ 1 rfl
    have xb_2 := xb.at_ 2 rfl
    have xb_3 := xb.at_ 3 rfl
    have xb_4 := xb.at_ 4 rfl
    have xb_5 := xb.at_ 5 rfl
    have rb_0 := rb.at_ 0 rfl
    go_wp2_with fail
    (with_reducible refine (FA.out _ h).mono ?_); rintro e w1 ⟨rfl, hb⟩
    replace rb := rb.call hb
    replace xb := xb.call hb
    replace ob := ob.call hb
    replace wb := wb.call hb
    replace low := gCall low hb
    clear hb xb_0 xb_1 xb_2 xb_3 xb_4 xb_5 rb_0
    have ob_0 := ob.at_ 0 rfl
    have ob_1 := ob.at_ 1 rfl
    have ob_2 := ob.at_ 2 rfl
    have ob_3 := ob.at_ 3 rfl
    have wb_0 := wb.at_ 0 rfl
    have wb_1 := wb.at_ 1 rfl
    have wb_2 := wb.at_ 2 rfl
    have wb_3 := wb.at_ 3 rfl
    have wb_4 := wb.at_ 4 rfl
    have wb_5 := wb.at_ 5 rfl
    have ob_f0 := ob.frozen 0
    have ob_f1 := ob.frozen 1
    have ob_f2 := ob.frozen 2
    have ob_f3 := ob.frozen 3
    have wb_f0 := wb.frozen 0
    have wb_f1 := wb.frozen 1
    have wb_f2 := wb.frozen 2
    have wb_f3 := wb.frozen 3
    have wb_f4 := wb.frozen 4
    have wb_f5 := wb.frozen 5
    have z1 : w.heap.size + 1 + 1 + 1 < w1.heap.size := wb.lt
    go_wp2_with fail
    refine bodyPost_ret (v := .tuple #[noRow, zeroV, .int .i64 6]) (by simp [results, Try.results9, go_sem, ob_0, ob_1, ob_2, ob_3, wb_0, wb_1, wb_2, wb_3, wb_4, wb_5]) rfl ⟨rfl, ?_⟩
    repeat (refine gSet ?_ (by dsimp only; omega) _)
    exact low

set_option maxRecDepth 10000 in
set_option maxHeartbeats 500000 in
theorem rowPut_ok (v : Value) (l : List Wy) (a b c : Bool) (n : Int) (x : Wy) (k : Nat) (y : Wy) (w : World) (h : Ws w v l) (he : putE l a b c n x = 0) (hk : roomN l a b c n = k) (hy : l[k]? = some y) :
    Calls Try.prog 9 #[rowV v a b c, .int .i64 n, x.val] w fun e w' =>
      (∃ v', e = .returned (.tuple #[rowV v' (touchT a b c n k).1 (touchT a b c n k).2.1 (touchT a b c n k).2.2, y.val, .int .i64 0]) ∧ Fr w' w.heap.size w'.heap.size v' (l.set k x)) ∧ Below w.heap.size w w' := by
  obtain ⟨e1, e2, e3⟩ := putE_ok he
  obtain ⟨e4, e5, _⟩ := rowE_ok e1
  have kl := set_lt hy
  have low := Below.refl w.heap.size w
  have H := Lib.hid h
  have rb := boxNext low 26 (rowA v a b c)
  replace low := gAlloc low (.cells (rowA v a b c) 26)
  replace h := h.alloc (.cells (rowA v a b c) 26)
  try simp only [World.size_alloc] at rb
  simp only [rowA] at rb
  have xb := boxNext low 32 x.arr
  replace low := gAlloc low (.cells x.arr 32)
  replace h := h.alloc (.cells x.arr 32)
  replace rb := rb.alloc (.cells x.arr 32)
  try simp only [World.size_alloc] at xb
  simp only [Wy.arr] at xb
  have ob := boxNext low 26 (rowA (.slice none 0 0) false false false)
  replace low := gAlloc low (.cells (rowA (.slice none 0 0) false false false) 26)
  replace h := h.alloc (.cells (rowA (.slice none 0 0) false false false) 26)
  replace rb := rb.alloc (.cells (rowA (.slice none 0 0) false false false) 26)
  replace xb := xb.alloc (.cells (rowA (.slice none 0 0) false false false) 26)
  try simp only [World.size_alloc] at ob
  simp only [rowA] at ob
  have wb := boxNext low 32 zeroA
  replace low := gAlloc low (.cells zeroA 32)
  replace h := h.alloc (.cells zeroA 32)
  replace rb := rb.alloc (.cells zeroA 32)
  replace xb := xb.alloc (.cells zeroA 32)
  replace ob := ob.alloc (.cells zeroA 32)
  try simp only [World.size_alloc] at wb
  simp only [zeroA] at wb
  have R := Lib.hid fun w' hw => rowCheck_any v l a b c n w' hw
  have HL := Lib.hid fun w' => hasLine_any x w'
  have FA := Lib.hid fun w' hw => find_any v l x.ln w' hw
  have RO := Lib.hid fun w' hw => room_any v l a b c n w' hw e4
  have AC := Lib.hid fun w' hw => access_any v l a b c n k x w' hw e4 e5 kl
  rw [e1] at R
  rw [e2] at HL
  rw [hk] at RO
  generalize idxP (hasW x.ln) l = f at FA e3
  generalize touchT a b c n k = t at AC ⊢
  have e3' : decide (0 ≤ f) = false := decide_eq_false (by omega)
  have HY := Lib.hid hy
  clear he e1 e2 e3 e4 e5 hk hy
  go_enter Try.func9, Try.ntmps9
  go_wp2_with fail
  (with_reducible refine (R.out _ h).mono ?_); rintro e w0 ⟨rfl, hb⟩
  replace rb := rb.call hb
  replace xb := xb.call hb
  replace ob := ob.call hb
  replace wb := wb.call hb
  replace h := h.call hb
  replace low := gCall low hb
  clear hb
  have xb_0 := xb.at_ 0 rfl
  have xb_1 := xb.at_ 1 rfl
  have xb_2 := xb.at_ 2 rfl
  have xb_3 := xb.at_ 3 rfl
  have xb_4 := xb.at_ 4 rfl
  have xb_5 := xb.at_ 5 rfl
  go_wp2_with fail
  (with_reducible refine (HL.out _).mono ?_); rintro e w1 ⟨rfl, hb⟩
  replace rb := rb.call hb
  replace xb := xb.call hb
  replace ob := ob.call hb
  replace wb := wb.call hb
  replace h := h.call hb
  replace low := gCall low hb
  clear hb xb_0 xb_1 xb_2 xb_3 xb_4 xb_5
  have xb_0 := xb.at_ 0 rfl
  have xb_1 := xb.at_ 1 rfl
  have xb_2 := xb.at_ 2 rfl
  have xb_3 := xb.at_ 3 rfl
  have xb_4 := xb.at_ 4 rfl
  have xb_5 := xb.at_ 5 rfl
  have rb_0 := rb.at_ 0 rfl
  have rb_1 := rb.at_ 1 rfl
  have rb_2 := rb.at_ 2 rfl
  have rb_3 := rb.at_ 3 rfl
  go_wp2_with fail
  (with_reducible refine (FA.out _ h).mono ?_); rintro e w2 ⟨rfl, hb⟩
  replace rb := rb.call hb
  replace xb := xb.call hb
  replace ob := ob.call hb
  replace wb := wb.call hb
  replace h := h.call hb
  replace low := gCall low hb
  clear hb xb_0 xb_1 xb_2 xb_3 xb_4 xb_5 rb_0 rb_1 rb_2 rb_3
  have rb_0 := rb.at_ 0 rfl
  have rb_1 := rb.at_ 1 rfl
  have rb_2 := rb.at_ 2 rfl
  have rb_3 := rb.at_ 3 rfl
  go_wp2_with fail
  (with_reducible refine (RO.out _ h).mono ?_); rintro e w3 ⟨rfl, hb⟩
  replace rb := rb.call hb
  replace xb := xb.call hb
  replace ob := ob.call hb
  replace wb := wb.call hb
  replace h := h.call hb
  replace low := gCall low hb
  clear hb rb_0 rb_1 rb_2 rb_3
  clear R HL FA RO
  obtain ⟨hl, A, cp, rfl, h1, h2, h3⟩ := H.out
  obtain ⟨bb, o, rfl, hb, hc⟩ := h3 (by omega)
  obtain ⟨c0, c1, c2, c3, c4, c5⟩ := wayAt_of hc hb low HY.out
  obtain ⟨r0, r1, r2, r3⟩ := rb.rowC
  obtain ⟨x0, x1, x2, x3, x4, x5⟩ := xb.wayC
  have kc : (k : Int) < l.length := by omega
  have k0 : (0 : Int) ≤ k := by omega
  clear h3 hc h1 h2 hl
  go_wp2_with fail
  refine wp_region_noPanic ?_
  refine wp_region_held_drew (S := fun w' => w'.cell? ⟨w.heap.size, 0, none⟩ = some (.slice (some ⟨bb, o, none⟩) l.length cp) ∧ w'.cell? ⟨w.heap.size, 1, none⟩ = some (.bool a) ∧ w'.cell? ⟨w.heap.size, 2, none⟩ = some (.bool b) ∧ w'.cell? ⟨w.heap.size, 3, none⟩ = some (.bool c) ∧ w'.cell? ⟨w.heap.size + 1, 0, none⟩ = some (.int .i64 x.st) ∧ w'.cell? ⟨w.heap.size + 1, 1, none⟩ = some (.int .i64 x.ln) ∧ w'.cell? ⟨w.heap.size + 1, 2, none⟩ = some (.int .u64 x.a) ∧ w'.cell? ⟨w.heap.size + 1, 3, none⟩ = some (.int .u64 x.b) ∧ w'.cell? ⟨w.heap.size + 1, 4, none⟩ = some (.int .u64 x.c) ∧ w'.cell? ⟨w.heap.size + 1, 5, none⟩ = some (.int .u64 x.d) ∧ w'.cell? ⟨bb, o + k * 6, none⟩ = some (.int .i64 y.st) ∧ w'.cell? ⟨bb, o + k * 6 + 1, none⟩ = some (.int .i64 y.ln) ∧ w'.cell? ⟨bb, o + k * 6 + 2, none⟩ = some (.int .u64 y.a) ∧ w'.cell? ⟨bb, o + k * 6 + 3, none⟩ = some (.int .u64 y.b) ∧ w'.cell? ⟨bb, o + k * 6 + 4, none⟩ = some (.int .u64 y.c) ∧ w'.cell? ⟨bb, o + k * 6 + 5, none⟩ = some (.int .u64 y.d)) (by kernel_rfl) ⟨drewC r0, drewC r1, drewC r2, drewC r3, drewC x0, drewC x1, drewC x2, drewC x3, drewC x4, drewC x5, drewC c0, drewC c1, drewC c2, drewC c3, drewC c4, drewC c5⟩ (fun hHeld => ?_)
  refine takeFirst (i := 0) (v := ?_) rfl (by kernel_rfl) (by kernel_rfl) (by kernel_rfl) (by rfl) (fun _ _ _ h => h) ?_ (by assumption) ?_
  rotate_left
  · (intro w hSw; go_simp; try (with_reducible rfl))
  try simp only [Act.put, List.setIfInBounds_toArray, List.set_cons_zero, List.set_cons_succ]
  refine takeFirst (i := 1) (v := ?_) rfl (by kernel_rfl) (by kernel_rfl) (by kernel_rfl) (by rfl) (fun _ _ _ h => h) ?_ (by assumption) ?_
  rotate_left
  · (intro w hSw; go_simp; try (with_reducible rfl))
  try simp only [Act.put, List.setIfInBounds_toArray, List.set_cons_zero, List.set_cons_succ]
  refine takeFirst (i := 2) (v := ?_) rfl (by kernel_rfl) (by kernel_rfl) (by kernel_rfl) (by rfl) (fun _ _ _ h => h) ?_ (by assumption) ?_
  rotate_left
  · (intro w hSw; go_simp; try (with_reducible rfl))
  try simp only [Act.put, List.setIfInBounds_toArray, List.set_cons_zero, List.set_cons_succ]
  refine takeFirst (i := 3) (v := ?_) rfl (by kernel_rfl) (by kernel_rfl) (by kernel_rfl) (by rfl) (fun _ _ _ h => h) ?_ (by assumption) ?_
  rotate_left
  · (intro w hSw; go_simp; try (with_reducible rfl))
  try simp only [Act.put, List.setIfInBounds_toArray, List.set_cons_zero, List.set_cons_succ]
  refine takeFirst (i := 5) (v := ?_) rfl (by kernel_rfl) (by kernel_rfl) (by kernel_rfl) (by rfl) (fun _ _ _ h => h) ?_ (by assumption) ?_
  rotate_left
  · (intro w hSw; go_simp; try (with_reducible rfl))
  try simp only [Act.put, List.setIfInBounds_toArray, List.set_cons_zero, List.set_cons_succ]
  refine takeFirst (i := 6) (v := ?_) rfl (by kernel_rfl) (by kernel_rfl) (by kernel_rfl) (by rfl) (fun _ _ _ h => h) ?_ (by assumption) ?_
  rotate_left
  · (intro w hSw; go_simp; try (with_reducible rfl))
  try simp only [Act.put, List.setIfInBounds_toArray, List.set_cons_zero, List.set_cons_succ]
  refine takeFirst (i := 7) (v := ?_) rfl (by kernel_rfl) (by kernel_rfl) (by kernel_rfl) (by rfl) (fun _ _ _ h => h) ?_ (by assumption) ?_
  rotate_left
  · (intro w hSw; go_simp; try (with_reducible rfl))
  try simp only [Act.put, List.setIfInBounds_toArray, List.set_cons_zero, List.set_cons_succ]
  refine takeFirst (i := 8) (v := ?_) rfl (by kernel_rfl) (by kernel_rfl) (by kernel_rfl) (by rfl) (fun _ _ _ h => h) ?_ (by assumption) ?_
  rotate_left
  · (intro w hSw; go_simp; try (with_reducible rfl))
  try simp only [Act.put, List.setIfInBounds_toArray, List.set_cons_zero, List.set_cons_succ]
  refine takeFirst (i := 9) (v := ?_) rfl (by kernel_rfl) (by kernel_rfl) (by kernel_rfl) (by rfl) (fun _ _ _ h => h) ?_ (by assumption) ?_
  rotate_left
  · (intro w hSw; go_simp; try (with_reducible rfl))
  try simp only [Act.put, List.setIfInBounds_toArray, List.set_cons_zero, List.set_cons_succ]
  refine stepNext (i := 4) (by kernel_rfl) rfl (by rfl) (fun K hK => ?_)
  go_simp
  (with_reducible refine (AC.out _ h.drew).mono ?_); rintro e w4 ⟨⟨v', rfl, fr⟩, hb4⟩
  have z3 : w.heap.size + 1 + 1 + 1 < w3.heap.size := wb.lt
  have z4 : w3.heap.size ≤ w4.heap.size := hb4.size
  replace ob := ob.drew.call hb4
  replace wb := wb.drew.call hb4
  replace low := gCall low.drew hb4
  obtain ⟨A', c', rfl⟩ := fr.shape
  obtain ⟨hh0, hh1, hh2, hh3, hh4, hh5, hh6, hh7, hh8, hh9, hh10, hh11, hh12, hh13, hh14, hh15⟩ := hHeld
  have hHeld := (And.intro (callC hb4 hh0) (And.intro (callC hb4 hh1) (And.intro (callC hb4 hh2) (And.intro (callC hb4 hh3) (And.intro (callC hb4 hh4) (And.intro (callC hb4 hh5) (And.intro (callC hb4 hh6) (And.intro (callC hb4 hh7) (And.intro (callC hb4 hh8) (And.intro (callC hb4 hh9) (And.intro (callC hb4 hh10) (And.intro (callC hb4 hh11) (And.intro (callC hb4 hh12) (And.intro (callC hb4 hh13) (And.intro (callC hb4 hh14) (callC hb4 hh15))))))))))))))))
  clear hh0 hh1 hh2 hh3 hh4 hh5 hh6 hh7 hh8 hh9 hh10 hh11 hh12 hh13 hh14 hh15
  refine hK.out _ _ hHeld ?_
  clear hK K
  try simp only [Act.put]
  try simp only [List.setIfInBounds_toArray, List.set_cons_zero, List.set_cons_succ]
  refine stepNext (i := 10) (by kernel_rfl) rfl (by rfl) (fun K hK => ?_)
  refine wp_store_box 26 (.tmp 6) (.tmp 39) rfl _ _ rfl rfl ob size_row rfl (by simp [Value.oneCell']) ?_
  intro w5 ob st
  replace wb := st.box wb (by omega)
  replace fr := st.fr fr (.inl (by show _ < w3.heap.size; omega))
  replace low := st.low low (by omega)
  have z5 := st.size
  obtain ⟨hh0, hh1, hh2, hh3, hh4, hh5, hh6, hh7, hh8, hh9, hh10, hh11, hh12, hh13, hh14, hh15⟩ := hHeld
  have hHeld := (And.intro (st.cell (by dsimp only; omega) hh0) (And.intro (st.cell (by dsimp only; omega) hh1) (And.intro (st.cell (by dsimp only; omega) hh2) (And.intro (st.cell (by dsimp only; omega) hh3) (And.intro (st.cell (by dsimp only; omega) hh4) (And.intro (st.cell (by dsimp only; omega) hh5) (And.intro (st.cell (by dsimp only; omega) hh6) (And.intro (st.cell (by dsimp only; omega) hh7) (And.intro (st.cell (by dsimp only; omega) hh8) (And.intro (st.cell (by dsimp only; omega) hh9) (And.intro (st.cell (by dsimp only; omega) hh10) (And.intro (st.cell (by dsimp only; omega) hh11) (And.intro (st.cell (by dsimp only; omega) hh12) (And.intro (st.cell (by dsimp only; omega) hh13) (And.intro (st.cell (by dsimp only; omega) hh14) (st.cell (by dsimp only; omega) hh15))))))))))))))))
  clear hh0 hh1 hh2 hh3 hh4 hh5 hh6 hh7 hh8 hh9 hh10 hh11 hh12 hh13 hh14 hh15
  clear st
  refine hK.out _ _ hHeld ?_
  clear hK K
  try simp only [Act.put]
  try simp only [List.setIfInBounds_toArray, List.set_cons_zero, List.set_cons_succ]
  refine stepNext (i := 11) (by kernel_rfl) rfl (by rfl) (fun K hK => ?_)
  refine wp_store_box 32 (.tmp 7) (.tmp 44) rfl _ _ rfl rfl wb size_way rfl (by simp [Value.oneCell']) ?_
  intro w6 wb st
  replace ob := st.box ob (by omega)
  replace fr := st.fr fr (.inl (by show _ < w3.heap.size; omega))
  replace low := st.low low (by omega)
  have z6 := st.size
  obtain ⟨hh0, hh1, hh2, hh3, hh4, hh5, hh6, hh7, hh8, hh9, hh10, hh11, hh12, hh13, hh14, hh15⟩ := hHeld
  have hHeld := (And.intro (st.cell (by dsimp only; omega) hh0) (And.intro (st.cell (by dsimp only; omega) hh1) (And.intro (st.cell (by dsimp only; omega) hh2) (And.intro (st.cell (by dsimp only; omega) hh3) (And.intro (st.cell (by dsimp only; omega) hh4) (And.intro (st.cell (by dsimp only; omega) hh5) (And.intro (st.cell (by dsimp only; omega) hh6) (And.intro (st.cell (by dsimp only; omega) hh7) (And.intro (st.cell (by dsimp only; omega) hh8) (And.intro (st.cell (by dsimp only; omega) hh9) (And.intro (st.cell (by dsimp only; omega) hh10) (And.intro (st.cell (by dsimp only; omega) hh11) (And.intro (st.cell (by dsimp only; omega) hh12) (And.intro (st.cell (by dsimp only; omega) hh13) (And.intro (st.cell (by dsimp only; omega) hh14) (st.cell (by dsimp only; omega) hh15))))))))))))))))
  clear hh0 hh1 hh2 hh3 hh4 hh5 hh6 hh7 hh8 hh9 hh10 hh11 hh12 hh13 hh14 hh15
  clear st
  refine hK.out _ _ hHeld ?_
  clear hK K
  try simp only [Act.put]
  try simp only [List.setIfInBounds_toArray, List.set_cons_zero, List.set_cons_succ]
  refine stepNext (i := 12) (by kernel_rfl) rfl (by rfl) (fun K hK => ?_)
  go_simp
  refine hK.out _ _ hHeld ?_
  clear hK K
  try simp only [Act.put]
  try simp only [List.setIfInBounds_toArray, List.set_cons_zero, List.set_cons_succ]
  clear hHeld c0 c1 c2 c3 c4 c5 r0 r1 r2 r3 x0 x1 x2 x3 x4 x5 xb rb
  refine wpAnyH_done (by kernel_rfl) ?_ _
  refine NoPanic.normal ?_
  go_wp2_with fail
  obtain ⟨p0, p1, p2, p3⟩ := ob.rowC
  obtain ⟨q0, q1, q2, q3, q4, q5⟩ := wb.wayC
  refine bodyPost_ret (v := .tuple #[rowV (.slice A' (l.set k x).length c') t.1 t.2.1 t.2.2, y.val, .int .i64 0]) (by simp [results, Try.results9, go_sem, p0, p1, p2, p3, q0, q1, q2, q3, q4, q5]) rfl ⟨⟨_, rfl, ?_⟩, low⟩
  exact fr.more (by show _ ≤ w3.heap.size; omega) (by omega)

set_option maxHeartbeats 2000000 in
theorem rowTake_bad (v : Value) (l : List Wy) (a b c : Bool) (n m : Int) (w : World) (h : Ws w v l) (he : takeE l a b c n m ≠ 0) :
    Calls Try.prog 11 #[rowV v a b c, .int .i64 n, .int .i64 m] w fun e w' => e = .returned (.tuple #[noRow, zeroV, .int .i64 (takeE l a b c n m)]) ∧ Below w.heap.size w w' := by
  have low := Below.refl w.heap.size w
  have rb := boxNext low 26 (rowA v a b c)
  replace low := gAlloc low (.cells (rowA v a b c) 26)
  replace h := h.alloc (.cells (rowA v a b c) 26)
  try simp only [World.size_alloc] at rb
  simp only [rowA] at rb
  have ob := boxNext low 26 (rowA (.slice none 0 0) false false false)
  replace low := gAlloc low (.cells (rowA (.slice none 0 0) false false false) 26)
  replace h := h.alloc (.cells (rowA (.slice none 0 0) false false false) 26)
  replace rb := rb.alloc (.cells (rowA (.slice none 0 0) false false false) 26)
  try simp only [World.size_alloc] at ob
  simp only [rowA] at ob
  have wb := boxNext low 32 zeroA
  replace low := gAlloc low (.cells zeroA 32)
  replace h := h.alloc (.cells zeroA 32)
  replace rb := rb.alloc (.cells zeroA 32)
  replace ob := ob.alloc (.cells zeroA 32)
  try simp only [World.size_alloc] at wb
  simp only [zeroA] at wb
  have R := Lib.hid fun w' hw => rowCheck_any v l a b c n w' hw
  have FA := Lib.hid fun w' hw => find_any v l m w' hw
  generalize hE : takeE l a b c n m = E at he ⊢
  unfold takeE at hE
  generalize rowE l a b c n = r at R hE
  generalize idxP (hasW m) l = f at FA hE
  have HE := Lib.hid hE
  have HH := Lib.hid he
  clear he hE
  cases hr : (r != 0)
  rotate_left
  · obtain rfl : r = E := by have := HE.out; rwa [if_pos (by simpa using hr)] at this
    go_enter Try.func11, Try.ntmps11
    go_wp2_with fail
    (with_reducible refine (R.out _ h).mono ?_); rintro e w1 ⟨rfl, hb⟩
    replace rb := rb.call hb
    replace ob := ob.call hb
    replace wb := wb.call hb
    replace low := gCall low hb
    clear hb
    have ob_0 := ob.at_ 0 rfl
    have ob_1 := ob.at_ 1 rfl
    have ob_2 := ob.at_ 2 rfl
    have ob_3 := ob.at_ 3 rfl
    have wb_0 := wb.at_ 0 rfl
    have wb_1 := wb.at_ 1 rfl
    have wb_2 := wb.at_ 2 rfl
    have wb_3 := wb.at_ 3 rfl
    have wb_4 := wb.at_ 4 rfl
    have wb_5 := wb.at_ 5 rfl
    have ob_f0 := ob.frozen 0
    have ob_f1 := ob.frozen 1
    have ob_f2 := ob.frozen 2
    have ob_f3 := ob.frozen 3
    have wb_f0 := wb.frozen 0
    have wb_f1 := wb.frozen 1
    have wb_f2 := wb.frozen 2
    have wb_f3 := wb.frozen 3
    have wb_f4 := wb.frozen 4
    have wb_f5 := wb.frozen 5
    have z1 : w.heap.size + 1 + 1 < w1.heap.size := wb.lt
    go_wp2_with fail
    refine bodyPost_ret (v := .tuple #[noRow, zeroV, .int .i64 r]) (by simp [results, Try.results11, go_sem, ob_0, ob_1, ob_2, ob_3, wb_0, wb_1, wb_2, wb_3, wb_4, wb_5]) rfl ⟨rfl, ?_⟩
    repeat (refine gSet ?_ (by dsimp only; omega) _)
    exact low
  obtain rfl : r = 0 := by simpa using hr
  cases hf : decide (f < 0)
  · have := HE.out
    rw [if_neg (by simp), if_neg (by simpa using hf)] at this
    exact absurd this.symm HH.out
  · obtain rfl : 5 = E := by have := HE.out; rwa [if_neg (by simp), if_pos (by simpa using hf)] at this
    go_enter Try.func11, Try.ntmps11
    go_wp2_with fail
    (with_reducible refine (R.out _ h).mono ?_); rintro e w0 ⟨rfl, hb⟩
    replace rb := rb.call hb
    replace ob := ob.call hb
    replace wb := wb.call hb
    replace h := h.call hb
    replace low := gCall low hb
    clear hb
    have rb_0 := rb.at_ 0 rfl
    go_wp2_with fail
    (with_reducible refine (FA.out _ h).mono ?_); rintro e w1 ⟨rfl, hb⟩
    replace rb := rb.call hb
    replace ob := ob.call hb
    replace wb := wb.call hb
    replace low := gCall low hb
    clear hb rb_0
    have ob_0 := ob.at_ 0 rfl
    have ob_1 := ob.at_ 1 rfl
    have ob_2 := ob.at_ 2 rfl
    have ob_3 := ob.at_ 3 rfl
    have wb_0 := wb.at_ 0 rfl
    have wb_1 := wb.at_ 1 rfl
    have wb_2 := wb.at_ 2 rfl
    have wb_3 := wb.at_ 3 rfl
    have wb_4 := wb.at_ 4 rfl
    have wb_5 := wb.at_ 5 rfl
    have ob_f0 := ob.frozen 0
    have ob_f1 := ob.frozen 1
    have ob_f2 := ob.frozen 2
    have ob_f3 := ob.frozen 3
    have wb_f0 := wb.frozen 0
    have wb_f1 := wb.frozen 1
    have wb_f2 := wb.frozen 2
    have wb_f3 := wb.frozen 3
    have wb_f4 := wb.frozen 4
    have wb_f5 := wb.frozen 5
    have z1 : w.heap.size + 1 + 1 < w1.heap.size := wb.lt
    go_wp2_with fail
    refine bodyPost_ret (v := .tuple #[noRow, zeroV, .int .i64 5]) (by simp [results, Try.results11, go_sem, ob_0, ob_1, ob_2, ob_3, wb_0, wb_1, wb_2, wb_3, wb_4, wb_5]) rfl ⟨rfl, ?_⟩
    repeat (refine gSet ?_ (by dsimp only; omega) _)
    exact low

set_option maxRecDepth 10000 in
set_option maxHeartbeats 2000000 in
theorem rowTake_ok (v : Value) (l : List Wy) (a b c : Bool) (n m : Int) (k : Nat) (y : Wy) (w : World) (h : Ws w v l) (he : rowE l a b c n = 0) (hk : idxP (hasW m) l = k) (hy : l[k]? = some y) :
    Calls Try.prog 11 #[rowV v a b c, .int .i64 n, .int .i64 m] w fun e w' =>
      (∃ v', e = .returned (.tuple #[rowV v' a b c, y.val, .int .i64 0]) ∧ Fr w' w.heap.size w'.heap.size v' (l.set k wy0)) ∧ Below w.heap.size w w' := by
  obtain ⟨e4, e5, _⟩ := rowE_ok he
  obtain ⟨hn1, hn4⟩ := treeE_range e4
  have kl := set_lt hy
  have low := Below.refl w.heap.size w
  have H := Lib.hid h
  have rb := boxNext low 26 (rowA v a b c)
  replace low := gAlloc low (.cells (rowA v a b c) 26)
  replace h := h.alloc (.cells (rowA v a b c) 26)
  try simp only [World.size_alloc] at rb
  simp only [rowA] at rb
  have ob := boxNext low 26 (rowA (.slice none 0 0) false false false)
  replace low := gAlloc low (.cells (rowA (.slice none 0 0) false false false) 26)
  replace h := h.alloc (.cells (rowA (.slice none 0 0) false false false) 26)
  replace rb := rb.alloc (.cells (rowA (.slice none 0 0) false false false) 26)
  try simp only [World.size_alloc] at ob
  simp only [rowA] at ob
  have wb := boxNext low 32 zeroA
  replace low := gAlloc low (.cells zeroA 32)
  replace h := h.alloc (.cells zeroA 32)
  replace rb := rb.alloc (.cells zeroA 32)
  replace ob := ob.alloc (.cells zeroA 32)
  try simp only [World.size_alloc] at wb
  simp only [zeroA] at wb
  have R := Lib.hid fun w' hw => rowCheck_any v l a b c n w' hw
  have FA := Lib.hid fun w' hw => find_any v l m w' hw
  have AC := Lib.hid fun w' (hw : Ws w' v l) => replace_any v l a b c k wy0 w' hw kl (by omega)
  rw [he] at R
  rw [hk] at FA
  have HY := Lib.hid hy
  clear he e4 e5 hk hy hn1 hn4
  have kd : decide ((k : Int) < 0) = false := decide_eq_false (by omega)
  go_enter Try.func11, Try.ntmps11
  go_wp2_with fail
  (with_reducible refine (R.out _ h).mono ?_); rintro e w0 ⟨rfl, hb⟩
  replace rb := rb.call hb
  replace ob := ob.call hb
  replace wb := wb.call hb
  replace h := h.call hb
  replace low := gCall low hb
  clear hb
  have rb_0 := rb.at_ 0 rfl
  go_wp2_with fail
  (with_reducible refine (FA.out _ h).mono ?_); rintro e w3 ⟨rfl, hb⟩
  replace rb := rb.call hb
  replace ob := ob.call hb
  replace wb := wb.call hb
  replace h := h.call hb
  replace low := gCall low hb
  clear hb rb_0
  clear R FA
  obtain ⟨hl, A, cp, rfl, h1, h2, h3⟩ := H.out
  obtain ⟨bb, o, rfl, hb, hc⟩ := h3 (by omega)
  obtain ⟨c0, c1, c2, c3, c4, c5⟩ := wayAt_of hc hb low HY.out
  obtain ⟨r0, r1, r2, r3⟩ := rb.rowC
  have kc : (k : Int) < l.length := by omega
  have k0 : (0 : Int) ≤ k := by omega
  clear h3 hc h1 h2 hl
  go_wp2_with fail
  refine wp_region_noPanic ?_
  refine wp_region_held_drew (S := fun w' => w'.cell? ⟨w.heap.size, 0, none⟩ = some (.slice (some ⟨bb, o, none⟩) l.length cp) ∧ w'.cell? ⟨w.heap.size, 1, none⟩ = some (.bool a) ∧ w'.cell? ⟨w.heap.size, 2, none⟩ = some (.bool b) ∧ w'.cell? ⟨w.heap.size, 3, none⟩ = some (.bool c) ∧ w'.cell? ⟨bb, o + k * 6, none⟩ = some (.int .i64 y.st) ∧ w'.cell? ⟨bb, o + k * 6 + 1, none⟩ = some (.int .i64 y.ln) ∧ w'.cell? ⟨bb, o + k * 6 + 2, none⟩ = some (.int .u64 y.a) ∧ w'.cell? ⟨bb, o + k * 6 + 3, none⟩ = some (.int .u64 y.b) ∧ w'.cell? ⟨bb, o + k * 6 + 4, none⟩ = some (.int .u64 y.c) ∧ w'.cell? ⟨bb, o + k * 6 + 5, none⟩ = some (.int .u64 y.d)) (by kernel_rfl) ⟨drewC r0, drewC r1, drewC r2, drewC r3, drewC c0, drewC c1, drewC c2, drewC c3, drewC c4, drewC c5⟩ (fun hHeld => ?_)
  refine takeFirst (i := 0) (v := ?_) rfl (by kernel_rfl) (by kernel_rfl) (by kernel_rfl) (by rfl) (fun _ _ _ h => h) ?_ (by assumption) ?_
  rotate_left
  · (intro w hSw; go_simp; try (with_reducible rfl))
  try simp only [Act.put, List.setIfInBounds_toArray, List.set_cons_zero, List.set_cons_succ]
  refine takeFirst (i := 1) (v := ?_) rfl (by kernel_rfl) (by kernel_rfl) (by kernel_rfl) (by rfl) (fun _ _ _ h => h) ?_ (by assumption) ?_
  rotate_left
  · (intro w hSw; go_simp; try (with_reducible rfl))
  try simp only [Act.put, List.setIfInBounds_toArray, List.set_cons_zero, List.set_cons_succ]
  refine takeFirst (i := 2) (v := ?_) rfl (by kernel_rfl) (by kernel_rfl) (by kernel_rfl) (by rfl) (fun _ _ _ h => h) ?_ (by assumption) ?_
  rotate_left
  · (intro w hSw; go_simp; try (with_reducible rfl))
  try simp only [Act.put, List.setIfInBounds_toArray, List.set_cons_zero, List.set_cons_succ]
  refine takeFirst (i := 4) (v := ?_) rfl (by kernel_rfl) (by kernel_rfl) (by kernel_rfl) (by rfl) (fun _ _ _ h => h) ?_ (by assumption) ?_
  rotate_left
  · (intro w hSw; go_simp; try (with_reducible rfl))
  try simp only [Act.put, List.setIfInBounds_toArray, List.set_cons_zero, List.set_cons_succ]
  refine takeFirst (i := 5) (v := ?_) rfl (by kernel_rfl) (by kernel_rfl) (by kernel_rfl) (by rfl) (fun _ _ _ h => h) ?_ (by assumption) ?_
  rotate_left
  · (intro w hSw; go_simp; try (with_reducible rfl))
  try simp only [Act.put, List.setIfInBounds_toArray, List.set_cons_zero, List.set_cons_succ]
  refine takeFirst (i := 6) (v := ?_) rfl (by kernel_rfl) (by kernel_rfl) (by kernel_rfl) (by rfl) (fun _ _ _ h => h) ?_ (by assumption) ?_
  rotate_left
  · (intro w hSw; go_simp; try (with_reducible rfl))
  try simp only [Act.put, List.setIfInBounds_toArray, List.set_cons_zero, List.set_cons_succ]
  refine takeFirst (i := 7) (v := ?_) rfl (by kernel_rfl) (by kernel_rfl) (by kernel_rfl) (by rfl) (fun _ _ _ h => h) ?_ (by assumption) ?_
  rotate_left
  · (intro w hSw; go_simp; try (with_reducible rfl))
  try simp only [Act.put, List.setIfInBounds_toArray, List.set_cons_zero, List.set_cons_succ]
  refine takeFirst (i := 8) (v := ?_) rfl (by kernel_rfl) (by kernel_rfl) (by kernel_rfl) (by rfl) (fun _ _ _ h => h) ?_ (by assumption) ?_
  rotate_left
  · (intro w hSw; go_simp; try (with_reducible rfl))
  try simp only [Act.put, List.setIfInBounds_toArray, List.set_cons_zero, List.set_cons_succ]
  refine stepNext (i := 3) (by kernel_rfl) rfl (by rfl) (fun K hK => ?_)
  go_simp
  (refine (AC.out _ h.drew).mono ?_); rintro e w4 ⟨⟨v', rfl, fr⟩, hb4⟩
  have z3 : w.heap.size + 1 + 1 < w3.heap.size := wb.lt
  have z4 : w3.heap.size ≤ w4.heap.size := hb4.size
  replace ob := ob.drew.call hb4
  replace wb := wb.drew.call hb4
  replace low := gCall low.drew hb4
  obtain ⟨A', c', rfl⟩ := fr.shape
  obtain ⟨hh0, hh1, hh2, hh3, hh4, hh5, hh6, hh7, hh8, hh9⟩ := hHeld
  have hHeld := (And.intro (callC hb4 hh0) (And.intro (callC hb4 hh1) (And.intro (callC hb4 hh2) (And.intro (callC hb4 hh3) (And.intro (callC hb4 hh4) (And.intro (callC hb4 hh5) (And.intro (callC hb4 hh6) (And.intro (callC hb4 hh7) (And.intro (callC hb4 hh8) (callC hb4 hh9))))))))))
  clear hh0 hh1 hh2 hh3 hh4 hh5 hh6 hh7 hh8 hh9
  refine hK.out _ _ hHeld ?_
  clear hK K
  try simp only [Act.put]
  try simp only [List.setIfInBounds_toArray, List.set_cons_zero, List.set_cons_succ]
  refine stepNext (i := 9) (by kernel_rfl) rfl (by rfl) (fun K hK => ?_)
  refine wp_store_box 26 (.tmp 6) (.tmp 30) rfl _ _ rfl rfl ob size_row rfl (by simp [Value.oneCell']) ?_
  intro w5 ob st
  replace wb := st.box wb (by omega)
  replace fr := st.fr fr (.inl (by show _ < w3.heap.size; omega))
  replace low := st.low low (by omega)
  have z5 := st.size
  obtain ⟨hh0, hh1, hh2, hh3, hh4, hh5, hh6, hh7, hh8, hh9⟩ := hHeld
  have hHeld := (And.intro (st.cell (by dsimp only; omega) hh0) (And.intro (st.cell (by dsimp only; omega) hh1) (And.intro (st.cell (by dsimp only; omega) hh2) (And.intro (st.cell (by dsimp only; omega) hh3) (And.intro (st.cell (by dsimp only; omega) hh4) (And.intro (st.cell (by dsimp only; omega) hh5) (And.intro (st.cell (by dsimp only; omega) hh6) (And.intro (st.cell (by dsimp only; omega) hh7) (And.intro (st.cell (by dsimp only; omega) hh8) (st.cell (by dsimp only; omega) hh9))))))))))
  clear hh0 hh1 hh2 hh3 hh4 hh5 hh6 hh7 hh8 hh9
  clear st
  refine hK.out _ _ hHeld ?_
  clear hK K
  try simp only [Act.put]
  try simp only [List.setIfInBounds_toArray, List.set_cons_zero, List.set_cons_succ]
  refine stepNext (i := 10) (by kernel_rfl) rfl (by rfl) (fun K hK => ?_)
  refine wp_store_box 32 (.tmp 7) (.tmp 35) rfl _ _ rfl rfl wb size_way rfl (by simp [Value.oneCell']) ?_
  intro w6 wb st
  replace ob := st.box ob (by omega)
  replace fr := st.fr fr (.inl (by show _ < w3.heap.size; omega))
  replace low := st.low low (by omega)
  have z6 := st.size
  obtain ⟨hh0, hh1, hh2, hh3, hh4, hh5, hh6, hh7, hh8, hh9⟩ := hHeld
  have hHeld := (And.intro (st.cell (by dsimp only; omega) hh0) (And.intro (st.cell (by dsimp only; omega) hh1) (And.intro (st.cell (by dsimp only; omega) hh2) (And.intro (st.cell (by dsimp only; omega) hh3) (And.intro (st.cell (by dsimp only; omega) hh4) (And.intro (st.cell (by dsimp only; omega) hh5) (And.intro (st.cell (by dsimp only; omega) hh6) (And.intro (st.cell (by dsimp only; omega) hh7) (And.intro (st.cell (by dsimp only; omega) hh8) (st.cell (by dsimp only; omega) hh9))))))))))
  clear hh0 hh1 hh2 hh3 hh4 hh5 hh6 hh7 hh8 hh9
  clear st
  refine hK.out _ _ hHeld ?_
  clear hK K
  try simp only [Act.put]
  try simp only [List.setIfInBounds_toArray, List.set_cons_zero, List.set_cons_succ]
  refine stepNext (i := 11) (by kernel_rfl) rfl (by rfl) (fun K hK => ?_)
  go_simp
  refine hK.out _ _ hHeld ?_
  clear hK K
  try simp only [Act.put]
  try simp only [List.setIfInBounds_toArray, List.set_cons_zero, List.set_cons_succ]
  clear hHeld c0 c1 c2 c3 c4 c5 r0 r1 r2 r3 rb
  refine wpAnyH_done (by kernel_rfl) ?_ _
  refine NoPanic.normal ?_
  go_wp2_with fail
  obtain ⟨p0, p1, p2, p3⟩ := ob.rowC
  obtain ⟨q0, q1, q2, q3, q4, q5⟩ := wb.wayC
  refine bodyPost_ret (v := .tuple #[rowV (.slice A' (l.set k wy0).length c') a b c, y.val, .int .i64 0]) (by simp [results, Try.results11, go_sem, p0, p1, p2, p3, q0, q1, q2, q3, q4, q5]) rfl ⟨⟨_, rfl, ?_⟩, low⟩
  exact fr.more (by show _ ≤ w3.heap.size; omega) (by omega)

set_option maxHeartbeats 2000000 in
theorem rowSet_bad (v : Value) (l : List Wy) (a b c : Bool) (n : Int) (x : Wy) (w : World) (h : Ws w v l) (he : setE l a b c n x ≠ 0) :
    Calls Try.prog 54 #[rowV v a b c, .int .i64 n, x.val] w fun e w' => e = .returned (.tuple #[noRow, .int .i64 (setE l a b c n x)]) ∧ Below w.heap.size w w' := by
  have low := Below.refl w.heap.size w
  have rb := boxNext low 26 (rowA v a b c)
  replace low := gAlloc low (.cells (rowA v a b c) 26)
  replace h := h.alloc (.cells (rowA v a b c) 26)
  try simp only [World.size_alloc] at rb
  simp only [rowA] at rb
  have xb := boxNext low 32 x.arr
  replace low := gAlloc low (.cells x.arr 32)
  replace h := h.alloc (.cells x.arr 32)
  replace rb := rb.alloc (.cells x.arr 32)
  try simp only [World.size_alloc] at xb
  simp only [Wy.arr] at xb
  have ob := boxNext low 26 (rowA (.slice none 0 0) false false false)
  replace low := gAlloc low (.cells (rowA (.slice none 0 0) false false false) 26)
  replace h := h.alloc (.cells (rowA (.slice none 0 0) false false false) 26)
  replace rb := rb.alloc (.cells (rowA (.slice none 0 0) false false false) 26)
  replace xb := xb.alloc (.cells (rowA (.slice none 0 0) false false false) 26)
  try simp only [World.size_alloc] at ob
  simp only [rowA] at ob
  have R := Lib.hid fun w' hw => rowCheck_any v l a b c n w' hw
  have HL := Lib.hid fun w' => hasLine_any x w'
  have FA := Lib.hid fun w' hw => find_any v l x.ln w' hw
  generalize hE : setE l a b c n x = E at he ⊢
  unfold setE at hE
  generalize rowE l a b c n = r at R hE
  generalize hlB x = t at HL hE
  generalize idxP (hasW x.ln) l = f at FA hE
  have HE := Lib.hid hE
  have HH := Lib.hid he
  clear he hE
  cases hr : (r != 0)
  rotate_left
  · obtain rfl : r = E := by have := HE.out; rwa [if_pos (by simpa using hr)] at this
    go_enter Try.func54, Try.ntmps54
    go_wp2_with fail
    (with_reducible refine (R.out _ h).mono ?_); rintro e w1 ⟨rfl, hb⟩
    replace rb := rb.call hb
    replace xb := xb.call hb
    replace ob := ob.call hb
    replace low := gCall low hb
    clear hb
    have ob_0 := ob.at_ 0 rfl
    have ob_1 := ob.at_ 1 rfl
    have ob_2 := ob.at_ 2 rfl
    have ob_3 := ob.at_ 3 rfl
    have ob_f0 := ob.frozen 0
    have ob_f1 := ob.frozen 1
    have ob_f2 := ob.frozen 2
    have ob_f3 := ob.frozen 3
    have z1 : w.heap.size + 1 + 1 < w1.heap.size := ob.lt
    go_wp2_with fail
    refine bodyPost_ret (v := .tuple #[noRow, .int .i64 r]) (by simp [results, Try.results54, go_sem, ob_0, ob_1, ob_2, ob_3]) rfl ⟨rfl, ?_⟩
    repeat (refine gSet ?_ (by dsimp only; omega) _)
    exact low
  obtain rfl : r = 0 := by simpa using hr
  cases t
  · obtain rfl : 4 = E := by simpa using HE.out
    go_enter Try.func54, Try.ntmps54
    go_wp2_with fail
    (with_reducible refine (R.out _ h).mono ?_); rintro e w0 ⟨rfl, hb⟩
    replace rb := rb.call hb
    replace xb := xb.call hb
    replace ob := ob.call hb
    replace low := gCall low hb
    clear hb
    have xb_0 := xb.at_ 0 rfl
    have xb_1 := xb.at_ 1 rfl
    have xb_2 := xb.at_ 2 rfl
    have xb_3 := xb.at_ 3 rfl
    have xb_4 := xb.at_ 4 rfl
    have xb_5 := xb.at_ 5 rfl
    go_wp2_with fail
    (with_reducible refine (HL.out _).mono ?_); rintro e w1 ⟨rfl, hb⟩
    replace rb := rb.call hb
    replace xb := xb.call hb
    replace ob := ob.call hb
    replace low := gCall low hb
    clear hb xb_0 xb_1 xb_2 xb_3 xb_4 xb_5
    have ob_0 := ob.at_ 0 rfl
    have ob_1 := ob.at_ 1 rfl
    have ob_2 := ob.at_ 2 rfl
    have ob_3 := ob.at_ 3 rfl
    have ob_f0 := ob.frozen 0
    have ob_f1 := ob.frozen 1
    have ob_f2 := ob.frozen 2
    have ob_f3 := ob.frozen 3
    have z1 : w.heap.size + 1 + 1 < w1.heap.size := ob.lt
    go_wp2_with fail
    refine bodyPost_ret (v := .tuple #[noRow, .int .i64 4]) (by simp [results, Try.results54, go_sem, ob_0, ob_1, ob_2, ob_3]) rfl ⟨rfl, ?_⟩
    repeat (refine gSet ?_ (by dsimp only; omega) _)
    exact low
  cases hf : decide (f < 0)
  · have := HE.out
    rw [if_neg (by simp), if_neg (by simp), if_neg (by simpa using hf)] at this
    exact absurd this.symm HH.out
  · obtain rfl : 5 = E := by have := HE.out; rwa [if_neg (by simp), if_neg (by simp), if_pos (by simpa using hf)] at this
    go_enter Try.func54, Try.ntmps54
    go_wp2_with fail
    (with_reducible refine (R.out _ h).mono ?_); rintro e w0 ⟨rfl, hb⟩
    replace rb := rb.call hb
    replace xb := xb.call hb
    replace ob := ob.call hb
    replace h := h.call hb
    replace low := gCall low hb
    clear hb
    have xb_0 := xb.at_ 0 rfl
    have xb_1 := xb.at_ 1 rfl
    have xb_2 := xb.at_ 2 rfl
    have xb_3 := xb.at_ 3 rfl
    have xb_4 := xb.at_ 4 rfl
    have xb_5 := xb.at_ 5 rfl
    go_wp2_with fail
    (with_reducible refine (HL.out _).mono ?_); rintro e w00 ⟨rfl, hb⟩
    replace rb := rb.call hb
    replace xb := xb.call hb
    replace ob := ob.call hb
    replace h := h.call hb
    replace low := gCall low hb
    clear hb xb_0 xb_1 xb_2 xb_3 xb_4 xb_5
    have xb_0 := xb.at_ 0 rfl
    have xb_1 := xb.at_ 1 rfl
    have xb_2 := xb.at_ 2 rfl
    have xb_3 := xb.at_ 3 rfl
    have xb_4 := xb.at_ 4 rfl
    have xb_5 := xb.at_ 5 rfl
    have rb_0 := rb.at_ 0 rfl
    go_wp2_with fail
    (with_reducible refine (FA.out _ h).mono ?_); rintro e w1 ⟨rfl, hb⟩
    replace rb := rb.call hb
    replace xb := xb.call hb
    replace ob := ob.call hb
    replace low := gCall low hb
    clear hb xb_0 xb_1 xb_2 xb_3 xb_4 xb_5 rb_0
    have ob_0 := ob.at_ 0 rfl
    have ob_1 := ob.at_ 1 rfl
    have ob_2 := ob.at_ 2 rfl
    have ob_3 := ob.at_ 3 rfl
    have ob_f0 := ob.frozen 0
    have ob_f1 := ob.frozen 1
    have ob_f2 := ob.frozen 2
    have ob_f3 := ob.frozen 3
    have z1 : w.heap.size + 1 + 1 < w1.heap.size := ob.lt
    go_wp2_with fail
    refine bodyPost_ret (v := .tuple #[noRow, .int .i64 5]) (by simp [results, Try.results54, go_sem, ob_0, ob_1, ob_2, ob_3]) rfl ⟨rfl, ?_⟩
    repeat (refine gSet ?_ (by dsimp only; omega) _)
    exact low

set_option maxRecDepth 10000 in
set_option maxHeartbeats 2000000 in
theorem rowSet_ok (v : Value) (l : List Wy) (a b c : Bool) (n : Int) (x : Wy) (k : Nat) (w : World) (h : Ws w v l) (he : rowE l a b c n = 0) (hx : hlB x = true) (hk : idxP (hasW x.ln) l = k) (kl : k < l.length) :
    Calls Try.prog 54 #[rowV v a b c, .int .i64 n, x.val] w fun e w' =>
      (∃ v', e = .returned (.tuple #[rowV v' (touchT a b c n k).1 (touchT a b c n k).2.1 (touchT a b c n k).2.2, .int .i64 0]) ∧ Fr w' w.heap.size w'.heap.size v' (l.set k x)) ∧ Below w.heap.size w w' := by
  obtain ⟨e4, e5, _⟩ := rowE_ok he
  have low := Below.refl w.heap.size w
  have rb := boxNext low 26 (rowA v a b c)
  replace low := gAlloc low (.cells (rowA v a b c) 26)
  replace h := h.alloc (.cells (rowA v a b c) 26)
  try simp only [World.size_alloc] at rb
  simp only [rowA] at rb
  have xb := boxNext low 32 x.arr
  replace low := gAlloc low (.cells x.arr 32)
  replace h := h.alloc (.cells x.arr 32)
  replace rb := rb.alloc (.cells x.arr 32)
  try simp only [World.size_alloc] at xb
  simp only [Wy.arr] at xb
  have ob := boxNext low 26 (rowA (.slice none 0 0) false false false)
  replace low := gAlloc low (.cells (rowA (.slice none 0 0) false false false) 26)
  replace h := h.alloc (.cells (rowA (.slice none 0 0) false false false) 26)
  replace rb := rb.alloc (.cells (rowA (.slice none 0 0) false false false) 26)
  replace xb := xb.alloc (.cells (rowA (.slice none 0 0) false false false) 26)
  try simp only [World.size_alloc] at ob
  simp only [rowA] at ob
  have R := Lib.hid fun w' hw => rowCheck_any v l a b c n w' hw
  have HL := Lib.hid fun w' => hasLine_any x w'
  have FA := Lib.hid fun w' hw => find_any v l x.ln w' hw
  have AC := Lib.hid fun w' hw => access_any v l a b c n k x w' hw e4 e5 kl
  rw [he] at R
  rw [hx] at HL
  rw [hk] at FA
  generalize touchT a b c n k = t at AC ⊢
  have kd : decide ((k : Int) < 0) = false := decide_eq_false (by omega)
  clear he e4 e5 hk hx
  go_enter Try.func54, Try.ntmps54
  go_wp2_with fail
  (with_reducible refine (R.out _ h).mono ?_); rintro e w0 ⟨rfl, hb⟩
  replace rb := rb.call hb
  replace xb := xb.call hb
  replace ob := ob.call hb
  replace h := h.call hb
  replace low := gCall low hb
  clear hb
  have xb_0 := xb.at_ 0 rfl
  have xb_1 := xb.at_ 1 rfl
  have xb_2 := xb.at_ 2 rfl
  have xb_3 := xb.at_ 3 rfl
  have xb_4 := xb.at_ 4 rfl
  have xb_5 := xb.at_ 5 rfl
  go_wp2_with fail
  (with_reducible refine (HL.out _).mono ?_); rintro e w1 ⟨rfl, hb⟩
  replace rb := rb.call hb
  replace xb := xb.call hb
  replace ob := ob.call hb
  replace h := h.call hb
  replace low := gCall low hb
  clear hb xb_0 xb_1 xb_2 xb_3 xb_4 xb_5
  have xb_0 := xb.at_ 0 rfl
  have xb_1 := xb.at_ 1 rfl
  have xb_2 := xb.at_ 2 rfl
  have xb_3 := xb.at_ 3 rfl
  have xb_4 := xb.at_ 4 rfl
  have xb_5 := xb.at_ 5 rfl
  have rb_0 := rb.at_ 0 rfl
  have rb_1 := rb.at_ 1 rfl
  have rb_2 := rb.at_ 2 rfl
  have rb_3 := rb.at_ 3 rfl
  go_wp2_with fail
  (with_reducible refine (FA.out _ h).mono ?_); rintro e w2 ⟨rfl, hb⟩
  replace rb := rb.call hb
  replace xb := xb.call hb
  replace ob := ob.call hb
  replace h := h.call hb
  replace low := gCall low hb
  clear hb xb_0 xb_1 xb_2 xb_3 xb_4 xb_5 rb_0 rb_1 rb_2 rb_3
  have xb_0 := xb.at_ 0 rfl
  have xb_1 := xb.at_ 1 rfl
  have xb_2 := xb.at_ 2 rfl
  have xb_3 := xb.at_ 3 rfl
  have xb_4 := xb.at_ 4 rfl
  have xb_5 := xb.at_ 5 rfl
  have rb_0 := rb.at_ 0 rfl
  have rb_1 := rb.at_ 1 rfl
  have rb_2 := rb.at_ 2 rfl
  have rb_3 := rb.at_ 3 rfl
  go_wp2_with fail
  (with_reducible refine (AC.out _ h).mono ?_); rintro e w4 ⟨⟨v', rfl, fr⟩, hb4⟩
  clear xb_0 xb_1 xb_2 xb_3 xb_4 xb_5 rb_0 rb_1 rb_2 rb_3
  have z3 : w.heap.size + 1 + 1 < w2.heap.size := ob.lt
  have z4 : w2.heap.size ≤ w4.heap.size := hb4.size
  replace ob := ob.call hb4
  replace low := gCall low hb4
  clear hb4
  obtain ⟨A', c', rfl⟩ := fr.shape
  have ob_0 := ob.at_ 0 rfl
  have ob_1 := ob.at_ 1 rfl
  have ob_2 := ob.at_ 2 rfl
  have ob_3 := ob.at_ 3 rfl
  have ob_f0 := ob.frozen 0
  have ob_f1 := ob.frozen 1
  have ob_f2 := ob.frozen 2
  have ob_f3 := ob.frozen 3
  go_wp2_with fail
  refine bodyPost_ret (v := .tuple #[rowV (.slice A' (l.set k x).length c') t.1 t.2.1 t.2.2, .int .i64 0]) (by simp [results, Try.results54, go_sem, ob_0, ob_1, ob_2, ob_3]) rfl ⟨⟨_, rfl, ?_⟩, ?_⟩
  · refine Fr.more ?_ (B := w2.heap.size) (C := w4.heap.size) (by omega) (by simp)
    repeat (refine Fr.far ?_ (by dsimp only; omega) _)
    exact fr
  · repeat (refine gSet ?_ (by dsimp only; omega) _)
    exact low
end Go.Proofs.Ytmodajmjmdigfaa
