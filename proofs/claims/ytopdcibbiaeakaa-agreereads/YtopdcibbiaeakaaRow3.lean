/-
Proved: what Find, Put, Take and Set of package row return, for every set that can be read; none of them changes anything that was there. No condition.
-/
import Derived.Test.YtopdcibbiaeakaaRow2
import Derived.Test.YtopdcibbiaeakaaRegion
namespace Go.Proofs.Ytopdcibbiaeakaa
open Go.ChangeShapes Go.WideShapes Go.ChangeAt Go.RowKit Go.Joins

theorem rowE_ok {l : List Wy} {a b c : Bool} {n : Int} (h : rowE l a b c n = 0) : treeE a b c n = 0 ∧ (l.length : Int) = n ∧ waysE [] l = 0 := by
  unfold rowE at h
  by_cases h1 : treeE a b c n ≠ 0
  · rw [if_pos h1] at h; exact absurd h h1
  · rw [if_neg h1] at h
    by_cases h2 : (l.length : Int) ≠ n
    · rw [if_pos h2] at h; omega
    · rw [if_neg h2] at h
      exact ⟨by omega, by omega, h⟩

theorem victim_in {a b c : Bool} {n : Int} (h : treeE a b c n = 0) : 0 ≤ victimN a b c n ∧ victimN a b c n < n := by
  obtain ⟨hn1, hn4⟩ := treeE_range h
  have hn : n = 1 ∨ n = 2 ∨ n = 3 ∨ n = 4 := by omega
  rcases hn with rfl | rfl | rfl | rfl <;> (revert h; cases a <;> cases b <;> cases c <;> decide)

/-- The place for a new line is there. -/
theorem room_in {l : List Wy} {a b c : Bool} {n : Int} (h : rowE l a b c n = 0) : ∃ (k : Nat) (y : Wy), roomN l a b c n = k ∧ l[k]? = some y := by
  obtain ⟨h1, h2, _⟩ := rowE_ok h
  obtain ⟨v1, v2⟩ := victim_in h1
  unfold roomN
  rcases idxP_cases empW l with ⟨e, _⟩ | ⟨k, x, e, hk, _⟩
  · rw [e, if_pos (by decide)]
    have hlt : (victimN a b c n).toNat < l.length := by omega
    exact ⟨(victimN a b c n).toNat, l[(victimN a b c n).toNat], by omega, List.getElem?_eq_getElem hlt⟩
  · rw [e, if_neg (by omega)]
    exact ⟨k, x, rfl, hk⟩

theorem rowFind_bad (v : Value) (l : List Wy) (a b c : Bool) (n m : Int) (w : World) (h : Ws w v l) (he : rowE l a b c n ≠ 0) :
    Calls Try.prog 18 #[rowV v a b c, .int .i64 n, .int .i64 m] w fun e w' => e = .returned (.tuple #[.int .i64 0, .int .i64 (rowE l a b c n)]) ∧ Below w.heap.size w w' := by
  have low := Below.refl w.heap.size w
  have rb := boxNext low 71 (rowA v a b c)
  replace low := gAlloc low (.cells (rowA v a b c) 71)
  replace h := h.alloc (.cells (rowA v a b c) 71)
  try simp only [World.size_alloc] at rb
  simp only [rowA] at rb
  have R := Lib.hid fun w' hw => rowCheck_any v l a b c n w' hw
  generalize rowE l a b c n = E at R he ⊢
  have he' : (E != 0) = true := by simpa using he
  clear he
  go_enter Try.func18, Try.ntmps18
  go_wp2_with fail
  (with_reducible refine (R.out _ h).mono ?_); rintro e w1 ⟨rfl, hb⟩
  replace rb := rb.call hb
  replace low := gCall low hb
  clear hb
  go_wp2_with fail
  go_ret2
  exact ⟨rfl, low⟩

theorem rowFind_ok (v : Value) (l : List Wy) (a b c : Bool) (n m : Int) (w : World) (h : Ws w v l) (he : rowE l a b c n = 0) :
    Calls Try.prog 18 #[rowV v a b c, .int .i64 n, .int .i64 m] w fun e w' => e = .returned (.tuple #[.int .i64 (idxP (hasW m) l), .int .i64 0]) ∧ Below w.heap.size w w' := by
  have low := Below.refl w.heap.size w
  have rb := boxNext low 71 (rowA v a b c)
  replace low := gAlloc low (.cells (rowA v a b c) 71)
  replace h := h.alloc (.cells (rowA v a b c) 71)
  try simp only [World.size_alloc] at rb
  simp only [rowA] at rb
  have R := Lib.hid fun w' hw => rowCheck_any v l a b c n w' hw
  rw [he] at R
  clear he
  go_enter Try.func18, Try.ntmps18
  go_wp2_with fail
  (with_reducible refine (R.out _ h).mono ?_); rintro e w1 ⟨rfl, hb⟩
  replace rb := rb.call hb
  replace h := h.call hb
  replace low := gCall low hb
  clear hb
  have rb_0 := rb.at_ 0 rfl
  go_wp2_with fail
  (with_reducible refine (find_any _ l _ _ h).mono ?_); rintro e w2 ⟨rfl, hb⟩
  replace rb := rb.call hb
  replace low := gCall low hb
  clear hb rb_0
  go_wp2_with fail
  go_ret2
  exact ⟨rfl, low⟩

/-- The errors of Put, Take, Set. -/
def putE (l : List Wy) (a b c : Bool) (n : Int) (x : Wy) : Int := if rowE l a b c n ≠ 0 then rowE l a b c n else if hlB x = false then 4 else if 0 ≤ idxP (hasW x.ln) l then 6 else 0
def takeE (l : List Wy) (a b c : Bool) (n m : Int) : Int := if rowE l a b c n ≠ 0 then rowE l a b c n else if idxP (hasW m) l < 0 then 5 else 0
def setE (l : List Wy) (a b c : Bool) (n : Int) (x : Wy) : Int := if rowE l a b c n ≠ 0 then rowE l a b c n else if hlB x = false then 4 else if idxP (hasW x.ln) l < 0 then 5 else 0

theorem putE_ok {l : List Wy} {a b c : Bool} {n : Int} {x : Wy} (h : putE l a b c n x = 0) : rowE l a b c n = 0 ∧ hlB x = true ∧ idxP (hasW x.ln) l < 0 := by
  unfold putE at h
  split at h
  · exact absurd h (by assumption)
  · split at h
    · omega
    · split at h
      · omega
      · rename_i h1 h2 h3
        exact ⟨by omega, by simpa using h2, by omega⟩

theorem takeE_ok {l : List Wy} {a b c : Bool} {n m : Int} (h : takeE l a b c n m = 0) : rowE l a b c n = 0 ∧ 0 ≤ idxP (hasW m) l := by
  unfold takeE at h
  split at h
  · exact absurd h (by assumption)
  · split at h
    · omega
    · rename_i h1 h2
      exact ⟨by omega, by omega⟩

theorem setE_ok {l : List Wy} {a b c : Bool} {n : Int} {x : Wy} (h : setE l a b c n x = 0) : rowE l a b c n = 0 ∧ hlB x = true ∧ 0 ≤ idxP (hasW x.ln) l := by
  unfold setE at h
  split at h
  · exact absurd h (by assumption)
  · split at h
    · omega
    · split at h
      · omega
      · rename_i h1 h2 h3
        exact ⟨by omega, by simpa using h2, by omega⟩

theorem Box.wayC {w : World} {g : Nat} {t : TypeId} {x : Wy} (h : Box w g t x.arr) : w.cell? ⟨g, 0, none⟩ = some (.int .i64 x.st) ∧ w.cell? ⟨g, 1, none⟩ = some (.int .i64 x.ln) ∧ w.cell? ⟨g, 2, none⟩ = some (.int .u64 x.a) ∧ w.cell? ⟨g, 3, none⟩ = some (.int .u64 x.b) ∧ w.cell? ⟨g, 4, none⟩ = some (.int .u64 x.c) ∧ w.cell? ⟨g, 5, none⟩ = some (.int .u64 x.d) :=
  ⟨h.at_ 0 rfl, h.at_ 1 rfl, h.at_ 2 rfl, h.at_ 3 rfl, h.at_ 4 rfl, h.at_ 5 rfl⟩
theorem Box.rowC {w : World} {g : Nat} {t : TypeId} {v : Value} {a b c : Bool} (h : Box w g t (rowA v a b c)) : w.cell? ⟨g, 0, none⟩ = some (v) ∧ w.cell? ⟨g, 1, none⟩ = some (.bool a) ∧ w.cell? ⟨g, 2, none⟩ = some (.bool b) ∧ w.cell? ⟨g, 3, none⟩ = some (.bool c) :=
  ⟨h.at_ 0 rfl, h.at_ 1 rfl, h.at_ 2 rfl, h.at_ 3 rfl⟩

theorem size_row : (Try.prog.info? 71).map (·.size) = some 4 := by kernel_rfl

theorem set_lt {l : List Wy} {k : Nat} {y : Wy} (h : l[k]? = some y) : k < l.length := (List.getElem?_eq_some_iff.1 h).1



end Go.Proofs.Ytopdcibbiaeakaa
