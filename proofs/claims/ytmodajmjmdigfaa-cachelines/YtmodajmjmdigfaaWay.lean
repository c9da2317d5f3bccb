/-
Proved: words for ways and for slices of ways; what the small functions of package row return, for every argument. No condition.
-/
import Derived.Test.YtmodajmjmdigfaaState
import Derived.Test.YtmodajmjmdigfaaFlatEq
namespace Go.Proofs.Ytmodajmjmdigfaa
open Go.ChangeShapes Go.WideShapes Go.ChangeAt Go.RowKit Go.Joins

/-- A way. -/
structure Wy where
  st : Int
  ln : Int
  a : Int
  b : Int
  c : Int
  d : Int

/-- '==' on ways. -/
def eqW (x y : Wy) : Bool := x.st == y.st && (x.ln == y.ln && (x.a == y.a && (x.b == y.b && (x.c == y.c && x.d == y.d))))
theorem eqW_iff (x y : Wy) : eqW x y = true ↔ x = y := by
  obtain ⟨a, b, c, d, e, f⟩ := x
  obtain ⟨a', b', c', d', e', f'⟩ := y
  simp [eqW]
instance : DecidableEq Wy := fun x y => decidable_of_iff (eqW x y = true) (eqW_iff x y)

/-- A way as a value, and as cells. -/
abbrev Wy.val (x : Wy) : Value := .agg #[.int .i64 x.st, .int .i64 x.ln, .int .u64 x.a, .int .u64 x.b, .int .u64 x.c, .int .u64 x.d]
/-- The cells of a block that holds a way, a set. -/
abbrev Wy.arr (x : Wy) : Array Value := #[.int .i64 x.st, .int .i64 x.ln, .int .u64 x.a, .int .u64 x.b, .int .u64 x.c, .int .u64 x.d]
abbrev rowA (v : Value) (a b c : Bool) : Array Value := #[v, .bool a, .bool b, .bool c]
abbrev rowV (v : Value) (a b c : Bool) : Value := .agg (rowA v a b c)
/-- The empty way's cells, and as a value. -/
abbrev zeroA : Array Value := #[.int .i64 0, .int .i64 0, .int .u64 0, .int .u64 0, .int .u64 0, .int .u64 0]
abbrev zeroV : Value := .agg zeroA
abbrev noRow : Value := rowV (.slice none 0 0) false false false
def Wy.cells (x : Wy) : List Value := [.int .i64 x.st, .int .i64 x.ln, .int .u64 x.a, .int .u64 x.b, .int .u64 x.c, .int .u64 x.d]
def waysC (l : List Wy) : List Value := l.flatMap Wy.cells

theorem waysC_length (l : List Wy) : (waysC l).length = l.length * 6 := by
  induction l with
  | nil => rfl
  | cons x r ih => simp only [waysC, List.flatMap_cons, List.length_append, List.length_cons] at *; rw [ih]; simp [Wy.cells]; omega

theorem waysC_at {l : List Wy} {k : Nat} {x : Wy} (h : l[k]? = some x) (j : Nat) (hj : j < 6) : (waysC l)[k * 6 + j]? = x.cells[j]? := by
  induction l generalizing k with
  | nil => simp at h
  | cons y r ih =>
    have hy : y.cells.length = 6 := rfl
    simp only [waysC, List.flatMap_cons] at *
    cases k with
    | zero =>
      simp at h
      subst h
      rw [List.getElem?_append_left (by omega)]
      simp
    | succ k =>
      rw [List.getElem?_append_right (by omega), hy]
      have : (k + 1) * 6 + j - 6 = k * 6 + j := by omega
      rw [this]
      exact ih (by simpa using h)

/-- The slice holds the ways. -/
structure Ws (w : World) (v : Value) (l : List Wy) : Prop where
  sl : Sl w w.heap.size 6 v l.length (waysC l)

theorem Ws.call {w w' : World} {v : Value} {l : List Wy} (h : Ws w v l) (hb : Below w.heap.size w w') : Ws w' v l := ⟨Sl.call h.sl hb⟩
theorem Ws.alloc {w : World} {v : Value} {l : List Wy} (h : Ws w v l) (o : Obj) : Ws (w.alloc o) v l := h.call (gAlloc (Below.refl _ _) o)
theorem Ws.drew {w : World} {v : Value} {l : List Wy} (h : Ws w v l) : Ws w.drew v l := h.call (Below.refl _ _).drew
theorem Ws.nil (w : World) : Ws w (.slice none 0 0) [] := ⟨rfl, none, 0, rfl, Nat.le_refl _, Nat.zero_le _, fun h => absurd h (Nat.lt_irrefl 0)⟩

/-- The cells of way k, in a world that keeps what was there. -/
def WayAt (w : World) (b o : Nat) (x : Wy) : Prop :=
  w.cell? ⟨b, o, none⟩ = some (.int .i64 x.st) ∧ w.cell? ⟨b, o + 1, none⟩ = some (.int .i64 x.ln) ∧ w.cell? ⟨b, o + 2, none⟩ = some (.int .u64 x.a) ∧
  w.cell? ⟨b, o + 3, none⟩ = some (.int .u64 x.b) ∧ w.cell? ⟨b, o + 4, none⟩ = some (.int .u64 x.c) ∧ w.cell? ⟨b, o + 5, none⟩ = some (.int .u64 x.d)

theorem wayAt_of {w w' : World} {b o B : Nat} {l : List Wy} {k : Nat} {x : Wy} (hc : ∀ j u, (waysC l)[j]? = some u → w.cell? ⟨b, o + j, none⟩ = some u) (hb : b < B) (low : Below B w w') (h : l[k]? = some x) : WayAt w' b (o + k * 6) x := by
  have f : ∀ j u, j < 6 → x.cells[j]? = some u → w'.cell? ⟨b, o + k * 6 + j, none⟩ = some u := by
    intro j u hj hu
    refine (low.cell (p := ⟨b, o + k * 6 + j, none⟩) hb).trans ?_
    rw [Nat.add_assoc]
    exact hc _ _ ((waysC_at h j hj).trans hu)
  exact ⟨f 0 _ (by omega) rfl, f 1 _ (by omega) rfl, f 2 _ (by omega) rfl, f 3 _ (by omega) rfl, f 4 _ (by omega) rfl, f 5 _ (by omega) rfl⟩

/-- The first way of which 'p' holds, or -1. -/
def idxP (p : Wy → Bool) (l : List Wy) : Int := match l.findIdx? p with | some k => k | none => -1

theorem idxP_none {p : Wy → Bool} {l : List Wy} (h : ∀ (k : Nat) x, l[k]? = some x → p x = false) : idxP p l = -1 := by
  have : l.findIdx? p = none := by
    rw [List.findIdx?_eq_none_iff]
    intro x hx
    obtain ⟨k, hk, e⟩ := List.getElem_of_mem hx
    exact h k x (by rw [List.getElem?_eq_getElem hk, e])
  rw [idxP, this]

theorem idxP_some {p : Wy → Bool} {l : List Wy} {k : Nat} {x : Wy} (h : ∀ j y, j < k → l[j]? = some y → p y = false) (hk : l[k]? = some x) (hp : p x = true) : idxP p l = k := by
  have : l.findIdx? p = some k := by
    rw [List.findIdx?_eq_some_iff_getElem]
    obtain ⟨hlt, e⟩ := List.getElem?_eq_some_iff.1 hk
    refine ⟨hlt, by rw [e]; exact hp, fun j hj => ?_⟩
    rw [h j _ hj (List.getElem?_eq_getElem (by omega))]
    decide
  rw [idxP, this]

/-- One more way of which 'p' doesn't hold. -/
theorem upto {p : Wy → Bool} {l : List Wy} {k : Nat} {x : Wy} (h : ∀ j y, j < k → l[j]? = some y → p y = false) (hk : l[k]? = some x) (hp : p x = false) : ∀ j y, j < k + 1 → l[j]? = some y → p y = false := by
  intro j y hj hy
  by_cases e : j < k
  · exact h j y e hy
  · obtain rfl : j = k := by omega
    rw [hk] at hy
    cases hy
    exact hp

theorem all_upto {p : Wy → Bool} {l : List Wy} {k : Nat} (h : ∀ j y, j < k → l[j]? = some y → p y = false) (hk : ¬ k < l.length) : ∀ (j : Nat) y, l[j]? = some y → p y = false := by
  intro j y hy
  obtain ⟨hj, _⟩ := List.getElem?_eq_some_iff.1 hy
  exact h j y (by omega) hy

/-- What is known of the place. -/
theorem idxP_cases (p : Wy → Bool) (l : List Wy) : (idxP p l = -1 ∧ ∀ x ∈ l, p x = false) ∨ ∃ k x, idxP p l = (k : Nat) ∧ l[k]? = some x ∧ p x = true ∧ ∀ j y, j < k → l[j]? = some y → p y = false := by
  cases e : l.findIdx? p with
  | none =>
    refine .inl ⟨by rw [idxP, e], ?_⟩
    rw [List.findIdx?_eq_none_iff] at e
    exact e
  | some k =>
    refine .inr ?_
    have e' := e
    rw [List.findIdx?_eq_some_iff_getElem] at e
    obtain ⟨hk, e1, e2⟩ := e
    refine ⟨k, l[k], by rw [idxP, e'], List.getElem?_eq_getElem hk, e1, fun j y hj hy => ?_⟩
    obtain ⟨hlt, rfl⟩ := List.getElem?_eq_some_iff.1 hy
    simpa using e2 j hj

/-- Has the way this line? Is it empty? -/
def hasW (n : Int) (x : Wy) : Bool := x.st != 0 && x.ln == n
def empW (x : Wy) : Bool := x.st == 0

set_option maxHeartbeats 1000000 in
theorem find_any (v : Value) (l : List Wy) (n : Int) (w : World) (h : Ws w v l) :
    Calls Try.prog 42 #[v, .int .i64 n] w fun e w' => e = .returned (.int .i64 (idxP (hasW n) l)) ∧ Below w.heap.size w w' := by
  obtain ⟨hl, A, c, rfl, h1, h2, h3⟩ := h
  have H3 := Lib.hid h3
  unfold maxLen at h2
  clear hl h3
  go_enter Try.func42, Try.ntmps42
  go_wp2
  go_loopw [9] (fun i wr => ∃ k : Nat, k ≤ l.length ∧ i = .int .i64 k ∧ Hid (∀ j x, j < k → l[j]? = some x → hasW n x = false) ∧ Below w.heap.size w wr) (fun i _ => l.length - (intOf i).toNat)
  case atStart => exact ⟨0, Nat.zero_le _, rfl, Lib.hid fun j x hj => absurd hj (by omega), Below.refl _ _⟩
  case round =>
    obtain ⟨k, hk, rfl, hno, low⟩ := hrel
    by_cases hlt : k < l.length
    · obtain ⟨b, o, rfl, hb, hc⟩ := H3.out (by omega)
      have hx : l[k]? = some l[k] := List.getElem?_eq_getElem _
      generalize l[k] = x at hx
      obtain ⟨c0, c1, c2, c3, c4, c5⟩ := wayAt_of hc hb low hx
      have HX := Lib.hid hx
      clear hx hc
      cases he : (x.st != 0)
      rotate_left
      cases hn : (x.ln == n)
      rotate_left
      · have HW := Lib.hid (show hasW n x = true by simp [hasW, he, hn])
        go_wp2
        go_ret
        exact ⟨by rw [idxP_some hno.out HX.out HW.out]; rfl, gAlloc low _⟩
      all_goals
        have HW := Lib.hid (show hasW n x = false by simp [hasW, he] <;> simpa using hn)
        go_wp2
        go_roundw
        case rel => exact ⟨k + 1, by omega, by go_num, Lib.hid (upto hno.out HX.out HW.out), gAlloc low _⟩
        case measure => simp [intOf]; omega
    · go_wp2
      go_ret
      exact ⟨by rw [idxP_none (all_upto hno.out hlt)]; rfl, low⟩

/-- Is it a line? -/
def lnB (n : Int) : Bool := decide (0 ≤ n ∧ n < 16)
/-- Has a way to do with a line? -/
def hlB (x : Wy) : Bool := rdB x.st && lnB x.ln

theorem isLine_any (n : Int) (w : World) : Calls Try.prog 73 #[.int .i64 n] w fun e w' => e = .returned (.bool (lnB n)) ∧ w = w' := by
  unfold lnB
  by_cases h0 : 0 ≤ n
  · by_cases h1 : n < 16
    all_goals
      go_enter Try.func73, Try.ntmps73
      go_wp2
      go_ret
      exact ⟨by simp <;> omega, rfl⟩
  · go_enter Try.func73, Try.ntmps73
    go_wp2
    go_ret
    exact ⟨by simp <;> omega, rfl⟩

theorem hasLine_any (x : Wy) (w : World) : Calls Try.prog 41 #[x.val] w fun e w' => e = .returned (.bool (hlB x)) ∧ Below w.heap.size w w' := by
  unfold hlB
  cases hr : rdB x.st <;> cases hn : lnB x.ln
  all_goals
    go_enter Try.func41, Try.ntmps41
    go_wp2_with (first | (go_at_call 72; refine (reads_any _ _).mono ?_; rintro e w' ⟨rfl, rfl⟩; rw [hr]) | (go_at_call 73; refine (isLine_any _ _).mono ?_; rintro e w' ⟨rfl, rfl⟩; rw [hn]))
    go_ret
    exact ⟨rfl, gAlloc (Below.refl _ _) _⟩

/-- '==' on ways, as the walk has it. -/
theorem eqWay (x y : Wy) (w : World) : (Op.equalIn 10000 32 x.val y.val).run Try.prog w = .ok (eqW x y) w := by
  have := equal_flat (P := Try.prog) 3 32 [.int .i64, .int .i64, .int .u64, .int .u64, .int .u64, .int .u64] (by kernel_rfl) (by kernel_rfl) 10000 (by omega) w x.cells y.cells x.val y.val
    ⟨⟨_, rfl⟩, ⟨_, rfl⟩, ⟨_, rfl⟩, ⟨_, rfl⟩, ⟨_, rfl⟩, ⟨_, rfl⟩, trivial⟩ ⟨⟨_, rfl⟩, ⟨_, rfl⟩, ⟨_, rfl⟩, ⟨_, rfl⟩, ⟨_, rfl⟩, ⟨_, rfl⟩, trivial⟩ (by simp [ValIs, Try.underlying32, Wy.cells]) (by simp [ValIs, Try.underlying32, Wy.cells])
  simpa [eqCells, scEq, Wy.cells, eqW] using this

/-- The empty way, and what is said of a way by itself. -/
def wy0 : Wy := ⟨0, 0, 0, 0, 0, 0⟩
def wayE (x : Wy) : Int := if stB x.st = true ∧ lnB x.ln = true then (if x.st = 0 ∧ x ≠ wy0 then 3 else 0) else 4

theorem name_bad (s : Int) (w : World) (h : s < 0 ∨ (0 ≤ s ∧ 4 < s)) : Calls Try.prog 81 #[.int .i64 s] w fun e w' => e = .returned (.string ⟨#[]⟩) ∧ w = w' := by
  obtain ⟨h0, h1, h2, h3, h4⟩ := apart s h
  clear h
  go_enter Try.func81, Try.ntmps81
  go_wp2
  go_ret
  exact ⟨rfl, rfl⟩

theorem checkWay_any (x : Wy) (w : World) : Calls Try.prog 49 #[x.val] w fun e w' => e = .returned (.int .i64 (wayE x)) ∧ Below w.heap.size w w' := by
  obtain ⟨s, n, a, b, c, d⟩ := x
  generalize he : wayE ⟨s, n, a, b, c, d⟩ = E
  unfold wayE at he
  simp only at he
  generalize hn : lnB n = N at he
  have HE := Lib.hid he
  clear he
  rcases five s with (rfl | rfl | rfl | rfl | rfl) | h
  rotate_left 5
  · have HH := Lib.hid h
    obtain rfl : 4 = E := by have := HE.out; rw [stB_bad h] at this; simpa using this
    clear h
    go_enter Try.func49, Try.ntmps49
    go_wp2_with (go_at_call 81; refine (name_bad _ _ HH.out).mono ?_; rintro e w' ⟨rfl, rfl⟩)
    go_ret
    exact ⟨rfl, gAlloc (Below.refl _ _) _⟩
  · have eq0 := fun w => eqWay ⟨0, n, a, b, c, d⟩ wy0 w
    simp only [wy0, Wy.val] at eq0
    cases N
    · obtain rfl : 4 = E := by simpa using HE.out
      go_enter Try.func49, Try.ntmps49
      go_wp2_with (first | (go_at_call 73; refine (isLine_any _ _).mono ?_; rintro e w' ⟨rfl, rfl⟩; rw [hn]) | (go_at_call 81; go_in))
      go_ret
      exact ⟨rfl, gAlloc (Below.refl _ _) _⟩
    · by_cases hz : (⟨0, n, a, b, c, d⟩ : Wy) = wy0
      · obtain rfl : 0 = E := by have := HE.out; rw [if_pos ⟨rfl, rfl⟩, if_neg (fun k => k.2 hz)] at this; exact this
        have hq : eqW ⟨0, n, a, b, c, d⟩ ⟨0, 0, 0, 0, 0, 0⟩ = true := (eqW_iff _ _).2 hz
        clear hz
        go_enter Try.func49, Try.ntmps49
        go_wp2_with (first | (go_at_call 73; refine (isLine_any _ _).mono ?_; rintro e w' ⟨rfl, rfl⟩; rw [hn]) | (go_at_call 81; go_in))
        go_ret
        exact ⟨rfl, gAlloc (Below.refl _ _) _⟩
      · obtain rfl : 3 = E := by have := HE.out; rw [if_pos ⟨rfl, rfl⟩, if_pos ⟨rfl, hz⟩] at this; exact this
        have hq : eqW ⟨0, n, a, b, c, d⟩ ⟨0, 0, 0, 0, 0, 0⟩ = false := by
          cases e : eqW ⟨0, n, a, b, c, d⟩ ⟨0, 0, 0, 0, 0, 0⟩
          · rfl
          · exact absurd ((eqW_iff _ _).1 e) hz
        clear hz
        go_enter Try.func49, Try.ntmps49
        go_wp2_with (first | (go_at_call 73; refine (isLine_any _ _).mono ?_; rintro e w' ⟨rfl, rfl⟩; rw [hn]) | (go_at_call 81; go_in))
        go_ret
        exact ⟨rfl, gAlloc (Below.refl _ _) _⟩
  all_goals
    cases N
    all_goals
      have he := HE.out
      simp [stB] at he
      subst he
      go_enter Try.func49, Try.ntmps49
      go_wp2_with (first | (go_at_call 73; refine (isLine_any _ _).mono ?_; rintro e w' ⟨rfl, rfl⟩; rw [hn]) | (go_at_call 81; go_in))
      go_ret
      exact ⟨rfl, gAlloc (Below.refl _ _) _⟩
end Go.Proofs.Ytmodajmjmdigfaa
