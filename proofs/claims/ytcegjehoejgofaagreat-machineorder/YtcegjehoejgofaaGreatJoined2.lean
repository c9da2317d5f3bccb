/-
Proved: what the texts below say at the head of each. No condition but theirs.
-/
import Derived.Test.YtcegjehoejgofaaGreatJoined1
import Derived.Deep.RegionHeld3
import Derived.Laws.MakeOwn
namespace Go.Proofs.YtcegjehoejgofaaGreat
open Go.ChangeShapes Go.WideShapes Go.ChangeAt Go.RowKit Go.Joins
def stB (s : Int) : Bool := decide (0 ≤ s ∧ s ≤ 4)
def rdB (s : Int) : Bool := decide (1 ≤ s ∧ s ≤ 4)
def wrB (s : Int) : Bool := decide (s = 2 ∨ s = 4)
def owB (s : Int) : Bool := decide (s = 3 ∨ s = 4)
def bsB (s t : Int) : Bool := decide ((0 ≤ s ∧ s ≤ 4) ∧ (0 ≤ t ∧ t ≤ 4) ∧ (s = 0 ∨ t = 0 ∨ (s = 1 ∧ t = 1) ∨ (s = 1 ∧ t = 3) ∨ (s = 3 ∧ t = 1)))
def loS (s : Int) (alone : Bool) : Int := if rdB s = true then s else if alone = true then 2 else 1
def saS (s : Int) : Int := if s = 2 then 1 else if s = 4 then 3 else s
def ownS (s k : Int) (alone : Bool) : Int := if stB s = true then (if k = 1 then loS s alone else if k = 2 ∨ k = 3 then 4 else 0) else 0
def otS (s k : Int) : Int := if stB s = true then (if k = 1 then saS s else if k = 4 then s else 0) else 0
def stE (s k : Int) : Int := if stB s = true ∧ 1 ≤ k ∧ k ≤ 4 then 0 else 1
theorem five (s : Int) : (s = 0 ∨ s = 1 ∨ s = 2 ∨ s = 3 ∨ s = 4) ∨ s < 0 ∨ (0 ≤ s ∧ 4 < s) := by omega
theorem stB_bad {s : Int} (h : s < 0 ∨ (0 ≤ s ∧ 4 < s)) : stB s = false := decide_eq_false (by omega)
theorem isState_any (s : Int) (w : World) :
  Calls Tryz.prog 97 #[.int .i64 s] w fun e w' => e = .returned (.bool (stB s)) ∧ w = w' := by
 rcases five s with (rfl | rfl | rfl | rfl | rfl) | h | ⟨h, h'⟩
 rotate_left 5
 ·rw [stB_bad (.inl h)]
  have d : decide (0 ≤ s) = false := decide_eq_false (by omega)
  clear h
  go_enter Tryz.func97, Tryz.ntmps97
  go_wp2
  go_ret
  exact ⟨rfl, rfl⟩
 ·rw [stB_bad (.inr ⟨h, h'⟩)]
  have d1 : decide (0 ≤ s) = true := decide_eq_true (by omega)
  have d : decide (s ≤ 4) = false := decide_eq_false (by omega)
  clear h h'
  go_enter Tryz.func97, Tryz.ntmps97
  go_wp2
  go_ret
  exact ⟨rfl, rfl⟩
 all_goals
  go_enter Tryz.func97, Tryz.ntmps97
  go_wp2
  go_ret
  exact ⟨rfl, rfl⟩
theorem apart (s : Int) (h : s < 0 ∨ (0 ≤ s ∧ 4 < s)) : (s == 0) = false ∧ (s == 1) = false ∧ (s == 2) = false ∧ (s == 3) = false ∧ (s == 4) = false := by
 refine ⟨?_, ?_, ?_, ?_, ?_⟩ <;> simp <;> omega
theorem reads_any (s : Int) (w : World) :
  Calls Tryz.prog 140 #[.int .i64 s] w fun e w' => e = .returned (.bool (rdB s)) ∧ w = w' := by
 rcases five s with (rfl | rfl | rfl | rfl | rfl) | h
 rotate_left 5
 ·have hr : rdB s = false := decide_eq_false (by omega)
  rw [hr]
  have hs := stB_bad h
  clear h hr
  go_enter Tryz.func140, Tryz.ntmps140
  go_wp2_with (go_at_call 97; refine (isState_any _ _).mono ?_; rintro e w' ⟨rfl, rfl⟩; rw [hs])
  go_ret
  exact ⟨rfl, rfl⟩
 all_goals
  go_enter Tryz.func140, Tryz.ntmps140
  go_wp2
  go_ret
  exact ⟨rfl, rfl⟩
theorem writes_any (s : Int) (w : World) :
  Calls Tryz.prog 141 #[.int .i64 s] w fun e w' => e = .returned (.bool (wrB s)) ∧ w = w' := by
 rcases five s with (rfl | rfl | rfl | rfl | rfl) | h
 rotate_left 5
 ·have hr : wrB s = false := decide_eq_false (by omega)
  rw [hr]
  obtain ⟨_, _, h2, _, h4⟩ := apart s h
  clear h hr
  go_enter Tryz.func141, Tryz.ntmps141
  go_wp2
  go_ret
  exact ⟨rfl, rfl⟩
 all_goals
  go_enter Tryz.func141, Tryz.ntmps141
  go_wp2
  go_ret
  exact ⟨rfl, rfl⟩
theorem owns_any (s : Int) (w : World) :
  Calls Tryz.prog 99 #[.int .i64 s] w fun e w' => e = .returned (.bool (owB s)) ∧ w = w' := by
 rcases five s with (rfl | rfl | rfl | rfl | rfl) | h
 rotate_left 5
 ·have hr : owB s = false := decide_eq_false (by omega)
  rw [hr]
  obtain ⟨_, _, _, h3, h4⟩ := apart s h
  clear h hr
  go_enter Tryz.func99, Tryz.ntmps99
  go_wp2
  go_ret
  exact ⟨rfl, rfl⟩
 all_goals
  go_enter Tryz.func99, Tryz.ntmps99
  go_wp2
  go_ret
  exact ⟨rfl, rfl⟩
set_option maxHeartbeats 4000000 in
theorem beside_any (s t : Int) (w : World) :
  Calls Tryz.prog 77 #[.int .i64 s, .int .i64 t] w fun e w' => e = .returned (.bool (bsB s t)) ∧ w = w' := by
 by_cases hs : s < 0 ∨ (0 ≤ s ∧ 4 < s)
 ·have hr : bsB s t = false := decide_eq_false (by omega)
  rw [hr]
  have h := stB_bad hs
  clear hs hr
  go_enter Tryz.func77, Tryz.ntmps77
  go_wp2_with (go_at_call 97; refine (isState_any _ _).mono ?_; rintro e w' ⟨rfl, rfl⟩; rw [h])
  go_ret
  exact ⟨rfl, rfl⟩
 have hs' : s = 0 ∨ s = 1 ∨ s = 2 ∨ s = 3 ∨ s = 4 := by omega
 clear hs
 by_cases ht : t < 0 ∨ (0 ≤ t ∧ 4 < t)
 ·have hr : bsB s t = false := decide_eq_false (by omega)
  rw [hr]
  have h := stB_bad ht
  have k : stB s = true := decide_eq_true (by omega)
  clear hs' ht hr
  go_enter Tryz.func77, Tryz.ntmps77
  go_wp2_with (go_at_call 97; refine (isState_any _ _).mono ?_; rintro e w' ⟨rfl, rfl⟩; first | rw [h] | rw [k])
  go_ret
  exact ⟨rfl, rfl⟩
 have ht' : t = 0 ∨ t = 1 ∨ t = 2 ∨ t = 3 ∨ t = 4 := by omega
 clear ht
 rcases hs' with rfl | rfl | rfl | rfl | rfl <;> rcases ht' with rfl | rfl | rfl | rfl | rfl
 all_goals
  go_enter Tryz.func77, Tryz.ntmps77
  go_wp2
  go_ret
  exact ⟨rfl, rfl⟩
theorem loaded_any (s : Int) (a : Bool) (w : World) :
  Calls Tryz.prog 155 #[.int .i64 s, .bool a] w fun e w' => e = .returned (.int .i64 (loS s a)) ∧ w = w' := by
 unfold loS
 generalize hr : rdB s = b
 cases b <;> cases a
 all_goals
  go_enter Tryz.func155, Tryz.ntmps155
  go_wp2_with (go_at_call 140; refine (reads_any _ _).mono ?_; rintro e w' ⟨rfl, rfl⟩; rw [hr])
  go_ret
  exact ⟨rfl, rfl⟩
theorem own_any (s k : Int) (a : Bool) (w : World) :
  Calls Tryz.prog 134 #[.int .i64 s, .int .i64 k, .bool a] w fun e w' => e = .returned (.tuple #[.int .i64 (ownS s k a), .int .i64 (stE s k)]) ∧ w = w' := by
 have L := Lib.hid fun W => loaded_any s a W
 generalize ho : ownS s k a = o
 generalize he : stE s k = e
 unfold ownS at ho
 unfold stE at he
 generalize loS s a = l at L ho
 generalize hr : stB s = b at ho he
 cases b
 ·obtain rfl : 0 = o := by simpa using ho
  obtain rfl : 1 = e := by simpa using he
  clear ho he
  go_enter Tryz.func134, Tryz.ntmps134
  go_wp2_with (go_at_call 97; refine (isState_any _ _).mono ?_; rintro e w' ⟨rfl, rfl⟩; rw [hr])
  go_ret2
  exact ⟨rfl, rfl⟩
 by_cases h1 : k = 1
 ·subst h1
  obtain rfl : l = o := by simpa using ho
  obtain rfl : 0 = e := by simpa using he
  clear ho he
  go_enter Tryz.func134, Tryz.ntmps134
  go_wp2_with (first | (go_at_call 97; refine (isState_any _ _).mono ?_; rintro e w' ⟨rfl, rfl⟩; rw [hr]) | (go_at_call 155; refine (L.out _).mono ?_; rintro e w' ⟨rfl, rfl⟩))
  go_ret2
  exact ⟨rfl, rfl⟩
 by_cases h2 : k = 2 ∨ k = 3 ∨ k = 4
 ·rcases h2 with rfl | rfl | rfl
  all_goals
   simp at ho he
   subst ho he
   clear h1
   go_enter Tryz.func134, Tryz.ntmps134
   go_wp2_with (go_at_call 97; refine (isState_any _ _).mono ?_; rintro e w' ⟨rfl, rfl⟩; rw [hr])
   go_ret2
   exact ⟨rfl, rfl⟩
 ·have e1 : (k == 1) = false := by simp; omega
  have e2 : (k == 2) = false := by simp; omega
  have e3 : (k == 3) = false := by simp; omega
  have e4 : (k == 4) = false := by simp; omega
  obtain rfl : 0 = o := by rw [if_pos rfl, if_neg h1, if_neg (by omega)] at ho; exact ho
  obtain rfl : 1 = e := by rw [if_neg (by omega)] at he; exact he
  clear ho he h1 h2
  go_enter Tryz.func134, Tryz.ntmps134
  go_wp2_with (go_at_call 97; refine (isState_any _ _).mono ?_; rintro e w' ⟨rfl, rfl⟩; rw [hr])
  go_ret2
  exact ⟨rfl, rfl⟩
theorem shared_any (s : Int) (w : World) :
  Calls Tryz.prog 172 #[.int .i64 s] w fun e w' => e = .returned (.int .i64 (saS s)) ∧ w = w' := by
 by_cases h2 : s = 2
 ·subst h2
  go_enter Tryz.func172, Tryz.ntmps172
  go_wp2
  go_ret
  exact ⟨rfl, rfl⟩
 by_cases h4 : s = 4
 ·subst h4
  go_enter Tryz.func172, Tryz.ntmps172
  go_wp2
  go_ret
  exact ⟨rfl, rfl⟩
 have e : saS s = s := by unfold saS; rw [if_neg h2, if_neg h4]
 rw [e]
 have e2 : (s == 2) = false := by simpa using h2
 have e4 : (s == 4) = false := by simpa using h4
 clear h2 h4 e
 go_enter Tryz.func172, Tryz.ntmps172
 go_wp2
 go_ret
 exact ⟨rfl, rfl⟩
theorem other_any (s k : Int) (w : World) :
  Calls Tryz.prog 161 #[.int .i64 s, .int .i64 k] w fun e w' => e = .returned (.tuple #[.int .i64 (otS s k), .int .i64 (stE s k)]) ∧ w = w' := by
 have L := Lib.hid fun W => shared_any s W
 generalize ho : otS s k = o
 generalize he : stE s k = e
 unfold otS at ho
 unfold stE at he
 generalize saS s = l at L ho
 generalize hr : stB s = b at ho he
 cases b
 ·obtain rfl : 0 = o := by simpa using ho
  obtain rfl : 1 = e := by simpa using he
  clear ho he
  go_enter Tryz.func161, Tryz.ntmps161
  go_wp2_with (go_at_call 97; refine (isState_any _ _).mono ?_; rintro e w' ⟨rfl, rfl⟩; rw [hr])
  go_ret2
  exact ⟨rfl, rfl⟩
 by_cases h1 : k = 1
 ·subst h1
  obtain rfl : l = o := by simpa using ho
  obtain rfl : 0 = e := by simpa using he
  clear ho he
  go_enter Tryz.func161, Tryz.ntmps161
  go_wp2_with (first | (go_at_call 97; refine (isState_any _ _).mono ?_; rintro e w' ⟨rfl, rfl⟩; rw [hr]) | (go_at_call 172; refine (L.out _).mono ?_; rintro e w' ⟨rfl, rfl⟩))
  go_ret2
  exact ⟨rfl, rfl⟩
 by_cases h2 : k = 2 ∨ k = 3 ∨ k = 4
 ·rcases h2 with rfl | rfl | rfl
  all_goals
   simp at ho he
   subst ho he
   clear h1
   go_enter Tryz.func161, Tryz.ntmps161
   go_wp2_with (go_at_call 97; refine (isState_any _ _).mono ?_; rintro e w' ⟨rfl, rfl⟩; rw [hr])
   go_ret2
   exact ⟨rfl, rfl⟩
 ·have e1 : (k == 1) = false := by simp; omega
  have e2 : (k == 2) = false := by simp; omega
  have e3 : (k == 3) = false := by simp; omega
  have e4 : (k == 4) = false := by simp; omega
  obtain rfl : 0 = o := by rw [if_pos rfl, if_neg h1, if_neg (by omega)] at ho; exact ho
  obtain rfl : 1 = e := by rw [if_neg (by omega)] at he; exact he
  clear ho he h1 h2
  go_enter Tryz.func161, Tryz.ntmps161
  go_wp2_with (go_at_call 97; refine (isState_any _ _).mono ?_; rintro e w' ⟨rfl, rfl⟩; rw [hr])
  go_ret2
  exact ⟨rfl, rfl⟩
end Go.Proofs.YtcegjehoejgofaaGreat
namespace Go.Proofs.YtcegjehoejgofaaGreat
open Go.ChangeShapes Go.WideShapes Go.ChangeAt Go.RowKit Go.Joins
structure Wy where
 st : Int
 ln : Int
 a : Int
 b : Int
 c : Int
 d : Int
def eqW (x y : Wy) : Bool := x.st == y.st && (x.ln == y.ln && (x.a == y.a && (x.b == y.b && (x.c == y.c && x.d == y.d))))
theorem eqW_iff (x y : Wy) : eqW x y = true ↔ x = y := by
 obtain ⟨a, b, c, d, e, f⟩ := x
 obtain ⟨a', b', c', d', e', f'⟩ := y
 simp [eqW]
instance : DecidableEq Wy := fun x y => decidable_of_iff (eqW x y = true) (eqW_iff x y)
abbrev Wy.val (x : Wy) : Value := .agg #[.int .i64 x.st, .int .i64 x.ln, .int .u64 x.a, .int .u64 x.b, .int .u64 x.c, .int .u64 x.d]
abbrev Wy.arr (x : Wy) : Array Value := #[.int .i64 x.st, .int .i64 x.ln, .int .u64 x.a, .int .u64 x.b, .int .u64 x.c, .int .u64 x.d]
abbrev rowA (v : Value) (a b c : Bool) : Array Value := #[v, .bool a, .bool b, .bool c]
abbrev rowV (v : Value) (a b c : Bool) : Value := .agg (rowA v a b c)
abbrev zeroA : Array Value := #[.int .i64 0, .int .i64 0, .int .u64 0, .int .u64 0, .int .u64 0, .int .u64 0]
abbrev zeroV : Value := .agg zeroA
abbrev noRow : Value := rowV (.slice none 0 0) false false false
def Wy.cells (x : Wy) : List Value := [.int .i64 x.st, .int .i64 x.ln, .int .u64 x.a, .int .u64 x.b, .int .u64 x.c, .int .u64 x.d]
def waysC (l : List Wy) : List Value := l.flatMap Wy.cells
theorem waysC_length (l : List Wy) : (waysC l).length = l.length * 6 := by
 induction l with
 | nil => rfl
 | cons x r ih => simp only [waysC, List.flatMap_cons, List.length_append, List.length_cons] at *; rw [ih]; simp [Wy.cells]; omega
theorem waysC_at {l : List Wy} {k : Nat} {x : Wy} (h : l[k]? = some x) (j : Nat) (hj : j < 6) : (waysC l)[k * 6 + j]? = x.cells[j]? := by
 induction l generalizing k with
 | nil => simp at h
 | cons y r ih =>
  have hy : y.cells.length = 6 := rfl
  simp only [waysC, List.flatMap_cons] at *
  cases k with
  | zero =>
   simp at h
   subst h
   rw [List.getElem?_append_left (by omega)]
   simp
  | succ k =>
   rw [List.getElem?_append_right (by omega), hy]
   have : (k + 1) * 6 + j - 6 = k * 6 + j := by omega
   rw [this]
   exact ih (by simpa using h)
structure Ws (w : World) (v : Value) (l : List Wy) : Prop where
 sl : Sl w w.heap.size 6 v l.length (waysC l)
theorem Ws.call {w w' : World} {v : Value} {l : List Wy} (h : Ws w v l) (hb : Below w.heap.size w w') : Ws w' v l := ⟨Sl.call h.sl hb⟩
theorem Ws.alloc {w : World} {v : Value} {l : List Wy} (h : Ws w v l) (o : Obj) : Ws (w.alloc o) v l := h.call (gAlloc (Below.refl _ _) o)
theorem Ws.drew {w : World} {v : Value} {l : List Wy} (h : Ws w v l) : Ws w.drew v l := h.call (Below.refl _ _).drew
theorem Ws.nil (w : World) : Ws w (.slice none 0 0) [] := ⟨rfl, none, 0, rfl, Nat.le_refl _, Nat.zero_le _, fun h => absurd h (Nat.lt_irrefl 0)⟩
def WayAt (w : World) (b o : Nat) (x : Wy) : Prop :=
 w.cell? ⟨b, o, none⟩ = some (.int .i64 x.st) ∧ w.cell? ⟨b, o + 1, none⟩ = some (.int .i64 x.ln) ∧ w.cell? ⟨b, o + 2, none⟩ = some (.int .u64 x.a) ∧
 w.cell? ⟨b, o + 3, none⟩ = some (.int .u64 x.b) ∧ w.cell? ⟨b, o + 4, none⟩ = some (.int .u64 x.c) ∧ w.cell? ⟨b, o + 5, none⟩ = some (.int .u64 x.d)
theorem wayAt_of {w w' : World} {b o B : Nat} {l : List Wy} {k : Nat} {x : Wy} (hc : ∀ j u, (waysC l)[j]? = some u → w.cell? ⟨b, o + j, none⟩ = some u) (hb : b < B) (low : Below B w w') (h : l[k]? = some x) : WayAt w' b (o + k * 6) x := by
 have f : ∀ j u, j < 6 → x.cells[j]? = some u → w'.cell? ⟨b, o + k * 6 + j, none⟩ = some u := by
  intro j u hj hu
  refine (low.cell (p := ⟨b, o + k * 6 + j, none⟩) hb).trans ?_
  rw [Nat.add_assoc]
  exact hc _ _ ((waysC_at h j hj).trans hu)
 exact ⟨f 0 _ (by omega) rfl, f 1 _ (by omega) rfl, f 2 _ (by omega) rfl, f 3 _ (by omega) rfl, f 4 _ (by omega) rfl, f 5 _ (by omega) rfl⟩
def idxP (p : Wy → Bool) (l : List Wy) : Int := match l.findIdx? p with | some k => k | none => -1
theorem idxP_none {p : Wy → Bool} {l : List Wy} (h : ∀ (k : Nat) x, l[k]? = some x → p x = false) : idxP p l = -1 := by
 have : l.findIdx? p = none := by
  rw [List.findIdx?_eq_none_iff]
  intro x hx
  obtain ⟨k, hk, e⟩ := List.getElem_of_mem hx
  exact h k x (by rw [List.getElem?_eq_getElem hk, e])
 rw [idxP, this]
theorem idxP_some {p : Wy → Bool} {l : List Wy} {k : Nat} {x : Wy} (h : ∀ j y, j < k → l[j]? = some y → p y = false) (hk : l[k]? = some x) (hp : p x = true) : idxP p l = k := by
 have : l.findIdx? p = some k := by
  rw [List.findIdx?_eq_some_iff_getElem]
  obtain ⟨hlt, e⟩ := List.getElem?_eq_some_iff.1 hk
  refine ⟨hlt, by rw [e]; exact hp, fun j hj => ?_⟩
  rw [h j _ hj (List.getElem?_eq_getElem (by omega))]
  decide
 rw [idxP, this]
theorem upto {p : Wy → Bool} {l : List Wy} {k : Nat} {x : Wy} (h : ∀ j y, j < k → l[j]? = some y → p y = false) (hk : l[k]? = some x) (hp : p x = false) : ∀ j y, j < k + 1 → l[j]? = some y → p y = false := by
 intro j y hj hy
 by_cases e : j < k
 ·exact h j y e hy
 ·obtain rfl : j = k := by omega
  rw [hk] at hy
  cases hy
  exact hp
theorem all_upto {p : Wy → Bool} {l : List Wy} {k : Nat} (h : ∀ j y, j < k → l[j]? = some y → p y = false) (hk : ¬ k < l.length) : ∀ (j : Nat) y, l[j]? = some y → p y = false := by
 intro j y hy
 obtain ⟨hj, _⟩ := List.getElem?_eq_some_iff.1 hy
 exact h j y (by omega) hy
theorem idxP_cases (p : Wy → Bool) (l : List Wy) : (idxP p l = -1 ∧ ∀ x ∈ l, p x = false) ∨ ∃ k x, idxP p l = (k : Nat) ∧ l[k]? = some x ∧ p x = true ∧ ∀ j y, j < k → l[j]? = some y → p y = false := by
 cases e : l.findIdx? p with
 | none =>
  refine .inl ⟨by rw [idxP, e], ?_⟩
  rw [List.findIdx?_eq_none_iff] at e
  exact e
 | some k =>
  refine .inr ?_
  have e' := e
  rw [List.findIdx?_eq_some_iff_getElem] at e
  obtain ⟨hk, e1, e2⟩ := e
  refine ⟨k, l[k], by rw [idxP, e'], List.getElem?_eq_getElem hk, e1, fun j y hj hy => ?_⟩
  obtain ⟨hlt, rfl⟩ := List.getElem?_eq_some_iff.1 hy
  simpa using e2 j hj
def hasW (n : Int) (x : Wy) : Bool := x.st != 0 && x.ln == n
def empW (x : Wy) : Bool := x.st == 0
set_option maxHeartbeats 1000000 in
theorem find_any (v : Value) (l : List Wy) (n : Int) (w : World) (h : Ws w v l) :
  Calls Tryz.prog 165 #[v, .int .i64 n] w fun e w' => e = .returned (.int .i64 (idxP (hasW n) l)) ∧ Below w.heap.size w w' := by
 obtain ⟨hl, A, c, rfl, h1, h2, h3⟩ := h
 have H3 := Lib.hid h3
 unfold maxLen at h2
 clear hl h3
 go_enter Tryz.func165, Tryz.ntmps165
 go_wp2
 go_loopw [9] (fun i wr => ∃ k : Nat, k ≤ l.length ∧ i = .int .i64 k ∧ Hid (∀ j x, j < k → l[j]? = some x → hasW n x = false) ∧ Below w.heap.size w wr) (fun i _ => l.length - (intOf i).toNat)
 case atStart => exact ⟨0, Nat.zero_le _, rfl, Lib.hid fun j x hj => absurd hj (by omega), Below.refl _ _⟩
 case round =>
  obtain ⟨k, hk, rfl, hno, low⟩ := hrel
  by_cases hlt : k < l.length
  ·obtain ⟨b, o, rfl, hb, hc⟩ := H3.out (by omega)
   have hx : l[k]? = some l[k] := List.getElem?_eq_getElem _
   generalize l[k] = x at hx
   obtain ⟨c0, c1, c2, c3, c4, c5⟩ := wayAt_of hc hb low hx
   have HX := Lib.hid hx
   clear hx hc
   cases he : (x.st != 0)
   rotate_left
   cases hn : (x.ln == n)
   rotate_left
   ·have HW := Lib.hid (show hasW n x = true by simp [hasW, he, hn])
    go_wp2
    go_ret
    exact ⟨by rw [idxP_some hno.out HX.out HW.out]; rfl, gAlloc low _⟩
   all_goals
    have HW := Lib.hid (show hasW n x = false by simp [hasW, he] <;> simpa using hn)
    go_wp2
    go_roundw
    case rel => exact ⟨k + 1, by omega, by go_num, Lib.hid (upto hno.out HX.out HW.out), gAlloc low _⟩
    case measure => simp [intOf]; omega
  ·go_wp2
   go_ret
   exact ⟨by rw [idxP_none (all_upto hno.out hlt)]; rfl, low⟩
def lnB (n : Int) : Bool := decide (0 ≤ n ∧ n < 16)
def hlB (x : Wy) : Bool := rdB x.st && lnB x.ln
theorem isLine_any (n : Int) (w : World) : Calls Tryz.prog 177 #[.int .i64 n] w fun e w' => e = .returned (.bool (lnB n)) ∧ w = w' := by
 unfold lnB
 by_cases h0 : 0 ≤ n
 ·by_cases h1 : n < 16
  all_goals
   go_enter Tryz.func177, Tryz.ntmps177
   go_wp2
   go_ret
   exact ⟨by simp <;> omega, rfl⟩
 ·go_enter Tryz.func177, Tryz.ntmps177
  go_wp2
  go_ret
  exact ⟨by simp <;> omega, rfl⟩
theorem hasLine_any (x : Wy) (w : World) : Calls Tryz.prog 169 #[x.val] w fun e w' => e = .returned (.bool (hlB x)) ∧ Below w.heap.size w w' := by
 unfold hlB
 cases hr : rdB x.st <;> cases hn : lnB x.ln
 all_goals
  go_enter Tryz.func169, Tryz.ntmps169
  go_wp2_with (first | (go_at_call 140; refine (reads_any _ _).mono ?_; rintro e w' ⟨rfl, rfl⟩; rw [hr]) | (go_at_call 177; refine (isLine_any _ _).mono ?_; rintro e w' ⟨rfl, rfl⟩; rw [hn]))
  go_ret
  exact ⟨rfl, gAlloc (Below.refl _ _) _⟩
theorem eqWay (x y : Wy) (w : World) : (Op.equalIn 10000 114 x.val y.val).run Tryz.prog w = .ok (eqW x y) w := by
 have := equal_flat (P := Tryz.prog) 3 114 [.int .i64, .int .i64, .int .u64, .int .u64, .int .u64, .int .u64] (by kernel_rfl) (by kernel_rfl) 10000 (by omega) w x.cells y.cells x.val y.val
  ⟨⟨_, rfl⟩, ⟨_, rfl⟩, ⟨_, rfl⟩, ⟨_, rfl⟩, ⟨_, rfl⟩, ⟨_, rfl⟩, trivial⟩ ⟨⟨_, rfl⟩, ⟨_, rfl⟩, ⟨_, rfl⟩, ⟨_, rfl⟩, ⟨_, rfl⟩, ⟨_, rfl⟩, trivial⟩ (by simp [ValIs, Tryz.underlying114, Wy.cells]) (by simp [ValIs, Tryz.underlying114, Wy.cells])
 simpa [eqCells, scEq, Wy.cells, eqW] using this
def wy0 : Wy := ⟨0, 0, 0, 0, 0, 0⟩
def wayE (x : Wy) : Int := if stB x.st = true ∧ lnB x.ln = true then (if x.st = 0 ∧ x ≠ wy0 then 3 else 0) else 4
theorem name_bad (s : Int) (w : World) (h : s < 0 ∨ (0 ≤ s ∧ 4 < s)) : Calls Tryz.prog 176 #[.int .i64 s] w fun e w' => e = .returned (.string ⟨#[]⟩) ∧ w = w' := by
 obtain ⟨h0, h1, h2, h3, h4⟩ := apart s h
 clear h
 go_enter Tryz.func176, Tryz.ntmps176
 go_wp2
 go_ret
 exact ⟨rfl, rfl⟩
theorem checkWay_any (x : Wy) (w : World) : Calls Tryz.prog 164 #[x.val] w fun e w' => e = .returned (.int .i64 (wayE x)) ∧ Below w.heap.size w w' := by
 obtain ⟨s, n, a, b, c, d⟩ := x
 generalize he : wayE ⟨s, n, a, b, c, d⟩ = E
 unfold wayE at he
 simp only at he
 generalize hn : lnB n = N at he
 have HE := Lib.hid he
 clear he
 rcases five s with (rfl | rfl | rfl | rfl | rfl) | h
 rotate_left 5
 ·have HH := Lib.hid h
  obtain rfl : 4 = E := by have := HE.out; rw [stB_bad h] at this; simpa using this
  clear h
  go_enter Tryz.func164, Tryz.ntmps164
  go_wp2_with (go_at_call 176; refine (name_bad _ _ HH.out).mono ?_; rintro e w' ⟨rfl, rfl⟩)
  go_ret
  exact ⟨rfl, gAlloc (Below.refl _ _) _⟩
 ·have eq0 := fun w => eqWay ⟨0, n, a, b, c, d⟩ wy0 w
  simp only [wy0, Wy.val] at eq0
  cases N
  ·obtain rfl : 4 = E := by simpa using HE.out
   go_enter Tryz.func164, Tryz.ntmps164
   go_wp2_with (first | (go_at_call 177; refine (isLine_any _ _).mono ?_; rintro e w' ⟨rfl, rfl⟩; rw [hn]) | (go_at_call 176; go_in))
   go_ret
   exact ⟨rfl, gAlloc (Below.refl _ _) _⟩
  ·by_cases hz : (⟨0, n, a, b, c, d⟩ : Wy) = wy0
   ·obtain rfl : 0 = E := by have := HE.out; rw [if_pos ⟨rfl, rfl⟩, if_neg (fun k => k.2 hz)] at this; exact this
    have hq : eqW ⟨0, n, a, b, c, d⟩ ⟨0, 0, 0, 0, 0, 0⟩ = true := (eqW_iff _ _).2 hz
    clear hz
    go_enter Tryz.func164, Tryz.ntmps164
    go_wp2_with (first | (go_at_call 177; refine (isLine_any _ _).mono ?_; rintro e w' ⟨rfl, rfl⟩; rw [hn]) | (go_at_call 176; go_in))
    go_ret
    exact ⟨rfl, gAlloc (Below.refl _ _) _⟩
   ·obtain rfl : 3 = E := by have := HE.out; rw [if_pos ⟨rfl, rfl⟩, if_pos ⟨rfl, hz⟩] at this; exact this
    have hq : eqW ⟨0, n, a, b, c, d⟩ ⟨0, 0, 0, 0, 0, 0⟩ = false := by
     cases e : eqW ⟨0, n, a, b, c, d⟩ ⟨0, 0, 0, 0, 0, 0⟩
     ·rfl
     ·exact absurd ((eqW_iff _ _).1 e) hz
    clear hz
    go_enter Tryz.func164, Tryz.ntmps164
    go_wp2_with (first | (go_at_call 177; refine (isLine_any _ _).mono ?_; rintro e w' ⟨rfl, rfl⟩; rw [hn]) | (go_at_call 176; go_in))
    go_ret
    exact ⟨rfl, gAlloc (Below.refl _ _) _⟩
 all_goals
  cases N
  all_goals
   have he := HE.out
   simp [stB] at he
   subst he
   go_enter Tryz.func164, Tryz.ntmps164
   go_wp2_with (first | (go_at_call 177; refine (isLine_any _ _).mono ?_; rintro e w' ⟨rfl, rfl⟩; rw [hn]) | (go_at_call 176; go_in))
   go_ret
   exact ⟨rfl, gAlloc (Below.refl _ _) _⟩
end Go.Proofs.YtcegjehoejgofaaGreat
namespace Go.Proofs.YtcegjehoejgofaaGreat
open Go.ChangeShapes Go.WideShapes Go.ChangeAt Go.RowKit Go.Joins
def treeB (a b c : Bool) (n : Int) : Bool := (!a || decide (2 ≤ n)) && (!b || decide (3 ≤ n)) && (!c || decide (n = 4))
def treeE (a b c : Bool) (n : Int) : Int := if n < 1 ∨ 4 < n then 4 else if treeB a b c n then 0 else 3
theorem usesTop_any (n : Int) (w : World) : Calls Tryz.prog 173 #[.int .i64 n] w fun e w' => e = .returned (.bool (decide (2 ≤ n))) ∧ w = w' := by
 go_enter Tryz.func173, Tryz.ntmps173
 go_wp2
 go_ret
 exact ⟨rfl, rfl⟩
theorem usesLow_any (n : Int) (w : World) : Calls Tryz.prog 174 #[.int .i64 n] w fun e w' => e = .returned (.bool (decide (3 ≤ n))) ∧ w = w' := by
 go_enter Tryz.func174, Tryz.ntmps174
 go_wp2
 go_ret
 exact ⟨rfl, rfl⟩
theorem usesHigh_any (n : Int) (w : World) : Calls Tryz.prog 175 #[.int .i64 n] w fun e w' => e = .returned (.bool (n == 4)) ∧ w = w' := by
 go_enter Tryz.func175, Tryz.ntmps175
 go_wp2
 go_ret
 exact ⟨rfl, rfl⟩
theorem plruCheck_out (a b c : Bool) (n : Int) (w : World) (h : n < 1 ∨ 4 < n) :
  Calls Tryz.prog 163 #[tree a b c, .int .i64 n] w fun e w' => e = .returned (.int .i64 4) ∧ Below w.heap.size w w' := by
 by_cases h1 : n < 1
 ·clear h
  go_enter Tryz.func163, Tryz.ntmps163
  go_wp2
  go_ret
  exact ⟨rfl, gAlloc (Below.refl _ _) _⟩
 ·have h2 : 4 < n := by omega
  clear h
  go_enter Tryz.func163, Tryz.ntmps163
  go_wp2
  go_ret
  exact ⟨rfl, gAlloc (Below.refl _ _) _⟩
set_option maxHeartbeats 4000000 in
theorem plruCheck_in (a b c : Bool) (n : Int) (w : World) (h : n = 1 ∨ n = 2 ∨ n = 3 ∨ n = 4) :
  Calls Tryz.prog 163 #[tree a b c, .int .i64 n] w fun e w' => e = .returned (.int .i64 (if treeB a b c n then 0 else 3)) ∧ Below w.heap.size w w' := by
 rcases h with rfl | rfl | rfl | rfl
 all_goals
  cases a <;> cases b <;> cases c
  all_goals
   simp only [treeB]
   go_enter Tryz.func163, Tryz.ntmps163
   go_wp2_with (first
    | (go_at_call 173; refine (usesTop_any _ _).mono ?_; rintro e w' ⟨rfl, rfl⟩)
    | (go_at_call 174; refine (usesLow_any _ _).mono ?_; rintro e w' ⟨rfl, rfl⟩)
    | (go_at_call 175; refine (usesHigh_any _ _).mono ?_; rintro e w' ⟨rfl, rfl⟩))
   go_ret
   exact ⟨rfl, gAlloc (Below.refl _ _) _⟩
theorem plruCheck_any (a b c : Bool) (n : Int) (w : World) :
  Calls Tryz.prog 163 #[tree a b c, .int .i64 n] w fun e w' => e = .returned (.int .i64 (treeE a b c n)) ∧ Below w.heap.size w w' := by
 unfold treeE
 by_cases h : n < 1 ∨ 4 < n
 ·rw [if_pos h]; exact plruCheck_out a b c n w h
 ·rw [if_neg h]; exact plruCheck_in a b c n w (by omega)
def touchT (_a b c : Bool) (n k : Int) : Bool × Bool × Bool :=
 if n ≤ 2 then (decide (n = 2) && decide (k = 0), b, c) else if k < 2 then (true, decide (k = 0), c) else (false, b, decide (n = 4) && decide (k = 2))
def victimN (a b c : Bool) (n : Int) : Int :=
 if n ≤ 2 then (if a then 1 else 0) else if a then (if c then 3 else 2) else (if b then 1 else 0)
end Go.Proofs.YtcegjehoejgofaaGreat
namespace Go.Proofs.YtcegjehoejgofaaGreat
open Go.ChangeShapes Go.WideShapes Go.ChangeAt Go.RowKit Go.Joins
abbrev treeOf (t : Bool × Bool × Bool) : Value := tree t.1 t.2.1 t.2.2
set_option maxHeartbeats 4000000 in
theorem touch_lit (a b c : Bool) (n k : Int) (w : World) (h : treeE a b c n = 0) (hk : (n = 1 ∧ k = 0) ∨ (n = 2 ∧ k = 0) ∨ (n = 2 ∧ k = 1)) :
  Calls Tryz.prog 179 #[tree a b c, .int .i64 n, .int .i64 k] w fun e w' => e = .returned (.tuple #[treeOf (touchT a b c n k), .int .i64 0]) ∧ Below w.heap.size w w' := by
 have H := Lib.hid h
 clear h
 rcases hk with ⟨rfl, rfl⟩ | ⟨rfl, rfl⟩ | ⟨rfl, rfl⟩
 all_goals
  go_enter Tryz.func179, Tryz.ntmps179
  go_wp2_with fail
  refine (plruCheck_any _ _ _ _ _).mono ?_; rintro e w1 ⟨rfl, hb⟩
  rw [H.out]
  obtain ⟨hc, hf⟩ := bcell hb
  have hz : w.heap.size + 1 < w1.heap.size := by have := hb.size; simp at this; omega
  have c0 : w1.cell? ⟨w.heap.size, 0, none⟩ = some (.bool a) := by simp [hc, go_sem]
  have c1 : w1.cell? ⟨w.heap.size, 1, none⟩ = some (.bool b) := by simp [hc, go_sem]
  have c2 : w1.cell? ⟨w.heap.size, 2, none⟩ = some (.bool c) := by simp [hc, go_sem]
  go_wp2_with (first
    | (go_at_call 173; refine (usesTop_any _ _).mono ?_; rintro e w' ⟨rfl, rfl⟩)
    | (go_at_call 174; refine (usesLow_any _ _).mono ?_; rintro e w' ⟨rfl, rfl⟩)
    | (go_at_call 175; refine (usesHigh_any _ _).mono ?_; rintro e w' ⟨rfl, rfl⟩))
  refine bodyPost_ret (v := .tuple #[treeOf (touchT a b c _ _), .int .i64 0]) (by simp [results, Tryz.results179, go_sem, hc, touchT]) rfl ⟨rfl, ?_⟩
  repeat (refine gSet ?_ (by simp) _)
  exact gCall (gAlloc (gAlloc (Below.refl _ _) _) _) hb
set_option maxHeartbeats 4000000 in
theorem touch_three (a b c : Bool) (n k : Int) (w : World) (h : treeE a b c n = 0) (hn : n = 3) (hk : k = 0 ∨ k = 1 ∨ k = 2) :
  Calls Tryz.prog 179 #[tree a b c, .int .i64 n, .int .i64 k] w fun e w' => e = .returned (.tuple #[treeOf (touchT a b c n k), .int .i64 0]) ∧ Below w.heap.size w w' := by
 have H := Lib.hid h
 clear h
 rcases hk with rfl | rfl | rfl
 all_goals
  subst hn
  go_enter Tryz.func179, Tryz.ntmps179
  go_wp2_with fail
  refine (plruCheck_any _ _ _ _ _).mono ?_; rintro e w1 ⟨rfl, hb⟩
  rw [H.out]
  obtain ⟨hc, hf⟩ := bcell hb
  have hz : w.heap.size + 1 < w1.heap.size := by have := hb.size; simp at this; omega
  have c0 : w1.cell? ⟨w.heap.size, 0, none⟩ = some (.bool a) := by simp [hc, go_sem]
  have c1 : w1.cell? ⟨w.heap.size, 1, none⟩ = some (.bool b) := by simp [hc, go_sem]
  have c2 : w1.cell? ⟨w.heap.size, 2, none⟩ = some (.bool c) := by simp [hc, go_sem]
  go_wp2_with (first
    | (go_at_call 173; refine (usesTop_any _ _).mono ?_; rintro e w' ⟨rfl, rfl⟩)
    | (go_at_call 174; refine (usesLow_any _ _).mono ?_; rintro e w' ⟨rfl, rfl⟩)
    | (go_at_call 175; refine (usesHigh_any _ _).mono ?_; rintro e w' ⟨rfl, rfl⟩))
  refine bodyPost_ret (v := .tuple #[treeOf (touchT a b c _ _), .int .i64 0]) (by simp [results, Tryz.results179, go_sem, hc, touchT]) rfl ⟨rfl, ?_⟩
  repeat (refine gSet ?_ (by simp) _)
  exact gCall (gAlloc (gAlloc (Below.refl _ _) _) _) hb
set_option maxHeartbeats 4000000 in
theorem touch_four (a b c : Bool) (n k : Int) (w : World) (h : treeE a b c n = 0) (hn : n = 4) (hk : k = 0 ∨ k = 1 ∨ k = 2 ∨ k = 3) :
  Calls Tryz.prog 179 #[tree a b c, .int .i64 n, .int .i64 k] w fun e w' => e = .returned (.tuple #[treeOf (touchT a b c n k), .int .i64 0]) ∧ Below w.heap.size w w' := by
 have H := Lib.hid h
 clear h
 rcases hk with rfl | rfl | rfl | rfl
 all_goals
  subst hn
  go_enter Tryz.func179, Tryz.ntmps179
  go_wp2_with fail
  refine (plruCheck_any _ _ _ _ _).mono ?_; rintro e w1 ⟨rfl, hb⟩
  rw [H.out]
  obtain ⟨hc, hf⟩ := bcell hb
  have hz : w.heap.size + 1 < w1.heap.size := by have := hb.size; simp at this; omega
  have c0 : w1.cell? ⟨w.heap.size, 0, none⟩ = some (.bool a) := by simp [hc, go_sem]
  have c1 : w1.cell? ⟨w.heap.size, 1, none⟩ = some (.bool b) := by simp [hc, go_sem]
  have c2 : w1.cell? ⟨w.heap.size, 2, none⟩ = some (.bool c) := by simp [hc, go_sem]
  go_wp2_with (first
    | (go_at_call 173; refine (usesTop_any _ _).mono ?_; rintro e w' ⟨rfl, rfl⟩)
    | (go_at_call 174; refine (usesLow_any _ _).mono ?_; rintro e w' ⟨rfl, rfl⟩)
    | (go_at_call 175; refine (usesHigh_any _ _).mono ?_; rintro e w' ⟨rfl, rfl⟩))
  refine bodyPost_ret (v := .tuple #[treeOf (touchT a b c _ _), .int .i64 0]) (by simp [results, Tryz.results179, go_sem, hc, touchT]) rfl ⟨rfl, ?_⟩
  repeat (refine gSet ?_ (by simp) _)
  exact gCall (gAlloc (gAlloc (Below.refl _ _) _) _) hb
theorem touch_ok (a b c : Bool) (n k : Int) (w : World) (h : treeE a b c n = 0) (h0 : 0 ≤ k) (h1 : k < n) :
  Calls Tryz.prog 179 #[tree a b c, .int .i64 n, .int .i64 k] w fun e w' => e = .returned (.tuple #[treeOf (touchT a b c n k), .int .i64 0]) ∧ Below w.heap.size w w' := by
 have hn : 1 ≤ n ∧ n ≤ 4 := by
  unfold treeE at h
  by_cases g : n < 1 ∨ 4 < n
  ·rw [if_pos g] at h; omega
  ·omega
 by_cases h3 : n = 3
 ·exact touch_three a b c n k w h h3 (by omega)
 by_cases h4 : n = 4
 ·exact touch_four a b c n k w h h4 (by omega)
 exact touch_lit a b c n k w h (by omega)
theorem side_any (b : Bool) (w : World) : Calls Tryz.prog 180 #[.bool b] w fun e w' => e = .returned (.int .i64 (if b then 1 else 0)) ∧ w = w' := by
 cases b
 all_goals
  go_enter Tryz.func180, Tryz.ntmps180
  go_wp2
  go_ret
  exact ⟨rfl, rfl⟩
set_option maxHeartbeats 4000000 in
theorem victim_ok (a b c : Bool) (n : Int) (w : World) (h : treeE a b c n = 0) :
  Calls Tryz.prog 178 #[tree a b c, .int .i64 n] w fun e w' => e = .returned (.tuple #[.int .i64 (victimN a b c n), .int .i64 0]) ∧ Below w.heap.size w w' := by
 have H := Lib.hid h
 clear h
 have hn : 1 ≤ n ∧ n ≤ 4 := by
  have h := H.out
  unfold treeE at h
  by_cases g : n < 1 ∨ 4 < n
  ·rw [if_pos g] at h; omega
  ·omega
 obtain ⟨hn1, hn4⟩ := hn
 by_cases h2 : n ≤ 2
 ·have h3 : decide (3 ≤ n) = false := by simp; omega
  cases a <;> cases b <;> cases c
  all_goals
   simp only [victimN, if_pos h2, if_true, if_false, Bool.false_eq_true]
   go_enter Tryz.func178, Tryz.ntmps178
   go_wp2_with fail
   refine (plruCheck_any _ _ _ _ _).mono ?_; rintro e w1 ⟨rfl, hb⟩
   rw [H.out]
   obtain ⟨hc, hf⟩ := bcell hb
   go_wp2_with fail
   refine (usesLow_any _ _).mono ?_; rintro e w' ⟨rfl, rfl⟩
   go_wp2_with fail
   refine (side_any _ _).mono ?_; rintro e w' ⟨rfl, rfl⟩
   go_wp2_with fail
   go_ret2
   exact ⟨rfl, gCall (gAlloc (Below.refl _ _) _) hb⟩
 ·have h3 : 3 ≤ n := by omega
  cases a <;> cases b <;> cases c
  all_goals
   simp only [victimN, if_neg h2, if_true, if_false, Bool.false_eq_true]
   go_enter Tryz.func178, Tryz.ntmps178
   go_wp2_with fail
   refine (plruCheck_any _ _ _ _ _).mono ?_; rintro e w1 ⟨rfl, hb⟩
   rw [H.out]
   obtain ⟨hc, hf⟩ := bcell hb
   go_wp2_with fail
   refine (usesLow_any _ _).mono ?_; rintro e w' ⟨rfl, rfl⟩
   go_wp2_with fail
   refine (side_any _ _).mono ?_; rintro e w' ⟨rfl, rfl⟩
   go_wp2_with fail
   go_ret2
   exact ⟨rfl, gCall (gAlloc (Below.refl _ _) _) hb⟩
end Go.Proofs.YtcegjehoejgofaaGreat
namespace Go.Proofs.YtcegjehoejgofaaGreat
open Go.ChangeShapes Go.WideShapes Go.ChangeAt Go.RowKit Go.Joins
theorem treeE_range {a b c : Bool} {n : Int} (h : treeE a b c n = 0) : 1 ≤ n ∧ n ≤ 4 := by
 unfold treeE at h
 by_cases g : n < 1 ∨ 4 < n
 ·rw [if_pos g] at h; omega
 ·omega
end Go.Proofs.YtcegjehoejgofaaGreat
namespace Go.Proofs.YtcegjehoejgofaaGreat
open Go.ChangeShapes Go.WideShapes Go.ChangeAt Go.RowKit Go.Joins
theorem info_way : (Tryz.prog.info? 114).map (fun i => (i.zero, i.size, i.bytes)) = some (some wy0.val, 6, 48) := by kernel_rfl
theorem waysC_one (l : List Wy) : ∀ u ∈ waysC l, u.oneCell' = true := by
 intro u hu
 simp only [waysC, List.mem_flatMap] at hu
 obtain ⟨x, _, hx⟩ := hu
 simp [Wy.cells] at hx
 rcases hx with rfl | rfl | rfl | rfl | rfl | rfl <;> rfl
def Own (w : World) (g : Nat) (v : Value) (l : List Wy) : Prop :=
 ∃ cap cur, v = .slice (some ⟨g, 0, none⟩) l.length cap ∧ Box w g 114 cur ∧ l.length ≤ cap ∧ cap ≤ maxLen ∧ cur.size = cap * 6 ∧ ∀ (q : Nat) (y : Wy), l[q]? = some y → ∀ r, r < 6 → cur[q * 6 + r]? = y.cells[r]?
theorem own_at {cur : Array Value} {l : List Wy} (ht : cur.toList.take (l.length * 6) = waysC l) {k : Nat} {x : Wy} (h : l[k]? = some x) (j : Nat) (hj : j < 6) : cur[k * 6 + j]? = x.cells[j]? := by
 have hk : k < l.length := (List.getElem?_eq_some_iff.1 h).1
 rw [← waysC_at h j hj, ← ht, List.getElem?_take, if_pos (by omega), Array.getElem?_toList]
theorem nilWays (A : Addr) (n c : Nat) : ∀ w, (binOp .eql 165 (.slice (some A) n c) (.slice none 0 0)).run Tryz.prog w = .ok (.bool false) w := fun w => by kernel_rfl
theorem clone_any (v : Value) (l : List Wy) (w : World) (h : Ws w v l) (h0 : 0 < l.length) (h4 : l.length ≤ 4) :
  Calls Tryz.prog 145 #[v] w fun e w' => ∃ v' g, e = .returned v' ∧ Own w' g v' l ∧ w.heap.size ≤ g ∧ Below w.heap.size w w' := by
 obtain ⟨hl, A, c, rfl, h1, h2, h3⟩ := h
 obtain ⟨b, o, rfl, hb, hc⟩ := h3 h0
 have HC := Lib.hid hc
 have HL := Lib.hid hl
 obtain ⟨i0, hi, hz0, hz1, hz2⟩ := info_parts info_way
 have HI := Lib.hid hi
 have HZ := Lib.hid (And.intro hz0 (And.intro hz1 hz2))
 clear hc hl h3 hi hz0 hz1 hz2
 go_enter Tryz.func145, Tryz.ntmps145
 have en := nilWays ⟨b, o, none⟩ l.length c
 go_wp2_with (at_builtin; refine wpList_append_own _ rfl _ _ 165 rfl w.heap.size 114 i0 wy0.val 6 48 Tryz.underlying165 HI.out HZ.out.1 HZ.out.2.1 HZ.out.2.2 rfl (by decide) _ 0 [] rfl ?c0 ⟨b, o, none⟩ l.length c (waysC l) rfl HL.out ?c1 (waysC_one l) ?c3 ?c4 ?c5 ?_)
 case c0 => exact ⟨rfl, .inr ⟨w.heap.size, 0, #[], rfl, Nat.le_refl _, Box.new w 114 #[], Nat.le_refl _, Nat.zero_le _, rfl, rfl⟩⟩
 case c1 =>
  intro j u hu
  have k := HC.out j u hu
  have e : (⟨b, o, none⟩ : Addr).add j = ⟨b, o + j, none⟩ := by cases j <;> simp [Addr.add]
  rw [e]
  exact ((Below.refl w.heap.size w).alloc (Nat.le_refl _) _).cell (p := ⟨b, o + j, none⟩) hb |>.trans k
 case c3 => unfold maxLen; omega
 case c4 => omega
 case c5 => simp
 intro v' w1 own grow _
 have low : Below w.heap.size w w1 := (gAlloc (Below.refl _ _) _).grown grow (by simp) (fun g e => by simp [Value.ownBlock] at e; omega)
 try simp only [Nat.zero_add, List.nil_append] at own
 obtain ⟨o1, o2⟩ := own
 rcases o2 with ⟨_, o2⟩ | ⟨g, cap, cur, rfl, hg, hh, hn, hm, hs, ht⟩
 ·omega
 have O := Lib.hid (show Own w1 g (.slice (some ⟨g, 0, none⟩) l.length cap) l from ⟨cap, cur, rfl, hh, hn, hm, hs, fun q y h r hr => own_at ht h r hr⟩)
 clear hh hs ht o1 grow
 go_wp2_with fail
 go_ret
 exact ⟨_, g, rfl, O.out, hg, low⟩
def putW (w : World) (g k : Nat) (x : Wy) : World :=
 (((((w.setCell ⟨g, k * 6, none⟩ (.int .i64 x.st)).setCell ⟨g, k * 6 + 1, none⟩ (.int .i64 x.ln)).setCell ⟨g, k * 6 + 2, none⟩ (.int .u64 x.a)).setCell ⟨g, k * 6 + 3, none⟩ (.int .u64 x.b)).setCell ⟨g, k * 6 + 4, none⟩ (.int .u64 x.c)).setCell ⟨g, k * 6 + 5, none⟩ (.int .u64 x.d)
theorem Own.ws {w : World} {g : Nat} {v : Value} {l : List Wy} (h : Own w g v l) : Ws w v l := by
 obtain ⟨cap, cur, rfl, hb, hn, hm, hs, ht⟩ := h
 refine ⟨waysC_length l, some ⟨g, 0, none⟩, cap, rfl, hn, hm, fun _ => ⟨g, 0, rfl, hb.lt, fun j u hu => ?_⟩⟩
 rw [hb.cell, Nat.zero_add]
 have hj : j < l.length * 6 := by
  have := (List.getElem?_eq_some_iff.1 hu).1
  rwa [waysC_length] at this
 have hq : j / 6 < l.length := by omega
 have hjq : j / 6 * 6 + j % 6 = j := by omega
 have h1 := ht (j / 6) l[j / 6] (List.getElem?_eq_getElem hq) (j % 6) (by omega)
 have h2 := waysC_at (List.getElem?_eq_getElem hq) (j % 6) (by omega)
 rw [hjq] at h1 h2
 rw [h1, ← h2, hu]
theorem Own.far {w : World} {g : Nat} {v : Value} {l : List Wy} (h : Own w g v l) {p : Addr} (hp : g ≠ p.block) (u : Value) : Own (w.setCell p u) g v l := by
 obtain ⟨cap, cur, rfl, hb, r⟩ := h
 exact ⟨cap, cur, rfl, hb.far hp u, r⟩
theorem Own.put {w : World} {g : Nat} {v : Value} {l : List Wy} (h : Own w g v l) (k : Nat) (x : Wy) (hk : k < l.length) : Own (putW w g k x) g v (l.set k x) := by
 obtain ⟨cap, cur, rfl, hb, hn, hm, hs, ht⟩ := h
 have box : Box (putW w g k x) g 114 _ := ((((((hb.set (k * 6) (.int .i64 x.st)).set (k * 6 + 1) (.int .i64 x.ln)).set (k * 6 + 2) (.int .u64 x.a)).set (k * 6 + 3) (.int .u64 x.b)).set (k * 6 + 4) (.int .u64 x.c)).set (k * 6 + 5) (.int .u64 x.d))
 refine ⟨cap, _, by rw [List.length_set], box, by rw [List.length_set]; exact hn, hm, by simpa using hs, fun q y hy r hr6 => ?_⟩
 by_cases e : q = k
 ·subst e
  rw [List.getElem?_set_self hk] at hy
  cases hy
  have hsz : q * 6 + 5 < cur.size := by omega
  match r, hr6 with
  | 0, _ | 1, _ | 2, _ | 3, _ | 4, _ | 5, _ =>
   simp [Array.getElem?_setIfInBounds, Wy.cells]
   omega
 ·rw [List.getElem?_set_ne (fun h => e h.symm)] at hy
  have := ht q y hy r hr6
  simp only [Array.getElem?_setIfInBounds]
  repeat rw [if_neg (by omega)]
  exact this
def Fr (w : World) (B C : Nat) (v : Value) (l : List Wy) : Prop := (v = .slice none 0 0 ∧ l = []) ∨ ∃ g, B ≤ g ∧ g < C ∧ Own w g v l
section
variable {w w' : World} {B B' C C' : Nat} {v : Value} {l : List Wy}
theorem Fr.nil (w : World) (B C : Nat) : Fr w B C (.slice none 0 0) [] := .inl ⟨rfl, rfl⟩
theorem Fr.ws (h : Fr w B C v l) : Ws w v l := by
 rcases h with ⟨rfl, rfl⟩ | ⟨g, _, _, h⟩
 ·exact Ws.nil w
 ·exact h.ws
theorem Fr.shape (h : Fr w B C v l) : ∃ A c, v = .slice A l.length c := by
 obtain ⟨_, A, c, e, _⟩ := h.ws
 exact ⟨A, c, e⟩
theorem Fr.far (h : Fr w B C v l) {p : Addr} (hp : p.block < B ∨ C ≤ p.block) (u : Value) : Fr (w.setCell p u) B C v l := by
 rcases h with h | ⟨g, hg, hc, h⟩
 ·exact .inl h
 ·exact .inr ⟨g, hg, hc, h.far (by omega) u⟩
theorem Fr.more (h : Fr w B C v l) (hB : B' ≤ B) (hC : C ≤ C') : Fr w B' C' v l := by
 rcases h with h | ⟨g, hg, hc, h⟩
 ·exact .inl h
 ·exact .inr ⟨g, by omega, by omega, h⟩
theorem Fr.call (h : Fr w B C v l) (hb : Below w.heap.size w w') : Fr w' B C v l := by
 rcases h with h | ⟨g, hg, hc, cap, cur, rfl, h1, h2⟩
 ·exact .inl h
 ·exact .inr ⟨g, hg, hc, cap, cur, rfl, h1.call hb, h2⟩
theorem Fr.alloc (h : Fr w B C v l) (o : Obj) : Fr (w.alloc o) B C v l := h.call (gAlloc (Below.refl _ _) o)
theorem Own.lt {g : Nat} (h : Own w g v l) : g < w.heap.size := by
 obtain ⟨_, _, _, hb, _⟩ := h
 exact hb.lt
end
theorem low_put {B : Nat} {w w' : World} {g k : Nat} {x : Wy} (h : Below B w w') (hg : B ≤ g) : Below B w (putW w' g k x) := by
 unfold putW
 exact (((((h.setCell hg _).setCell hg _).setCell hg _).setCell hg _).setCell hg _).setCell hg _
theorem size_way : (Tryz.prog.info? 114).map (·.size) = some 6 := by kernel_rfl
section
variable {w w' : World} {g : Nat}
theorem Stored.fr (st : Stored w g w') {B C : Nat} {v : Value} {l : List Wy} (h : Fr w B C v l) (hg : g < B ∨ C ≤ g) : Fr w' B C v l := by
 rcases h with h | ⟨x, hx, hc, cap, cur, rfl, h1, h2⟩
 ·exact .inl h
 ·exact .inr ⟨x, hx, hc, cap, cur, rfl, st.box h1 (by omega), h2⟩
end
theorem wpList_put_way {ops : Array Oper} {rest : List Oper} {op : Oper} {a : Act} {w : World} {Q : Exit → Act → World → Prop} (hgd : op.guard = none) (x y : Operand) (ho : op.op = .store 114 x y)
  (g : Nat) (v : Value) (l : List Wy) (k : Nat) (X : Wy) (own : Own w g v l) (hk : k < l.length) (hx : a.eval x = .pointer (some ⟨g, k * 6, none⟩)) (hy : a.eval y = X.val)
  (h : ∀ w', Own w' g v (l.set k X) → Stored w g w' → wpList Tryz.prog ops Q rest (a.put op.dst undef) w') : wpList Tryz.prog ops Q (op :: rest) a w := by
 refine wpList_store_mid hgd 114 x y ho g (k * 6) X.arr hx hy ?_ size_way (by simp [Value.oneCell']) ?_
 ·obtain ⟨cap, cur, rfl, hbx, hn, hm, hs, ht⟩ := own
  intro j hj
  have hj6 : j < 6 := hj
  refine ⟨?_, hbx.frozen _⟩
  rw [hbx.cell, ht k _ (List.getElem?_eq_getElem hk) j hj6]
  match j, hj6 with
  | 0, _ | 1, _ | 2, _ | 3, _ | 4, _ | 5, _ => rfl
 ·refine h _ (own.put k X hk) ⟨fun {h} hne => ?_, ?_, fun b hB => low_put b hB⟩
  ·have f : ∀ (w : World) (o : Nat) (u : Value), (w.setCell ⟨g, o, none⟩ u).heap[h]? = w.heap[h]? := fun w o u => Below.heap_setCell w ⟨g, o, none⟩ u h hne
   show (putW w g k X).heap[h]? = _
   unfold putW
   rw [f, f, f, f, f, f]
  ·show (putW w g k X).heap.size = _
   simp [putW]
set_option maxHeartbeats 1000000 in
theorem replace_any (v : Value) (l : List Wy) (a b c : Bool) (k : Nat) (x : Wy) (w : World) (h : Ws w v l) (hk : k < l.length) (h4 : l.length ≤ 4) :
  Calls Tryz.prog 168 #[rowV v a b c, .int .i64 k, x.val] w fun e w' => (∃ v', e = .returned (rowV v' a b c) ∧ Fr w' w.heap.size w'.heap.size v' (l.set k x)) ∧ Below w.heap.size w w' := by
 have H := Lib.hid h
 clear h
 have low := Below.refl w.heap.size w
 have rb := boxNext low 193 (rowA v a b c)
 replace low := gAlloc low (.cells (rowA v a b c) 193)
 try simp only [World.size_alloc] at rb
 simp only [rowA] at rb
 have xb := boxNext low 114 x.arr
 replace low := gAlloc low (.cells x.arr 114)
 replace rb := rb.alloc (.cells x.arr 114)
 try simp only [World.size_alloc] at xb
 simp only [Wy.arr] at xb
 have ob := boxNext low 193 (rowA (.slice none 0 0) false false false)
 replace low := gAlloc low (.cells (rowA (.slice none 0 0) false false false) 193)
 replace rb := rb.alloc (.cells (rowA (.slice none 0 0) false false false) 193)
 replace xb := xb.alloc (.cells (rowA (.slice none 0 0) false false false) 193)
 try simp only [World.size_alloc] at ob
 simp only [rowA] at ob
 go_enter Tryz.func168, Tryz.ntmps168
 go_wp2_with fail
 (with_reducible refine (clone_any v l _ (((H.out.alloc _).alloc _).alloc _) (by omega) h4).mono ?_); rintro e w1 ⟨v', g, rfl, own, hg, hb⟩
 replace rb := rb.call hb
 replace xb := xb.call hb
 replace ob := ob.call hb
 replace low := gCall low hb
 clear hb
 simp only [World.size_alloc] at hg
 obtain ⟨cap, cur, rfl, o1, o2, o3, o4, o5⟩ := own
 have own := Lib.hid (show Own w1 g _ l from ⟨cap, cur, rfl, o1, o2, o3, o4, o5⟩)
 clear o1 o3 o4 o5
 have rb_0 := rb.at_ 0 rfl
 have rb_1 := rb.at_ 1 rfl
 have rb_2 := rb.at_ 2 rfl
 have rb_3 := rb.at_ 3 rfl
 have xb_0 := xb.at_ 0 rfl
 have xb_1 := xb.at_ 1 rfl
 have xb_2 := xb.at_ 2 rfl
 have xb_3 := xb.at_ 3 rfl
 have xb_4 := xb.at_ 4 rfl
 have xb_5 := xb.at_ 5 rfl
 go_wp2_with (refine wpList_put_way rfl (.tmp 14) (.tmp 13) rfl g _ l k x own.out hk rfl rfl ?_)
 intro w2 own2 st
 clear rb_0 rb_1 rb_2 rb_3 xb_0 xb_1 xb_2 xb_3 xb_4 xb_5
 replace rb := st.box rb (by omega)
 replace ob := st.box ob (by omega)
 replace low := st.low low (by omega)
 have O2 := Lib.hid own2
 clear own2 st xb own
 have z2 : w.heap.size + 1 + 1 < w2.heap.size := ob.lt
 have rb_0 := rb.at_ 0 rfl
 have rb_1 := rb.at_ 1 rfl
 have rb_2 := rb.at_ 2 rfl
 have rb_3 := rb.at_ 3 rfl
 have ob_0 := ob.at_ 0 rfl
 have ob_1 := ob.at_ 1 rfl
 have ob_2 := ob.at_ 2 rfl
 have ob_3 := ob.at_ 3 rfl
 have f0 := ob.frozen 0
 have f1 := ob.frozen 1
 have f2 := ob.frozen 2
 have f3 := ob.frozen 3
 go_wp2_with fail
 refine bodyPost_ret (v := rowV (.slice (some ⟨g, 0, none⟩) l.length cap) a b c) (by simp [results, Tryz.results168, go_sem, ob_0, ob_1, ob_2, ob_3]) rfl ⟨⟨_, rfl, ?_⟩, ?_⟩
 ·exact .inr ⟨g, by omega, by simpa using O2.out.lt, (((O2.out.far (by dsimp only; omega) _).far (by dsimp only; omega) _).far (by dsimp only; omega) _).far (by dsimp only; omega) _⟩
 ·repeat (refine gSet ?_ (by dsimp only; omega) _)
  exact low
def roomN (l : List Wy) (a b c : Bool) (n : Int) : Int := if idxP empW l < 0 then victimN a b c n else idxP empW l
set_option maxHeartbeats 1000000 in
theorem room_any (v : Value) (l : List Wy) (a b c : Bool) (n : Int) (w : World) (h : Ws w v l) (ht : treeE a b c n = 0) :
  Calls Tryz.prog 170 #[rowV v a b c, .int .i64 n] w fun e w' => e = .returned (.int .i64 (roomN l a b c n)) ∧ Below w.heap.size w w' := by
 obtain ⟨hl, A, cp, rfl, h1, h2, h3⟩ := h
 have H3 := Lib.hid h3
 have HT := Lib.hid ht
 unfold maxLen at h2
 clear hl h3 ht
 have low := Below.refl w.heap.size w
 have rb := boxNext low 193 (rowA (.slice A l.length cp) a b c)
 replace low := gAlloc low (.cells (rowA (.slice A l.length cp) a b c) 193)
 try simp only [World.size_alloc] at rb
 simp only [rowA] at rb
 go_enter Tryz.func170, Tryz.ntmps170
 go_wp2
 go_loopw [12] (fun i wr => ∃ k : Nat, k ≤ l.length ∧ i = .int .i64 k ∧ Hid (∀ j x, j < k → l[j]? = some x → empW x = false) ∧ Box wr w.heap.size 193 (rowA (.slice A l.length cp) a b c) ∧ Below w.heap.size w wr) (fun i _ => l.length - (intOf i).toNat)
 case atStart => exact ⟨0, Nat.zero_le _, rfl, Lib.hid fun j x hj => absurd hj (by omega), rb, low⟩
 case round =>
  clear rb low
  obtain ⟨k, hk, rfl, hno, rb, low⟩ := hrel
  simp only [rowA] at rb
  by_cases hlt : k < l.length
  ·obtain ⟨bb, o, rfl, hb, hc⟩ := H3.out (by omega)
   have hx : l[k]? = some l[k] := List.getElem?_eq_getElem _
   generalize l[k] = x at hx
   obtain ⟨c0, c1, c2, c3, c4, c5⟩ := wayAt_of hc hb low hx
   have HX := Lib.hid hx
   clear hx hc
   cases he : (x.st == 0)
   ·have HW := Lib.hid (show empW x = false from he)
    go_wp2
    go_roundw
    case rel => exact ⟨k + 1, by omega, by go_num, Lib.hid (upto hno.out HX.out HW.out), rb.alloc _, gAlloc low _⟩
    case measure => simp [intOf]; omega
   ·have HW := Lib.hid (show empW x = true from he)
    go_wp2
    go_ret
    exact ⟨by rw [roomN, idxP_some hno.out HX.out HW.out, if_neg (by omega)]; rfl, gAlloc low _⟩
  ·have HN := Lib.hid (idxP_none (all_upto hno.out hlt))
   have rb_0 := rb.at_ 0 rfl
   have rb_1 := rb.at_ 1 rfl
   have rb_2 := rb.at_ 2 rfl
   have rb_3 := rb.at_ 3 rfl
   go_wp2_with fail
   (with_reducible refine (victim_ok _ _ _ _ _ HT.out).mono ?_); rintro e w2 ⟨rfl, hb⟩
   replace rb := rb.call hb
   replace low := gCall low hb
   clear hb rb_0 rb_1 rb_2 rb_3
   go_wp2_with fail
   go_ret
   exact ⟨by rw [roomN, HN.out, if_pos (by decide)]; rfl, low⟩
set_option maxHeartbeats 2000000 in
theorem access_any (v : Value) (l : List Wy) (a b c : Bool) (n : Int) (k : Nat) (x : Wy) (w : World) (h : Ws w v l) (ht : treeE a b c n = 0) (hn : (l.length : Int) = n) (hk : k < l.length) :
  Calls Tryz.prog 171 #[rowV v a b c, .int .i64 n, .int .i64 k, x.val] w fun e w' =>
   (∃ v', e = .returned (rowV v' (touchT a b c n k).1 (touchT a b c n k).2.1 (touchT a b c n k).2.2) ∧ Fr w' w.heap.size w'.heap.size v' (l.set k x)) ∧ Below w.heap.size w w' := by
 obtain ⟨hn1, hn4⟩ := treeE_range ht
 have H := Lib.hid h
 have h4 : l.length ≤ 4 := by omega
 have TO := Lib.hid (fun w => touch_ok a b c n k w ht (by omega) (by omega))
 clear h ht hn hn1 hn4
 generalize touchT a b c n k = t at TO ⊢
 have low := Below.refl w.heap.size w
 have rb := boxNext low 193 (rowA v a b c)
 replace low := gAlloc low (.cells (rowA v a b c) 193)
 try simp only [World.size_alloc] at rb
 simp only [rowA] at rb
 have xb := boxNext low 114 x.arr
 replace low := gAlloc low (.cells x.arr 114)
 replace rb := rb.alloc (.cells x.arr 114)
 try simp only [World.size_alloc] at xb
 simp only [Wy.arr] at xb
 have ob := boxNext low 193 (rowA (.slice none 0 0) false false false)
 replace low := gAlloc low (.cells (rowA (.slice none 0 0) false false false) 193)
 replace rb := rb.alloc (.cells (rowA (.slice none 0 0) false false false) 193)
 replace xb := xb.alloc (.cells (rowA (.slice none 0 0) false false false) 193)
 try simp only [World.size_alloc] at ob
 simp only [rowA] at ob
 go_enter Tryz.func171, Tryz.ntmps171
 go_wp2_with fail
 (with_reducible refine (replace_any v l a b c k x _ (((H.out.alloc _).alloc _).alloc _) hk h4).mono ?_); rintro e w1 ⟨⟨v', rfl, fr⟩, hb⟩
 simp only [World.size_alloc] at fr
 replace rb := rb.call hb
 replace ob := ob.call hb
 replace low := gCall low hb
 have z1 : w.heap.size + 1 + 1 < w1.heap.size := ob.lt
 clear hb xb
 obtain ⟨A', c', rfl⟩ := fr.shape
 simp only [List.length_set] at fr
 have nb := boxNext low 193 (rowA (.slice A' l.length c') a b c)
 replace low := gAlloc low (.cells (rowA (.slice A' l.length c') a b c) 193)
 replace rb := rb.alloc (.cells (rowA (.slice A' l.length c') a b c) 193)
 replace ob := ob.alloc (.cells (rowA (.slice A' l.length c') a b c) 193)
 replace fr := fr.alloc (.cells (rowA (.slice A' l.length c') a b c) 193)
 try simp only [World.size_alloc] at nb
 simp only [rowA] at nb
 have rb_0 := rb.at_ 0 rfl
 have rb_1 := rb.at_ 1 rfl
 have rb_2 := rb.at_ 2 rfl
 have rb_3 := rb.at_ 3 rfl
 simp only [List.length_set]
 go_wp2_with fail
 (with_reducible refine (TO.out _).mono ?_); rintro e w2 ⟨rfl, hb⟩
 replace rb := rb.call hb
 replace ob := ob.call hb
 replace nb := nb.call hb
 replace fr := fr.call hb
 replace low := gCall low hb
 clear hb rb_0 rb_1 rb_2 rb_3
 have z2 : w1.heap.size < w2.heap.size := nb.lt
 have nb_0 := nb.at_ 0 rfl
 have nb_1 := nb.at_ 1 rfl
 have nb_2 := nb.at_ 2 rfl
 have nb_3 := nb.at_ 3 rfl
 have ob_0 := ob.at_ 0 rfl
 have ob_1 := ob.at_ 1 rfl
 have ob_2 := ob.at_ 2 rfl
 have ob_3 := ob.at_ 3 rfl
 have f0 := ob.frozen 0
 have f1 := ob.frozen 1
 have f2 := ob.frozen 2
 have f3 := ob.frozen 3
 have g0 := nb.frozen 0
 have g1 := nb.frozen 1
 have g2 := nb.frozen 2
 have g3 := nb.frozen 3
 have ne : w.heap.size + 1 + 1 ≠ w1.heap.size := by omega
 have ne' := ne.symm
 go_wp2_with fail
 refine bodyPost_ret (v := rowV (.slice A' l.length c') t.1 t.2.1 t.2.2) (by simp [results, Tryz.results171, go_sem, ob_0, ob_1, ob_2, ob_3]) rfl ⟨⟨_, rfl, ?_⟩, ?_⟩
 ·refine Fr.more ?_ (B := w.heap.size + 1 + 1 + 1) (C := w1.heap.size) (by omega) (by simp; omega)
  repeat (refine Fr.far ?_ (by dsimp only; omega) _)
  exact fr
 ·repeat (refine gSet ?_ (by dsimp only; omega) _)
  exact low
theorem waysC_one1 (x : Wy) : ∀ u ∈ x.cells, u.oneCell' = true := by
 intro u hu
 simp [Wy.cells] at hu
 rcases hu with rfl | rfl | rfl | rfl | rfl | rfl <;> rfl
theorem new_cells (w : World) (t : TypeId) (x : Wy) (g q : Nat) (u : Value) (hg : g = w.heap.size) (h : x.cells[q]? = some u) : (w.alloc (.cells x.arr t)).cell? ((⟨g, 0, none⟩ : Addr).add q) = some u := by
 subst hg
 have e : (⟨w.heap.size, 0, none⟩ : Addr).add q = ⟨w.heap.size, q, none⟩ := by cases q <;> simp [Addr.add]
 rw [e, (Box.new w t x.arr).cell, ← h]
 simp [Wy.cells]
theorem fr_own {w : World} {base n : Nat} {v : Value} {xs : List Value} {l : List Wy} (h : w.ownsRow base 114 6 v n xs) (hx : xs = waysC l) (hn : n = l.length) : Fr w base w.heap.size v l := by
 subst hx hn
 rcases h.2 with ⟨rfl, h0⟩ | ⟨g, cap, cur, rfl, hg, hh, h1, h2, h3, h4⟩
 ·exact .inl ⟨rfl, List.eq_nil_of_length_eq_zero h0⟩
 ·have own : Own w g (.slice (some ⟨g, 0, none⟩) l.length cap) l := ⟨cap, cur, rfl, hh, h1, h2, h3, fun q y hy r hr => own_at h4 hy r hr⟩
  exact .inr ⟨g, hg, own.lt, own⟩
theorem fr_of_own {w : World} {g B : Nat} {v : Value} {l : List Wy} (h : Own w g v l) (hB : B ≤ g) : Fr w B w.heap.size v l := .inr ⟨g, hB, h.lt, h⟩
end Go.Proofs.YtcegjehoejgofaaGreat
namespace Go.Proofs.YtcegjehoejgofaaGreat
open Go.ChangeShapes Go.WideShapes Go.ChangeAt Go.RowKit Go.Joins
def waysE (pre : List Wy) : List Wy → Int
 | [] => 0
 | x :: r => if wayE x ≠ 0 then wayE x else if (x.st != 0 && decide (0 ≤ idxP (hasW x.ln) pre)) = true then 6 else waysE (pre ++ [x]) r
def rowE (l : List Wy) (a b c : Bool) (n : Int) : Int := if treeE a b c n ≠ 0 then treeE a b c n else if (l.length : Int) ≠ n then 3 else waysE [] l
theorem waysE_at {l : List Wy} {k : Nat} {x : Wy} (h : l[k]? = some x) : waysE (l.take k) (l.drop k) =
  if wayE x ≠ 0 then wayE x else if (x.st != 0 && decide (0 ≤ idxP (hasW x.ln) (l.take k))) = true then 6 else waysE (l.take (k + 1)) (l.drop (k + 1)) := by
 obtain ⟨hk, rfl⟩ := List.getElem?_eq_some_iff.1 h
 rw [List.drop_eq_getElem_cons hk, waysE, List.take_succ_eq_append_getElem hk]
theorem waysC_take (l : List Wy) (k : Nat) : waysC (l.take k) = (waysC l).take (k * 6) := by
 induction l generalizing k with
 | nil => simp [waysC]
 | cons x r ih =>
  cases k with
  | zero => simp [waysC]
  | succ k =>
   have hx : x.cells.length = 6 := rfl
   have := ih k
   simp only [waysC, List.take_succ_cons, List.flatMap_cons] at *
   rw [this, List.take_append, hx, List.take_of_length_le (l := x.cells) (by omega)]
   congr 2
   omega
theorem Ws.take {w : World} {A : Option Addr} {n c : Nat} {l : List Wy} (h : Ws w (.slice A n c) l) {k : Nat} (hk : k ≤ l.length) : Ws w (.slice A k c) (l.take k) := by
 obtain ⟨hl, A', c', e, h1, h2, h3⟩ := h
 cases e
 have hkl : (l.take k).length = k := by simp; omega
 refine ⟨waysC_length _, A, c, by rw [hkl], by omega, h2, fun h0 => ?_⟩
 obtain ⟨b, o, hA, hb, hc⟩ := h3 (by omega)
 refine ⟨b, o, hA, hb, fun j u hu => hc j u ?_⟩
 rw [waysC_take, List.getElem?_take] at hu
 split at hu
 ·exact hu
 ·cases hu
set_option maxHeartbeats 2000000 in
theorem rowCheck_any (v : Value) (l : List Wy) (a b c : Bool) (n : Int) (w : World) (h : Ws w v l) :
  Calls Tryz.prog 143 #[rowV v a b c, .int .i64 n] w fun e w' => e = .returned (.int .i64 (rowE l a b c n)) ∧ Below w.heap.size w w' := by
 have H := Lib.hid h
 obtain ⟨hl, A, cp, rfl, h1, h2, h3⟩ := h
 have H3 := Lib.hid h3
 unfold maxLen at h2
 clear hl h3
 generalize hE : rowE l a b c n = E
 unfold rowE at hE
 have T := Lib.hid fun w => plruCheck_any a b c n w
 generalize treeE a b c n = t at hE T
 have HE := Lib.hid hE
 clear hE
 have low := Below.refl w.heap.size w
 have rb := boxNext low 193 (rowA (.slice A l.length cp) a b c)
 replace low := gAlloc low (.cells (rowA (.slice A l.length cp) a b c) 193)
 try simp only [World.size_alloc] at rb
 simp only [rowA] at rb
 cases ht : (t != 0)
 rotate_left
 ·obtain rfl : t = E := by have := HE.out; rwa [if_pos (by simpa using ht)] at this
  go_enter Tryz.func143, Tryz.ntmps143
  go_wp2_with fail
  (with_reducible refine (T.out _).mono ?_); rintro e w1 ⟨rfl, hb⟩
  replace rb := rb.call hb
  replace low := gCall low hb
  clear hb
  go_wp2_with fail
  go_ret
  exact ⟨rfl, low⟩
 obtain rfl : t = 0 := by simpa using ht
 cases hn : ((l.length : Int) != n)
 rotate_left
 ·obtain rfl : 3 = E := by have := HE.out; rwa [if_neg (by simp), if_pos (by simpa using hn)] at this
  go_enter Tryz.func143, Tryz.ntmps143
  go_wp2_with fail
  (with_reducible refine (T.out _).mono ?_); rintro e w1 ⟨rfl, hb⟩
  replace rb := rb.call hb
  replace low := gCall low hb
  clear hb
  have rb_0 := rb.at_ 0 rfl
  go_wp2_with fail
  go_ret
  exact ⟨rfl, low⟩
 replace HE := Lib.hid (show waysE [] l = E by have := HE.out; rwa [if_neg (by simp), if_neg (by simpa using hn)] at this)
 clear ht
 go_enter Tryz.func143, Tryz.ntmps143
 go_wp2_with fail
 (with_reducible refine (T.out _).mono ?_); rintro e w1 ⟨rfl, hb⟩
 replace rb := rb.call hb
 replace low := gCall low hb
 clear hb
 have rb_0 := rb.at_ 0 rfl
 go_wp2_with fail
 go_loopw [24] (fun i wr => ∃ k : Nat, k ≤ l.length ∧ i = .int .i64 k ∧ Hid (waysE (l.take k) (l.drop k) = E) ∧ Box wr w.heap.size 193 (rowA (.slice A l.length cp) a b c) ∧ Below w.heap.size w wr) (fun i _ => l.length - (intOf i).toNat)
 case atStart => exact ⟨0, Nat.zero_le _, rfl, Lib.hid (by rw [List.take_zero, List.drop_zero]; exact HE.out), rb, low⟩
 case round =>
  clear rb_0
  clear rb low
  obtain ⟨k, hk, rfl, hno, rb, low⟩ := hrel
  simp only [rowA] at rb
  by_cases hlt : k < l.length
  ·obtain ⟨bb, o, rfl, hb, hc⟩ := H3.out (by omega)
   have hx : l[k]? = some l[k] := List.getElem?_eq_getElem _
   generalize l[k] = x at hx
   obtain ⟨c0, c1, c2, c3, c4, c5⟩ := wayAt_of hc hb low hx
   have hs := hno.out
   rw [waysE_at hx] at hs
   have HS := Lib.hid hs
   have CW := Lib.hid fun w => checkWay_any x w
   clear hx hc hs
   generalize wayE x = y at CW HS
   have xb := boxNext low 114 x.arr
   replace low := gAlloc low (.cells x.arr 114)
   replace rb := rb.alloc (.cells x.arr 114)
   try simp only [World.size_alloc] at xb
   simp only [Wy.arr] at xb
   go_wp2_with fail
   (with_reducible refine (CW.out _).mono ?_); rintro e w2 ⟨rfl, hb2⟩
   replace rb := rb.call hb2
   replace xb := xb.call hb2
   replace low := gCall low hb2
   clear hb2 c0 c1 c2 c3 c4 c5
   cases hy : (y != 0)
   rotate_left
   ·obtain rfl : y = E := by have := HS.out; rwa [if_pos (by simpa using hy)] at this
    go_wp2_with fail
    go_ret
    exact ⟨rfl, low⟩
   obtain rfl : y = 0 := by simpa using hy
   replace HS := Lib.hid (HS.out.symm.trans (if_neg (by simp)))
   clear hy
   have rb_0 := rb.at_ 0 rfl
   have xb_0 := xb.at_ 0 rfl
   have xb_1 := xb.at_ 1 rfl
   cases hs : (x.st != 0)
   ·replace HS := Lib.hid (HS.out.trans (if_neg (by simp [hs])))
    go_wp2_with fail
    go_quiet (fail)
    go_wp2_with fail
    go_roundw
    case rel => exact ⟨k + 1, by omega, by go_num, Lib.hid HS.out.symm, rb.drewN _, gDrewN low _⟩
    case measure => simp [intOf]; omega
   ·have FA := Lib.hid fun w' (hw : Below w.heap.size w w') => find_any _ _ x.ln w' (Ws.take (H.out.call hw) (Nat.le_of_lt hlt))
    generalize idxP (hasW x.ln) (l.take k) = f at FA HS
    have kc : (k : Int) ≤ cp := by omega
    have k0 : (0 : Int) ≤ k := by omega
    cases hf : decide (0 ≤ f)
    ·replace HS := Lib.hid (HS.out.trans (if_neg (by simp [hf])))
     go_wp2_with fail
     go_region_held3 (fun w' => w'.cell? ⟨w.heap.size, 0, none⟩ = some (.slice (some ⟨bb, o, none⟩) l.length cp) ∧ w'.cell? ⟨wr.heap.size, 0, none⟩ = some (.int .i64 x.st) ∧ w'.cell? ⟨wr.heap.size, 1, none⟩ = some (.int .i64 x.ln) ∧ Box w' w.heap.size 193 (rowA (.slice (some ⟨bb, o, none⟩) l.length cp) a b c) ∧ Below w.heap.size w w')
      (first
       | (refine ⟨rb_0, xb_0, xb_1, rb, low⟩)
       | (refine ⟨rb_0, xb_0, xb_1, rb.drew, low.drew⟩)
       | go_keep
       | (go_split_ands; refine ⟨?_, ?_, ?_, ?_, ?_⟩ <;> first | (refine (hb.cell (World.block_lt_of_cell? _ _ (by assumption))).trans ?_; assumption) | exact Box.call (by assumption) hb | exact gCall (by assumption) hb))
      (first | (go_at_call 165; refine (FA.out _ (by go_split_ands; assumption)).mono ?_; rintro e w' ⟨rfl, hb⟩))
     rename_i hH
     obtain ⟨_, _, _, rb, low⟩ := hH
     clear hb
     go_wp2_with fail
     go_roundw
     case rel => exact ⟨k + 1, by omega, by go_num, Lib.hid HS.out.symm, rb, low⟩
     case measure => simp [intOf]; omega
    ·obtain rfl : E = 6 := HS.out.trans (if_pos (by simp [hf, hs]))
     go_wp2_with fail
     go_region_held3 (fun w' => w'.cell? ⟨w.heap.size, 0, none⟩ = some (.slice (some ⟨bb, o, none⟩) l.length cp) ∧ w'.cell? ⟨wr.heap.size, 0, none⟩ = some (.int .i64 x.st) ∧ w'.cell? ⟨wr.heap.size, 1, none⟩ = some (.int .i64 x.ln) ∧ Box w' w.heap.size 193 (rowA (.slice (some ⟨bb, o, none⟩) l.length cp) a b c) ∧ Below w.heap.size w w')
      (first
       | (refine ⟨rb_0, xb_0, xb_1, rb, low⟩)
       | (refine ⟨rb_0, xb_0, xb_1, rb.drew, low.drew⟩)
       | go_keep
       | (go_split_ands; refine ⟨?_, ?_, ?_, ?_, ?_⟩ <;> first | (refine (hb.cell (World.block_lt_of_cell? _ _ (by assumption))).trans ?_; assumption) | exact Box.call (by assumption) hb | exact gCall (by assumption) hb))
      (first | (go_at_call 165; refine (FA.out _ (by go_split_ands; assumption)).mono ?_; rintro e w' ⟨rfl, hb⟩))
     rename_i hH
     obtain ⟨_, _, _, rb, low⟩ := hH
     clear hb
     go_wp2_with fail
     go_ret
     exact ⟨rfl, low⟩
  ·obtain rfl : k = l.length := by omega
   obtain rfl : 0 = E := by have := hno.out; rwa [List.drop_length] at this
   go_wp2_with fail
   go_ret
   exact ⟨rfl, low⟩
end Go.Proofs.YtcegjehoejgofaaGreat
namespace Go.Proofs.YtcegjehoejgofaaGreat
open Go.ChangeShapes Go.WideShapes Go.ChangeAt Go.RowKit Go.Joins
theorem rowE_ok {l : List Wy} {a b c : Bool} {n : Int} (h : rowE l a b c n = 0) : treeE a b c n = 0 ∧ (l.length : Int) = n ∧ waysE [] l = 0 := by
 unfold rowE at h
 by_cases h1 : treeE a b c n ≠ 0
 ·rw [if_pos h1] at h; exact absurd h h1
 ·rw [if_neg h1] at h
  by_cases h2 : (l.length : Int) ≠ n
  ·rw [if_pos h2] at h; omega
  ·rw [if_neg h2] at h
   exact ⟨by omega, by omega, h⟩
theorem victim_in {a b c : Bool} {n : Int} (h : treeE a b c n = 0) : 0 ≤ victimN a b c n ∧ victimN a b c n < n := by
 obtain ⟨hn1, hn4⟩ := treeE_range h
 have hn : n = 1 ∨ n = 2 ∨ n = 3 ∨ n = 4 := by omega
 rcases hn with rfl | rfl | rfl | rfl <;> (revert h; cases a <;> cases b <;> cases c <;> decide)
theorem room_in {l : List Wy} {a b c : Bool} {n : Int} (h : rowE l a b c n = 0) : ∃ (k : Nat) (y : Wy), roomN l a b c n = k ∧ l[k]? = some y := by
 obtain ⟨h1, h2, _⟩ := rowE_ok h
 obtain ⟨v1, v2⟩ := victim_in h1
 unfold roomN
 rcases idxP_cases empW l with ⟨e, _⟩ | ⟨k, x, e, hk, _⟩
 ·rw [e, if_pos (by decide)]
  have hlt : (victimN a b c n).toNat < l.length := by omega
  exact ⟨(victimN a b c n).toNat, l[(victimN a b c n).toNat], by omega, List.getElem?_eq_getElem hlt⟩
 ·rw [e, if_neg (by omega)]
  exact ⟨k, x, rfl, hk⟩
theorem rowFind_ok (v : Value) (l : List Wy) (a b c : Bool) (n m : Int) (w : World) (h : Ws w v l) (he : rowE l a b c n = 0) :
  Calls Tryz.prog 153 #[rowV v a b c, .int .i64 n, .int .i64 m] w fun e w' => e = .returned (.tuple #[.int .i64 (idxP (hasW m) l), .int .i64 0]) ∧ Below w.heap.size w w' := by
 have low := Below.refl w.heap.size w
 have rb := boxNext low 193 (rowA v a b c)
 replace low := gAlloc low (.cells (rowA v a b c) 193)
 replace h := h.alloc (.cells (rowA v a b c) 193)
 try simp only [World.size_alloc] at rb
 simp only [rowA] at rb
 have R := Lib.hid fun w' hw => rowCheck_any v l a b c n w' hw
 rw [he] at R
 clear he
 go_enter Tryz.func153, Tryz.ntmps153
 go_wp2_with fail
 (with_reducible refine (R.out _ h).mono ?_); rintro e w1 ⟨rfl, hb⟩
 replace rb := rb.call hb
 replace h := h.call hb
 replace low := gCall low hb
 clear hb
 have rb_0 := rb.at_ 0 rfl
 go_wp2_with fail
 (with_reducible refine (find_any _ l _ _ h).mono ?_); rintro e w2 ⟨rfl, hb⟩
 replace rb := rb.call hb
 replace low := gCall low hb
 clear hb rb_0
 go_wp2_with fail
 go_ret2
 exact ⟨rfl, low⟩
def putE (l : List Wy) (a b c : Bool) (n : Int) (x : Wy) : Int := if rowE l a b c n ≠ 0 then rowE l a b c n else if hlB x = false then 4 else if 0 ≤ idxP (hasW x.ln) l then 6 else 0
def takeE (l : List Wy) (a b c : Bool) (n m : Int) : Int := if rowE l a b c n ≠ 0 then rowE l a b c n else if idxP (hasW m) l < 0 then 5 else 0
def setE (l : List Wy) (a b c : Bool) (n : Int) (x : Wy) : Int := if rowE l a b c n ≠ 0 then rowE l a b c n else if hlB x = false then 4 else if idxP (hasW x.ln) l < 0 then 5 else 0
theorem putE_ok {l : List Wy} {a b c : Bool} {n : Int} {x : Wy} (h : putE l a b c n x = 0) : rowE l a b c n = 0 ∧ hlB x = true ∧ idxP (hasW x.ln) l < 0 := by
 unfold putE at h
 split at h
 ·exact absurd h (by assumption)
 ·split at h
  ·omega
  ·split at h
   ·omega
   ·rename_i h1 h2 h3
    exact ⟨by omega, by simpa using h2, by omega⟩
theorem takeE_ok {l : List Wy} {a b c : Bool} {n m : Int} (h : takeE l a b c n m = 0) : rowE l a b c n = 0 ∧ 0 ≤ idxP (hasW m) l := by
 unfold takeE at h
 split at h
 ·exact absurd h (by assumption)
 ·split at h
  ·omega
  ·rename_i h1 h2
   exact ⟨by omega, by omega⟩
theorem setE_ok {l : List Wy} {a b c : Bool} {n : Int} {x : Wy} (h : setE l a b c n x = 0) : rowE l a b c n = 0 ∧ hlB x = true ∧ 0 ≤ idxP (hasW x.ln) l := by
 unfold setE at h
 split at h
 ·exact absurd h (by assumption)
 ·split at h
  ·omega
  ·split at h
   ·omega
   ·rename_i h1 h2 h3
    exact ⟨by omega, by simpa using h2, by omega⟩
theorem Box.wayC {w : World} {g : Nat} {t : TypeId} {x : Wy} (h : Box w g t x.arr) : w.cell? ⟨g, 0, none⟩ = some (.int .i64 x.st) ∧ w.cell? ⟨g, 1, none⟩ = some (.int .i64 x.ln) ∧ w.cell? ⟨g, 2, none⟩ = some (.int .u64 x.a) ∧ w.cell? ⟨g, 3, none⟩ = some (.int .u64 x.b) ∧ w.cell? ⟨g, 4, none⟩ = some (.int .u64 x.c) ∧ w.cell? ⟨g, 5, none⟩ = some (.int .u64 x.d) :=
 ⟨h.at_ 0 rfl, h.at_ 1 rfl, h.at_ 2 rfl, h.at_ 3 rfl, h.at_ 4 rfl, h.at_ 5 rfl⟩
theorem Box.rowC {w : World} {g : Nat} {t : TypeId} {v : Value} {a b c : Bool} (h : Box w g t (rowA v a b c)) : w.cell? ⟨g, 0, none⟩ = some (v) ∧ w.cell? ⟨g, 1, none⟩ = some (.bool a) ∧ w.cell? ⟨g, 2, none⟩ = some (.bool b) ∧ w.cell? ⟨g, 3, none⟩ = some (.bool c) :=
 ⟨h.at_ 0 rfl, h.at_ 1 rfl, h.at_ 2 rfl, h.at_ 3 rfl⟩
theorem size_row : (Tryz.prog.info? 193).map (·.size) = some 4 := by kernel_rfl
theorem set_lt {l : List Wy} {k : Nat} {y : Wy} (h : l[k]? = some y) : k < l.length := (List.getElem?_eq_some_iff.1 h).1
set_option maxHeartbeats 2000000 in
theorem rowPut_bad (v : Value) (l : List Wy) (a b c : Bool) (n : Int) (x : Wy) (w : World) (h : Ws w v l) (he : putE l a b c n x ≠ 0) :
  Calls Tryz.prog 159 #[rowV v a b c, .int .i64 n, x.val] w fun e w' => e = .returned (.tuple #[noRow, zeroV, .int .i64 (putE l a b c n x)]) ∧ Below w.heap.size w w' := by
 have low := Below.refl w.heap.size w
 have rb := boxNext low 193 (rowA v a b c)
 replace low := gAlloc low (.cells (rowA v a b c) 193)
 replace h := h.alloc (.cells (rowA v a b c) 193)
 try simp only [World.size_alloc] at rb
 simp only [rowA] at rb
 have xb := boxNext low 114 x.arr
 replace low := gAlloc low (.cells x.arr 114)
 replace h := h.alloc (.cells x.arr 114)
 replace rb := rb.alloc (.cells x.arr 114)
 try simp only [World.size_alloc] at xb
 simp only [Wy.arr] at xb
 have ob := boxNext low 193 (rowA (.slice none 0 0) false false false)
 replace low := gAlloc low (.cells (rowA (.slice none 0 0) false false false) 193)
 replace h := h.alloc (.cells (rowA (.slice none 0 0) false false false) 193)
 replace rb := rb.alloc (.cells (rowA (.slice none 0 0) false false false) 193)
 replace xb := xb.alloc (.cells (rowA (.slice none 0 0) false false false) 193)
 try simp only [World.size_alloc] at ob
 simp only [rowA] at ob
 have wb := boxNext low 114 zeroA
 replace low := gAlloc low (.cells zeroA 114)
 replace h := h.alloc (.cells zeroA 114)
 replace rb := rb.alloc (.cells zeroA 114)
 replace xb := xb.alloc (.cells zeroA 114)
 replace ob := ob.alloc (.cells zeroA 114)
 try simp only [World.size_alloc] at wb
 simp only [zeroA] at wb
 have R := Lib.hid fun w' hw => rowCheck_any v l a b c n w' hw
 have HL := Lib.hid fun w' => hasLine_any x w'
 have FA := Lib.hid fun w' hw => find_any v l x.ln w' hw
 generalize hE : putE l a b c n x = E at he ⊢
 unfold putE at hE
 generalize rowE l a b c n = r at R hE
 generalize hlB x = t at HL hE
 generalize idxP (hasW x.ln) l = f at FA hE
 have HE := Lib.hid hE
 have HH := Lib.hid he
 clear he hE
 cases hr : (r != 0)
 rotate_left
 ·obtain rfl : r = E := by have := HE.out; rwa [if_pos (by simpa using hr)] at this
  go_enter Tryz.func159, Tryz.ntmps159
  go_wp2_with fail
  (with_reducible refine (R.out _ h).mono ?_); rintro e w1 ⟨rfl, hb⟩
  replace rb := rb.call hb
  replace xb := xb.call hb
  replace ob := ob.call hb
  replace wb := wb.call hb
  replace low := gCall low hb
  clear hb
  have ob_0 := ob.at_ 0 rfl
  have ob_1 := ob.at_ 1 rfl
  have ob_2 := ob.at_ 2 rfl
  have ob_3 := ob.at_ 3 rfl
  have wb_0 := wb.at_ 0 rfl
  have wb_1 := wb.at_ 1 rfl
  have wb_2 := wb.at_ 2 rfl
  have wb_3 := wb.at_ 3 rfl
  have wb_4 := wb.at_ 4 rfl
  have wb_5 := wb.at_ 5 rfl
  have ob_f0 := ob.frozen 0
  have ob_f1 := ob.frozen 1
  have ob_f2 := ob.frozen 2
  have ob_f3 := ob.frozen 3
  have wb_f0 := wb.frozen 0
  have wb_f1 := wb.frozen 1
  have wb_f2 := wb.frozen 2
  have wb_f3 := wb.frozen 3
  have wb_f4 := wb.frozen 4
  have wb_f5 := wb.frozen 5
  have z1 : w.heap.size + 1 + 1 + 1 < w1.heap.size := wb.lt
  go_wp2_with fail
  refine bodyPost_ret (v := .tuple #[noRow, zeroV, .int .i64 r]) (by simp [results, Tryz.results159, go_sem, ob_0, ob_1, ob_2, ob_3, wb_0, wb_1, wb_2, wb_3, wb_4, wb_5]) rfl ⟨rfl, ?_⟩
  repeat (refine gSet ?_ (by dsimp only; omega) _)
  exact low
 obtain rfl : r = 0 := by simpa using hr
 cases t
 ·obtain rfl : 4 = E := by simpa using HE.out
  go_enter Tryz.func159, Tryz.ntmps159
  go_wp2_with fail
  (with_reducible refine (R.out _ h).mono ?_); rintro e w0 ⟨rfl, hb⟩
  replace rb := rb.call hb
  replace xb := xb.call hb
  replace ob := ob.call hb
  replace wb := wb.call hb
  replace low := gCall low hb
  clear hb
  have xb_0 := xb.at_ 0 rfl
  have xb_1 := xb.at_ 1 rfl
  have xb_2 := xb.at_ 2 rfl
  have xb_3 := xb.at_ 3 rfl
  have xb_4 := xb.at_ 4 rfl
  have xb_5 := xb.at_ 5 rfl
  go_wp2_with fail
  (with_reducible refine (HL.out _).mono ?_); rintro e w1 ⟨rfl, hb⟩
  replace rb := rb.call hb
  replace xb := xb.call hb
  replace ob := ob.call hb
  replace wb := wb.call hb
  replace low := gCall low hb
  clear hb xb_0 xb_1 xb_2 xb_3 xb_4 xb_5
  have ob_0 := ob.at_ 0 rfl
  have ob_1 := ob.at_ 1 rfl
  have ob_2 := ob.at_ 2 rfl
  have ob_3 := ob.at_ 3 rfl
  have wb_0 := wb.at_ 0 rfl
  have wb_1 := wb.at_ 1 rfl
  have wb_2 := wb.at_ 2 rfl
  have wb_3 := wb.at_ 3 rfl
  have wb_4 := wb.at_ 4 rfl
  have wb_5 := wb.at_ 5 rfl
  have ob_f0 := ob.frozen 0
  have ob_f1 := ob.frozen 1
  have ob_f2 := ob.frozen 2
  have ob_f3 := ob.frozen 3
  have wb_f0 := wb.frozen 0
  have wb_f1 := wb.frozen 1
  have wb_f2 := wb.frozen 2
  have wb_f3 := wb.frozen 3
  have wb_f4 := wb.frozen 4
  have wb_f5 := wb.frozen 5
  have z1 : w.heap.size + 1 + 1 + 1 < w1.heap.size := wb.lt
  go_wp2_with fail
  refine bodyPost_ret (v := .tuple #[noRow, zeroV, .int .i64 4]) (by simp [results, Tryz.results159, go_sem, ob_0, ob_1, ob_2, ob_3, wb_0, wb_1, wb_2, wb_3, wb_4, wb_5]) rfl ⟨rfl, ?_⟩
  repeat (refine gSet ?_ (by dsimp only; omega) _)
  exact low
 cases hf : decide (0 ≤ f)
 ·have := HE.out
  rw [if_neg (by simp), if_neg (by simp), if_neg (by simpa using hf)] at this
  exact absurd this.symm HH.out
 ·obtain rfl : 6 = E := by have := HE.out; rwa [if_neg (by simp), if_neg (by simp), if_pos (by simpa using hf)] at this
  go_enter Tryz.func159, Tryz.ntmps159
  go_wp2_with fail
  (with_reducible refine (R.out _ h).mono ?_); rintro e w0 ⟨rfl, hb⟩
  replace rb := rb.call hb
  replace xb := xb.call hb
  replace ob := ob.call hb
  replace wb := wb.call hb
  replace h := h.call hb
  replace low := gCall low hb
  clear hb
  have xb_0 := xb.at_ 0 rfl
  have xb_1 := xb.at_ 1 rfl
  have xb_2 := xb.at_ 2 rfl
  have xb_3 := xb.at_ 3 rfl
  have xb_4 := xb.at_ 4 rfl
  have xb_5 := xb.at_ 5 rfl
  go_wp2_with fail
  (with_reducible refine (HL.out _).mono ?_); rintro e w00 ⟨rfl, hb⟩
  replace rb := rb.call hb
  replace xb := xb.call hb
  replace ob := ob.call hb
  replace wb := wb.call hb
  replace h := h.call hb
  replace low := gCall low hb
  clear hb xb_0 xb_1 xb_2 xb_3 xb_4 xb_5
  have xb_0 := xb.at_ 0 rfl
  have xb_1 := xb.at_ 1 rfl
  have xb_2 := xb.at_ 2 rfl
  have xb_3 := xb.at_ 3 rfl
  have xb_4 := xb.at_ 4 rfl
  have xb_5 := xb.at_ 5 rfl
  have rb_0 := rb.at_ 0 rfl
  go_wp2_with fail
  (with_reducible refine (FA.out _ h).mono ?_); rintro e w1 ⟨rfl, hb⟩
  replace rb := rb.call hb
  replace xb := xb.call hb
  replace ob := ob.call hb
  replace wb := wb.call hb
  replace low := gCall low hb
  clear hb xb_0 xb_1 xb_2 xb_3 xb_4 xb_5 rb_0
  have ob_0 := ob.at_ 0 rfl
  have ob_1 := ob.at_ 1 rfl
  have ob_2 := ob.at_ 2 rfl
  have ob_3 := ob.at_ 3 rfl
  have wb_0 := wb.at_ 0 rfl
  have wb_1 := wb.at_ 1 rfl
  have wb_2 := wb.at_ 2 rfl
  have wb_3 := wb.at_ 3 rfl
  have wb_4 := wb.at_ 4 rfl
  have wb_5 := wb.at_ 5 rfl
  have ob_f0 := ob.frozen 0
  have ob_f1 := ob.frozen 1
  have ob_f2 := ob.frozen 2
  have ob_f3 := ob.frozen 3
  have wb_f0 := wb.frozen 0
  have wb_f1 := wb.frozen 1
  have wb_f2 := wb.frozen 2
  have wb_f3 := wb.frozen 3
  have wb_f4 := wb.frozen 4
  have wb_f5 := wb.frozen 5
  have z1 : w.heap.size + 1 + 1 + 1 < w1.heap.size := wb.lt
  go_wp2_with fail
  refine bodyPost_ret (v := .tuple #[noRow, zeroV, .int .i64 6]) (by simp [results, Tryz.results159, go_sem, ob_0, ob_1, ob_2, ob_3, wb_0, wb_1, wb_2, wb_3, wb_4, wb_5]) rfl ⟨rfl, ?_⟩
  repeat (refine gSet ?_ (by dsimp only; omega) _)
  exact low
set_option maxRecDepth 10000 in
set_option maxHeartbeats 500000 in
theorem rowPut_ok (v : Value) (l : List Wy) (a b c : Bool) (n : Int) (x : Wy) (k : Nat) (y : Wy) (w : World) (h : Ws w v l) (he : putE l a b c n x = 0) (hk : roomN l a b c n = k) (hy : l[k]? = some y) :
  Calls Tryz.prog 159 #[rowV v a b c, .int .i64 n, x.val] w fun e w' =>
   (∃ v', e = .returned (.tuple #[rowV v' (touchT a b c n k).1 (touchT a b c n k).2.1 (touchT a b c n k).2.2, y.val, .int .i64 0]) ∧ Fr w' w.heap.size w'.heap.size v' (l.set k x)) ∧ Below w.heap.size w w' := by
 obtain ⟨e1, e2, e3⟩ := putE_ok he
 obtain ⟨e4, e5, _⟩ := rowE_ok e1
 have kl := set_lt hy
 have low := Below.refl w.heap.size w
 have H := Lib.hid h
 have rb := boxNext low 193 (rowA v a b c)
 replace low := gAlloc low (.cells (rowA v a b c) 193)
 replace h := h.alloc (.cells (rowA v a b c) 193)
 try simp only [World.size_alloc] at rb
 simp only [rowA] at rb
 have xb := boxNext low 114 x.arr
 replace low := gAlloc low (.cells x.arr 114)
 replace h := h.alloc (.cells x.arr 114)
 replace rb := rb.alloc (.cells x.arr 114)
 try simp only [World.size_alloc] at xb
 simp only [Wy.arr] at xb
 have ob := boxNext low 193 (rowA (.slice none 0 0) false false false)
 replace low := gAlloc low (.cells (rowA (.slice none 0 0) false false false) 193)
 replace h := h.alloc (.cells (rowA (.slice none 0 0) false false false) 193)
 replace rb := rb.alloc (.cells (rowA (.slice none 0 0) false false false) 193)
 replace xb := xb.alloc (.cells (rowA (.slice none 0 0) false false false) 193)
 try simp only [World.size_alloc] at ob
 simp only [rowA] at ob
 have wb := boxNext low 114 zeroA
 replace low := gAlloc low (.cells zeroA 114)
 replace h := h.alloc (.cells zeroA 114)
 replace rb := rb.alloc (.cells zeroA 114)
 replace xb := xb.alloc (.cells zeroA 114)
 replace ob := ob.alloc (.cells zeroA 114)
 try simp only [World.size_alloc] at wb
 simp only [zeroA] at wb
 have R := Lib.hid fun w' hw => rowCheck_any v l a b c n w' hw
 have HL := Lib.hid fun w' => hasLine_any x w'
 have FA := Lib.hid fun w' hw => find_any v l x.ln w' hw
 have RO := Lib.hid fun w' hw => room_any v l a b c n w' hw e4
 have AC := Lib.hid fun w' hw => access_any v l a b c n k x w' hw e4 e5 kl
 rw [e1] at R
 rw [e2] at HL
 rw [hk] at RO
 generalize idxP (hasW x.ln) l = f at FA e3
 generalize touchT a b c n k = t at AC ⊢
 have e3' : decide (0 ≤ f) = false := decide_eq_false (by omega)
 have HY := Lib.hid hy
 clear he e1 e2 e3 e4 e5 hk hy
 go_enter Tryz.func159, Tryz.ntmps159
 go_wp2_with fail
 (with_reducible refine (R.out _ h).mono ?_); rintro e w0 ⟨rfl, hb⟩
 replace rb := rb.call hb
 replace xb := xb.call hb
 replace ob := ob.call hb
 replace wb := wb.call hb
 replace h := h.call hb
 replace low := gCall low hb
 clear hb
 have xb_0 := xb.at_ 0 rfl
 have xb_1 := xb.at_ 1 rfl
 have xb_2 := xb.at_ 2 rfl
 have xb_3 := xb.at_ 3 rfl
 have xb_4 := xb.at_ 4 rfl
 have xb_5 := xb.at_ 5 rfl
 go_wp2_with fail
 (with_reducible refine (HL.out _).mono ?_); rintro e w1 ⟨rfl, hb⟩
 replace rb := rb.call hb
 replace xb := xb.call hb
 replace ob := ob.call hb
 replace wb := wb.call hb
 replace h := h.call hb
 replace low := gCall low hb
 clear hb xb_0 xb_1 xb_2 xb_3 xb_4 xb_5
 have xb_0 := xb.at_ 0 rfl
 have xb_1 := xb.at_ 1 rfl
 have xb_2 := xb.at_ 2 rfl
 have xb_3 := xb.at_ 3 rfl
 have xb_4 := xb.at_ 4 rfl
 have xb_5 := xb.at_ 5 rfl
 have rb_0 := rb.at_ 0 rfl
 have rb_1 := rb.at_ 1 rfl
 have rb_2 := rb.at_ 2 rfl
 have rb_3 := rb.at_ 3 rfl
 go_wp2_with fail
 (with_reducible refine (FA.out _ h).mono ?_); rintro e w2 ⟨rfl, hb⟩
 replace rb := rb.call hb
 replace xb := xb.call hb
 replace ob := ob.call hb
 replace wb := wb.call hb
 replace h := h.call hb
 replace low := gCall low hb
 clear hb xb_0 xb_1 xb_2 xb_3 xb_4 xb_5 rb_0 rb_1 rb_2 rb_3
 have rb_0 := rb.at_ 0 rfl
 have rb_1 := rb.at_ 1 rfl
 have rb_2 := rb.at_ 2 rfl
 have rb_3 := rb.at_ 3 rfl
 go_wp2_with fail
 (with_reducible refine (RO.out _ h).mono ?_); rintro e w3 ⟨rfl, hb⟩
 replace rb := rb.call hb
 replace xb := xb.call hb
 replace ob := ob.call hb
 replace wb := wb.call hb
 replace h := h.call hb
 replace low := gCall low hb
 clear hb rb_0 rb_1 rb_2 rb_3
 clear R HL FA RO
 obtain ⟨hl, A, cp, rfl, h1, h2, h3⟩ := H.out
 obtain ⟨bb, o, rfl, hb, hc⟩ := h3 (by omega)
 obtain ⟨c0, c1, c2, c3, c4, c5⟩ := wayAt_of hc hb low HY.out
 obtain ⟨r0, r1, r2, r3⟩ := rb.rowC
 obtain ⟨x0, x1, x2, x3, x4, x5⟩ := xb.wayC
 have kc : (k : Int) < l.length := by omega
 have k0 : (0 : Int) ≤ k := by omega
 clear h3 hc h1 h2 hl
 go_wp2_with fail
 refine wp_region_noPanic ?_
 refine wp_region_held_drew (S := fun w' => w'.cell? ⟨w.heap.size, 0, none⟩ = some (.slice (some ⟨bb, o, none⟩) l.length cp) ∧ w'.cell? ⟨w.heap.size, 1, none⟩ = some (.bool a) ∧ w'.cell? ⟨w.heap.size, 2, none⟩ = some (.bool b) ∧ w'.cell? ⟨w.heap.size, 3, none⟩ = some (.bool c) ∧ w'.cell? ⟨w.heap.size + 1, 0, none⟩ = some (.int .i64 x.st) ∧ w'.cell? ⟨w.heap.size + 1, 1, none⟩ = some (.int .i64 x.ln) ∧ w'.cell? ⟨w.heap.size + 1, 2, none⟩ = some (.int .u64 x.a) ∧ w'.cell? ⟨w.heap.size + 1, 3, none⟩ = some (.int .u64 x.b) ∧ w'.cell? ⟨w.heap.size + 1, 4, none⟩ = some (.int .u64 x.c) ∧ w'.cell? ⟨w.heap.size + 1, 5, none⟩ = some (.int .u64 x.d) ∧ w'.cell? ⟨bb, o + k * 6, none⟩ = some (.int .i64 y.st) ∧ w'.cell? ⟨bb, o + k * 6 + 1, none⟩ = some (.int .i64 y.ln) ∧ w'.cell? ⟨bb, o + k * 6 + 2, none⟩ = some (.int .u64 y.a) ∧ w'.cell? ⟨bb, o + k * 6 + 3, none⟩ = some (.int .u64 y.b) ∧ w'.cell? ⟨bb, o + k * 6 + 4, none⟩ = some (.int .u64 y.c) ∧ w'.cell? ⟨bb, o + k * 6 + 5, none⟩ = some (.int .u64 y.d)) (by kernel_rfl) ⟨drewC r0, drewC r1, drewC r2, drewC r3, drewC x0, drewC x1, drewC x2, drewC x3, drewC x4, drewC x5, drewC c0, drewC c1, drewC c2, drewC c3, drewC c4, drewC c5⟩ (fun hHeld => ?_)
 refine takeA 0 ?_ rfl ?_ ?_; rotate_left
 ·(intro w hSw; go_simp; try (with_reducible rfl))
 try simp only [Act.put, List.setIfInBounds_toArray, List.set_cons_zero, List.set_cons_succ]
 refine takeA 1 ?_ rfl ?_ ?_; rotate_left
 ·(intro w hSw; go_simp; try (with_reducible rfl))
 try simp only [Act.put, List.setIfInBounds_toArray, List.set_cons_zero, List.set_cons_succ]
 refine takeA 2 ?_ rfl ?_ ?_; rotate_left
 ·(intro w hSw; go_simp; try (with_reducible rfl))
 try simp only [Act.put, List.setIfInBounds_toArray, List.set_cons_zero, List.set_cons_succ]
 refine takeA 3 ?_ rfl ?_ ?_; rotate_left
 ·(intro w hSw; go_simp; try (with_reducible rfl))
 try simp only [Act.put, List.setIfInBounds_toArray, List.set_cons_zero, List.set_cons_succ]
 refine takeA 5 ?_ rfl ?_ ?_; rotate_left
 ·(intro w hSw; go_simp; try (with_reducible rfl))
 try simp only [Act.put, List.setIfInBounds_toArray, List.set_cons_zero, List.set_cons_succ]
 refine takeA 6 ?_ rfl ?_ ?_; rotate_left
 ·(intro w hSw; go_simp; try (with_reducible rfl))
 try simp only [Act.put, List.setIfInBounds_toArray, List.set_cons_zero, List.set_cons_succ]
 refine takeA 7 ?_ rfl ?_ ?_; rotate_left
 ·(intro w hSw; go_simp; try (with_reducible rfl))
 try simp only [Act.put, List.setIfInBounds_toArray, List.set_cons_zero, List.set_cons_succ]
 refine takeA 8 ?_ rfl ?_ ?_; rotate_left
 ·(intro w hSw; go_simp; try (with_reducible rfl))
 try simp only [Act.put, List.setIfInBounds_toArray, List.set_cons_zero, List.set_cons_succ]
 refine takeA 9 ?_ rfl ?_ ?_; rotate_left
 ·(intro w hSw; go_simp; try (with_reducible rfl))
 try simp only [Act.put, List.setIfInBounds_toArray, List.set_cons_zero, List.set_cons_succ]
 refine stepNext (i := 4) (by kernel_rfl) rfl (by rfl) (fun K hK => ?_)
 go_simp
 (with_reducible refine (AC.out _ h.drew).mono ?_); rintro e w4 ⟨⟨v', rfl, fr⟩, hb4⟩
 have z3 : w.heap.size + 1 + 1 + 1 < w3.heap.size := wb.lt
 have z4 : w3.heap.size ≤ w4.heap.size := hb4.size
 replace ob := ob.drew.call hb4
 replace wb := wb.drew.call hb4
 replace low := gCall low.drew hb4
 obtain ⟨A', c', rfl⟩ := fr.shape
 obtain ⟨hh0, hh1, hh2, hh3, hh4, hh5, hh6, hh7, hh8, hh9, hh10, hh11, hh12, hh13, hh14, hh15⟩ := hHeld
 have hHeld := (And.intro (callC hb4 hh0) (And.intro (callC hb4 hh1) (And.intro (callC hb4 hh2) (And.intro (callC hb4 hh3) (And.intro (callC hb4 hh4) (And.intro (callC hb4 hh5) (And.intro (callC hb4 hh6) (And.intro (callC hb4 hh7) (And.intro (callC hb4 hh8) (And.intro (callC hb4 hh9) (And.intro (callC hb4 hh10) (And.intro (callC hb4 hh11) (And.intro (callC hb4 hh12) (And.intro (callC hb4 hh13) (And.intro (callC hb4 hh14) (callC hb4 hh15))))))))))))))))
 clear hh0 hh1 hh2 hh3 hh4 hh5 hh6 hh7 hh8 hh9 hh10 hh11 hh12 hh13 hh14 hh15
 refine hK.out _ _ hHeld ?_
 clear hK K
 try simp only [Act.put]
 try simp only [List.setIfInBounds_toArray, List.set_cons_zero, List.set_cons_succ]
 refine stepNext (i := 10) (by kernel_rfl) rfl (by rfl) (fun K hK => ?_)
 refine wp_store_box 193 (.tmp 6) (.tmp 39) rfl _ _ rfl rfl ob size_row rfl (by simp [Value.oneCell']) ?_
 intro w5 ob st
 replace wb := st.box wb (by omega)
 replace fr := st.fr fr (.inl (by show _ < w3.heap.size; omega))
 replace low := st.low low (by omega)
 have z5 := st.size
 obtain ⟨hh0, hh1, hh2, hh3, hh4, hh5, hh6, hh7, hh8, hh9, hh10, hh11, hh12, hh13, hh14, hh15⟩ := hHeld
 have hHeld := (And.intro (st.cell (by dsimp only; omega) hh0) (And.intro (st.cell (by dsimp only; omega) hh1) (And.intro (st.cell (by dsimp only; omega) hh2) (And.intro (st.cell (by dsimp only; omega) hh3) (And.intro (st.cell (by dsimp only; omega) hh4) (And.intro (st.cell (by dsimp only; omega) hh5) (And.intro (st.cell (by dsimp only; omega) hh6) (And.intro (st.cell (by dsimp only; omega) hh7) (And.intro (st.cell (by dsimp only; omega) hh8) (And.intro (st.cell (by dsimp only; omega) hh9) (And.intro (st.cell (by dsimp only; omega) hh10) (And.intro (st.cell (by dsimp only; omega) hh11) (And.intro (st.cell (by dsimp only; omega) hh12) (And.intro (st.cell (by dsimp only; omega) hh13) (And.intro (st.cell (by dsimp only; omega) hh14) (st.cell (by dsimp only; omega) hh15))))))))))))))))
 clear hh0 hh1 hh2 hh3 hh4 hh5 hh6 hh7 hh8 hh9 hh10 hh11 hh12 hh13 hh14 hh15
 clear st
 refine hK.out _ _ hHeld ?_
 clear hK K
 try simp only [Act.put]
 try simp only [List.setIfInBounds_toArray, List.set_cons_zero, List.set_cons_succ]
 refine stepNext (i := 11) (by kernel_rfl) rfl (by rfl) (fun K hK => ?_)
 refine wp_store_box 114 (.tmp 7) (.tmp 44) rfl _ _ rfl rfl wb size_way rfl (by simp [Value.oneCell']) ?_
 intro w6 wb st
 replace ob := st.box ob (by omega)
 replace fr := st.fr fr (.inl (by show _ < w3.heap.size; omega))
 replace low := st.low low (by omega)
 have z6 := st.size
 obtain ⟨hh0, hh1, hh2, hh3, hh4, hh5, hh6, hh7, hh8, hh9, hh10, hh11, hh12, hh13, hh14, hh15⟩ := hHeld
 have hHeld := (And.intro (st.cell (by dsimp only; omega) hh0) (And.intro (st.cell (by dsimp only; omega) hh1) (And.intro (st.cell (by dsimp only; omega) hh2) (And.intro (st.cell (by dsimp only; omega) hh3) (And.intro (st.cell (by dsimp only; omega) hh4) (And.intro (st.cell (by dsimp only; omega) hh5) (And.intro (st.cell (by dsimp only; omega) hh6) (And.intro (st.cell (by dsimp only; omega) hh7) (And.intro (st.cell (by dsimp only; omega) hh8) (And.intro (st.cell (by dsimp only; omega) hh9) (And.intro (st.cell (by dsimp only; omega) hh10) (And.intro (st.cell (by dsimp only; omega) hh11) (And.intro (st.cell (by dsimp only; omega) hh12) (And.intro (st.cell (by dsimp only; omega) hh13) (And.intro (st.cell (by dsimp only; omega) hh14) (st.cell (by dsimp only; omega) hh15))))))))))))))))
 clear hh0 hh1 hh2 hh3 hh4 hh5 hh6 hh7 hh8 hh9 hh10 hh11 hh12 hh13 hh14 hh15
 clear st
 refine hK.out _ _ hHeld ?_
 clear hK K
 try simp only [Act.put]
 try simp only [List.setIfInBounds_toArray, List.set_cons_zero, List.set_cons_succ]
 refine stepNext (i := 12) (by kernel_rfl) rfl (by rfl) (fun K hK => ?_)
 go_simp
 refine hK.out _ _ hHeld ?_
 clear hK K
 try simp only [Act.put]
 try simp only [List.setIfInBounds_toArray, List.set_cons_zero, List.set_cons_succ]
 clear hHeld c0 c1 c2 c3 c4 c5 r0 r1 r2 r3 x0 x1 x2 x3 x4 x5 xb rb
 refine wpAnyH_done (by kernel_rfl) ?_ _
 refine NoPanic.normal ?_
 go_wp2_with fail
 obtain ⟨p0, p1, p2, p3⟩ := ob.rowC
 obtain ⟨q0, q1, q2, q3, q4, q5⟩ := wb.wayC
 refine bodyPost_ret (v := .tuple #[rowV (.slice A' (l.set k x).length c') t.1 t.2.1 t.2.2, y.val, .int .i64 0]) (by simp [results, Tryz.results159, go_sem, p0, p1, p2, p3, q0, q1, q2, q3, q4, q5]) rfl ⟨⟨_, rfl, ?_⟩, low⟩
 exact fr.more (by show _ ≤ w3.heap.size; omega) (by omega)
set_option maxHeartbeats 2000000 in
theorem rowTake_bad (v : Value) (l : List Wy) (a b c : Bool) (n m : Int) (w : World) (h : Ws w v l) (he : takeE l a b c n m ≠ 0) :
  Calls Tryz.prog 156 #[rowV v a b c, .int .i64 n, .int .i64 m] w fun e w' => e = .returned (.tuple #[noRow, zeroV, .int .i64 (takeE l a b c n m)]) ∧ Below w.heap.size w w' := by
 have low := Below.refl w.heap.size w
 have rb := boxNext low 193 (rowA v a b c)
 replace low := gAlloc low (.cells (rowA v a b c) 193)
 replace h := h.alloc (.cells (rowA v a b c) 193)
 try simp only [World.size_alloc] at rb
 simp only [rowA] at rb
 have ob := boxNext low 193 (rowA (.slice none 0 0) false false false)
 replace low := gAlloc low (.cells (rowA (.slice none 0 0) false false false) 193)
 replace h := h.alloc (.cells (rowA (.slice none 0 0) false false false) 193)
 replace rb := rb.alloc (.cells (rowA (.slice none 0 0) false false false) 193)
 try simp only [World.size_alloc] at ob
 simp only [rowA] at ob
 have wb := boxNext low 114 zeroA
 replace low := gAlloc low (.cells zeroA 114)
 replace h := h.alloc (.cells zeroA 114)
 replace rb := rb.alloc (.cells zeroA 114)
 replace ob := ob.alloc (.cells zeroA 114)
 try simp only [World.size_alloc] at wb
 simp only [zeroA] at wb
 have R := Lib.hid fun w' hw => rowCheck_any v l a b c n w' hw
 have FA := Lib.hid fun w' hw => find_any v l m w' hw
 generalize hE : takeE l a b c n m = E at he ⊢
 unfold takeE at hE
 generalize rowE l a b c n = r at R hE
 generalize idxP (hasW m) l = f at FA hE
 have HE := Lib.hid hE
 have HH := Lib.hid he
 clear he hE
 cases hr : (r != 0)
 rotate_left
 ·obtain rfl : r = E := by have := HE.out; rwa [if_pos (by simpa using hr)] at this
  go_enter Tryz.func156, Tryz.ntmps156
  go_wp2_with fail
  (with_reducible refine (R.out _ h).mono ?_); rintro e w1 ⟨rfl, hb⟩
  replace rb := rb.call hb
  replace ob := ob.call hb
  replace wb := wb.call hb
  replace low := gCall low hb
  clear hb
  have ob_0 := ob.at_ 0 rfl
  have ob_1 := ob.at_ 1 rfl
  have ob_2 := ob.at_ 2 rfl
  have ob_3 := ob.at_ 3 rfl
  have wb_0 := wb.at_ 0 rfl
  have wb_1 := wb.at_ 1 rfl
  have wb_2 := wb.at_ 2 rfl
  have wb_3 := wb.at_ 3 rfl
  have wb_4 := wb.at_ 4 rfl
  have wb_5 := wb.at_ 5 rfl
  have ob_f0 := ob.frozen 0
  have ob_f1 := ob.frozen 1
  have ob_f2 := ob.frozen 2
  have ob_f3 := ob.frozen 3
  have wb_f0 := wb.frozen 0
  have wb_f1 := wb.frozen 1
  have wb_f2 := wb.frozen 2
  have wb_f3 := wb.frozen 3
  have wb_f4 := wb.frozen 4
  have wb_f5 := wb.frozen 5
  have z1 : w.heap.size + 1 + 1 < w1.heap.size := wb.lt
  go_wp2_with fail
  refine bodyPost_ret (v := .tuple #[noRow, zeroV, .int .i64 r]) (by simp [results, Tryz.results156, go_sem, ob_0, ob_1, ob_2, ob_3, wb_0, wb_1, wb_2, wb_3, wb_4, wb_5]) rfl ⟨rfl, ?_⟩
  repeat (refine gSet ?_ (by dsimp only; omega) _)
  exact low
 obtain rfl : r = 0 := by simpa using hr
 cases hf : decide (f < 0)
 ·have := HE.out
  rw [if_neg (by simp), if_neg (by simpa using hf)] at this
  exact absurd this.symm HH.out
 ·obtain rfl : 5 = E := by have := HE.out; rwa [if_neg (by simp), if_pos (by simpa using hf)] at this
  go_enter Tryz.func156, Tryz.ntmps156
  go_wp2_with fail
  (with_reducible refine (R.out _ h).mono ?_); rintro e w0 ⟨rfl, hb⟩
  replace rb := rb.call hb
  replace ob := ob.call hb
  replace wb := wb.call hb
  replace h := h.call hb
  replace low := gCall low hb
  clear hb
  have rb_0 := rb.at_ 0 rfl
  go_wp2_with fail
  (with_reducible refine (FA.out _ h).mono ?_); rintro e w1 ⟨rfl, hb⟩
  replace rb := rb.call hb
  replace ob := ob.call hb
  replace wb := wb.call hb
  replace low := gCall low hb
  clear hb rb_0
  have ob_0 := ob.at_ 0 rfl
  have ob_1 := ob.at_ 1 rfl
  have ob_2 := ob.at_ 2 rfl
  have ob_3 := ob.at_ 3 rfl
  have wb_0 := wb.at_ 0 rfl
  have wb_1 := wb.at_ 1 rfl
  have wb_2 := wb.at_ 2 rfl
  have wb_3 := wb.at_ 3 rfl
  have wb_4 := wb.at_ 4 rfl
  have wb_5 := wb.at_ 5 rfl
  have ob_f0 := ob.frozen 0
  have ob_f1 := ob.frozen 1
  have ob_f2 := ob.frozen 2
  have ob_f3 := ob.frozen 3
  have wb_f0 := wb.frozen 0
  have wb_f1 := wb.frozen 1
  have wb_f2 := wb.frozen 2
  have wb_f3 := wb.frozen 3
  have wb_f4 := wb.frozen 4
  have wb_f5 := wb.frozen 5
  have z1 : w.heap.size + 1 + 1 < w1.heap.size := wb.lt
  go_wp2_with fail
  refine bodyPost_ret (v := .tuple #[noRow, zeroV, .int .i64 5]) (by simp [results, Tryz.results156, go_sem, ob_0, ob_1, ob_2, ob_3, wb_0, wb_1, wb_2, wb_3, wb_4, wb_5]) rfl ⟨rfl, ?_⟩
  repeat (refine gSet ?_ (by dsimp only; omega) _)
  exact low
set_option maxRecDepth 10000 in
set_option maxHeartbeats 2000000 in
theorem rowTake_ok (v : Value) (l : List Wy) (a b c : Bool) (n m : Int) (k : Nat) (y : Wy) (w : World) (h : Ws w v l) (he : rowE l a b c n = 0) (hk : idxP (hasW m) l = k) (hy : l[k]? = some y) :
  Calls Tryz.prog 156 #[rowV v a b c, .int .i64 n, .int .i64 m] w fun e w' =>
   (∃ v', e = .returned (.tuple #[rowV v' a b c, y.val, .int .i64 0]) ∧ Fr w' w.heap.size w'.heap.size v' (l.set k wy0)) ∧ Below w.heap.size w w' := by
 obtain ⟨e4, e5, _⟩ := rowE_ok he
 obtain ⟨hn1, hn4⟩ := treeE_range e4
 have kl := set_lt hy
 have low := Below.refl w.heap.size w
 have H := Lib.hid h
 have rb := boxNext low 193 (rowA v a b c)
 replace low := gAlloc low (.cells (rowA v a b c) 193)
 replace h := h.alloc (.cells (rowA v a b c) 193)
 try simp only [World.size_alloc] at rb
 simp only [rowA] at rb
 have ob := boxNext low 193 (rowA (.slice none 0 0) false false false)
 replace low := gAlloc low (.cells (rowA (.slice none 0 0) false false false) 193)
 replace h := h.alloc (.cells (rowA (.slice none 0 0) false false false) 193)
 replace rb := rb.alloc (.cells (rowA (.slice none 0 0) false false false) 193)
 try simp only [World.size_alloc] at ob
 simp only [rowA] at ob
 have wb := boxNext low 114 zeroA
 replace low := gAlloc low (.cells zeroA 114)
 replace h := h.alloc (.cells zeroA 114)
 replace rb := rb.alloc (.cells zeroA 114)
 replace ob := ob.alloc (.cells zeroA 114)
 try simp only [World.size_alloc] at wb
 simp only [zeroA] at wb
 have R := Lib.hid fun w' hw => rowCheck_any v l a b c n w' hw
 have FA := Lib.hid fun w' hw => find_any v l m w' hw
 have AC := Lib.hid fun w' (hw : Ws w' v l) => replace_any v l a b c k wy0 w' hw kl (by omega)
 rw [he] at R
 rw [hk] at FA
 have HY := Lib.hid hy
 clear he e4 e5 hk hy hn1 hn4
 have kd : decide ((k : Int) < 0) = false := decide_eq_false (by omega)
 go_enter Tryz.func156, Tryz.ntmps156
 go_wp2_with fail
 (with_reducible refine (R.out _ h).mono ?_); rintro e w0 ⟨rfl, hb⟩
 replace rb := rb.call hb
 replace ob := ob.call hb
 replace wb := wb.call hb
 replace h := h.call hb
 replace low := gCall low hb
 clear hb
 have rb_0 := rb.at_ 0 rfl
 go_wp2_with fail
 (with_reducible refine (FA.out _ h).mono ?_); rintro e w3 ⟨rfl, hb⟩
 replace rb := rb.call hb
 replace ob := ob.call hb
 replace wb := wb.call hb
 replace h := h.call hb
 replace low := gCall low hb
 clear hb rb_0
 clear R FA
 obtain ⟨hl, A, cp, rfl, h1, h2, h3⟩ := H.out
 obtain ⟨bb, o, rfl, hb, hc⟩ := h3 (by omega)
 obtain ⟨c0, c1, c2, c3, c4, c5⟩ := wayAt_of hc hb low HY.out
 obtain ⟨r0, r1, r2, r3⟩ := rb.rowC
 have kc : (k : Int) < l.length := by omega
 have k0 : (0 : Int) ≤ k := by omega
 clear h3 hc h1 h2 hl
 go_wp2_with fail
 refine wp_region_noPanic ?_
 refine wp_region_held_drew (S := fun w' => w'.cell? ⟨w.heap.size, 0, none⟩ = some (.slice (some ⟨bb, o, none⟩) l.length cp) ∧ w'.cell? ⟨w.heap.size, 1, none⟩ = some (.bool a) ∧ w'.cell? ⟨w.heap.size, 2, none⟩ = some (.bool b) ∧ w'.cell? ⟨w.heap.size, 3, none⟩ = some (.bool c) ∧ w'.cell? ⟨bb, o + k * 6, none⟩ = some (.int .i64 y.st) ∧ w'.cell? ⟨bb, o + k * 6 + 1, none⟩ = some (.int .i64 y.ln) ∧ w'.cell? ⟨bb, o + k * 6 + 2, none⟩ = some (.int .u64 y.a) ∧ w'.cell? ⟨bb, o + k * 6 + 3, none⟩ = some (.int .u64 y.b) ∧ w'.cell? ⟨bb, o + k * 6 + 4, none⟩ = some (.int .u64 y.c) ∧ w'.cell? ⟨bb, o + k * 6 + 5, none⟩ = some (.int .u64 y.d)) (by kernel_rfl) ⟨drewC r0, drewC r1, drewC r2, drewC r3, drewC c0, drewC c1, drewC c2, drewC c3, drewC c4, drewC c5⟩ (fun hHeld => ?_)
 refine takeA 0 ?_ rfl ?_ ?_; rotate_left
 ·(intro w hSw; go_simp; try (with_reducible rfl))
 try simp only [Act.put, List.setIfInBounds_toArray, List.set_cons_zero, List.set_cons_succ]
 refine takeA 1 ?_ rfl ?_ ?_; rotate_left
 ·(intro w hSw; go_simp; try (with_reducible rfl))
 try simp only [Act.put, List.setIfInBounds_toArray, List.set_cons_zero, List.set_cons_succ]
 refine takeA 2 ?_ rfl ?_ ?_; rotate_left
 ·(intro w hSw; go_simp; try (with_reducible rfl))
 try simp only [Act.put, List.setIfInBounds_toArray, List.set_cons_zero, List.set_cons_succ]
 refine takeA 4 ?_ rfl ?_ ?_; rotate_left
 ·(intro w hSw; go_simp; try (with_reducible rfl))
 try simp only [Act.put, List.setIfInBounds_toArray, List.set_cons_zero, List.set_cons_succ]
 refine takeA 5 ?_ rfl ?_ ?_; rotate_left
 ·(intro w hSw; go_simp; try (with_reducible rfl))
 try simp only [Act.put, List.setIfInBounds_toArray, List.set_cons_zero, List.set_cons_succ]
 refine takeA 6 ?_ rfl ?_ ?_; rotate_left
 ·(intro w hSw; go_simp; try (with_reducible rfl))
 try simp only [Act.put, List.setIfInBounds_toArray, List.set_cons_zero, List.set_cons_succ]
 refine takeA 7 ?_ rfl ?_ ?_; rotate_left
 ·(intro w hSw; go_simp; try (with_reducible rfl))
 try simp only [Act.put, List.setIfInBounds_toArray, List.set_cons_zero, List.set_cons_succ]
 refine takeA 8 ?_ rfl ?_ ?_; rotate_left
 ·(intro w hSw; go_simp; try (with_reducible rfl))
 try simp only [Act.put, List.setIfInBounds_toArray, List.set_cons_zero, List.set_cons_succ]
 refine stepNext (i := 3) (by kernel_rfl) rfl (by rfl) (fun K hK => ?_)
 go_simp
 (refine (AC.out _ h.drew).mono ?_); rintro e w4 ⟨⟨v', rfl, fr⟩, hb4⟩
 have z3 : w.heap.size + 1 + 1 < w3.heap.size := wb.lt
 have z4 : w3.heap.size ≤ w4.heap.size := hb4.size
 replace ob := ob.drew.call hb4
 replace wb := wb.drew.call hb4
 replace low := gCall low.drew hb4
 obtain ⟨A', c', rfl⟩ := fr.shape
 obtain ⟨hh0, hh1, hh2, hh3, hh4, hh5, hh6, hh7, hh8, hh9⟩ := hHeld
 have hHeld := (And.intro (callC hb4 hh0) (And.intro (callC hb4 hh1) (And.intro (callC hb4 hh2) (And.intro (callC hb4 hh3) (And.intro (callC hb4 hh4) (And.intro (callC hb4 hh5) (And.intro (callC hb4 hh6) (And.intro (callC hb4 hh7) (And.intro (callC hb4 hh8) (callC hb4 hh9))))))))))
 clear hh0 hh1 hh2 hh3 hh4 hh5 hh6 hh7 hh8 hh9
 refine hK.out _ _ hHeld ?_
 clear hK K
 try simp only [Act.put]
 try simp only [List.setIfInBounds_toArray, List.set_cons_zero, List.set_cons_succ]
 refine stepNext (i := 9) (by kernel_rfl) rfl (by rfl) (fun K hK => ?_)
 refine wp_store_box 193 (.tmp 6) (.tmp 30) rfl _ _ rfl rfl ob size_row rfl (by simp [Value.oneCell']) ?_
 intro w5 ob st
 replace wb := st.box wb (by omega)
 replace fr := st.fr fr (.inl (by show _ < w3.heap.size; omega))
 replace low := st.low low (by omega)
 have z5 := st.size
 obtain ⟨hh0, hh1, hh2, hh3, hh4, hh5, hh6, hh7, hh8, hh9⟩ := hHeld
 have hHeld := (And.intro (st.cell (by dsimp only; omega) hh0) (And.intro (st.cell (by dsimp only; omega) hh1) (And.intro (st.cell (by dsimp only; omega) hh2) (And.intro (st.cell (by dsimp only; omega) hh3) (And.intro (st.cell (by dsimp only; omega) hh4) (And.intro (st.cell (by dsimp only; omega) hh5) (And.intro (st.cell (by dsimp only; omega) hh6) (And.intro (st.cell (by dsimp only; omega) hh7) (And.intro (st.cell (by dsimp only; omega) hh8) (st.cell (by dsimp only; omega) hh9))))))))))
 clear hh0 hh1 hh2 hh3 hh4 hh5 hh6 hh7 hh8 hh9
 clear st
 refine hK.out _ _ hHeld ?_
 clear hK K
 try simp only [Act.put]
 try simp only [List.setIfInBounds_toArray, List.set_cons_zero, List.set_cons_succ]
 refine stepNext (i := 10) (by kernel_rfl) rfl (by rfl) (fun K hK => ?_)
 refine wp_store_box 114 (.tmp 7) (.tmp 35) rfl _ _ rfl rfl wb size_way rfl (by simp [Value.oneCell']) ?_
 intro w6 wb st
 replace ob := st.box ob (by omega)
 replace fr := st.fr fr (.inl (by show _ < w3.heap.size; omega))
 replace low := st.low low (by omega)
 have z6 := st.size
 obtain ⟨hh0, hh1, hh2, hh3, hh4, hh5, hh6, hh7, hh8, hh9⟩ := hHeld
 have hHeld := (And.intro (st.cell (by dsimp only; omega) hh0) (And.intro (st.cell (by dsimp only; omega) hh1) (And.intro (st.cell (by dsimp only; omega) hh2) (And.intro (st.cell (by dsimp only; omega) hh3) (And.intro (st.cell (by dsimp only; omega) hh4) (And.intro (st.cell (by dsimp only; omega) hh5) (And.intro (st.cell (by dsimp only; omega) hh6) (And.intro (st.cell (by dsimp only; omega) hh7) (And.intro (st.cell (by dsimp only; omega) hh8) (st.cell (by dsimp only; omega) hh9))))))))))
 clear hh0 hh1 hh2 hh3 hh4 hh5 hh6 hh7 hh8 hh9
 clear st
 refine hK.out _ _ hHeld ?_
 clear hK K
 try simp only [Act.put]
 try simp only [List.setIfInBounds_toArray, List.set_cons_zero, List.set_cons_succ]
 refine stepNext (i := 11) (by kernel_rfl) rfl (by rfl) (fun K hK => ?_)
 go_simp
 refine hK.out _ _ hHeld ?_
 clear hK K
 try simp only [Act.put]
 try simp only [List.setIfInBounds_toArray, List.set_cons_zero, List.set_cons_succ]
 clear hHeld c0 c1 c2 c3 c4 c5 r0 r1 r2 r3 rb
 refine wpAnyH_done (by kernel_rfl) ?_ _
 refine NoPanic.normal ?_
 go_wp2_with fail
 obtain ⟨p0, p1, p2, p3⟩ := ob.rowC
 obtain ⟨q0, q1, q2, q3, q4, q5⟩ := wb.wayC
 refine bodyPost_ret (v := .tuple #[rowV (.slice A' (l.set k wy0).length c') a b c, y.val, .int .i64 0]) (by simp [results, Tryz.results156, go_sem, p0, p1, p2, p3, q0, q1, q2, q3, q4, q5]) rfl ⟨⟨_, rfl, ?_⟩, low⟩
 exact fr.more (by show _ ≤ w3.heap.size; omega) (by omega)
set_option maxHeartbeats 2000000 in
theorem rowSet_bad (v : Value) (l : List Wy) (a b c : Bool) (n : Int) (x : Wy) (w : World) (h : Ws w v l) (he : setE l a b c n x ≠ 0) :
  Calls Tryz.prog 160 #[rowV v a b c, .int .i64 n, x.val] w fun e w' => e = .returned (.tuple #[noRow, .int .i64 (setE l a b c n x)]) ∧ Below w.heap.size w w' := by
 have low := Below.refl w.heap.size w
 have rb := boxNext low 193 (rowA v a b c)
 replace low := gAlloc low (.cells (rowA v a b c) 193)
 replace h := h.alloc (.cells (rowA v a b c) 193)
 try simp only [World.size_alloc] at rb
 simp only [rowA] at rb
 have xb := boxNext low 114 x.arr
 replace low := gAlloc low (.cells x.arr 114)
 replace h := h.alloc (.cells x.arr 114)
 replace rb := rb.alloc (.cells x.arr 114)
 try simp only [World.size_alloc] at xb
 simp only [Wy.arr] at xb
 have ob := boxNext low 193 (rowA (.slice none 0 0) false false false)
 replace low := gAlloc low (.cells (rowA (.slice none 0 0) false false false) 193)
 replace h := h.alloc (.cells (rowA (.slice none 0 0) false false false) 193)
 replace rb := rb.alloc (.cells (rowA (.slice none 0 0) false false false) 193)
 replace xb := xb.alloc (.cells (rowA (.slice none 0 0) false false false) 193)
 try simp only [World.size_alloc] at ob
 simp only [rowA] at ob
 have R := Lib.hid fun w' hw => rowCheck_any v l a b c n w' hw
 have HL := Lib.hid fun w' => hasLine_any x w'
 have FA := Lib.hid fun w' hw => find_any v l x.ln w' hw
 generalize hE : setE l a b c n x = E at he ⊢
 unfold setE at hE
 generalize rowE l a b c n = r at R hE
 generalize hlB x = t at HL hE
 generalize idxP (hasW x.ln) l = f at FA hE
 have HE := Lib.hid hE
 have HH := Lib.hid he
 clear he hE
 cases hr : (r != 0)
 rotate_left
 ·obtain rfl : r = E := by have := HE.out; rwa [if_pos (by simpa using hr)] at this
  go_enter Tryz.func160, Tryz.ntmps160
  go_wp2_with fail
  (with_reducible refine (R.out _ h).mono ?_); rintro e w1 ⟨rfl, hb⟩
  replace rb := rb.call hb
  replace xb := xb.call hb
  replace ob := ob.call hb
  replace low := gCall low hb
  clear hb
  have ob_0 := ob.at_ 0 rfl
  have ob_1 := ob.at_ 1 rfl
  have ob_2 := ob.at_ 2 rfl
  have ob_3 := ob.at_ 3 rfl
  have ob_f0 := ob.frozen 0
  have ob_f1 := ob.frozen 1
  have ob_f2 := ob.frozen 2
  have ob_f3 := ob.frozen 3
  have z1 : w.heap.size + 1 + 1 < w1.heap.size := ob.lt
  go_wp2_with fail
  refine bodyPost_ret (v := .tuple #[noRow, .int .i64 r]) (by simp [results, Tryz.results160, go_sem, ob_0, ob_1, ob_2, ob_3]) rfl ⟨rfl, ?_⟩
  repeat (refine gSet ?_ (by dsimp only; omega) _)
  exact low
 obtain rfl : r = 0 := by simpa using hr
 cases t
 ·obtain rfl : 4 = E := by simpa using HE.out
  go_enter Tryz.func160, Tryz.ntmps160
  go_wp2_with fail
  (with_reducible refine (R.out _ h).mono ?_); rintro e w0 ⟨rfl, hb⟩
  replace rb := rb.call hb
  replace xb := xb.call hb
  replace ob := ob.call hb
  replace low := gCall low hb
  clear hb
  have xb_0 := xb.at_ 0 rfl
  have xb_1 := xb.at_ 1 rfl
  have xb_2 := xb.at_ 2 rfl
  have xb_3 := xb.at_ 3 rfl
  have xb_4 := xb.at_ 4 rfl
  have xb_5 := xb.at_ 5 rfl
  go_wp2_with fail
  (with_reducible refine (HL.out _).mono ?_); rintro e w1 ⟨rfl, hb⟩
  replace rb := rb.call hb
  replace xb := xb.call hb
  replace ob := ob.call hb
  replace low := gCall low hb
  clear hb xb_0 xb_1 xb_2 xb_3 xb_4 xb_5
  have ob_0 := ob.at_ 0 rfl
  have ob_1 := ob.at_ 1 rfl
  have ob_2 := ob.at_ 2 rfl
  have ob_3 := ob.at_ 3 rfl
  have ob_f0 := ob.frozen 0
  have ob_f1 := ob.frozen 1
  have ob_f2 := ob.frozen 2
  have ob_f3 := ob.frozen 3
  have z1 : w.heap.size + 1 + 1 < w1.heap.size := ob.lt
  go_wp2_with fail
  refine bodyPost_ret (v := .tuple #[noRow, .int .i64 4]) (by simp [results, Tryz.results160, go_sem, ob_0, ob_1, ob_2, ob_3]) rfl ⟨rfl, ?_⟩
  repeat (refine gSet ?_ (by dsimp only; omega) _)
  exact low
 cases hf : decide (f < 0)
 ·have := HE.out
  rw [if_neg (by simp), if_neg (by simp), if_neg (by simpa using hf)] at this
  exact absurd this.symm HH.out
 ·obtain rfl : 5 = E := by have := HE.out; rwa [if_neg (by simp), if_neg (by simp), if_pos (by simpa using hf)] at this
  go_enter Tryz.func160, Tryz.ntmps160
  go_wp2_with fail
  (with_reducible refine (R.out _ h).mono ?_); rintro e w0 ⟨rfl, hb⟩
  replace rb := rb.call hb
  replace xb := xb.call hb
  replace ob := ob.call hb
  replace h := h.call hb
  replace low := gCall low hb
  clear hb
  have xb_0 := xb.at_ 0 rfl
  have xb_1 := xb.at_ 1 rfl
  have xb_2 := xb.at_ 2 rfl
  have xb_3 := xb.at_ 3 rfl
  have xb_4 := xb.at_ 4 rfl
  have xb_5 := xb.at_ 5 rfl
  go_wp2_with fail
  (with_reducible refine (HL.out _).mono ?_); rintro e w00 ⟨rfl, hb⟩
  replace rb := rb.call hb
  replace xb := xb.call hb
  replace ob := ob.call hb
  replace h := h.call hb
  replace low := gCall low hb
  clear hb xb_0 xb_1 xb_2 xb_3 xb_4 xb_5
  have xb_0 := xb.at_ 0 rfl
  have xb_1 := xb.at_ 1 rfl
  have xb_2 := xb.at_ 2 rfl
  have xb_3 := xb.at_ 3 rfl
  have xb_4 := xb.at_ 4 rfl
  have xb_5 := xb.at_ 5 rfl
  have rb_0 := rb.at_ 0 rfl
  go_wp2_with fail
  (with_reducible refine (FA.out _ h).mono ?_); rintro e w1 ⟨rfl, hb⟩
  replace rb := rb.call hb
  replace xb := xb.call hb
  replace ob := ob.call hb
  replace low := gCall low hb
  clear hb xb_0 xb_1 xb_2 xb_3 xb_4 xb_5 rb_0
  have ob_0 := ob.at_ 0 rfl
  have ob_1 := ob.at_ 1 rfl
  have ob_2 := ob.at_ 2 rfl
  have ob_3 := ob.at_ 3 rfl
  have ob_f0 := ob.frozen 0
  have ob_f1 := ob.frozen 1
  have ob_f2 := ob.frozen 2
  have ob_f3 := ob.frozen 3
  have z1 : w.heap.size + 1 + 1 < w1.heap.size := ob.lt
  go_wp2_with fail
  refine bodyPost_ret (v := .tuple #[noRow, .int .i64 5]) (by simp [results, Tryz.results160, go_sem, ob_0, ob_1, ob_2, ob_3]) rfl ⟨rfl, ?_⟩
  repeat (refine gSet ?_ (by dsimp only; omega) _)
  exact low
set_option maxRecDepth 10000 in
set_option maxHeartbeats 2000000 in
theorem rowSet_ok (v : Value) (l : List Wy) (a b c : Bool) (n : Int) (x : Wy) (k : Nat) (w : World) (h : Ws w v l) (he : rowE l a b c n = 0) (hx : hlB x = true) (hk : idxP (hasW x.ln) l = k) (kl : k < l.length) :
  Calls Tryz.prog 160 #[rowV v a b c, .int .i64 n, x.val] w fun e w' =>
   (∃ v', e = .returned (.tuple #[rowV v' (touchT a b c n k).1 (touchT a b c n k).2.1 (touchT a b c n k).2.2, .int .i64 0]) ∧ Fr w' w.heap.size w'.heap.size v' (l.set k x)) ∧ Below w.heap.size w w' := by
 obtain ⟨e4, e5, _⟩ := rowE_ok he
 have low := Below.refl w.heap.size w
 have rb := boxNext low 193 (rowA v a b c)
 replace low := gAlloc low (.cells (rowA v a b c) 193)
 replace h := h.alloc (.cells (rowA v a b c) 193)
 try simp only [World.size_alloc] at rb
 simp only [rowA] at rb
 have xb := boxNext low 114 x.arr
 replace low := gAlloc low (.cells x.arr 114)
 replace h := h.alloc (.cells x.arr 114)
 replace rb := rb.alloc (.cells x.arr 114)
 try simp only [World.size_alloc] at xb
 simp only [Wy.arr] at xb
 have ob := boxNext low 193 (rowA (.slice none 0 0) false false false)
 replace low := gAlloc low (.cells (rowA (.slice none 0 0) false false false) 193)
 replace h := h.alloc (.cells (rowA (.slice none 0 0) false false false) 193)
 replace rb := rb.alloc (.cells (rowA (.slice none 0 0) false false false) 193)
 replace xb := xb.alloc (.cells (rowA (.slice none 0 0) false false false) 193)
 try simp only [World.size_alloc] at ob
 simp only [rowA] at ob
 have R := Lib.hid fun w' hw => rowCheck_any v l a b c n w' hw
 have HL := Lib.hid fun w' => hasLine_any x w'
 have FA := Lib.hid fun w' hw => find_any v l x.ln w' hw
 have AC := Lib.hid fun w' hw => access_any v l a b c n k x w' hw e4 e5 kl
 rw [he] at R
 rw [hx] at HL
 rw [hk] at FA
 generalize touchT a b c n k = t at AC ⊢
 have kd : decide ((k : Int) < 0) = false := decide_eq_false (by omega)
 clear he e4 e5 hk hx
 go_enter Tryz.func160, Tryz.ntmps160
 go_wp2_with fail
 (with_reducible refine (R.out _ h).mono ?_); rintro e w0 ⟨rfl, hb⟩
 replace rb := rb.call hb
 replace xb := xb.call hb
 replace ob := ob.call hb
 replace h := h.call hb
 replace low := gCall low hb
 clear hb
 have xb_0 := xb.at_ 0 rfl
 have xb_1 := xb.at_ 1 rfl
 have xb_2 := xb.at_ 2 rfl
 have xb_3 := xb.at_ 3 rfl
 have xb_4 := xb.at_ 4 rfl
 have xb_5 := xb.at_ 5 rfl
 go_wp2_with fail
 (with_reducible refine (HL.out _).mono ?_); rintro e w1 ⟨rfl, hb⟩
 replace rb := rb.call hb
 replace xb := xb.call hb
 replace ob := ob.call hb
 replace h := h.call hb
 replace low := gCall low hb
 clear hb xb_0 xb_1 xb_2 xb_3 xb_4 xb_5
 have xb_0 := xb.at_ 0 rfl
 have xb_1 := xb.at_ 1 rfl
 have xb_2 := xb.at_ 2 rfl
 have xb_3 := xb.at_ 3 rfl
 have xb_4 := xb.at_ 4 rfl
 have xb_5 := xb.at_ 5 rfl
 have rb_0 := rb.at_ 0 rfl
 have rb_1 := rb.at_ 1 rfl
 have rb_2 := rb.at_ 2 rfl
 have rb_3 := rb.at_ 3 rfl
 go_wp2_with fail
 (with_reducible refine (FA.out _ h).mono ?_); rintro e w2 ⟨rfl, hb⟩
 replace rb := rb.call hb
 replace xb := xb.call hb
 replace ob := ob.call hb
 replace h := h.call hb
 replace low := gCall low hb
 clear hb xb_0 xb_1 xb_2 xb_3 xb_4 xb_5 rb_0 rb_1 rb_2 rb_3
 have xb_0 := xb.at_ 0 rfl
 have xb_1 := xb.at_ 1 rfl
 have xb_2 := xb.at_ 2 rfl
 have xb_3 := xb.at_ 3 rfl
 have xb_4 := xb.at_ 4 rfl
 have xb_5 := xb.at_ 5 rfl
 have rb_0 := rb.at_ 0 rfl
 have rb_1 := rb.at_ 1 rfl
 have rb_2 := rb.at_ 2 rfl
 have rb_3 := rb.at_ 3 rfl
 go_wp2_with fail
 (with_reducible refine (AC.out _ h).mono ?_); rintro e w4 ⟨⟨v', rfl, fr⟩, hb4⟩
 clear xb_0 xb_1 xb_2 xb_3 xb_4 xb_5 rb_0 rb_1 rb_2 rb_3
 have z3 : w.heap.size + 1 + 1 < w2.heap.size := ob.lt
 have z4 : w2.heap.size ≤ w4.heap.size := hb4.size
 replace ob := ob.call hb4
 replace low := gCall low hb4
 clear hb4
 obtain ⟨A', c', rfl⟩ := fr.shape
 have ob_0 := ob.at_ 0 rfl
 have ob_1 := ob.at_ 1 rfl
 have ob_2 := ob.at_ 2 rfl
 have ob_3 := ob.at_ 3 rfl
 have ob_f0 := ob.frozen 0
 have ob_f1 := ob.frozen 1
 have ob_f2 := ob.frozen 2
 have ob_f3 := ob.frozen 3
 go_wp2_with fail
 refine bodyPost_ret (v := .tuple #[rowV (.slice A' (l.set k x).length c') t.1 t.2.1 t.2.2, .int .i64 0]) (by simp [results, Tryz.results160, go_sem, ob_0, ob_1, ob_2, ob_3]) rfl ⟨⟨_, rfl, ?_⟩, ?_⟩
 ·refine Fr.more ?_ (B := w2.heap.size) (C := w4.heap.size) (by omega) (by simp)
  repeat (refine Fr.far ?_ (by dsimp only; omega) _)
  exact fr
 ·repeat (refine gSet ?_ (by dsimp only; omega) _)
  exact low
end Go.Proofs.YtcegjehoejgofaaGreat
namespace Go.Proofs.YtcegjehoejgofaaGreat
def GoodW (l : List Wy) : Prop :=
 (∀ (q : Nat) x, l[q]? = some x → wayE x = 0) ∧ ∀ (p q : Nat) x y, p < q → l[p]? = some x → l[q]? = some y → x.st ≠ 0 → y.st ≠ 0 → x.ln ≠ y.ln
theorem hasW_iff {m : Int} {x : Wy} : hasW m x = true ↔ x.st ≠ 0 ∧ x.ln = m := by simp [hasW]
theorem hasW_no {m : Int} {x : Wy} : hasW m x = false ↔ (x.st ≠ 0 → x.ln ≠ m) := by
 rw [← Bool.not_eq_true, hasW_iff]
 exact ⟨fun h a b => h ⟨a, b⟩, fun h k => h k.1 k.2⟩
theorem idxP_neg {p : Wy → Bool} {l : List Wy} : (¬ 0 ≤ idxP p l) ↔ ∀ x ∈ l, p x = false := by
 rcases idxP_cases p l with ⟨e, h⟩ | ⟨k, x, e, hx, hp, _⟩
 ·rw [e]; exact ⟨fun _ => h, fun _ => by decide⟩
 ·rw [e]
  refine ⟨fun h => absurd (Int.natCast_nonneg k) h, fun h => ?_⟩
  rw [h x (List.mem_of_getElem? hx)] at hp
  cases hp
theorem waysE_zero : ∀ (l pre : List Wy), waysE pre l = 0 ↔ ∀ (k : Nat) x, l[k]? = some x → wayE x = 0 ∧ (x.st ≠ 0 → ∀ y ∈ pre ++ l.take k, hasW x.ln y = false)
 | [], pre => by simp [waysE]
 | x :: r, pre => by
  rw [waysE]
  have ih := waysE_zero r (pre ++ [x])
  constructor
  ·intro h k y hy
   by_cases h1 : wayE x ≠ 0
   ·rw [if_pos h1] at h; exact absurd h h1
   ·rw [if_neg h1] at h
    by_cases h2 : (x.st != 0 && decide (0 ≤ idxP (hasW x.ln) pre)) = true
    ·rw [if_pos h2] at h; cases h
    ·rw [if_neg h2] at h
     cases k with
     | zero =>
      simp at hy
      subst hy
      refine ⟨by simpa using h1, fun hs z hz => ?_⟩
      simp only [List.take_zero, List.append_nil] at hz
      refine idxP_neg.1 (fun h0 => h2 ?_) z hz
      simp [hs, h0]
     | succ k =>
      obtain ⟨a1, a2⟩ := ih.1 h k y (by simpa using hy)
      refine ⟨a1, fun hs z hz => a2 hs z ?_⟩
      simpa using hz
  ·intro h
   obtain ⟨b1, b2⟩ := h 0 x rfl
   rw [if_neg (by simp [b1]), if_neg]
   ·refine ih.2 fun k y hy => ?_
    obtain ⟨a1, a2⟩ := h (k + 1) y (by simpa using hy)
    exact ⟨a1, fun hs z hz => a2 hs z (by simpa using hz)⟩
   ·intro h2
    rw [Bool.and_eq_true, decide_eq_true_iff] at h2
    have hs : x.st ≠ 0 := by simpa using h2.1
    exact idxP_neg.2 (fun y hy => b2 hs y (by simpa using hy)) h2.2
theorem goodW_iff (l : List Wy) : waysE [] l = 0 ↔ GoodW l := by
 rw [waysE_zero]
 constructor
 ·refine fun h => ⟨fun q x hx => (h q x hx).1, fun p q x y hpq hx hy sx sy e => ?_⟩
  have := (h q y hy).2 sy x (by
   rw [List.nil_append]
   exact List.mem_of_getElem? (i := p) (by rw [List.getElem?_take, if_pos hpq]; exact hx))
  exact hasW_no.1 this sx e
 ·refine fun h k x hx => ⟨h.1 k x hx, fun hs y hy => hasW_no.2 fun sy e => ?_⟩
  rw [List.nil_append] at hy
  obtain ⟨p, hp, e'⟩ := List.getElem_of_mem hy
  have hpk : p < k := by simp at hp; omega
  have hy' : l[p]? = some y := by
   have : (l.take k)[p]? = some y := by rw [List.getElem?_eq_getElem hp, e']
   rwa [List.getElem?_take, if_pos hpk] at this
  exact h.2 p k y x hpk hy' hx sy hs e
theorem GoodW.at_ {l : List Wy} (h : GoodW l) {m : Int} {q : Nat} {x : Wy} (hx : l[q]? = some x) (hm : hasW m x = true) : idxP (hasW m) l = q := by
 refine idxP_some (fun j y hj hy => ?_) hx hm
 refine hasW_no.2 fun sy e => ?_
 obtain ⟨sx, ex⟩ := hasW_iff.1 hm
 exact h.2 j q y x hj hy hx sy sx (e.trans ex.symm)
theorem GoodW.other {l : List Wy} (h : GoodW l) {m : Int} {q j : Nat} {x y : Wy} (hx : l[q]? = some x) (hm : hasW m x = true) (hy : l[j]? = some y) (hj : j ≠ q) : hasW m y = false := by
 cases e : hasW m y
 ·rfl
 ·have h1 := h.at_ hx hm
  rw [h.at_ hy e] at h1
  omega
theorem wayE_of {x : Wy} (h : hlB x = true) : wayE x = 0 ∧ x.st ≠ 0 := by
 simp only [hlB, Bool.and_eq_true] at h
 obtain ⟨h1, h2⟩ := h
 have hr : 1 ≤ x.st ∧ x.st ≤ 4 := by simpa [rdB] using h1
 have hs : stB x.st = true := decide_eq_true (by omega)
 refine ⟨?_, by omega⟩
 unfold wayE
 rw [if_pos ⟨hs, h2⟩, if_neg (fun k => by omega)]
theorem set_get {l : List Wy} {k q : Nat} {x z : Wy} (h : (l.set k x)[q]? = some z) : (q = k ∧ z = x) ∨ (q ≠ k ∧ l[q]? = some z) := by
 by_cases e : q = k
 ·subst e
  have hk : q < l.length := by
   have := set_lt h
   simpa using this
  rw [List.getElem?_set_self hk] at h
  cases h
  exact .inl ⟨rfl, rfl⟩
 ·rw [List.getElem?_set_ne (fun h => e h.symm)] at h
  exact .inr ⟨e, h⟩
theorem touch_keeps {a b c : Bool} {n k : Int} (h : treeE a b c n = 0) (h0 : 0 ≤ k) (h1 : k < n) : treeE (touchT a b c n k).1 (touchT a b c n k).2.1 (touchT a b c n k).2.2 n = 0 := by
 obtain ⟨hn1, hn4⟩ := treeE_range h
 have hn : n = 1 ∨ n = 2 ∨ n = 3 ∨ n = 4 := by omega
 have hk : k = 0 ∨ k = 1 ∨ k = 2 ∨ k = 3 := by omega
 rcases hn with rfl | rfl | rfl | rfl <;> rcases hk with rfl | rfl | rfl | rfl <;> first | omega | (revert h; cases a <;> cases b <;> cases c <;> decide)
theorem rowE_zero {l : List Wy} {a b c : Bool} {n : Int} (h1 : treeE a b c n = 0) (h2 : (l.length : Int) = n) (h3 : GoodW l) : rowE l a b c n = 0 := by
 unfold rowE
 rw [if_neg (by simp [h1]), if_neg (by simp [h2])]
 exact (goodW_iff l).2 h3
theorem idxP_there {p : Wy → Bool} {l : List Wy} (h : 0 ≤ idxP p l) : ∃ (k : Nat) (y : Wy), idxP p l = k ∧ l[k]? = some y ∧ p y = true := by
 rcases idxP_cases p l with ⟨e, _⟩ | ⟨k, x, e, hx, hp, _⟩
 ·rw [e] at h; omega
 ·exact ⟨k, x, e, hx, hp⟩
end Go.Proofs.YtcegjehoejgofaaGreat
namespace Go.Proofs.YtcegjehoejgofaaGreat
open Go.ChangeShapes Go.WideShapes Go.ChangeAt Go.RowKit Go.Joins
structure St where
 l : List Wy
 a : Bool
 b : Bool
 c : Bool
def RowAt (w : World) (b o : Nat) (u : Value) (t : St) : Prop :=
 w.cell? ⟨b, o, none⟩ = some u ∧ w.cell? ⟨b, o + 1, none⟩ = some (.bool t.a) ∧ w.cell? ⟨b, o + 2, none⟩ = some (.bool t.b) ∧ w.cell? ⟨b, o + 3, none⟩ = some (.bool t.c)
theorem rowAt_of {w w' : World} {b o B : Nat} {u : Value} {t : St} (h : RowAt w b o u t) (hb : b < B) (low : Below B w w') : RowAt w' b o u t := by
 obtain ⟨h0, h1, h2, h3⟩ := h
 exact ⟨(low.cell (p := ⟨b, o, none⟩) hb).trans h0, (low.cell (p := ⟨b, o + 1, none⟩) hb).trans h1, (low.cell (p := ⟨b, o + 2, none⟩) hb).trans h2, (low.cell (p := ⟨b, o + 3, none⟩) hb).trans h3⟩
structure Lies (w : World) (b o : Nat) (ss : List St) : Prop where
 at_ : ∀ (k : Nat) t, ss[k]? = some t → ∃ A c, RowAt w b (o + k * 4) (.slice A t.l.length c) t ∧ Ws w (.slice A t.l.length c) t.l
structure Cs (w : World) (v : Value) (ss : List St) : Prop where
 ex : ∃ A c, v = .slice A ss.length c ∧ ss.length ≤ c ∧ c ≤ maxLen ∧ (0 < ss.length → ∃ b o, A = some ⟨b, o, none⟩ ∧ b < w.heap.size ∧ Lies w b o ss)
theorem Lies.call {w w' : World} {b o : Nat} {ss : List St} (h : Lies w b o ss) (hlt : b < w.heap.size) (hb : Below w.heap.size w w') : Lies w' b o ss :=
 ⟨fun k t hk => by
  obtain ⟨A, c, h1, h2⟩ := h.at_ k t hk
  exact ⟨A, c, rowAt_of h1 hlt hb, h2.call hb⟩⟩
theorem Cs.call {w w' : World} {v : Value} {ss : List St} (h : Cs w v ss) (hb : Below w.heap.size w w') : Cs w' v ss := by
 obtain ⟨A, c, e, h1, h2, h3⟩ := h
 refine ⟨A, c, e, h1, h2, fun h0 => ?_⟩
 obtain ⟨b, o, eA, hlt, hl⟩ := h3 h0
 exact ⟨b, o, eA, Nat.lt_of_lt_of_le hlt hb.size, hl.call hlt hb⟩
theorem Cs.alloc {w : World} {v : Value} {ss : List St} (h : Cs w v ss) (o : Obj) : Cs (w.alloc o) v ss := h.call (gAlloc (Below.refl _ _) o)
theorem Cs.drew {w : World} {v : Value} {ss : List St} (h : Cs w v ss) : Cs w.drew v ss := h.call (Below.refl _ _).drew
theorem Cs.nil (w : World) : Cs w (.slice none 0 0) [] := ⟨none, 0, rfl, Nat.le_refl _, Nat.zero_le _, fun h => absurd h (Nat.lt_irrefl 0)⟩
def offB (s i : Int) (x : Wy) : Bool := x.st != 0 && x.ln % s != i
def chkE (s y i : Int) (l : List Wy) (a b c : Bool) : Int := if rowE l a b c y ≠ 0 then rowE l a b c y else if l.any (offB s i) = true then 3 else 0
def setsE (s y : Int) : Int → List St → Int
 | _, [] => 0
 | i, t :: r => if chkE s y i t.l t.a t.b t.c ≠ 0 then chkE s y i t.l t.a t.b t.c else setsE s y (i + 1) r
def cacheE (n s y b : Int) (ss : List St) : Int := if cfgB n s y b = false then 4 else if (ss.length : Int) ≠ s then 3 else setsE s y 0 ss
theorem any_no {p : Wy → Bool} {l : List Wy} (h : ∀ (j : Nat) y, l[j]? = some y → p y = false) : l.any p = false := by
 rw [List.any_eq_false]
 intro x hx
 obtain ⟨k, hk, e⟩ := List.getElem_of_mem hx
 have := h k x (by rw [List.getElem?_eq_getElem hk, e])
 simp [this]
theorem any_yes {p : Wy → Bool} {l : List Wy} {k : Nat} {x : Wy} (hk : l[k]? = some x) (hp : p x = true) : l.any p = true :=
 List.any_eq_true.2 ⟨x, List.mem_of_getElem? hk, hp⟩
theorem good_line {x : Wy} (h : wayE x = 0) : 0 ≤ x.ln ∧ x.ln ≤ 15 := by
 unfold wayE at h
 split at h
 ·rename_i k
  have := k.2
  simp [lnB] at this
  omega
 ·omega
theorem rowE_line {l : List Wy} {a b c : Bool} {y : Int} (h : rowE l a b c y = 0) {k : Nat} {x : Wy} (hx : l[k]? = some x) : 0 ≤ x.ln ∧ x.ln ≤ 15 :=
 good_line (((goodW_iff l).1 (rowE_ok h).2.2).1 k x hx)
abbrev cfgA (n s y b : Int) : Array Value := #[.int .i64 n, .int .i64 s, .int .i64 y, .int .i64 b]
set_option maxHeartbeats 1000000 in
theorem checkSet_any (n s y b i : Int) (v : Value) (l : List Wy) (p q r : Bool) (w : World) (hcf : cfgB n s y b = true) (h : Ws w v l) :
  Calls Tryz.prog 116 #[cfg n s y b, .int .i64 i, rowV v p q r] w fun e w' => e = .returned (.int .i64 (chkE s y i l p q r)) ∧ Below w.heap.size w w' := by
 have H := Lib.hid h
 obtain ⟨hl, A, cp, rfl, h1, h2, h3⟩ := h
 have H3 := Lib.hid h3
 unfold maxLen at h2
 clear hl h3
 generalize hE : chkE s y i l p q r = E
 unfold chkE at hE
 have R := Lib.hid fun w' hw => rowCheck_any (.slice A l.length cp) l p q r y w' hw
 have LN := Lib.hid fun (h0 : rowE l p q r y = 0) => fun (k : Nat) x (hx : l[k]? = some x) => rowE_line h0 hx
 generalize rowE l p q r y = t at hE R LN
 have HE := Lib.hid hE
 have HC := Lib.hid hcf
 clear hE hcf
 have low := Below.refl w.heap.size w
 have cb := boxNext low 23 (cfgA n s y b)
 replace low := gAlloc low (.cells (cfgA n s y b) 23)
 try simp only [World.size_alloc] at cb
 have rb := boxNext low 193 (rowA (.slice A l.length cp) p q r)
 replace low := gAlloc low (.cells (rowA (.slice A l.length cp) p q r) 193)
 replace cb := cb.alloc (.cells (rowA (.slice A l.length cp) p q r) 193)
 try simp only [World.size_alloc] at rb
 simp only [rowA] at rb
 cases ht : (t != 0)
 rotate_left
 ·obtain rfl : t = E := by have := HE.out; rwa [if_pos (by simpa using ht)] at this
  go_enter Tryz.func116, Tryz.ntmps116
  go_wp2_with fail
  (with_reducible refine (R.out _ ((H.out.alloc _).alloc _)).mono ?_); rintro e w1 ⟨rfl, hb⟩
  replace rb := rb.call hb
  replace low := gCall low hb
  clear hb
  go_wp2_with fail
  go_ret
  exact ⟨rfl, low⟩
 obtain rfl : t = 0 := by simpa using ht
 replace LN := Lib.hid (LN.out rfl)
 replace HE := Lib.hid (show (if l.any (offB s i) = true then (3 : Int) else 0) = E by have := HE.out; rwa [if_neg (by simp)] at this)
 clear ht
 go_enter Tryz.func116, Tryz.ntmps116
 go_wp2_with fail
 (with_reducible refine (R.out _ ((H.out.alloc _).alloc _)).mono ?_); rintro e w1 ⟨rfl, hb⟩
 replace cb := cb.call hb
 replace rb := rb.call hb
 replace low := gCall low hb
 clear hb
 clear R
 have rb_0 := rb.at_ 0 rfl
 go_wp2_with fail
 go_loopw [22] (fun j wr => ∃ k : Nat, k ≤ l.length ∧ j = .int .i64 k ∧ Hid (∀ j x, j < k → l[j]? = some x → offB s i x = false) ∧ Box wr w.heap.size 23 (cfgA n s y b) ∧ Below w.heap.size w wr) (fun j _ => l.length - (intOf j).toNat)
 case atStart => exact ⟨0, Nat.zero_le _, rfl, Lib.hid fun j x hj => absurd hj (by omega), cb, low⟩
 case round =>
  clear rb_0
  clear cb rb low
  obtain ⟨k, hk, rfl, hno, cb, low⟩ := hrel
  simp only [cfgA] at cb
  by_cases hlt : k < l.length
  ·obtain ⟨bb, o, rfl, hb, hc⟩ := H3.out (by omega)
   have hx : l[k]? = some l[k] := List.getElem?_eq_getElem _
   generalize l[k] = x at hx
   obtain ⟨c0, c1, c2, c3, c4, c5⟩ := wayAt_of hc hb low hx
   obtain ⟨n0, n1⟩ := LN.out k x hx
   have HX := Lib.hid hx
   have SE := Lib.hid fun w => set_ok n s y b x.ln w HC.out n0 n1
   clear hx hc n0 n1
   have HO := Lib.hid (show offB s i x = (x.st != 0 && x.ln % s != i) from rfl)
   generalize x.ln % s = m at SE HO
   have xb := boxNext low 114 x.arr
   replace low := gAlloc low (.cells x.arr 114)
   replace cb := cb.alloc (.cells x.arr 114)
   try simp only [World.size_alloc] at xb
   simp only [Wy.arr] at xb
   have cb_0 := cb.at_ 0 rfl
   have cb_1 := cb.at_ 1 rfl
   have cb_2 := cb.at_ 2 rfl
   have cb_3 := cb.at_ 3 rfl
   have xb_0 := xb.at_ 0 rfl
   have xb_1 := xb.at_ 1 rfl
   go_wp2_with fail
   (with_reducible refine (SE.out _).mono ?_); rintro e w2 ⟨rfl, hb2⟩
   clear cb_0 cb_1 cb_2 cb_3 xb_0 xb_1
   replace cb := cb.call hb2
   replace xb := xb.call hb2
   replace low := gCall low hb2
   clear hb2 c0 c1 c2 c3 c4 c5
   have xb_0 := xb.at_ 0 rfl
   have xb_1 := xb.at_ 1 rfl
   cases hs : (x.st != 0)
   ·have HW := Lib.hid (show offB s i x = false by rw [HO.out, hs]; rfl)
    go_wp2_with fail
    go_roundw
    case rel => exact ⟨k + 1, by omega, by go_num, Lib.hid (upto hno.out HX.out HW.out), cb, low⟩
    case measure => simp [intOf]; omega
   cases hm : (m != i)
   ·have HW := Lib.hid (show offB s i x = false by rw [HO.out, hs, hm]; rfl)
    go_wp2_with fail
    go_roundw
    case rel => exact ⟨k + 1, by omega, by go_num, Lib.hid (upto hno.out HX.out HW.out), cb, low⟩
    case measure => simp [intOf]; omega
   ·have HW := Lib.hid (show offB s i x = true by rw [HO.out, hs, hm]; rfl)
    obtain rfl : 3 = E := by have := HE.out; rwa [if_pos (any_yes HX.out HW.out)] at this
    go_wp2_with fail
    go_ret
    exact ⟨rfl, low⟩
  ·obtain rfl : 0 = E := by have := HE.out; rwa [any_no (all_upto hno.out hlt), if_neg (by simp)] at this
   go_wp2_with fail
   go_ret
   exact ⟨rfl, low⟩
theorem setsE_at {s y : Int} {ss : List St} {k : Nat} {t : St} (h : ss[k]? = some t) : setsE s y k (ss.drop k) =
  if chkE s y k t.l t.a t.b t.c ≠ 0 then chkE s y k t.l t.a t.b t.c else setsE s y ((k + 1 : Nat) : Int) (ss.drop (k + 1)) := by
 obtain ⟨hk, rfl⟩ := List.getElem?_eq_some_iff.1 h
 rw [List.drop_eq_getElem_cons hk, setsE]
 rfl
set_option maxHeartbeats 1000000 in
theorem cacheCheck_any (n s y b : Int) (v : Value) (ss : List St) (w : World) (h : Cs w v ss) :
  Calls Tryz.prog 96 #[cfg n s y b, v] w fun e w' => e = .returned (.int .i64 (cacheE n s y b ss)) ∧ Below w.heap.size w w' := by
 have H := Lib.hid h
 obtain ⟨A, cp, rfl, h1, h2, h3⟩ := h
 have H3 := Lib.hid h3
 unfold maxLen at h2
 clear h3
 generalize hE : cacheE n s y b ss = E
 unfold cacheE at hE
 have HE := Lib.hid hE
 clear hE
 have low := Below.refl w.heap.size w
 have cb := boxNext low 23 (cfgA n s y b)
 replace low := gAlloc low (.cells (cfgA n s y b) 23)
 try simp only [World.size_alloc] at cb
 cases hcf : cfgB n s y b
 ·obtain rfl : 4 = E := by have := HE.out; rwa [if_pos hcf] at this
  have HC := Lib.hid hcf
  clear hcf
  go_enter Tryz.func96, Tryz.ntmps96
  go_wp2_with fail
  (with_reducible refine (check_bad _ _ _ _ _ HC.out).mono ?_); rintro e w1 ⟨rfl, hb⟩
  replace cb := cb.call hb
  replace low := gCall low hb
  clear hb
  go_wp2_with fail
  go_ret
  exact ⟨rfl, low⟩
 replace HE := Lib.hid (show (if (ss.length : Int) ≠ s then 3 else setsE s y 0 ss) = E by have := HE.out; rwa [if_neg (by simp [hcf])] at this)
 have HC := Lib.hid hcf
 clear hcf
 cases hn : ((ss.length : Int) != s)
 rotate_left
 ·obtain rfl : 3 = E := by have := HE.out; rwa [if_pos (by simpa using hn)] at this
  go_enter Tryz.func96, Tryz.ntmps96
  go_wp2_with fail
  (with_reducible refine (check_ok _ _ _ _ _ HC.out).mono ?_); rintro e w1 ⟨rfl, hb⟩
  replace cb := cb.call hb
  replace low := gCall low hb
  clear hb
  have cb_0 := cb.at_ 0 rfl
  have cb_1 := cb.at_ 1 rfl
  have cb_2 := cb.at_ 2 rfl
  have cb_3 := cb.at_ 3 rfl
  go_wp2_with fail
  go_ret
  exact ⟨rfl, low⟩
 replace HE := Lib.hid (show setsE s y 0 ss = E by have := HE.out; rwa [if_neg (by simpa using hn)] at this)
 go_enter Tryz.func96, Tryz.ntmps96
 go_wp2_with fail
 (with_reducible refine (check_ok _ _ _ _ _ HC.out).mono ?_); rintro e w1 ⟨rfl, hb⟩
 replace cb := cb.call hb
 replace low := gCall low hb
 clear hb
 have cb_0 := cb.at_ 0 rfl
 have cb_1 := cb.at_ 1 rfl
 have cb_2 := cb.at_ 2 rfl
 have cb_3 := cb.at_ 3 rfl
 go_wp2_with fail
 go_loopw [21] (fun j wr => ∃ k : Nat, k ≤ ss.length ∧ j = .int .i64 k ∧ Hid (setsE s y k (ss.drop k) = E) ∧ Box wr w.heap.size 23 (cfgA n s y b) ∧ Below w.heap.size w wr) (fun j _ => ss.length - (intOf j).toNat)
 case atStart => exact ⟨0, Nat.zero_le _, rfl, Lib.hid (by rw [List.drop_zero]; exact HE.out), cb, low⟩
 case round =>
  clear cb_0 cb_1 cb_2 cb_3
  clear cb low
  obtain ⟨k, hk, rfl, hno, cb, low⟩ := hrel
  simp only [cfgA] at cb
  by_cases hlt : k < ss.length
  ·obtain ⟨bb, o, rfl, hb, hc⟩ := H3.out (by omega)
   have hx : ss[k]? = some ss[k] := List.getElem?_eq_getElem _
   generalize ss[k] = t at hx
   obtain ⟨A', c', ra, ws⟩ := hc.at_ k t hx
   obtain ⟨c0, c1, c2, c3⟩ := rowAt_of ra hb low
   replace ws := ws.call low
   have hs := hno.out
   rw [setsE_at hx] at hs
   have HS := Lib.hid hs
   have CW := Lib.hid fun w hw => checkSet_any n s y b k (.slice A' t.l.length c') t.l t.a t.b t.c w HC.out hw
   clear hx hc hs ra
   generalize chkE s y k t.l t.a t.b t.c = f at CW HS
   have rb := boxNext low 193 (rowA (.slice A' t.l.length c') t.a t.b t.c)
   replace low := gAlloc low (.cells (rowA (.slice A' t.l.length c') t.a t.b t.c) 193)
   replace cb := cb.alloc (.cells (rowA (.slice A' t.l.length c') t.a t.b t.c) 193)
   replace ws := ws.alloc (.cells (rowA (.slice A' t.l.length c') t.a t.b t.c) 193)
   try simp only [World.size_alloc] at rb
   simp only [rowA] at rb
   have cb_0 := cb.at_ 0 rfl
   have cb_1 := cb.at_ 1 rfl
   have cb_2 := cb.at_ 2 rfl
   have cb_3 := cb.at_ 3 rfl
   go_wp2_with fail
   (with_reducible refine (CW.out _ ws).mono ?_); rintro e w2 ⟨rfl, hb2⟩
   clear cb_0 cb_1 cb_2 cb_3
   replace cb := cb.call hb2
   replace low := gCall low hb2
   clear hb2 c0 c1 c2 c3 rb ws
   cases hf : (f != 0)
   rotate_left
   ·obtain rfl : f = E := by have := HS.out; rwa [if_pos (by simpa using hf)] at this
    go_wp2_with fail
    go_ret
    exact ⟨rfl, low⟩
   obtain rfl : f = 0 := by simpa using hf
   replace HS := Lib.hid (HS.out.symm.trans (if_neg (by simp)))
   clear hf
   go_wp2_with fail
   go_roundw
   case rel => exact ⟨k + 1, by omega, by go_num, Lib.hid HS.out.symm, cb, low⟩
   case measure => simp [intOf]; omega
  ·obtain rfl : k = ss.length := by omega
   obtain rfl : 0 = E := by have := hno.out; rwa [List.drop_length] at this
   go_wp2_with fail
   go_ret
   exact ⟨rfl, low⟩
theorem cacheE_ok {n s y b : Int} {ss : List St} (h : cacheE n s y b ss = 0) : cfgB n s y b = true ∧ (ss.length : Int) = s ∧ setsE s y 0 ss = 0 := by
 unfold cacheE at h
 by_cases h1 : cfgB n s y b = false
 ·rw [if_pos h1] at h; omega
 ·rw [if_neg h1] at h
  by_cases h2 : (ss.length : Int) ≠ s
  ·rw [if_pos h2] at h; omega
  ·rw [if_neg h2] at h
   exact ⟨by simpa using h1, by omega, h⟩
theorem setsE_zero {s y : Int} : ∀ (ss : List St) (i : Nat), setsE s y i ss = 0 ↔ ∀ (k : Nat) t, ss[k]? = some t → chkE s y ((i + k : Nat) : Int) t.l t.a t.b t.c = 0
 | [], i => by simp [setsE]
 | t :: r, i => by
  rw [setsE]
  have ih := setsE_zero (s := s) (y := y) r (i + 1)
  constructor
  ·intro h k u hu
   by_cases h1 : chkE s y i t.l t.a t.b t.c ≠ 0
   ·rw [if_pos h1] at h; exact absurd h h1
   ·rw [if_neg h1] at h
    cases k with
    | zero => simp at hu; subst hu; simpa using h1
    | succ k =>
     have := ih.1 h k u (by simpa using hu)
     rwa [show i + 1 + k = i + (k + 1) by omega] at this
  ·intro h
   have h0 : chkE s y i t.l t.a t.b t.c = 0 := h 0 t rfl
   rw [if_neg (by simp [h0])]
   refine ih.2 fun k u hu => ?_
   have := h (k + 1) u (by simpa using hu)
   rwa [show i + (k + 1) = i + 1 + k by omega] at this
theorem chkE_zero {s y i : Int} {l : List Wy} {a b c : Bool} : chkE s y i l a b c = 0 ↔ rowE l a b c y = 0 ∧ ∀ (k : Nat) x, l[k]? = some x → x.st ≠ 0 → x.ln % s = i := by
 unfold chkE
 by_cases h1 : rowE l a b c y ≠ 0
 ·rw [if_pos h1]; exact ⟨fun h => absurd h h1, fun h => absurd h.1 h1⟩
 ·rw [if_neg h1]
  have h1' : rowE l a b c y = 0 := by simpa using h1
  constructor
  ·intro h
   refine ⟨h1', fun k x hx sx => ?_⟩
   split at h
   ·cases h
   ·rename_i h2
    refine Classical.byContradiction fun hne => h2 (any_yes hx ?_)
    simp [offB, sx, hne]
  ·rintro ⟨_, h⟩
   rw [any_no, if_neg (by simp)]
   intro j x hx
   unfold offB
   by_cases sx : x.st = 0
   ·simp [sx]
   ·simp [h j x hx sx]
def GoodC (n s y b : Int) (ss : List St) : Prop :=
 cfgB n s y b = true ∧ (ss.length : Int) = s ∧ ∀ (k : Nat) t, ss[k]? = some t → rowE t.l t.a t.b t.c y = 0 ∧ ∀ (j : Nat) x, t.l[j]? = some x → x.st ≠ 0 → x.ln % s = k
theorem goodC_iff {n s y b : Int} {ss : List St} : cacheE n s y b ss = 0 ↔ GoodC n s y b ss := by
 constructor
 ·intro h
  obtain ⟨h1, h2, h3⟩ := cacheE_ok h
  refine ⟨h1, h2, fun k t ht => ?_⟩
  have := (setsE_zero ss 0).1 h3 k t ht
  rw [Nat.zero_add] at this
  exact chkE_zero.1 this
 ·rintro ⟨h1, h2, h3⟩
  unfold cacheE
  rw [if_neg (by simp [h1]), if_neg (by simp [h2])]
  refine (setsE_zero ss 0).2 fun k t ht => ?_
  rw [Nat.zero_add]
  exact chkE_zero.2 (h3 k t ht)
end Go.Proofs.YtcegjehoejgofaaGreat
namespace Go.Proofs.YtcegjehoejgofaaGreat
open Go.ChangeShapes Go.WideShapes Go.ChangeAt Go.RowKit Go.Joins
def lineE (n s y b : Int) (ss : List St) (m : Int) : Int := if cacheE n s y b ss ≠ 0 then cacheE n s y b ss else if lnB m = false then 4 else 0
def wayCE (n s y b : Int) (ss : List St) (x : Wy) : Int := if cacheE n s y b ss ≠ 0 then cacheE n s y b ss else if hlB x = false then 4 else 0
theorem lineE_ok {n s y b : Int} {ss : List St} {m : Int} (h : lineE n s y b ss m = 0) : cacheE n s y b ss = 0 ∧ 0 ≤ m ∧ m ≤ 15 := by
 unfold lineE at h
 split at h
 ·exact absurd h (by assumption)
 ·split at h
  ·cases h
  ·rename_i h1 h2
   have : lnB m = true := by simpa using h2
   simp [lnB] at this
   exact ⟨by simpa using h1, by omega, by omega⟩
theorem wayCE_ok {n s y b : Int} {ss : List St} {x : Wy} (h : wayCE n s y b ss x = 0) : cacheE n s y b ss = 0 ∧ hlB x = true := by
 unfold wayCE at h
 split at h
 ·exact absurd h (by assumption)
 ·split at h
  ·cases h
  ·rename_i h1 h2
   exact ⟨by simpa using h1, by simpa using h2⟩
theorem lnB_iff {m : Int} : lnB m = true ↔ 0 ≤ m ∧ m ≤ 15 := by
 simp [lnB]
 omega
theorem lnB_no {m : Int} (h : lnB m = false) : m < 0 ∨ 15 < m := by
 have : ¬ (0 ≤ m ∧ m ≤ 15) := fun k => by rw [lnB_iff.2 k] at h; cases h
 omega
theorem GoodC.set_ {n s y b : Int} {ss : List St} (h : GoodC n s y b ss) (m : Int) : ∃ (k : Nat) (t : St), m % s = k ∧ ss[k]? = some t := by
 obtain ⟨h1, h2, _⟩ := h
 have hs : 1 ≤ s ∧ s ≤ 4 := by have := cfgB_iff.1 h1; omega
 have h3 : 0 ≤ m % s := Int.emod_nonneg _ (by omega)
 have h4 : m % s < s := Int.emod_lt_of_pos _ (by omega)
 have hlt : (m % s).toNat < ss.length := by omega
 exact ⟨(m % s).toNat, ss[(m % s).toNat], by omega, List.getElem?_eq_getElem hlt⟩
theorem st_lt {ss : List St} {k : Nat} {t : St} (h : ss[k]? = some t) : k < ss.length := (List.getElem?_eq_some_iff.1 h).1
theorem setOfLine_bad (n s y b : Int) (v : Value) (ss : List St) (m : Int) (w : World) (h : Cs w v ss) (he : lineE n s y b ss m ≠ 0) :
  Calls Tryz.prog 152 #[cfg n s y b, v, .int .i64 m] w fun e w' => e = .returned (.tuple #[.int .i64 0, .int .i64 (lineE n s y b ss m)]) ∧ Below w.heap.size w w' := by
 have low := Below.refl w.heap.size w
 have cb := boxNext low 23 (cfgA n s y b)
 replace low := gAlloc low (.cells (cfgA n s y b) 23)
 replace h := h.alloc (.cells (cfgA n s y b) 23)
 try simp only [World.size_alloc] at cb
 have C := Lib.hid fun w hw => cacheCheck_any n s y b v ss w hw
 generalize hE : lineE n s y b ss m = E at he ⊢
 unfold lineE at hE
 generalize cacheE n s y b ss = r at C hE
 have HE := Lib.hid hE
 have HH := Lib.hid he
 clear he hE
 cases hr : (r != 0)
 rotate_left
 ·obtain rfl : r = E := by have := HE.out; rwa [if_pos (by simpa using hr)] at this
  go_enter Tryz.func152, Tryz.ntmps152
  go_wp2_with fail
  (with_reducible refine (C.out _ h).mono ?_); rintro e w1 ⟨rfl, hb⟩
  replace cb := cb.call hb
  replace low := gCall low hb
  clear hb
  go_wp2_with fail
  go_ret2
  exact ⟨rfl, low⟩
 obtain rfl : r = 0 := by simpa using hr
 have hm : lnB m = false := by
  cases e : lnB m
  ·rfl
  ·have := HE.out
   rw [if_neg (by simp), if_neg (by simp [e])] at this
   exact absurd this.symm HH.out
 obtain rfl : 4 = E := by have := HE.out; rwa [if_neg (by simp), if_pos hm] at this
 have SB := Lib.hid fun w => set_bad n s y b m w (.inr (lnB_no hm))
 clear hm
 go_enter Tryz.func152, Tryz.ntmps152
 go_wp2_with fail
 (with_reducible refine (C.out _ h).mono ?_); rintro e w1 ⟨rfl, hb⟩
 replace cb := cb.call hb
 replace low := gCall low hb
 clear hb
 have cb_0 := cb.at_ 0 rfl
 have cb_1 := cb.at_ 1 rfl
 have cb_2 := cb.at_ 2 rfl
 have cb_3 := cb.at_ 3 rfl
 go_wp2_with fail
 (with_reducible refine (SB.out _).mono ?_); rintro e w2 ⟨rfl, hb⟩
 replace cb := cb.call hb
 replace low := gCall low hb
 clear hb cb_0 cb_1 cb_2 cb_3
 go_wp2_with fail
 go_ret2
 exact ⟨rfl, low⟩
theorem setOfLine_ok (n s y b : Int) (v : Value) (ss : List St) (m : Int) (w : World) (h : Cs w v ss) (he : lineE n s y b ss m = 0) :
  Calls Tryz.prog 152 #[cfg n s y b, v, .int .i64 m] w fun e w' => e = .returned (.tuple #[.int .i64 (m % s), .int .i64 0]) ∧ Below w.heap.size w w' := by
 have low := Below.refl w.heap.size w
 have cb := boxNext low 23 (cfgA n s y b)
 replace low := gAlloc low (.cells (cfgA n s y b) 23)
 replace h := h.alloc (.cells (cfgA n s y b) 23)
 try simp only [World.size_alloc] at cb
 obtain ⟨h1, h2, h3⟩ := lineE_ok he
 have C := Lib.hid fun w hw => cacheCheck_any n s y b v ss w hw
 have SB := Lib.hid fun w => set_ok n s y b m w (cacheE_ok h1).1 h2 h3
 rw [h1] at C
 generalize m % s = f at SB ⊢
 clear he h1 h2 h3
 go_enter Tryz.func152, Tryz.ntmps152
 go_wp2_with fail
 (with_reducible refine (C.out _ h).mono ?_); rintro e w1 ⟨rfl, hb⟩
 replace cb := cb.call hb
 replace low := gCall low hb
 clear hb
 have cb_0 := cb.at_ 0 rfl
 have cb_1 := cb.at_ 1 rfl
 have cb_2 := cb.at_ 2 rfl
 have cb_3 := cb.at_ 3 rfl
 go_wp2_with fail
 (with_reducible refine (SB.out _).mono ?_); rintro e w2 ⟨rfl, hb⟩
 replace cb := cb.call hb
 replace low := gCall low hb
 clear hb cb_0 cb_1 cb_2 cb_3
 go_wp2_with fail
 go_ret2
 exact ⟨rfl, low⟩
theorem lineE_of {n s y b : Int} {ss : List St} {x : Wy} : wayCE n s y b ss x = if lineE n s y b ss x.ln ≠ 0 then lineE n s y b ss x.ln else if rdB x.st = false then 4 else 0 := by
 unfold wayCE lineE hlB
 by_cases h : cacheE n s y b ss ≠ 0
 ·simp [h]
 ·cases h1 : lnB x.ln <;> cases h2 : rdB x.st <;> simp [h]
theorem setOfWay_ok (n s y b : Int) (v : Value) (ss : List St) (x : Wy) (w : World) (h : Cs w v ss) (he : wayCE n s y b ss x = 0) :
  Calls Tryz.prog 158 #[cfg n s y b, v, x.val] w fun e w' => e = .returned (.tuple #[.int .i64 (x.ln % s), .int .i64 0]) ∧ Below w.heap.size w w' := by
 have low := Below.refl w.heap.size w
 have cb := boxNext low 23 (cfgA n s y b)
 replace low := gAlloc low (.cells (cfgA n s y b) 23)
 replace h := h.alloc (.cells (cfgA n s y b) 23)
 try simp only [World.size_alloc] at cb
 have xb := boxNext low 114 x.arr
 replace low := gAlloc low (.cells x.arr 114)
 replace h := h.alloc (.cells x.arr 114)
 replace cb := cb.alloc (.cells x.arr 114)
 try simp only [World.size_alloc] at xb
 simp only [Wy.arr] at xb
 rw [lineE_of] at he
 have hl : lineE n s y b ss x.ln = 0 := by
  by_cases hl : lineE n s y b ss x.ln = 0
  ·exact hl
  ·rw [if_pos hl] at he; exact he
 have hr : rdB x.st = true := by
  cases e : rdB x.st
  ·rw [hl, if_neg (by simp), if_pos e] at he; cases he
  ·rfl
 have C := Lib.hid fun w hw => setOfLine_ok n s y b v ss x.ln w hw hl
 have R := Lib.hid fun w => reads_any x.st w
 rw [hr] at R
 generalize x.ln % s = f at C ⊢
 clear he hl hr
 go_enter Tryz.func158, Tryz.ntmps158
 go_wp2_with fail
 (with_reducible refine (C.out _ h).mono ?_); rintro e w1 ⟨rfl, hb⟩
 replace xb := xb.call hb
 replace low := gCall low hb
 clear hb
 have xb_0 := xb.at_ 0 rfl
 go_wp2_with fail
 (with_reducible refine (R.out _).mono ?_); rintro e w' ⟨rfl, rfl⟩
 go_wp2_with fail
 go_ret2
 exact ⟨rfl, low⟩
theorem cacheFind_bad (n s y b : Int) (v : Value) (ss : List St) (m : Int) (w : World) (h : Cs w v ss) (he : lineE n s y b ss m ≠ 0) :
  Calls Tryz.prog 130 #[cfg n s y b, v, .int .i64 m] w fun e w' => e = .returned (.tuple #[zeroV, .bool false, .int .i64 (lineE n s y b ss m)]) ∧ Below w.heap.size w w' := by
 have low := Below.refl w.heap.size w
 have cb := boxNext low 23 (cfgA n s y b)
 replace low := gAlloc low (.cells (cfgA n s y b) 23)
 replace h := h.alloc (.cells (cfgA n s y b) 23)
 try simp only [World.size_alloc] at cb
 have ob := boxNext low 114 zeroA
 replace low := gAlloc low (.cells zeroA 114)
 replace h := h.alloc (.cells zeroA 114)
 replace cb := cb.alloc (.cells zeroA 114)
 try simp only [World.size_alloc] at ob
 simp only [zeroA] at ob
 have C := Lib.hid fun w hw => setOfLine_bad n s y b v ss m w hw he
 generalize lineE n s y b ss m = E at C he ⊢
 have he' : (E != 0) = true := by simpa using he
 clear he
 go_enter Tryz.func130, Tryz.ntmps130
 go_wp2_with fail
 (with_reducible refine (C.out _ h).mono ?_); rintro e w1 ⟨rfl, hb⟩
 replace ob := ob.call hb
 replace low := gCall low hb
 clear hb
 have ob_0 := ob.at_ 0 rfl
 have ob_1 := ob.at_ 1 rfl
 have ob_2 := ob.at_ 2 rfl
 have ob_3 := ob.at_ 3 rfl
 have ob_4 := ob.at_ 4 rfl
 have ob_5 := ob.at_ 5 rfl
 have ob_f0 := ob.frozen 0
 have ob_f1 := ob.frozen 1
 have ob_f2 := ob.frozen 2
 have ob_f3 := ob.frozen 3
 have ob_f4 := ob.frozen 4
 have ob_f5 := ob.frozen 5
 have z1 : w.heap.size + 1 < w1.heap.size := ob.lt
 go_wp2_with fail
 refine bodyPost_ret (v := .tuple #[zeroV, .bool false, .int .i64 E]) (by simp [results, Tryz.results130, go_sem, ob_0, ob_1, ob_2, ob_3, ob_4, ob_5]) rfl ⟨rfl, ?_⟩
 repeat (refine gSet ?_ (by dsimp only; omega) _)
 exact low
set_option maxRecDepth 10000 in
set_option maxHeartbeats 1000000 in
theorem cacheFind_none (n s y b : Int) (v : Value) (ss : List St) (m : Int) (k : Nat) (t : St) (w : World) (h : Cs w v ss) (he : lineE n s y b ss m = 0) (hk : m % s = k) (ht : ss[k]? = some t) (hf : idxP (hasW m) t.l < 0) :
  Calls Tryz.prog 130 #[cfg n s y b, v, .int .i64 m] w fun e w' => e = .returned (.tuple #[zeroV, .bool false, .int .i64 0]) ∧ Below w.heap.size w w' := by
 obtain ⟨g1, g2, g3⟩ := lineE_ok he
 have good := goodC_iff.1 g1
 have e1 := (good.2.2 k t ht).1
 have kl := st_lt ht
 have low := Below.refl w.heap.size w
 have H := Lib.hid h
 have cb := boxNext low 23 (cfgA n s y b)
 replace low := gAlloc low (.cells (cfgA n s y b) 23)
 replace h := h.alloc (.cells (cfgA n s y b) 23)
 try simp only [World.size_alloc] at cb
 have ob := boxNext low 114 zeroA
 replace low := gAlloc low (.cells zeroA 114)
 replace h := h.alloc (.cells zeroA 114)
 replace cb := cb.alloc (.cells zeroA 114)
 try simp only [World.size_alloc] at ob
 simp only [zeroA] at ob
 have C := Lib.hid fun w hw => setOfLine_ok n s y b v ss m w hw he
 rw [hk] at C
 have kc : (k : Int) < ss.length := by omega
 have k0 : (0 : Int) ≤ k := by omega
 obtain ⟨A, cp, rfl, h1, h2, h3⟩ := H.out
 obtain ⟨bb, o, rfl, hb, hc⟩ := h3 (by omega)
 obtain ⟨A', c', ra, ws⟩ := hc.at_ k t ht
 have F := Lib.hid fun w hw => rowFind_ok (.slice A' t.l.length c') t.l t.a t.b t.c y m w hw e1
 clear h1 h2 h3 hc good e1 g1 g2 g3 he hk ht H
 go_enter Tryz.func130, Tryz.ntmps130
 go_wp2_with fail
 (with_reducible refine (C.out _ h).mono ?_); rintro e w1 ⟨rfl, hb⟩
 replace ob := ob.call hb
 replace cb := cb.call hb
 replace low := gCall low hb
 clear hb
 clear C
 obtain ⟨r0, r1, r2, r3⟩ := rowAt_of ra hb low
 have q2 := cb.at_ 2 rfl
 have wsr := ws.call low
 go_wp2_with fail
 refine wp_region_noPanic ?_
 refine wp_region_held_drew (S := fun w' => w'.cell? ⟨bb, o + k * 4, none⟩ = some (.slice A' t.l.length c') ∧ w'.cell? ⟨bb, o + k * 4 + 1, none⟩ = some (.bool t.a) ∧ w'.cell? ⟨bb, o + k * 4 + 2, none⟩ = some (.bool t.b) ∧ w'.cell? ⟨bb, o + k * 4 + 3, none⟩ = some (.bool t.c) ∧ w'.cell? ⟨w.heap.size, 2, none⟩ = some (.int .i64 y)) (by kernel_rfl) ⟨drewC r0, drewC r1, drewC r2, drewC r3, drewC q2⟩ (fun hHeld => ?_)
 refine takeA 0 ?_ rfl ?_ ?_; rotate_left
 ·(intro w hSw; go_simp; try (with_reducible rfl))
 try simp only [Act.put, List.setIfInBounds_toArray, List.set_cons_zero, List.set_cons_succ]
 refine takeA 1 ?_ rfl ?_ ?_; rotate_left
 ·(intro w hSw; go_simp; try (with_reducible rfl))
 try simp only [Act.put, List.setIfInBounds_toArray, List.set_cons_zero, List.set_cons_succ]
 refine takeA 2 ?_ rfl ?_ ?_; rotate_left
 ·(intro w hSw; go_simp; try (with_reducible rfl))
 try simp only [Act.put, List.setIfInBounds_toArray, List.set_cons_zero, List.set_cons_succ]
 refine takeA 3 ?_ rfl ?_ ?_; rotate_left
 ·(intro w hSw; go_simp; try (with_reducible rfl))
 try simp only [Act.put, List.setIfInBounds_toArray, List.set_cons_zero, List.set_cons_succ]
 refine takeA 4 ?_ rfl ?_ ?_; rotate_left
 ·(intro w hSw; go_simp; try (with_reducible rfl))
 try simp only [Act.put, List.setIfInBounds_toArray, List.set_cons_zero, List.set_cons_succ]
 refine takeA 5 ?_ rfl ?_ ?_; rotate_left
 ·(intro w hSw; go_simp; try (with_reducible rfl))
 try simp only [Act.put, List.setIfInBounds_toArray, List.set_cons_zero, List.set_cons_succ]
 refine takeA 6 ?_ rfl ?_ ?_; rotate_left
 ·(intro w hSw; go_simp; try (with_reducible rfl))
 try simp only [Act.put, List.setIfInBounds_toArray, List.set_cons_zero, List.set_cons_succ]
 refine stepNext (i := 7) (by kernel_rfl) rfl (by rfl) (fun K hK => ?_)
 go_simp
 (with_reducible refine (F.out _ wsr.drew).mono ?_); rintro e w2 ⟨rfl, hb2⟩
 replace ob := ob.drew.call hb2
 replace low := gCall low.drew hb2
 obtain ⟨hh0, hh1, hh2, hh3, hh4⟩ := hHeld
 have hHeld := (And.intro (callC hb2 hh0) (And.intro (callC hb2 hh1) (And.intro (callC hb2 hh2) (And.intro (callC hb2 hh3) (callC hb2 hh4)))))
 clear hh0 hh1 hh2 hh3 hh4
 refine hK.out _ _ hHeld ?_
 clear hK K
 try simp only [Act.put]
 try simp only [List.setIfInBounds_toArray, List.set_cons_zero, List.set_cons_succ]
 refine takeA 8 ?_ rfl ?_ ?_; rotate_left
 ·(intro w hSw; go_simp; try (with_reducible rfl))
 try simp only [Act.put, List.setIfInBounds_toArray, List.set_cons_zero, List.set_cons_succ]
 refine takeA 9 ?_ rfl ?_ ?_; rotate_left
 ·(intro w hSw; go_simp; try (with_reducible rfl))
 try simp only [Act.put, List.setIfInBounds_toArray, List.set_cons_zero, List.set_cons_succ]
 refine takeA 10 ?_ rfl ?_ ?_; rotate_left
 ·(intro w hSw; go_simp; try (with_reducible rfl))
 try simp only [Act.put, List.setIfInBounds_toArray, List.set_cons_zero, List.set_cons_succ]
 refine takeA 11 ?_ rfl ?_ ?_; rotate_left
 ·(intro w hSw; go_simp; try (with_reducible rfl))
 try simp only [Act.put, List.setIfInBounds_toArray, List.set_cons_zero, List.set_cons_succ]
 refine takeA 12 ?_ rfl ?_ ?_; rotate_left
 ·(intro w hSw; go_simp; try (with_reducible rfl))
 try simp only [Act.put, List.setIfInBounds_toArray, List.set_cons_zero, List.set_cons_succ]
 refine wpAnyH_done (by kernel_rfl) ?_ _
 refine NoPanic.normal ?_
 clear hHeld r0 r1 r2 r3 q2 F wsr hb2
 have z2 : w.heap.size + 1 < w2.heap.size := ob.lt
 have hd : decide (idxP (hasW m) t.l < 0) = true := decide_eq_true hf
 generalize idxP (hasW m) t.l = f at hd ⊢
 clear hf
 have ob_0 := ob.at_ 0 rfl
 have ob_1 := ob.at_ 1 rfl
 have ob_2 := ob.at_ 2 rfl
 have ob_3 := ob.at_ 3 rfl
 have ob_4 := ob.at_ 4 rfl
 have ob_5 := ob.at_ 5 rfl
 have ob_f0 := ob.frozen 0
 have ob_f1 := ob.frozen 1
 have ob_f2 := ob.frozen 2
 have ob_f3 := ob.frozen 3
 have ob_f4 := ob.frozen 4
 have ob_f5 := ob.frozen 5
 go_wp2_with fail
 refine bodyPost_ret (v := .tuple #[zeroV, .bool false, .int .i64 0]) (by simp [results, Tryz.results130, go_sem, ob_0, ob_1, ob_2, ob_3, ob_4, ob_5]) rfl ⟨rfl, ?_⟩
 repeat (refine gSet ?_ (by dsimp only; omega) _)
 exact low
set_option maxRecDepth 10000 in
set_option maxHeartbeats 1000000 in
theorem cacheFind_some (n s y b : Int) (v : Value) (ss : List St) (m : Int) (k : Nat) (t : St) (j : Nat) (x : Wy) (w : World) (h : Cs w v ss) (he : lineE n s y b ss m = 0) (hk : m % s = k) (ht : ss[k]? = some t) (hf : idxP (hasW m) t.l = j) (hx : t.l[j]? = some x) :
  Calls Tryz.prog 130 #[cfg n s y b, v, .int .i64 m] w fun e w' => e = .returned (.tuple #[x.val, .bool true, .int .i64 0]) ∧ Below w.heap.size w w' := by
 obtain ⟨g1, g2, g3⟩ := lineE_ok he
 have good := goodC_iff.1 g1
 have e1 := (good.2.2 k t ht).1
 have kl := st_lt ht
 have low := Below.refl w.heap.size w
 have H := Lib.hid h
 have cb := boxNext low 23 (cfgA n s y b)
 replace low := gAlloc low (.cells (cfgA n s y b) 23)
 replace h := h.alloc (.cells (cfgA n s y b) 23)
 try simp only [World.size_alloc] at cb
 have ob := boxNext low 114 zeroA
 replace low := gAlloc low (.cells zeroA 114)
 replace h := h.alloc (.cells zeroA 114)
 replace cb := cb.alloc (.cells zeroA 114)
 try simp only [World.size_alloc] at ob
 simp only [zeroA] at ob
 have C := Lib.hid fun w hw => setOfLine_ok n s y b v ss m w hw he
 rw [hk] at C
 have kc : (k : Int) < ss.length := by omega
 have k0 : (0 : Int) ≤ k := by omega
 obtain ⟨A, cp, rfl, h1, h2, h3⟩ := H.out
 obtain ⟨bb, o, rfl, hb, hc⟩ := h3 (by omega)
 obtain ⟨A', c', ra, ws⟩ := hc.at_ k t ht
 have F := Lib.hid fun w hw => rowFind_ok (.slice A' t.l.length c') t.l t.a t.b t.c y m w hw e1
 clear h1 h2 h3 hc good e1 g1 g2 g3 he hk ht H
 go_enter Tryz.func130, Tryz.ntmps130
 go_wp2_with fail
 (with_reducible refine (C.out _ h).mono ?_); rintro e w1 ⟨rfl, hb⟩
 replace ob := ob.call hb
 replace cb := cb.call hb
 replace low := gCall low hb
 clear hb
 clear C
 obtain ⟨r0, r1, r2, r3⟩ := rowAt_of ra hb low
 have q2 := cb.at_ 2 rfl
 have wsr := ws.call low
 go_wp2_with fail
 refine wp_region_noPanic ?_
 refine wp_region_held_drew (S := fun w' => w'.cell? ⟨bb, o + k * 4, none⟩ = some (.slice A' t.l.length c') ∧ w'.cell? ⟨bb, o + k * 4 + 1, none⟩ = some (.bool t.a) ∧ w'.cell? ⟨bb, o + k * 4 + 2, none⟩ = some (.bool t.b) ∧ w'.cell? ⟨bb, o + k * 4 + 3, none⟩ = some (.bool t.c) ∧ w'.cell? ⟨w.heap.size, 2, none⟩ = some (.int .i64 y)) (by kernel_rfl) ⟨drewC r0, drewC r1, drewC r2, drewC r3, drewC q2⟩ (fun hHeld => ?_)
 refine takeA 0 ?_ rfl ?_ ?_; rotate_left
 ·(intro w hSw; go_simp; try (with_reducible rfl))
 try simp only [Act.put, List.setIfInBounds_toArray, List.set_cons_zero, List.set_cons_succ]
 refine takeA 1 ?_ rfl ?_ ?_; rotate_left
 ·(intro w hSw; go_simp; try (with_reducible rfl))
 try simp only [Act.put, List.setIfInBounds_toArray, List.set_cons_zero, List.set_cons_succ]
 refine takeA 2 ?_ rfl ?_ ?_; rotate_left
 ·(intro w hSw; go_simp; try (with_reducible rfl))
 try simp only [Act.put, List.setIfInBounds_toArray, List.set_cons_zero, List.set_cons_succ]
 refine takeA 3 ?_ rfl ?_ ?_; rotate_left
 ·(intro w hSw; go_simp; try (with_reducible rfl))
 try simp only [Act.put, List.setIfInBounds_toArray, List.set_cons_zero, List.set_cons_succ]
 refine takeA 4 ?_ rfl ?_ ?_; rotate_left
 ·(intro w hSw; go_simp; try (with_reducible rfl))
 try simp only [Act.put, List.setIfInBounds_toArray, List.set_cons_zero, List.set_cons_succ]
 refine takeA 5 ?_ rfl ?_ ?_; rotate_left
 ·(intro w hSw; go_simp; try (with_reducible rfl))
 try simp only [Act.put, List.setIfInBounds_toArray, List.set_cons_zero, List.set_cons_succ]
 refine takeA 6 ?_ rfl ?_ ?_; rotate_left
 ·(intro w hSw; go_simp; try (with_reducible rfl))
 try simp only [Act.put, List.setIfInBounds_toArray, List.set_cons_zero, List.set_cons_succ]
 refine stepNext (i := 7) (by kernel_rfl) rfl (by rfl) (fun K hK => ?_)
 go_simp
 (with_reducible refine (F.out _ wsr.drew).mono ?_); rintro e w2 ⟨rfl, hb2⟩
 replace ob := ob.drew.call hb2
 replace low := gCall low.drew hb2
 obtain ⟨hh0, hh1, hh2, hh3, hh4⟩ := hHeld
 have hHeld := (And.intro (callC hb2 hh0) (And.intro (callC hb2 hh1) (And.intro (callC hb2 hh2) (And.intro (callC hb2 hh3) (callC hb2 hh4)))))
 clear hh0 hh1 hh2 hh3 hh4
 refine hK.out _ _ hHeld ?_
 clear hK K
 try simp only [Act.put]
 try simp only [List.setIfInBounds_toArray, List.set_cons_zero, List.set_cons_succ]
 refine takeA 8 ?_ rfl ?_ ?_; rotate_left
 ·(intro w hSw; go_simp; try (with_reducible rfl))
 try simp only [Act.put, List.setIfInBounds_toArray, List.set_cons_zero, List.set_cons_succ]
 refine takeA 9 ?_ rfl ?_ ?_; rotate_left
 ·(intro w hSw; go_simp; try (with_reducible rfl))
 try simp only [Act.put, List.setIfInBounds_toArray, List.set_cons_zero, List.set_cons_succ]
 refine takeA 10 ?_ rfl ?_ ?_; rotate_left
 ·(intro w hSw; go_simp; try (with_reducible rfl))
 try simp only [Act.put, List.setIfInBounds_toArray, List.set_cons_zero, List.set_cons_succ]
 refine takeA 11 ?_ rfl ?_ ?_; rotate_left
 ·(intro w hSw; go_simp; try (with_reducible rfl))
 try simp only [Act.put, List.setIfInBounds_toArray, List.set_cons_zero, List.set_cons_succ]
 refine takeA 12 ?_ rfl ?_ ?_; rotate_left
 ·(intro w hSw; go_simp; try (with_reducible rfl))
 try simp only [Act.put, List.setIfInBounds_toArray, List.set_cons_zero, List.set_cons_succ]
 refine wpAnyH_done (by kernel_rfl) ?_ _
 refine NoPanic.normal ?_
 clear hHeld r0 r1 r2 r3 q2 F wsr hb2
 have z2 : w.heap.size + 1 < w2.heap.size := ob.lt
 rw [hf]
 have hd : decide ((j : Int) < 0) = false := decide_eq_false (by omega)
 have jl := set_lt hx
 have j0 : (0 : Int) ≤ j := by omega
 have j1 : (j : Int) < t.l.length := by omega
 obtain ⟨r0, r1, r2, r3⟩ := rowAt_of ra hb low
 obtain ⟨hl, A2, c2, e2, _, _, h3⟩ := ws
 cases e2
 obtain ⟨b2, o2, rfl, hb2, hc2⟩ := h3 (by omega)
 obtain ⟨x0, x1, x2, x3, x4, x5⟩ := wayAt_of hc2 hb2 low hx
 clear hf hx hc2 h3 hl
 have ob_0 := ob.at_ 0 rfl
 have ob_1 := ob.at_ 1 rfl
 have ob_2 := ob.at_ 2 rfl
 have ob_3 := ob.at_ 3 rfl
 have ob_4 := ob.at_ 4 rfl
 have ob_5 := ob.at_ 5 rfl
 have ob_f0 := ob.frozen 0
 have ob_f1 := ob.frozen 1
 have ob_f2 := ob.frozen 2
 have ob_f3 := ob.frozen 3
 have ob_f4 := ob.frozen 4
 have ob_f5 := ob.frozen 5
 go_wp2_with fail
 refine bodyPost_ret (v := .tuple #[x.val, .bool true, .int .i64 0]) (by simp [results, Tryz.results130, go_sem, ob_0, ob_1, ob_2, ob_3, ob_4, ob_5]) rfl ⟨rfl, ?_⟩
 repeat (refine gSet ?_ (by dsimp only; omega) _)
 exact low
end Go.Proofs.YtcegjehoejgofaaGreat
namespace Go.Proofs.YtcegjehoejgofaaGreat
open Go.ChangeShapes Go.WideShapes Go.ChangeAt Go.RowKit Go.Joins
def SetIn (cur : Array Value) (q : Nat) (u : Value) (t : St) : Prop :=
 cur[q * 4]? = some u ∧ cur[q * 4 + 1]? = some (.bool t.a) ∧ cur[q * 4 + 2]? = some (.bool t.b) ∧ cur[q * 4 + 3]? = some (.bool t.c)
def Frx (w : World) (B C g : Nat) (u : Value) (l : List Wy) : Prop := Fr w B g u l ∨ Fr w (g + 1) C u l
def OwnC (w : World) (B C g : Nat) (v : Value) (ss : List St) : Prop :=
 ∃ cap cur, v = .slice (some ⟨g, 0, none⟩) ss.length cap ∧ Box w g 193 cur ∧ ss.length ≤ cap ∧ cap ≤ maxLen ∧ cur.size = cap * 4 ∧ ∀ (q : Nat) (t : St), ss[q]? = some t → ∃ u, SetIn cur q u t ∧ Frx w B C g u t.l
def CFr (w : World) (B C : Nat) (v : Value) (ss : List St) : Prop := (v = .slice none 0 0 ∧ ss = []) ∨ ∃ g, B ≤ g ∧ g < C ∧ OwnC w B C g v ss
section
variable {w w' : World} {B B' C C' g : Nat} {v u : Value} {l : List Wy} {ss : List St}
theorem Frx.call (h : Frx w B C g u l) (hb : Below w.heap.size w w') : Frx w' B C g u l := h.imp (·.call hb) (·.call hb)
theorem Frx.more (h : Frx w B C g u l) (hB : B' ≤ B) (hC : C ≤ C') : Frx w B' C' g u l := h.imp (·.more hB (Nat.le_refl _)) (·.more (Nat.le_refl _) hC)
theorem Frx.stored (h : Frx w B C g u l) (st : Stored w g w') : Frx w' B C g u l := h.imp (fun k => st.fr k (.inr (Nat.le_refl _))) (fun k => st.fr k (.inl (Nat.lt_succ_self _)))
theorem Frx.out (h : Frx w B C g u l) {x : Nat} (st : Stored w x w') (hx : x < B ∨ C ≤ x) (hB : B ≤ g) (hC : g < C) : Frx w' B C g u l := h.imp (fun k => st.fr k (by omega)) (fun k => st.fr k (by omega))
theorem Frx.ws (h : Frx w B C g u l) : Ws w u l := h.elim (·.ws) (·.ws)
theorem Frx.nil (w : World) (B C g : Nat) : Frx w B C g (.slice none 0 0) [] := .inl (Fr.nil _ _ _)
theorem OwnC.lt (h : OwnC w B C g v ss) : g < w.heap.size := by
 obtain ⟨_, _, _, hb, _⟩ := h
 exact hb.lt
theorem OwnC.call (h : OwnC w B C g v ss) (hb : Below w.heap.size w w') : OwnC w' B C g v ss := by
 obtain ⟨cap, cur, e, h1, h2, h3, h4, h5⟩ := h
 refine ⟨cap, cur, e, h1.call hb, h2, h3, h4, fun q t hq => ?_⟩
 obtain ⟨u, k1, k2⟩ := h5 q t hq
 exact ⟨u, k1, k2.call hb⟩
theorem OwnC.more (h : OwnC w B C g v ss) (hB : B' ≤ B) (hC : C ≤ C') : OwnC w B' C' g v ss := by
 obtain ⟨cap, cur, e, h1, h2, h3, h4, h5⟩ := h
 refine ⟨cap, cur, e, h1, h2, h3, h4, fun q t hq => ?_⟩
 obtain ⟨u, k1, k2⟩ := h5 q t hq
 exact ⟨u, k1, k2.more hB hC⟩
theorem OwnC.alloc (h : OwnC w B C g v ss) (o : Obj) : OwnC (w.alloc o) B C g v ss := h.call (gAlloc (Below.refl _ _) o)
theorem OwnC.drew (h : OwnC w B C g v ss) : OwnC w.drew B C g v ss := h.call (Below.refl _ _).drew
theorem OwnC.cs (h : OwnC w B C g v ss) : Cs w v ss := by
 obtain ⟨cap, cur, rfl, h1, h2, h3, h4, h5⟩ := h
 refine ⟨some ⟨g, 0, none⟩, cap, rfl, h2, h3, fun _ => ⟨g, 0, rfl, h1.lt, ⟨fun k t hk => ?_⟩⟩⟩
 obtain ⟨u, ⟨k0, k1, k2, k3⟩, k4⟩ := h5 k t hk
 obtain ⟨_, A, c, rfl, _⟩ := k4.ws
 refine ⟨A, c, ⟨?_, ?_, ?_, ?_⟩, k4.ws⟩
 ·rw [h1.cell, Nat.zero_add]; exact k0
 ·rw [h1.cell, Nat.zero_add]; exact k1
 ·rw [h1.cell, Nat.zero_add]; exact k2
 ·rw [h1.cell, Nat.zero_add]; exact k3
theorem OwnC.out (h : OwnC w B C g v ss) {x : Nat} (st : Stored w x w') (hx : x < B ∨ C ≤ x) (hB : B ≤ g) (hC : g < C) : OwnC w' B C g v ss := by
 obtain ⟨cap, cur, e, h1, h2, h3, h4, h5⟩ := h
 refine ⟨cap, cur, e, st.box h1 (by omega), h2, h3, h4, fun q t hq => ?_⟩
 obtain ⟨u, k1, k2⟩ := h5 q t hq
 exact ⟨u, k1, k2.out st hx hB hC⟩
theorem CFr.cs (h : CFr w B C v ss) : Cs w v ss := by
 rcases h with ⟨rfl, rfl⟩ | ⟨g, _, _, h⟩
 ·exact Cs.nil w
 ·exact h.cs
theorem CFr.shape (h : CFr w B C v ss) : ∃ A c, v = .slice A ss.length c := by
 obtain ⟨A, c, e, _⟩ := h.cs
 exact ⟨A, c, e⟩
theorem CFr.call (h : CFr w B C v ss) (hb : Below w.heap.size w w') : CFr w' B C v ss := h.imp id fun ⟨g, h1, h2, h3⟩ => ⟨g, h1, h2, h3.call hb⟩
theorem CFr.more (h : CFr w B C v ss) (hB : B' ≤ B) (hC : C ≤ C') : CFr w B' C' v ss := h.imp id fun ⟨g, h1, h2, h3⟩ => ⟨g, by omega, by omega, h3.more hB hC⟩
theorem CFr.out (h : CFr w B C v ss) {x : Nat} (st : Stored w x w') (hx : x < B ∨ C ≤ x) : CFr w' B C v ss := h.imp id fun ⟨g, h1, h2, h3⟩ => ⟨g, h1, h2, h3.out st hx h1 h2⟩
theorem CFr.alloc (h : CFr w B C v ss) (o : Obj) : CFr (w.alloc o) B C v ss := h.call (gAlloc (Below.refl _ _) o)
end
theorem set4_ne {cur : Array Value} {k i : Nat} {a b c d : Value} (h : i < k * 4 ∨ k * 4 + 3 < i) : ((((cur.setIfInBounds (k * 4) a).setIfInBounds (k * 4 + 1) b).setIfInBounds (k * 4 + 2) c).setIfInBounds (k * 4 + 3) d)[i]? = cur[i]? := by
 simp only [Array.getElem?_setIfInBounds]
 repeat rw [if_neg (by omega)]
theorem wp_put_set {op : Oper} {a : Act} {w : World} {K : Act → World → Prop} {Q : Exit → Act → World → Prop} (x y : Operand) (ho : op.op = .store 193 x y)
  (B C g : Nat) (v : Value) (L : List St) (k : Nat) (A : Option Addr) (c : Nat) (t : St) (own : OwnC w B C g v L) (hk : k < L.length) (fr : Frx w B C g (.slice A t.l.length c) t.l)
  (hx : a.eval x = .pointer (some ⟨g, k * 4, none⟩)) (hy : a.eval y = rowV (.slice A t.l.length c) t.a t.b t.c)
  (h : ∀ w', OwnC w' B C g v (L.set k t) → Stored w g w' → K (a.put op.dst undef) w') : op.wp Tryz.prog a w K Q := by
 obtain ⟨cap, cur, rfl, hb, h2, h3, h4, h5⟩ := own
 refine wp_store_mid 193 x y ho g (k * 4) (rowA (.slice A t.l.length c) t.a t.b t.c) hx hy ?_ size_row (by simp [Value.oneCell']) ?_
 ·intro j hj
  have hj4 : j < 4 := hj
  refine ⟨?_, hb.frozen _⟩
  rw [hb.cell, Array.getElem?_eq_getElem (by omega)]
  rfl
 ·have b1 := (((hb.set (k * 4) (.slice A t.l.length c)).set (k * 4 + 1) (.bool t.a)).set (k * 4 + 2) (.bool t.b)).set (k * 4 + 3) (.bool t.c)
  have st : Stored w g ((((w.setCell ⟨g, k * 4, none⟩ (.slice A t.l.length c)).setCell ⟨g, k * 4 + 1, none⟩ (.bool t.a)).setCell ⟨g, k * 4 + 2, none⟩ (.bool t.b)).setCell ⟨g, k * 4 + 3, none⟩ (.bool t.c)) :=
   (((Stored.cell1 w ⟨g, k * 4, none⟩ _).trans (Stored.cell1 _ ⟨g, k * 4 + 1, none⟩ _)).trans (Stored.cell1 _ ⟨g, k * 4 + 2, none⟩ _)).trans (Stored.cell1 _ ⟨g, k * 4 + 3, none⟩ _)
  refine h _ ⟨cap, _, by rw [List.length_set], b1, by rw [List.length_set]; exact h2, h3, by simpa using h4, fun q z hz => ?_⟩ st
  by_cases e : q = k
  ·subst e
   rw [List.getElem?_set_self hk] at hz
   cases hz
   refine ⟨_, ?_, fr.stored st⟩
   have hsz : q * 4 + 3 < cur.size := by omega
   refine ⟨?_, ?_, ?_, ?_⟩ <;> (simp [Array.getElem?_setIfInBounds]; omega)
  ·rw [List.getElem?_set_ne (fun h => e h.symm)] at hz
   obtain ⟨u, ⟨k0, k1, k2, k3⟩, k4⟩ := h5 q z hz
   exact ⟨u, ⟨(set4_ne (by omega)).trans k0, (set4_ne (by omega)).trans k1, (set4_ne (by omega)).trans k2, (set4_ne (by omega)).trans k3⟩, k4.stored st⟩
theorem wpList_put_set {ops : Array Oper} {rest : List Oper} {op : Oper} {a : Act} {w : World} {Q : Exit → Act → World → Prop} (hgd : op.guard = none) (x y : Operand) (ho : op.op = .store 193 x y)
  (B C g : Nat) (v : Value) (L : List St) (k : Nat) (A : Option Addr) (c : Nat) (t : St) (own : OwnC w B C g v L) (hk : k < L.length) (fr : Frx w B C g (.slice A t.l.length c) t.l)
  (hx : a.eval x = .pointer (some ⟨g, k * 4, none⟩)) (hy : a.eval y = rowV (.slice A t.l.length c) t.a t.b t.c)
  (h : ∀ w', OwnC w' B C g v (L.set k t) → Stored w g w' → wpList Tryz.prog ops Q rest (a.put op.dst undef) w') : wpList Tryz.prog ops Q (op :: rest) a w :=
 wpList_plain hgd fun _ hK => wp_put_set x y ho B C g v L k A c t own hk fr hx hy fun w' h1 h2 => hK _ _ (h w' h1 h2)
def st0 : St := ⟨[], false, false, false⟩
def partL (L : List St) (k : Nat) : List St := L.take k ++ List.replicate (L.length - k) st0
theorem partL_length {L : List St} {k : Nat} (h : k ≤ L.length) : (partL L k).length = L.length := by
 simp [partL]; omega
theorem partL_all (L : List St) : partL L L.length = L := by simp [partL]
theorem partL_zero (L : List St) : partL L 0 = List.replicate L.length st0 := by simp [partL]
theorem partL_succ {L : List St} {k : Nat} {t : St} (h : L[k]? = some t) : (partL L k).set k t = partL L (k + 1) := by
 obtain ⟨hk, rfl⟩ := List.getElem?_eq_some_iff.1 h
 have e : L.length - k = (L.length - (k + 1)) + 1 := by omega
 unfold partL
 rw [e, List.replicate_succ, List.take_succ_eq_append_getElem hk, List.set_append_right _ _ (by rw [List.length_take]; omega), List.length_take, Nat.min_eq_left (Nat.le_of_lt hk), Nat.sub_self, List.set_cons_zero, List.append_assoc]
 rfl
theorem info_row : (Tryz.prog.info? 193).map (fun i => (i.zero, i.size, i.bytes)) = some (some noRow, 4, 32) := by kernel_rfl
def newC (n : Nat) : Array Value := madeCells (rowA (.slice none 0 0) false false false) (n * 4)
theorem newC_in {n q : Nat} (h : q < n) : SetIn (newC n) q (.slice none 0 0) st0 := by
 unfold newC
 refine ⟨?_, ?_, ?_, ?_⟩ <;> (rw [Array.getElem?_eq_getElem (by rw [size_madeCells]; omega)]; simp [madeCells, st0])
theorem OwnC.new (w : World) (B C n : Nat) (hn : n ≤ maxLen) : OwnC (w.alloc (.cells (newC n) 193)) B C w.heap.size (.slice (some ⟨w.heap.size, 0, none⟩) n n) (List.replicate n st0) := by
 refine ⟨n, newC n, by rw [List.length_replicate], Box.new w _ _, by rw [List.length_replicate]; exact Nat.le_refl _, hn, size_madeCells _ _, fun q t hq => ?_⟩
 have hlt : q < n := by have := st_lt hq; simpa using this
 rw [List.getElem?_replicate, if_pos hlt] at hq
 cases hq
 exact ⟨_, newC_in hlt, Frx.nil _ _ _ _⟩
theorem make_sets (n : Nat) (hn : n ≤ 4) (w : World) : (Instr.makeSlice 160 (.int .i64 n) (.int .i64 n)).run Tryz.prog w = .ok (.slice (some ⟨w.heap.size, 0, none⟩) n n) (w.alloc (.cells (newC n) 193)) := by
 obtain ⟨i0, hi, hz0, hz1, hz2⟩ := info_parts info_row
 have := run_make w 160 193 i0 noRow Tryz.underlying160 hi hz0 .i64 .i64 n n (by omega) (Int.le_refl _) (by rw [hz2]; omega) (by omega)
 rw [this, hz1]
 simp [newC, Value.cells]
set_option maxRecDepth 10000 in
set_option maxHeartbeats 1000000 in
theorem cacheReplace_any (v : Value) (ss : List St) (k : Nat) (A : Option Addr) (c : Nat) (t : St) (w : World) (B : Nat) (h : Cs w v ss) (hk : k < ss.length) (hn : ss.length ≤ 4)
  (hl : ∀ (q : Nat) t, ss[q]? = some t → 0 < t.l.length ∧ t.l.length ≤ 4) (fr : Fr w B w.heap.size (.slice A t.l.length c) t.l) (hB : B ≤ w.heap.size) :
  Calls Tryz.prog 157 #[v, .int .i64 k, rowV (.slice A t.l.length c) t.a t.b t.c] w fun e w' => (∃ v', e = .returned v' ∧ CFr w' B w'.heap.size v' (ss.set k t)) ∧ Below w.heap.size w w' := by
 have HL := Lib.hid hl
 obtain ⟨Ah, cp, rfl, h1, h2, h3⟩ := h
 obtain ⟨bb, o, rfl, hb, hc⟩ := h3 (by omega)
 have HC := Lib.hid hc
 have MS := fun w => make_sets ss.length hn w
 unfold maxLen at h2
 clear hl h3 hc
 obtain ⟨L, hL⟩ : ∃ L, L = ss.set k t := ⟨_, rfl⟩
 rw [← hL]
 have LL := Lib.hid (show L.length = ss.length by rw [hL, List.length_set])
 have GL := Lib.hid (fun (q : Nat) z (hz : ss[q]? = some z) => show L[q]? = some (if q = k then t else z) by
  rw [hL]
  by_cases e : q = k
  ·subst e; rw [if_pos rfl, List.getElem?_set_self hk]
  ·rw [if_neg e, List.getElem?_set_ne (fun h => e h.symm), hz])
 clear hL
 have low := Below.refl w.heap.size w
 have rb := boxNext low 193 (rowA (.slice A t.l.length c) t.a t.b t.c)
 replace low := gAlloc low (.cells (rowA (.slice A t.l.length c) t.a t.b t.c) 193)
 replace fr := fr.alloc (.cells (rowA (.slice A t.l.length c) t.a t.b t.c) 193)
 try simp only [World.size_alloc] at rb
 simp only [rowA] at rb
 have own := OwnC.new (w.alloc (.cells (rowA (.slice A t.l.length c) t.a t.b t.c) 193)) B (w.heap.size + 1 + 1) ss.length (by unfold maxLen; omega)
 simp only [World.size_alloc] at own
 rw [show List.replicate ss.length st0 = partL L 0 by rw [partL_zero, LL.out]] at own
 replace fr := fr.alloc (.cells (newC ss.length) 193)
 replace rb := rb.alloc (.cells (newC ss.length) 193)
 replace low := gAlloc low (.cells (newC ss.length) 193)
 have FR := Lib.hid fr
 have OW := Lib.hid own
 clear fr own
 go_enter Tryz.func157, Tryz.ntmps157
 go_wp2_with fail
 go_loopw [15] (fun i wr => ∃ j : Nat, j ≤ ss.length ∧ i = .int .i64 j ∧ Hid (OwnC wr B wr.heap.size (w.heap.size + 1) (.slice (some ⟨w.heap.size + 1, 0, none⟩) ss.length ss.length) (partL L j)) ∧
   Hid (Fr wr B w.heap.size (.slice A t.l.length c) t.l) ∧ Box wr w.heap.size 193 (rowA (.slice A t.l.length c) t.a t.b t.c) ∧ Below w.heap.size w wr) (fun i _ => ss.length - (intOf i).toNat)
 case atStart => exact ⟨0, Nat.zero_le _, rfl, Lib.hid (OW.out.more (Nat.le_refl _) (by simp)), FR, rb, low⟩
 case round =>
  clear rb low OW FR
  obtain ⟨j, hj, rfl, own, fr, rb, low⟩ := hrel
  simp only [rowA] at rb
  by_cases hlt : j < ss.length
  ·have hx : ss[j]? = some ss[j] := List.getElem?_eq_getElem _
   generalize ss[j] = z at hx
   obtain ⟨A', c', ra, ws⟩ := HC.out.at_ j z hx
   obtain ⟨c0, c1, c2, c3⟩ := rowAt_of ra hb low
   replace ws := ws.call low
   obtain ⟨z0, z4⟩ := HL.out j z hx
   have HX := Lib.hid (GL.out j z hx)
   have jp := Lib.hid (show j < (partL L j).length by rw [partL_length (by rw [LL.out]; omega), LL.out]; omega)
   clear hx ra
   have k0 : (0 : Int) ≤ j := by omega
   have k1 : (j : Int) < ss.length := by omega
   have zr : w.heap.size + 1 < wr.heap.size := own.out.lt
   by_cases hjk : j = k
   ·have kj : ((j : Int) == (k : Int)) = true := by simp [hjk]
    replace HX := Lib.hid (HX.out.trans (by rw [if_pos hjk]))
    clear hjk
    have zb := boxNext low 193 (rowA (.slice A' z.l.length c') z.a z.b z.c)
    replace low := gAlloc low (.cells (rowA (.slice A' z.l.length c') z.a z.b z.c) 193)
    replace rb := rb.alloc (.cells (rowA (.slice A' z.l.length c') z.a z.b z.c) 193)
    try simp only [World.size_alloc] at zb
    simp only [rowA] at zb
    have rb_0 := rb.at_ 0 rfl
    have rb_1 := rb.at_ 1 rfl
    have rb_2 := rb.at_ 2 rfl
    have rb_3 := rb.at_ 3 rfl
    go_wp2_with (refine wpList_put_set rfl (.tmp 26) (.tmp 25) rfl B (wr.heap.size + 1) (w.heap.size + 1) _ (partL L j) j A c t ((own.out.alloc _).more (Nat.le_refl _) (by omega)) jp.out (.inl ((fr.out.alloc _).more (Nat.le_refl _) (by omega))) rfl rfl ?_)
    intro w2 own2 st
    clear rb_0 rb_1 rb_2 rb_3
    rw [partL_succ HX.out] at own2
    replace rb := st.box rb (by omega)
    replace low := st.low low (by omega)
    have fr2 := Lib.hid (st.fr (fr.out.alloc (.cells (rowA (.slice A' z.l.length c') z.a z.b z.c) 193)) (.inr (by omega)))
    have z2 := st.size
    have OW := Lib.hid own2
    clear st own2 c0 c1 c2 c3
    simp only [World.size_alloc] at z2
    go_wp2_with fail
    go_roundw
    case rel => exact ⟨j + 1, by omega, by go_num, Lib.hid (OW.out.more (Nat.le_refl _) (by omega)), fr2, rb, low⟩
    case measure => simp [intOf]; omega
   ·have kj : ((j : Int) == (k : Int)) = false := by simp; omega
    replace HX := Lib.hid (HX.out.trans (by rw [if_neg hjk]))
    clear hjk
    have zb := boxNext low 193 (rowA (.slice A' z.l.length c') z.a z.b z.c)
    replace low := gAlloc low (.cells (rowA (.slice A' z.l.length c') z.a z.b z.c) 193)
    replace rb := rb.alloc (.cells (rowA (.slice A' z.l.length c') z.a z.b z.c) 193)
    replace ws := ws.alloc (.cells (rowA (.slice A' z.l.length c') z.a z.b z.c) 193)
    try simp only [World.size_alloc] at zb
    simp only [rowA] at zb
    obtain ⟨s0, s1, s2, s3⟩ := zb.rowC
    have CL := Lib.hid fun w hw => clone_any (.slice A' z.l.length c') z.l w hw z0 z4
    go_wp2_with fail
    refine wp_region_noPanic ?_
    refine wp_region_held_drew (S := fun w' => w'.cell? ⟨wr.heap.size, 0, none⟩ = some (.slice A' z.l.length c') ∧ w'.cell? ⟨wr.heap.size, 1, none⟩ = some (.bool z.a) ∧ w'.cell? ⟨wr.heap.size, 2, none⟩ = some (.bool z.b) ∧ w'.cell? ⟨wr.heap.size, 3, none⟩ = some (.bool z.c)) (by kernel_rfl) ⟨drewC s0, drewC s1, drewC s2, drewC s3⟩ (fun hHeld => ?_)
    refine takeA 0 ?_ rfl ?_ ?_; rotate_left
    ·(intro w hSw; go_simp; try (with_reducible rfl))
    try simp only [Act.put, List.setIfInBounds_toArray, List.set_cons_zero, List.set_cons_succ]
    refine takeA 1 ?_ rfl ?_ ?_; rotate_left
    ·(intro w hSw; go_simp; try (with_reducible rfl))
    try simp only [Act.put, List.setIfInBounds_toArray, List.set_cons_zero, List.set_cons_succ]
    refine takeA 2 ?_ rfl ?_ ?_; rotate_left
    ·(intro w hSw; go_simp; try (with_reducible rfl))
    try simp only [Act.put, List.setIfInBounds_toArray, List.set_cons_zero, List.set_cons_succ]
    refine takeA 3 ?_ rfl ?_ ?_; rotate_left
    ·(intro w hSw; go_simp; try (with_reducible rfl))
    try simp only [Act.put, List.setIfInBounds_toArray, List.set_cons_zero, List.set_cons_succ]
    refine takeA 5 ?_ rfl ?_ ?_; rotate_left
    ·(intro w hSw; go_simp; try (with_reducible rfl))
    try simp only [Act.put, List.setIfInBounds_toArray, List.set_cons_zero, List.set_cons_succ]
    refine takeA 6 ?_ rfl ?_ ?_; rotate_left
    ·(intro w hSw; go_simp; try (with_reducible rfl))
    try simp only [Act.put, List.setIfInBounds_toArray, List.set_cons_zero, List.set_cons_succ]
    refine stepNext (i := 4) (by kernel_rfl) rfl (by rfl) (fun K hK => ?_)
    go_simp
    (with_reducible refine (CL.out _ ws.drew).mono ?_); rintro e w2 ⟨v', g', rfl, own', hg', hb2⟩
    have frz := fr_of_own own' hg'
    obtain ⟨Az, cz, rfl⟩ := frz.shape
    have own2 := (own.out.alloc (.cells (rowA (.slice A' z.l.length c') z.a z.b z.c) 193)).drew.call hb2
    have fr2 := (fr.out.alloc (.cells (rowA (.slice A' z.l.length c') z.a z.b z.c) 193)).call (Below.refl _ _).drew |>.call hb2
    have sz2 : wr.heap.size + 1 ≤ w2.heap.size := by have := hb2.size; simpa using this
    simp only [World.size_drew, World.size_alloc] at frz
    replace rb := rb.drew.call hb2
    replace low := gCall low.drew hb2
    obtain ⟨hh0, hh1, hh2, hh3⟩ := hHeld
    have hHeld := (And.intro (callC hb2 hh0) (And.intro (callC hb2 hh1) (And.intro (callC hb2 hh2) (callC hb2 hh3))))
    clear hh0 hh1 hh2 hh3
    clear hb2 own'
    refine hK.out _ _ hHeld ?_
    clear hK K
    try simp only [Act.put]
    try simp only [List.setIfInBounds_toArray, List.set_cons_zero, List.set_cons_succ]
    refine takeA 7 ?_ rfl ?_ ?_; rotate_left
    ·(intro w hSw; go_simp; try (with_reducible rfl))
    try simp only [Act.put, List.setIfInBounds_toArray, List.set_cons_zero, List.set_cons_succ]
    refine takeA 8 ?_ rfl ?_ ?_; rotate_left
    ·(intro w hSw; go_simp; try (with_reducible rfl))
    try simp only [Act.put, List.setIfInBounds_toArray, List.set_cons_zero, List.set_cons_succ]
    refine stepNext (i := 9) (by kernel_rfl) rfl (by rfl) (fun K hK => ?_)
    refine wp_put_set (.tmp 35) (.tmp 34) rfl B w2.heap.size (w.heap.size + 1) _ (partL L j) j Az cz z (own2.more (Nat.le_refl _) (by omega)) jp.out (.inr (frz.more (by omega) (Nat.le_refl _))) rfl rfl ?_
    intro w3 own3 st
    rw [partL_succ HX.out] at own3
    replace rb := st.box rb (by omega)
    replace low := st.low low (by omega)
    have fr3 := Lib.hid (st.fr fr2 (.inr (by omega)))
    have z3 := st.size
    have OW := Lib.hid own3
    obtain ⟨hh0, hh1, hh2, hh3⟩ := hHeld
    have hHeld := (And.intro (st.cell (by dsimp only; omega) hh0) (And.intro (st.cell (by dsimp only; omega) hh1) (And.intro (st.cell (by dsimp only; omega) hh2) (st.cell (by dsimp only; omega) hh3))))
    clear hh0 hh1 hh2 hh3
    clear st own3 fr2 own2 frz
    refine hK.out _ _ hHeld ?_
    clear hK K
    try simp only [Act.put]
    try simp only [List.setIfInBounds_toArray, List.set_cons_zero, List.set_cons_succ]
    refine wpAnyH_done (by kernel_rfl) ?_ _
    refine NoPanic.normal ?_
    clear hHeld s0 s1 s2 s3 c0 c1 c2 c3 zb ws
    go_wp2_with fail
    go_roundw
    case rel => exact ⟨j + 1, by omega, by go_num, Lib.hid (OW.out.more (Nat.le_refl _) (by omega)), fr3, rb, low⟩
    case measure => simp [intOf]; omega
  ·obtain rfl : j = ss.length := by omega
   have OW := own.out
   rw [← LL.out, partL_all, LL.out] at OW
   have CF := Lib.hid (show CFr wr B wr.heap.size _ L from .inr ⟨_, by omega, OW.lt, OW⟩)
   clear OW own
   go_wp2_with fail
   go_ret
   exact ⟨⟨_, rfl, CF.out⟩, low⟩
theorem GoodC.small {n s y b : Int} {ss : List St} (h : GoodC n s y b ss) : ss.length ≤ 4 ∧ ∀ (q : Nat) t, ss[q]? = some t → 0 < t.l.length ∧ t.l.length ≤ 4 := by
 obtain ⟨h1, h2, h3⟩ := h
 have hs := cfgB_iff.1 h1
 refine ⟨by omega, fun q t hq => ?_⟩
 obtain ⟨_, h4, _⟩ := rowE_ok (h3 q t hq).1
 omega
end Go.Proofs.YtcegjehoejgofaaGreat
