/-
Proved: words for the counts of package tally: what an event adds, each node's count; what all of them come to. By lists alone, no walk. No condition.
-/
import Derived.Test.YtcegjehoejgofaaTallyFacts
namespace Go.Proofs.Ytcegjehoejgofaa
open Go.ChangeShapes Go.WideShapes Go.ChangeAt Go.RowKit Go.Joins

/-- A count: loads, stores, swaps, removals, by the ring. -/
structure Cn where
  ld : Int
  st : Int
  sw : Int
  pt : Int
  rg : Int
def one1 (b : Bool) : Int := if b = true then 1 else 0
theorem one1_le (b : Bool) : 0 ≤ one1 b ∧ one1 b ≤ 1 := by cases b <;> decide
def addC (c : Cn) (x : Ev) : Cn := ⟨c.ld + one1 (x.d.kd == 1), c.st + one1 (x.d.kd == 2), c.sw + one1 (x.d.kd == 3), c.pt + one1 (x.d.kd == 4), c.rg + one1 x.by_⟩
/-- The count of node k. -/
def cntOf (k : Nat) (l : List Ev) : Cn := l.foldl (fun c x => if x.d.nd = (k : Int) then addC c x else c) ⟨0, 0, 0, 0, 0⟩
def cntL (n : Nat) (l : List Ev) : List Cn := (List.range n).map fun k => cntOf k l
theorem cntL_length (n : Nat) (l : List Ev) : (cntL n l).length = n := by simp [cntL]
theorem cntL_at {n : Nat} {l : List Ev} {k : Nat} (hk : k < n) : (cntL n l)[k]? = some (cntOf k l) := by simp [cntL, hk]
theorem cntOf_snoc (k : Nat) (l : List Ev) (x : Ev) : cntOf k (l ++ [x]) = if x.d.nd = (k : Int) then addC (cntOf k l) x else cntOf k l := by
  unfold cntOf
  rw [List.foldl_append, List.foldl_cons, List.foldl_nil]
theorem cntL_snoc {n : Nat} {l : List Ev} {x : Ev} {q : Nat} (h : x.d.nd = (q : Int)) : cntL n (l ++ [x]) = (cntL n l).set q (addC (cntOf q l) x) := by
  apply List.ext_getElem?
  intro k
  by_cases hk : k < n
  · rw [cntL_at hk, cntOf_snoc]
    by_cases e : q = k
    · subst e
      rw [if_pos h, List.getElem?_set_self (by rw [cntL_length]; exact hk)]
    · rw [if_neg (by rw [h]; omega), List.getElem?_set_ne e, cntL_at hk]
  · rw [List.getElem?_eq_none (by rw [cntL_length]; omega), List.getElem?_eq_none (by rw [List.length_set, cntL_length]; omega)]
theorem cntL_nil (n : Nat) : cntL n [] = List.replicate n ⟨0, 0, 0, 0, 0⟩ := by
  apply List.ext_getElem?
  intro k
  by_cases hk : k < n
  · rw [cntL_at hk, List.getElem?_replicate, if_pos hk]
    rfl
  · rw [List.getElem?_eq_none (by rw [cntL_length]; omega), List.getElem?_eq_none (by rw [List.length_replicate]; omega)]
theorem take_snoc {α : Type} {l : List α} {j : Nat} {x : α} (h : l[j]? = some x) : l.take (j + 1) = l.take j ++ [x] := by
  rw [List.take_add_one, h]
  rfl
/-- Each number is from 0 on, and no greater than the events. -/
structure CnIn (c : Cn) (m : Int) : Prop where
  ld : 0 ≤ c.ld ∧ c.ld ≤ m
  st : 0 ≤ c.st ∧ c.st ≤ m
  sw : 0 ≤ c.sw ∧ c.sw ≤ m
  pt : 0 ≤ c.pt ∧ c.pt ≤ m
  rg : 0 ≤ c.rg ∧ c.rg ≤ m
theorem foldl_snoc_ind {P : List Ev → Prop} (h0 : P []) (hs : ∀ l x, P l → P (l ++ [x])) (l : List Ev) : P l := by
  have : ∀ n (l : List Ev), l.length = n → P l := by
    intro n
    induction n with
    | zero =>
      intro l hl
      rw [List.length_eq_zero_iff.1 hl]
      exact h0
    | succ n ih =>
      intro l hl
      have hne : l ≠ [] := by
        rintro rfl
        simp at hl
      rw [← List.dropLast_concat_getLast hne]
      exact hs _ _ (ih _ (by rw [List.length_dropLast]; omega))
  exact this _ l rfl
theorem cntOf_in (k : Nat) (l : List Ev) : CnIn (cntOf k l) l.length := by
  refine foldl_snoc_ind (P := fun l => CnIn (cntOf k l) l.length) ?_ ?_ l
  · show CnIn ⟨0, 0, 0, 0, 0⟩ ((0 : Nat) : Int)
    exact ⟨by decide, by decide, by decide, by decide, by decide⟩
  · intro l x ih
    obtain ⟨h1, h2, h3, h4, h5⟩ := ih
    rw [cntOf_snoc, List.length_append]
    have e : (((l.length + [x].length : Nat)) : Int) = l.length + 1 := by simp
    rw [e]
    split
    · have a1 := one1_le (x.d.kd == 1)
      have a2 := one1_le (x.d.kd == 2)
      have a3 := one1_le (x.d.kd == 3)
      have a4 := one1_le (x.d.kd == 4)
      have a5 := one1_le x.by_
      unfold addC
      exact ⟨by dsimp only; omega, by dsimp only; omega, by dsimp only; omega, by dsimp only; omega, by dsimp only; omega⟩
    · exact ⟨by omega, by omega, by omega, by omega, by omega⟩
/-- All operations of a count. -/
def Cn.all (c : Cn) : Int := c.ld + c.st + c.sw + c.pt
theorem addC_all (c : Cn) (x : Ev) (h : 1 ≤ x.d.kd ∧ x.d.kd ≤ 4) : (addC c x).all = c.all + 1 := by
  unfold addC Cn.all
  have hk : x.d.kd = 1 ∨ x.d.kd = 2 ∨ x.d.kd = 3 ∨ x.d.kd = 4 := by omega
  rcases hk with e | e | e | e <;> rw [e] <;> simp [one1] <;> omega
/-- What the first j nodes come to. -/
def sumTo (f : Nat → Int) (j : Nat) : Int := ((List.range j).map f).sum
theorem sumTo_succ (f : Nat → Int) (j : Nat) : sumTo f (j + 1) = sumTo f j + f j := by
  unfold sumTo
  rw [List.range_succ, List.map_append, List.sum_append]
  simp
theorem sumTo_zero (f : Nat → Int) : sumTo f 0 = 0 := rfl
theorem sumTo_one {f g : Nat → Int} {q : Nat} {d : Int} (hq : f q = g q + d) (ho : ∀ k, k ≠ q → f k = g k) : ∀ n, sumTo f n = sumTo g n + if q < n then d else 0
  | 0 => by simp [sumTo]
  | n + 1 => by
    rw [sumTo_succ, sumTo_succ, sumTo_one hq ho n]
    by_cases e : n = q
    · subst e
      rw [hq, if_neg (by omega), if_pos (by omega)]
      omega
    · rw [ho n e]
      by_cases h : q < n
      · rw [if_pos h, if_pos (by omega)]
        omega
      · rw [if_neg h, if_neg (by omega)]
        omega
theorem sumTo_mono {f : Nat → Int} (hf : ∀ k, 0 ≤ f k) : ∀ {a b : Nat}, a ≤ b → 0 ≤ sumTo f a ∧ sumTo f a ≤ sumTo f b := by
  intro a b h
  have pos : ∀ a, 0 ≤ sumTo f a := by
    intro a
    induction a with
    | zero => rw [sumTo_zero]; exact Int.le_refl _
    | succ a ih => rw [sumTo_succ]; have := hf a; omega
  refine ⟨pos a, ?_⟩
  induction b with
  | zero =>
    obtain rfl : a = 0 := by omega
    exact Int.le_refl _
  | succ b ih =>
    by_cases e : a = b + 1
    · subst e; exact Int.le_refl _
    · rw [sumTo_succ]
      have := hf b
      have := ih (by omega)
      omega
/-- How many of the events the ring brought. -/
def byN (l : List Ev) : Int := (l.map fun x => one1 x.by_).sum
theorem byN_snoc (l : List Ev) (x : Ev) : byN (l ++ [x]) = byN l + one1 x.by_ := by
  unfold byN
  rw [List.map_append, List.sum_append]
  simp
theorem byN_in (l : List Ev) : 0 ≤ byN l ∧ byN l ≤ l.length := by
  refine foldl_snoc_ind (P := fun l => 0 ≤ byN l ∧ byN l ≤ l.length) ?_ ?_ l
  · decide
  · intro l x ih
    rw [byN_snoc, List.length_append]
    have := one1_le x.by_
    simp only [List.length_cons, List.length_nil]
    push_cast
    omega
theorem cnts_sum {n : Nat} {l : List Ev} (h : ∀ x ∈ l, (0 ≤ x.d.nd ∧ x.d.nd < n) ∧ 1 ≤ x.d.kd ∧ x.d.kd ≤ 4) :
    sumTo (fun k => (cntOf k l).all) n = l.length ∧ sumTo (fun k => (cntOf k l).rg) n = byN l := by
  revert h
  refine foldl_snoc_ind (P := fun l => (∀ x ∈ l, (0 ≤ x.d.nd ∧ x.d.nd < n) ∧ 1 ≤ x.d.kd ∧ x.d.kd ≤ 4) → sumTo (fun k => (cntOf k l).all) n = l.length ∧ sumTo (fun k => (cntOf k l).rg) n = byN l) ?_ ?_ l
  · intro _
    have z : ∀ (f : Nat → Int), (∀ k, f k = 0) → ∀ n, sumTo f n = 0 := by
      intro f hf n
      induction n with
      | zero => rfl
      | succ n ih => rw [sumTo_succ, ih, hf]; rfl
    exact ⟨z _ (fun k => rfl) n, z _ (fun k => rfl) n⟩
  · intro l x ih h
    obtain ⟨i1, i2⟩ := ih (fun y hy => h y (List.mem_append_left _ hy))
    obtain ⟨⟨h1, h2⟩, h3⟩ := h x (by simp)
    obtain ⟨q, hq⟩ : ∃ q : Nat, x.d.nd = q := ⟨x.d.nd.toNat, by omega⟩
    have same : ∀ k, k ≠ q → cntOf k (l ++ [x]) = cntOf k l := fun k hk => by rw [cntOf_snoc, if_neg (by omega)]
    have here : cntOf q (l ++ [x]) = addC (cntOf q l) x := by rw [cntOf_snoc, if_pos hq]
    have s1 := sumTo_one (f := fun k => (cntOf k (l ++ [x])).all) (g := fun k => (cntOf k l).all) (q := q) (d := 1) (by show (cntOf q (l ++ [x])).all = _; rw [here, addC_all _ _ h3]) (fun k hk => by show (cntOf k (l ++ [x])).all = _; rw [same k hk]) n
    have s2 := sumTo_one (f := fun k => (cntOf k (l ++ [x])).rg) (g := fun k => (cntOf k l).rg) (q := q) (d := one1 x.by_) (by show (cntOf q (l ++ [x])).rg = _; rw [here]; rfl) (fun k hk => by show (cntOf k (l ++ [x])).rg = _; rw [same k hk]) n
    rw [if_pos (by omega)] at s1 s2
    rw [s1, s2, i1, i2, byN_snoc, List.length_append]
    exact ⟨by simp, rfl⟩
end Go.Proofs.Ytcegjehoejgofaa
