/-
Proved: slices.Clone, slices.IndexFunc's reckoning and slices.DeleteFunc's steps for lists of any flat elements; 'clear' of a slice of them. No condition but that the elements have their cells.
-/
import Derived.Test.YtgoaedbhcldmiaaCells
import Derived.Test.YtgoaedbhcldmiaaSorted
import Derived.Lib.SliceRun
namespace Go.Proofs.Ytgoaedbhcldmiaa
open Go.ChangeShapes Go.WideShapes Go.ChangeAt Go.RowKit Go.Joins

/-- 'clear(s)', s a slice of elements of any size: their cells hold the zero value's. -/
theorem run_clear_many (w : World) (t e ty : TypeId) (z : Value) (ht : Try.prog.underlying t = some (.slice e)) (hv : ∀ w, (zeroValue e).run Try.prog w = .ok z w) (b o n c : Nat) (hn : 0 < n)
    (h1 : ∀ u ∈ (Builtin.zeroCells z.cells n).toList, u.oneCell' = true)
    (hc : ∀ j, j < n * z.cells.size → (w.cell? ⟨b, o + j, none⟩).isSome = true) (hf : ∀ j, j < n * z.cells.size → w.frozen? ⟨b, o + j, none⟩ = false) :
    (Builtin.clear_ #[t] ty #[.slice (some ⟨b, o, none⟩) n c]).run Try.prog w = .ok (.tuple #[]) (w.setCells b o (Builtin.zeroCells z.cells n).toList) := by
  have hz : (Builtin.zeroCells z.cells n).toList.length = n * z.cells.size := by rw [Array.length_toList, size_zeroCells]
  have hst := run_storeCells_cells (P := Try.prog) b o (Builtin.zeroCells z.cells n).toList 0 w (by rw [hz]; simpa using hc) (by rw [hz]; simpa using hf) h1
  simp only [Nat.add_zero] at hst
  obtain ⟨m, rfl⟩ : ∃ m, n = m + 1 := ⟨n - 1, by omega⟩
  simp [Builtin.clear_, run_underlying ht, hv, hst]

section
variable {α : Type}
/-- The place of the first of which the test holds, or -1. -/
def idxG (p : α → Bool) (l : List α) : Int := match l.findIdx? p with | some k => k | none => -1
theorem idxG_none {p : α → Bool} {l : List α} (h : ∀ (k : Nat) x, l[k]? = some x → p x = false) : idxG p l = -1 := by
  have : l.findIdx? p = none := by
    rw [List.findIdx?_eq_none_iff]
    intro x hx
    obtain ⟨k, hk, e⟩ := List.getElem_of_mem hx
    exact h k x (by rw [List.getElem?_eq_getElem hk, e])
  rw [idxG, this]
theorem idxG_some {p : α → Bool} {l : List α} {k : Nat} {x : α} (h : ∀ j y, j < k → l[j]? = some y → p y = false) (hk : l[k]? = some x) (hp : p x = true) : idxG p l = k := by
  have : l.findIdx? p = some k := by
    rw [List.findIdx?_eq_some_iff_getElem]
    obtain ⟨hlt, e⟩ := List.getElem?_eq_some_iff.1 hk
    refine ⟨hlt, by rw [e]; exact hp, fun j hj => ?_⟩
    rw [h j _ hj (List.getElem?_eq_getElem (by omega))]
    decide
  rw [idxG, this]
theorem idxG_cases (p : α → Bool) (l : List α) : (idxG p l = -1 ∧ ∀ x ∈ l, p x = false) ∨ ∃ k x, idxG p l = (k : Nat) ∧ l[k]? = some x ∧ p x = true ∧ ∀ j y, j < k → l[j]? = some y → p y = false := by
  cases e : l.findIdx? p with
  | none =>
    refine .inl ⟨by rw [idxG, e], ?_⟩
    rw [List.findIdx?_eq_none_iff] at e
    exact e
  | some k =>
    refine .inr ?_
    have e' := e
    rw [List.findIdx?_eq_some_iff_getElem] at e
    obtain ⟨hk, e1, e2⟩ := e
    refine ⟨k, l[k], by rw [idxG, e'], List.getElem?_eq_getElem hk, e1, fun j y hj hy => ?_⟩
    obtain ⟨hlt, rfl⟩ := List.getElem?_eq_some_iff.1 hy
    simpa using e2 j hj

/-- Where a deletion stands: the kept of the first j lie in front, the rest is as it was. -/
structure DelG (p : α → Bool) (l : List α) (i j : Nat) (xs : List α) : Prop where
  len : xs.length = l.length
  lt : i < j
  le : j ≤ l.length
  front : xs.take i = (l.take j).filter fun x => !p x
  rest : xs.drop j = l.drop j
theorem DelG.size {p : α → Bool} {l xs : List α} {i j : Nat} (h : DelG p l i j xs) : ((l.take j).filter fun x => !p x).length = i := by
  rw [← h.front, List.length_take, h.len]
  have := h.lt
  have := h.le
  omega
theorem DelG.start {p : α → Bool} {l : List α} {k : Nat} {x : α} (hx : l[k]? = some x) (hp : p x = true) (hno : ∀ j y, j < k → l[j]? = some y → p y = false) : DelG p l k (k + 1) l := by
  have hk := (List.getElem?_eq_some_iff.1 hx).1
  refine ⟨rfl, by omega, hk, ?_, rfl⟩
  rw [List.take_add_one, hx, List.filter_append]
  have e : (l.take k).filter (fun x => !p x) = l.take k := by
    rw [List.filter_eq_self]
    intro y hy
    obtain ⟨j, hj, rfl⟩ := List.getElem_of_mem hy
    rw [List.length_take] at hj
    rw [List.getElem_take, hno j _ (by omega) (List.getElem?_eq_getElem (by omega))]
    rfl
  simp [e, hp]
theorem DelG.at_ {p : α → Bool} {l xs : List α} {i j : Nat} (h : DelG p l i j xs) {x : α} (hx : l[j]? = some x) : xs[j]? = some x := by
  have := congrArg (fun z => z[0]?) h.rest
  simp only [List.getElem?_drop, Nat.add_zero] at this
  rw [this, hx]
theorem DelG.drop {p : α → Bool} {l xs : List α} {i j : Nat} (h : DelG p l i j xs) {x : α} (hx : l[j]? = some x) (hp : p x = true) : DelG p l i (j + 1) xs := by
  have hj := (List.getElem?_eq_some_iff.1 hx).1
  refine ⟨h.len, by have := h.lt; omega, hj, ?_, ?_⟩
  · rw [h.front, List.take_add_one, hx, List.filter_append]
    simp [hp]
  · have := congrArg (fun z => z.drop 1) h.rest
    simpa [List.drop_drop] using this
theorem DelG.keep {p : α → Bool} {l xs : List α} {i j : Nat} (h : DelG p l i j xs) {x : α} (hx : l[j]? = some x) (hp : p x = false) : DelG p l (i + 1) (j + 1) (xs.set i x) := by
  have hj := (List.getElem?_eq_some_iff.1 hx).1
  have hi := h.lt
  have hl := h.len
  refine ⟨by rw [List.length_set]; exact hl, by omega, hj, ?_, ?_⟩
  · rw [List.take_add_one, List.getElem?_set_self (by omega), List.take_set, List.set_eq_of_length_le (by rw [List.length_take]; omega), h.front, List.take_add_one, hx, List.filter_append]
    simp [hp]
  · rw [List.drop_set_of_lt (by omega)]
    have := congrArg (fun z => z.drop 1) h.rest
    simpa [List.drop_drop] using this
end
end Go.Proofs.Ytgoaedbhcldmiaa
