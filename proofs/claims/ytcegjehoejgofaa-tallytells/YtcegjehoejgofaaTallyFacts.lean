/-
Proved: words for what package tally gives of events: the first error, each node's. By lists alone, no walk. No condition.
-/
import Derived.Test.YtcegjehoejgofaaEvents
import Derived.Test.YtcegjehoejgofaaAtomic2
namespace Go.Proofs.Ytcegjehoejgofaa
open Go.ChangeShapes Go.WideShapes Go.ChangeAt Go.RowKit Go.Joins

/-- The operations of events, and what they told. -/
def evD (es : List Ev) : List Dd := es.map fun e => e.d
def evT (es : List Ev) : List Int := es.map fun e => e.told
/-- The first error of the events, one by one; n is the number of nodes. -/
def nodeE (n : Int) : List Ev → Int
  | [] => 0
  | x :: r => if deedE x.d ≠ 0 then deedE x.d else if n ≤ x.d.nd then 4 else nodeE n r
def tallyE (n s y b : Int) (l : List Ev) : Int := if cfgB n s y b = false then 4 else if 200 < l.length then 2 else nodeE n l
/-- The first error of the operations alone. -/
def memF (l : List Ev) : Int := if 200 < l.length then 2 else runE (evD l)
theorem nodeE_at {n : Int} {l : List Ev} {j : Nat} {x : Ev} (h : l[j]? = some x) : nodeE n (l.drop j) = if deedE x.d ≠ 0 then deedE x.d else if n ≤ x.d.nd then 4 else nodeE n (l.drop (j + 1)) := by
  obtain ⟨hj, e⟩ := List.getElem?_eq_some_iff.1 h
  rw [List.drop_eq_getElem_cons hj, e, nodeE]
theorem nodeE_zero {n : Int} {l : List Ev} : nodeE n l = 0 ↔ ∀ x ∈ l, deedE x.d = 0 ∧ x.d.nd < n := by
  induction l with
  | nil => simp [nodeE]
  | cons x r ih =>
    rw [nodeE]
    by_cases h : deedE x.d = 0
    · rw [if_neg (by simpa using h)]
      by_cases h2 : n ≤ x.d.nd
      · rw [if_pos h2]
        refine ⟨fun h => (by cases h), fun h => ?_⟩
        have := (h x (by simp)).2
        omega
      · rw [if_neg h2, ih]
        refine ⟨fun hh y hy => ?_, fun hh y hy => hh y (List.mem_cons_of_mem _ hy)⟩
        rcases List.mem_cons.1 hy with rfl | hy
        · exact ⟨h, by omega⟩
        · exact hh y hy
    · rw [if_pos h]
      exact ⟨fun e => absurd e h, fun hh => absurd (hh x (by simp)).1 h⟩
theorem tallyE_zero {n s y b : Int} {l : List Ev} : tallyE n s y b l = 0 ↔ cfgB n s y b = true ∧ l.length ≤ 200 ∧ nodeE n l = 0 := by
  unfold tallyE
  cases cfgB n s y b with
  | false => simp
  | true =>
    rw [if_neg (by simp)]
    by_cases h : 200 < l.length
    · rw [if_pos h]
      refine ⟨fun e => (by cases e), fun e => ?_⟩
      omega
    · rw [if_neg h]
      exact ⟨fun e => ⟨rfl, by omega, e⟩, fun e => e.2.2⟩
theorem evD_length (l : List Ev) : (evD l).length = l.length := by simp [evD]
theorem evD_at {l : List Ev} {j : Nat} {x : Ev} (h : l[j]? = some x) : (evD l)[j]? = some x.d := by simp [evD, h]
theorem evD_take (l : List Ev) (j : Nat) : evD (l.take j) = (evD l).take j := by simp [evD]
end Go.Proofs.Ytcegjehoejgofaa
