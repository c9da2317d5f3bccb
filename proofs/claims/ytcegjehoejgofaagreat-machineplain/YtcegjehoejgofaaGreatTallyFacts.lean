/-
Proved: words for what package tally gives of events: the first error, each node's. By lists alone, no walk. No condition.
-/
import Derived.Test.YtcegjehoejgofaaGreatJoined5
namespace Go.Proofs.YtcegjehoejgofaaGreat
open Go.ChangeShapes Go.WideShapes Go.ChangeAt Go.RowKit Go.Joins

/-- The operations of events, and what they told. -/
def evD (es : List Ev) : List Dd := es.map fun e => e.d
def evT (es : List Ev) : List Int := es.map fun e => e.told
/-- The first error of the events, one by one; n is the number of nodes. -/
def nodeE (n : Int) : List Ev → Int
  | [] => 0
  | x :: r => if deedE x.d ≠ 0 then deedE x.d else if n ≤ x.d.nd then 4 else nodeE n r
def tallyE (n s y b : Int) (l : List Ev) : Int := if cfgB n s y b = false then 4 else if 200 < l.length then 2 else nodeE n l
/-- The first error of the operations alone. -/
def memF (l : List Ev) : Int := if 200 < l.length then 2 else runE (evD l)
theorem nodeE_at {n : Int} {l : List Ev} {j : Nat} {x : Ev} (h : l[j]? = some x) : nodeE n (l.drop j) = if deedE x.d ≠ 0 then deedE x.d else if n ≤ x.d.nd then 4 else nodeE n (l.drop (j + 1)) := by
  obtain ⟨hj, e⟩ := List.getElem?_eq_some_iff.1 h
  rw [List.drop_eq_getElem_cons hj, e, nodeE]
theorem evD_length (l : List Ev) : (evD l).length = l.length := by simp [evD]
theorem evD_at {l : List Ev} {j : Nat} {x : Ev} (h : l[j]? = some x) : (evD l)[j]? = some x.d := by simp [evD, h]
end Go.Proofs.YtcegjehoejgofaaGreat
