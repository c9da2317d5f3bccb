/-
Proved: words for what Legal and Keeps are to tell. No walk. No condition.
-/
import Derived.Test.YtgoaedbhcldmiaaExplFacts
import Derived.Test.YtgoaedbhcldmiaaSplitFacts
import Derived.Test.YtgoaedbhcldmiaaOpsSame
namespace Go.Proofs.Ytgoaedbhcldmiaa
open Go.ChangeShapes Go.WideShapes Go.ChangeAt Go.RowKit Go.Joins

/-- What was told is what the operations tell one after the other. -/
def legB (m : List Int) (l : List Td) : Bool := decide (runV m (l.map Td.d) = l.map Td.v)
theorem legB_nil (m : List Int) : legB m [] = true := by simp [legB, runV]
theorem legB_snoc {m : List Int} {l : List Td} {j : Nat} {x : Td} (h : l[j]? = some x) : legB m (l.take (j + 1)) = (legB m (l.take j) && (doV (runM m ((l.take j).map Td.d)) x.d == x.v)) := by
  have e : l.take (j + 1) = l.take j ++ [x] := by rw [List.take_add_one, h]; rfl
  have hl : (runV m ((l.take j).map Td.d)).length = ((l.take j).map Td.v).length := by simp [runV_length]
  unfold legB
  rw [e, List.map_append, List.map_append, runV_append]
  rw [Bool.eq_iff_iff]
  simp only [decide_eq_true_eq, Bool.and_eq_true, beq_iff_eq]
  constructor
  · intro h
    obtain ⟨h1, h2⟩ := List.append_inj h hl
    refine ⟨h1, ?_⟩
    simpa [runV] using h2
  · rintro ⟨h1, h2⟩
    rw [h1]
    show _ ++ runV _ [x.d] = _ ++ [x.v]
    rw [runV, h2]
    rfl
theorem runM_td {m : List Int} {l : List Td} {j : Nat} {x : Td} (h : l[j]? = some x) : runM m ((l.take (j + 1)).map Td.d) = doM (runM m ((l.take j).map Td.d)) x.d := by
  rw [List.take_add_one, h, List.map_append, runM_append]
  rfl
theorem legalIs_len (m : List Int) (hm : m.length = 64) (l : List Td) : (runM m (l.map Td.d)).length = 64 := runM_length hm _

/-- The operations of node k are the first of its program. -/
def keep1 (p : List (List Dd)) (l : List Td) (k : Nat) : Bool :=
  decide ((onD k (l.map Td.d)).length ≤ (p.getD k []).length) && decide (onD k (l.map Td.d) = (p.getD k []).take (onD k (l.map Td.d)).length)
def keepB (p : List (List Dd)) (l : List Td) : Bool := (List.range 8).all (keep1 p l)
def keepE (p : List (List Dd)) (l : List Td) : Int := if toldE 200 l ≠ 0 then toldE 200 l else if 8 < p.length then 3 else 0
theorem keeps_succ (p : List (List Dd)) (l : List Td) (k : Nat) : (List.range (k + 1)).all (keep1 p l) = ((List.range k).all (keep1 p l) && keep1 p l k) := by
  rw [List.range_succ, List.all_append]
  simp
theorem onD_td {l : List Td} {j : Nat} {x : Td} {k : Nat} (h : l[j]? = some x) : onD k ((l.take (j + 1)).map Td.d) = onD k ((l.take j).map Td.d) ++ if x.d.nd = (k : Int) then [x.d] else [] := by
  rw [List.take_add_one, h, List.map_append]
  by_cases e : x.d.nd = (k : Int)
  · rw [if_pos e]
    exact onD_same _ e
  · rw [if_neg e, List.append_nil]
    exact onD_other _ e
theorem onD_few (k : Nat) (l : List Td) : (onD k (l.map Td.d)).length ≤ l.length := by
  have := onD_length k (l.map Td.d)
  simpa using this
end Go.Proofs.Ytgoaedbhcldmiaa
