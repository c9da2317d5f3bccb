/-
Proved: what the law's toldFault returns, for every list of observations that can be read; it changes nothing that was there. No condition.
-/
import Derived.Test.YtcegjehoejgofaaGreatTolds
import Derived.Test.YtcegjehoejgofaaGreatJoined5
import Derived.Test.YtcegjehoejgofaaGreatRefOps
namespace Go.Proofs.YtcegjehoejgofaaGreat
open Go.ChangeShapes Go.WideShapes Go.ChangeAt Go.RowKit Go.Joins
def toldE (k : Int) (l : List Td) : Int := if k < l.length then 2 else runE (l.map Td.d)
theorem runE_at {l : List Td} {j : Nat} {x : Td} (h : l[j]? = some x) : runE ((l.drop j).map Td.d) = if deedE x.d = 0 then runE ((l.drop (j + 1)).map Td.d) else deedE x.d := by
 obtain ⟨hk, rfl⟩ := List.getElem?_eq_some_iff.1 h
 rw [List.drop_eq_getElem_cons hk, List.map_cons, runE]
theorem runE_zero : ∀ {l : List Dd}, runE l = 0 ↔ ∀ d ∈ l, deedE d = 0
 | [] => by simp [runE]
 | d :: r => by
  have ih := runE_zero (l := r)
  unfold runE
  by_cases h1 : deedE d = 0
  ·rw [if_pos h1, ih]
   constructor
   ·intro h e he
    rcases List.mem_cons.1 he with rfl | he
    ·exact h1
    ·exact h e he
   ·intro h e he
    exact h e (by simp [he])
  ·rw [if_neg h1]
   constructor
   ·intro h; exact absurd h h1
   ·intro h; exact absurd (h d (by simp)) h1
end Go.Proofs.YtcegjehoejgofaaGreat
