/-
Proved: the first order that explains logs, by lists alone; ints of the call's own that are known whole; a world that is as it was behind a store and its undoing. No walk. No condition.
-/
import Derived.Test.YtcegjehoejgofaaGreatToldFault
import Derived.Test.YtcegjehoejgofaaGreatJoined3
namespace Go.Proofs.YtcegjehoejgofaaGreat
open Go.ChangeShapes Go.WideShapes Go.ChangeAt Go.RowKit Go.Joins
def tryK (logs : List (List Td)) (rec : List Int → List Nat → Option (List Nat)) (m : List Int) (a : List Nat) (k : Nat) : Option (List Nat) :=
 (logs[k]?).bind fun l => (a[k]?).bind fun j => (l[j]?).bind fun t => if doV m t.d = t.v then (rec (doM m t.d) (a.set k (j + 1))).map (k :: ·) else none
def explO (logs : List (List Td)) : Nat → List Int → List Nat → Option (List Nat)
 | 0, _, _ => some []
 | n + 1, m, a => (List.range logs.length).findSome? (tryK logs (explO logs n) m a)
theorem findSome_first {β : Type} {f : Nat → Option β} {n k : Nat} {y : β} (hk : k < n) (hno : ∀ j, j < k → f j = none) (hy : f k = some y) : (List.range n).findSome? f = some y := by
 induction n with
 | zero => omega
 | succ n ih =>
  rw [List.range_succ, List.findSome?_append]
  by_cases h : k < n
  ·rw [ih h]
   rfl
  ·obtain rfl : k = n := by omega
   have : (List.range k).findSome? f = none := by
    rw [List.findSome?_eq_none_iff]
    intro x hx
    exact hno x (by simpa using hx)
   rw [this]
   simp [hy]
theorem findSome_none {β : Type} {f : Nat → Option β} {n : Nat} (hno : ∀ j, j < n → f j = none) : (List.range n).findSome? f = none := by
 rw [List.findSome?_eq_none_iff]
 intro x hx
 exact hno x (by simpa using hx)
theorem tryK_at {logs : List (List Td)} {rec : List Int → List Nat → Option (List Nat)} {m : List Int} {a : List Nat} {k j : Nat} {l : List Td} {t : Td} (hl : logs[k]? = some l) (ha : a[k]? = some j) (ht : l[j]? = some t) :
  tryK logs rec m a k = if doV m t.d = t.v then (rec (doM m t.d) (a.set k (j + 1))).map (k :: ·) else none := by
 unfold tryK
 simp [hl, ha, ht]
def totL (logs : List (List Td)) : Nat := (logs.map List.length).sum
end Go.Proofs.YtcegjehoejgofaaGreat
