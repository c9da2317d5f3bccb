/-
Proved: what Logs of package tally returns, for every list of events that can be read; it changes nothing that was there. No condition.
-/
import Derived.Test.YtcegjehoejgofaaGreatTally
import Derived.Test.YtcegjehoejgofaaGreatEvTolds
import Derived.Test.YtcegjehoejgofaaGreatJoined1
namespace Go.Proofs.YtcegjehoejgofaaGreat
open Go.ChangeShapes Go.WideShapes Go.ChangeAt Go.RowKit Go.Joins
theorem told_new2 (w : World) (t : TypeId) (x : Td) (g q : Nat) (u : Value) (hg : g = w.heap.size) (h : x.cells[q]? = some u) : (w.alloc (.cells x.arr t)).cell? ((⟨g, 0, none⟩ : Addr).add q) = some u := by
 subst hg
 have e : (⟨w.heap.size, 0, none⟩ : Addr).add q = ⟨w.heap.size, q, none⟩ := by cases q <;> simp [Addr.add]
 rw [e, (Box.new w t x.arr).cell, ← h]
 simp [Td.arr]
end Go.Proofs.YtcegjehoejgofaaGreat
