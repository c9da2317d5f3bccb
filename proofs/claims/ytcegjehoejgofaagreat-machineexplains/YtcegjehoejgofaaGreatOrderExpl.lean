/-
Proved: the law 'OrderExplains' returns true for every argument, and changes nothing that was there. Conditions: what Explain of package order gives (handed in); no log has more than 2^47 observations.
-/
import Derived.Test.YtcegjehoejgofaaGreatExplFacts
import Derived.Test.YtcegjehoejgofaaGreatRefOrder2
import Derived.Test.YtcegjehoejgofaaGreatJoined3
namespace Go.Proofs.YtcegjehoejgofaaGreat.orderExplains
open Go.ChangeShapes Go.WideShapes Go.ChangeAt Go.RowKit Go.Joins
def ExplainIs : Prop := ∀ (m : List Int) (v : Value) (logs : List (List Td)) (w : World), m.length = 64 → (∀ l ∈ logs, l.length ≤ 140737488355328) → elT.RR w v logs →
 Calls Tryz.prog 16 #[memV m, v] w fun e w' => (∃ A n c B, e = .returned (.tuple #[.slice A n c, .bool B, .int .i64 (explE logs)]) ∧ ExplR m logs (explE logs) A n c B w') ∧ Below w.heap.size w w'
end Go.Proofs.YtcegjehoejgofaaGreat.orderExplains
