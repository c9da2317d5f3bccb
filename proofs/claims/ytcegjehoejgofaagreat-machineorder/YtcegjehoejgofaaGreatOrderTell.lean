/-
Proved: the law 'OrderTells' returns true for every argument, and changes nothing that was there. Conditions: what Legal and Keeps of package order tell (handed in).
-/
import Derived.Test.YtcegjehoejgofaaGreatOrderSpec
import Derived.Test.YtcegjehoejgofaaGreatRefAtomic
import Derived.Test.YtcegjehoejgofaaGreatOpsSame
import Derived.Test.YtcegjehoejgofaaGreatOpsCut
import Derived.Test.YtcegjehoejgofaaGreatJoined1
import Derived.Deep.CutBlock
namespace Go.Proofs.YtcegjehoejgofaaGreat.orderTells
open Go.ChangeShapes Go.WideShapes Go.ChangeAt Go.RowKit Go.Joins
def LegalIs : Prop := ∀ (m : List Int) (u : Value) (l : List Td) (w : World), m.length = 64 → elT.R w u l →
 Calls Tryz.prog 10 #[memV m, u] w fun e w' => e = .returned (.tuple #[.bool (toldE 200 l == 0 && legB m l), .int .i64 (toldE 200 l)]) ∧ Below w.heap.size w w'
def KeepsIs : Prop := ∀ (v u : Value) (p : List (List Dd)) (l : List Td) (w : World), Ps w v p → elT.R w u l →
 Calls Tryz.prog 14 #[v, u] w fun e w' => e = .returned (.tuple #[.bool (keepE p l == 0 && keepB p l), .int .i64 (keepE p l)]) ∧ Below w.heap.size w w'
end Go.Proofs.YtcegjehoejgofaaGreat.orderTells
