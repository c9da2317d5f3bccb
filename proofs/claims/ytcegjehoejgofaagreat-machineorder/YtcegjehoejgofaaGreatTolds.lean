/-
Proved: words for observations (an operation and its result), lists of them, and lists of such lists; arguments that are such. No walk. No condition.
-/
import Derived.Test.YtcegjehoejgofaaGreatJoined1
import Derived.Test.YtcegjehoejgofaaGreatJoined5
namespace Go.Proofs.YtcegjehoejgofaaGreat
open Go.ChangeShapes Go.WideShapes Go.ChangeAt Go.RowKit Go.Joins
structure Td where
 d : Dd
 v : Int
abbrev Td.cells (x : Td) : List Value := [.int .i64 x.d.nd, .int .i64 x.d.kd, .int .i64 x.d.ad, .int .u64 x.d.vl, .int .u64 x.v]
abbrev Td.arr (x : Td) : Array Value := #[.int .i64 x.d.nd, .int .i64 x.d.kd, .int .i64 x.d.ad, .int .u64 x.d.vl, .int .u64 x.v]
abbrev Td.val (x : Td) : Value := .agg x.arr
theorem info_told : (Tryz.prog.info? 53).map (fun i => (i.zero, i.size, i.bytes)) = some (some (.agg #[.int .i64 0, .int .i64 0, .int .i64 0, .int .u64 0, .int .u64 0]), 5, 40) := by kernel_rfl
def elT : El Td where
 F := Td.cells
 sz := 5
 t := 53
 len := fun _ => rfl
 pos := by decide
 one := fun x u hu => by
  simp at hu
  rcases hu with rfl | rfl | rfl | rfl | rfl <;> rfl
 size := by kernel_rfl
structure ToldAt (w : World) (b o : Nat) (x : Td) : Prop where
 c0 : w.cell? ⟨b, o, none⟩ = some (.int .i64 x.d.nd)
 c1 : w.cell? ⟨b, o + 1, none⟩ = some (.int .i64 x.d.kd)
 c2 : w.cell? ⟨b, o + 2, none⟩ = some (.int .i64 x.d.ad)
 c3 : w.cell? ⟨b, o + 3, none⟩ = some (.int .u64 x.d.vl)
 c4 : w.cell? ⟨b, o + 4, none⟩ = some (.int .u64 x.v)
theorem toldAt_of {w w' : World} {b o B : Nat} {l : List Td} {k : Nat} {x : Td} (hc : ∀ j u, (elT.C l)[j]? = some u → w.cell? ⟨b, o + j, none⟩ = some u) (hb : b < B) (low : Below B w w') (h : l[k]? = some x) : ToldAt w' b (o + k * 5) x :=
 ⟨El.R.at_ hc hb low h 0 _ (show 0 < 5 by omega) rfl, El.R.at_ hc hb low h 1 _ (show 1 < 5 by omega) rfl, El.R.at_ hc hb low h 2 _ (show 2 < 5 by omega) rfl,
  El.R.at_ hc hb low h 3 _ (show 3 < 5 by omega) rfl, El.R.at_ hc hb low h 4 _ (show 4 < 5 by omega) rfl⟩
end Go.Proofs.YtcegjehoejgofaaGreat
