/-
Proved: words for events (an operation, what it told, whether the ring brought it) and slices of them; arguments that are such. No walk. No condition.
-/
import Derived.Test.YtcegjehoejgofaaOps
import Derived.Test.YtcegjehoejgofaaCells
namespace Go.Proofs.Ytcegjehoejgofaa
open Go.ChangeShapes Go.WideShapes Go.ChangeAt Go.RowKit Go.Joins

/-- What was done: the operation, what it told, whether the ring brought it. -/
structure Ev where
  d : Dd
  told : Int
  by_ : Bool

/-! Events. -/
abbrev Ev.cells (x : Ev) : List Value := [.int .i64 x.d.nd, .int .i64 x.d.kd, .int .i64 x.d.ad, .int .u64 x.d.vl, .int .u64 x.told, .bool x.by_]
abbrev Ev.arr (x : Ev) : Array Value := #[.int .i64 x.d.nd, .int .i64 x.d.kd, .int .i64 x.d.ad, .int .u64 x.d.vl, .int .u64 x.told, .bool x.by_]
theorem info_event : (Try.prog.info? 43).map (fun i => (i.zero, i.size, i.bytes)) = some (some (.agg #[.int .i64 0, .int .i64 0, .int .i64 0, .int .u64 0, .int .u64 0, .bool false]), 6, 48) := by kernel_rfl
def elE : El Ev where
  F := Ev.cells
  sz := 6
  t := 43
  len := fun _ => rfl
  pos := by decide
  one := fun x u hu => by
    simp at hu
    rcases hu with rfl | rfl | rfl | rfl | rfl | rfl <;> rfl
  size := by kernel_rfl
structure EvAt (w : World) (b o : Nat) (x : Ev) : Prop where
  c0 : w.cell? ⟨b, o, none⟩ = some (.int .i64 x.d.nd)
  c1 : w.cell? ⟨b, o + 1, none⟩ = some (.int .i64 x.d.kd)
  c2 : w.cell? ⟨b, o + 2, none⟩ = some (.int .i64 x.d.ad)
  c3 : w.cell? ⟨b, o + 3, none⟩ = some (.int .u64 x.d.vl)
  c4 : w.cell? ⟨b, o + 4, none⟩ = some (.int .u64 x.told)
  c5 : w.cell? ⟨b, o + 5, none⟩ = some (.bool x.by_)
theorem evAt_of {w w' : World} {b o B : Nat} {l : List Ev} {k : Nat} {x : Ev} (hc : ∀ j u, (elE.C l)[j]? = some u → w.cell? ⟨b, o + j, none⟩ = some u) (hb : b < B) (low : Below B w w') (h : l[k]? = some x) : EvAt w' b (o + k * 6) x :=
  ⟨El.R.at_ hc hb low h 0 _ (show 0 < 6 by omega) rfl, El.R.at_ hc hb low h 1 _ (show 1 < 6 by omega) rfl, El.R.at_ hc hb low h 2 _ (show 2 < 6 by omega) rfl,
    El.R.at_ hc hb low h 3 _ (show 3 < 6 by omega) rfl, El.R.at_ hc hb low h 4 _ (show 4 < 6 by omega) rfl, El.R.at_ hc hb low h 5 _ (show 5 < 6 by omega) rfl⟩
end Go.Proofs.Ytcegjehoejgofaa
