/-
Proved: '==' on operations compares their cells; slices.Equal of two slices that hold the same operations returns true, and changes nothing that was there. No other condition.
-/
import Derived.Test.YtcegjehoejgofaaGreatJoined1
namespace Go.Proofs.YtcegjehoejgofaaGreat
open Go.ChangeShapes Go.WideShapes Go.ChangeAt Go.RowKit Go.Joins
def eqD (x y : Dd) : Bool := x.nd == y.nd && (x.kd == y.kd && (x.ad == y.ad && x.vl == y.vl))
theorem eqD_iff (x y : Dd) : eqD x y = true ↔ x = y := by
 obtain ⟨a, b, c, d⟩ := x
 obtain ⟨a', b', c', d'⟩ := y
 simp [eqD]
theorem eqDeed (x y : Dd) (w : World) : (Op.equalIn 10000 49 x.val y.val).run Tryz.prog w = .ok (eqD x y) w := by
 obtain ⟨a, b, c, d⟩ := x
 obtain ⟨a', b', c', d'⟩ := y
 have := equal_flat (P := Tryz.prog) 2 49 [.int .i64, .int .i64, .int .i64, .int .u64] (by kernel_rfl) (by kernel_rfl) 10000 (by omega) w [.int .i64 a, .int .i64 b, .int .i64 c, .int .u64 d] [.int .i64 a', .int .i64 b', .int .i64 c', .int .u64 d'] (.agg #[.int .i64 a, .int .i64 b, .int .i64 c, .int .u64 d]) (.agg #[.int .i64 a', .int .i64 b', .int .i64 c', .int .u64 d'])
  ⟨⟨a, rfl⟩, ⟨b, rfl⟩, ⟨c, rfl⟩, ⟨d, rfl⟩, trivial⟩ ⟨⟨a', rfl⟩, ⟨b', rfl⟩, ⟨c', rfl⟩, ⟨d', rfl⟩, trivial⟩ (by simp [ValIs, Tryz.underlying49]) (by simp [ValIs, Tryz.underlying49])
 simpa [eqCells, scEq, eqD] using this
end Go.Proofs.YtcegjehoejgofaaGreat
