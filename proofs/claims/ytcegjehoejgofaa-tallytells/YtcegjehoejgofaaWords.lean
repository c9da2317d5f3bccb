/-
Proved: what Load, Store and Swap of package words return, for every argument; none of them changes anything that was there. No condition.
-/
import Derived.Test.YtcegjehoejgofaaOpen
import Derived.Test.YtcegjehoejgofaaFlatEq
namespace Go.Proofs.Ytcegjehoejgofaa
open Go.ChangeShapes Go.WideShapes Go.ChangeAt Go.RowKit Go.Joins

section
variable {H : Type} {enc : TypeId × Value → H} {W : World} {base : Nat} {v : Value} {d : DataW H} {p : List MemPlace}
set_option maxRecDepth 10000 in
theorem openLine (hv : Value.okWide Try.prog W .any base 26 v) (h : DataW.Trod enc Try.prog W 0 (fun _ => true) true 26 v d p) : IsLine v := by
  obtain ⟨cs, rfl, hk⟩ := flat_value (n := 2) (ks := [.int .u64, .int .u64, .int .u64, .int .u64]) (by kernel_rfl) (.inr ⟨_, _, Try.underlying26⟩) hv h
  match cs, hk with
  | [c0, c1, c2, c3], hk =>
    obtain ⟨⟨a, rfl, wa⟩, ⟨b, rfl, wb⟩, ⟨c, rfl, wc⟩, ⟨d, rfl, wd⟩, _⟩ := hk
    exact ⟨a, b, c, d, rfl, bounds_u64 wa, bounds_u64 wb, bounds_u64 wc, bounds_u64 wd⟩
end

/-- '==' on lines. -/
theorem eqLine (a b c d a' b' c' d' : Int) (w : World) : (Op.equalIn 10000 26 (line a b c d) (line a' b' c' d')).run Try.prog w = .ok (a == a' && (b == b' && (c == c' && d == d'))) w := by
  have := equal_flat (P := Try.prog) 2 26 [.int .u64, .int .u64, .int .u64, .int .u64] (by kernel_rfl) (by kernel_rfl) 10000 (by omega) w [.int .u64 a, .int .u64 b, .int .u64 c, .int .u64 d] [.int .u64 a', .int .u64 b', .int .u64 c', .int .u64 d'] (line a b c d) (line a' b' c' d')
    ⟨⟨a, rfl⟩, ⟨b, rfl⟩, ⟨c, rfl⟩, ⟨d, rfl⟩, trivial⟩ ⟨⟨a', rfl⟩, ⟨b', rfl⟩, ⟨c', rfl⟩, ⟨d', rfl⟩, trivial⟩ (by simp [ValIs, Try.underlying26]) (by simp [ValIs, Try.underlying26])
  simpa [eqCells, scEq] using this

/-- Word k of a line. -/
def wordAt (a b c d k : Int) : Int := if k = 0 then a else if k = 1 then b else if k = 2 then c else if k = 3 then d else 0

/-- What is said of the number of a word. -/
def wordE (k : Int) : Int := if 0 ≤ k ∧ k ≤ 3 then 0 else 4

/-- A line with another word k. -/
def putA (a k v : Int) : Int := if k = 0 then v else if k = 1 ∨ k = 2 ∨ k = 3 then a else 0
def putB (b k v : Int) : Int := if k = 1 then v else if k = 0 ∨ k = 2 ∨ k = 3 then b else 0
def putC (c k v : Int) : Int := if k = 2 then v else if k = 0 ∨ k = 1 ∨ k = 3 then c else 0
def putD (d k v : Int) : Int := if k = 3 then v else if k = 0 ∨ k = 1 ∨ k = 2 then d else 0
abbrev putL (a b c d k v : Int) : Value := line (putA a k v) (putB b k v) (putC c k v) (putD d k v)





end Go.Proofs.Ytcegjehoejgofaa
