/-
Proved: what Do and Play of package atomic return, in one form for every case; slices.Equal of the same words. No condition.
-/
import Derived.Test.YtcegjehoejgofaaGreatJoined5
import Derived.Deep.RegionHeld3
namespace Go.Proofs.YtcegjehoejgofaaGreat
open Go.ChangeShapes Go.WideShapes Go.ChangeAt Go.RowKit Go.Joins
def allE (r : List Dd) : Int := if 200 < r.length then 2 else runE r
def PlayAll (l : List Int) (r : List Dd) (w : World) (y : List Int) (s : Value) (f : Int) : Prop :=
 (allE r ≠ 0 ∧ y = zeroL ∧ s = .slice none 0 0 ∧ f = allE r) ∨ (allE r = 0 ∧ y = runM l r ∧ f = 0 ∧ Told w s r.length (runV l r))
theorem play_is (l : List Int) (hl : l.length = 64) (v : Value) (r : List Dd) (w : World) (h : Ds w v r) : Calls Tryz.prog 26 #[memV l, v] w fun e w' =>
  (∃ y s f, e = .returned (.tuple #[memV y, s, .int .i64 f]) ∧ y.length = 64 ∧ PlayAll l r w' y s f) ∧ Below w.heap.size w w' := by
 by_cases hr : 200 < r.length
 ·refine (atomicPlay_large l v r w h hr).mono ?_
  rintro e w' ⟨rfl, hb⟩
  have e2 : allE r = 2 := if_pos hr
  exact ⟨⟨_, _, _, rfl, zeroL_length, .inl ⟨by rw [e2]; decide, rfl, rfl, e2.symm⟩⟩, hb⟩
 ·refine (atomicPlay_any l hl v r w h (by omega)).mono ?_
  have e2 : allE r = runE r := if_neg hr
  rintro e w' ⟨⟨h1, rfl⟩ | ⟨h1, s, rfl, sl⟩, hb⟩
  ·exact ⟨⟨_, _, _, rfl, zeroL_length, .inl ⟨by rw [e2]; exact h1, rfl, rfl, e2.symm⟩⟩, hb⟩
  ·exact ⟨⟨_, _, _, rfl, runM_length hl r, .inr ⟨by rw [e2]; exact h1, rfl, rfl, sl⟩⟩, hb⟩
end Go.Proofs.YtcegjehoejgofaaGreat
