/-
Proved: what Do and Play of package atomic return, in one form for every case; slices.Equal of the same words. No condition.
-/
import Derived.Test.YtgoaedbhcldmiaaAtomic2
import Derived.Deep.RegionHeld3
namespace Go.Proofs.Ytgoaedbhcldmiaa
open Go.ChangeShapes Go.WideShapes Go.ChangeAt Go.RowKit Go.Joins

/-- What Do gives. -/
def DoIs (l : List Int) (d : Dd) (y : List Int) (u e : Int) : Prop :=
  (deedE d ≠ 0 ∧ y = zeroL ∧ u = 0 ∧ e = deedE d) ∨ (deedE d = 0 ∧ y = doM l d ∧ u = doV l d ∧ e = 0)

theorem do_is (l : List Int) (hl : l.length = 64) (d : Dd) : ∃ y u e, DoIs l d y u e ∧ y.length = 64 ∧
    ∀ w, Calls Try.prog 24 #[memV l, d.val] w fun ee w' => ee = .returned (.tuple #[memV y, .int .u64 u, .int .i64 e]) ∧ Below w.heap.size w w' := by
  by_cases h : deedE d = 0
  · exact ⟨_, _, 0, .inr ⟨h, rfl, rfl, rfl⟩, doM_length d hl, fun w => atomicDo_ok l hl d h w⟩
  · exact ⟨_, 0, _, .inl ⟨h, rfl, rfl, rfl⟩, zeroL_length, fun w => atomicDo_bad l d h w⟩

/-- The first error of Play. -/
def allE (r : List Dd) : Int := if 200 < r.length then 2 else runE r

/-- What Play gives. -/
def PlayAll (l : List Int) (r : List Dd) (w : World) (y : List Int) (s : Value) (f : Int) : Prop :=
  (allE r ≠ 0 ∧ y = zeroL ∧ s = .slice none 0 0 ∧ f = allE r) ∨ (allE r = 0 ∧ y = runM l r ∧ f = 0 ∧ Told w s r.length (runV l r))

theorem PlayAll.call {l : List Int} {r : List Dd} {w w' : World} {y : List Int} {s : Value} {f : Int} (h : PlayAll l r w y s f) (hb : Below w.heap.size w w') : PlayAll l r w' y s f := by
  rcases h with h | ⟨h1, h2, h3, h4⟩
  · exact .inl h
  · exact .inr ⟨h1, h2, h3, h4.call hb⟩

theorem play_is (l : List Int) (hl : l.length = 64) (v : Value) (r : List Dd) (w : World) (h : Ds w v r) : Calls Try.prog 15 #[memV l, v] w fun e w' =>
    (∃ y s f, e = .returned (.tuple #[memV y, s, .int .i64 f]) ∧ y.length = 64 ∧ PlayAll l r w' y s f) ∧ Below w.heap.size w w' := by
  by_cases hr : 200 < r.length
  · refine (atomicPlay_large l v r w h hr).mono ?_
    rintro e w' ⟨rfl, hb⟩
    have e2 : allE r = 2 := if_pos hr
    exact ⟨⟨_, _, _, rfl, zeroL_length, .inl ⟨by rw [e2]; decide, rfl, rfl, e2.symm⟩⟩, hb⟩
  · refine (atomicPlay_any l hl v r w h (by omega)).mono ?_
    have e2 : allE r = runE r := if_neg hr
    rintro e w' ⟨⟨h1, rfl⟩ | ⟨h1, s, rfl, sl⟩, hb⟩
    · exact ⟨⟨_, _, _, rfl, zeroL_length, .inl ⟨by rw [e2]; exact h1, rfl, rfl, e2.symm⟩⟩, hb⟩
    · exact ⟨⟨_, _, _, rfl, runM_length hl r, .inr ⟨by rw [e2]; exact h1, rfl, rfl, sl⟩⟩, hb⟩

end Go.Proofs.Ytgoaedbhcldmiaa
