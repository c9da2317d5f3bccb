/-
Proved: a region in which a call that makes memory and one or two new variables come up in any order: what is known behind them. No condition.
-/
import Derived.Test.YtmodajmjmdigfaaRowSpec
namespace Go.Proofs.Ytmodajmjmdigfaa
open Go.ChangeShapes Go.WideShapes Go.ChangeAt Go.RowKit Go.Joins

/-- What follows is shown once, for all orders. -/
theorem share {M Φ : Nat → Nat → Option Addr → Nat → World → Prop} {G : Prop} (tree : (∀ ga gb A c w, M ga gb A c w → Φ ga gb A c w) → G) (last : ∀ ga gb A c w, M ga gb A c w → Φ ga gb A c w) : G := tree last
theorem share1 {M Φ : Nat → Option Addr → Nat → World → Prop} {G : Prop} (tree : (∀ ga A c w, M ga A c w → Φ ga A c w) → G) (last : ∀ ga A c w, M ga A c w → Φ ga A c w) : G := tree last

/-- Between a region's first world and world 'w' these have come up: a new variable at 'pa', one at 'pb', a call that gave a new slice of ways. -/
structure Mid (w0 : World) (ta : TypeId) (ca : Array Value) (tb : TypeId) (cb : Array Value) (w : World) (pa pb : Option Nat) (r : Option (Value × List Wy)) : Prop where
  low : Below w0.heap.size w0 w
  fa : ∀ g, pa = some g → w0.heap.size ≤ g ∧ Box w g ta ca
  fb : ∀ g, pb = some g → w0.heap.size ≤ g ∧ Box w g tb cb
  ne : ∀ g g', pa = some g → pb = some g' → g ≠ g'
  fr : ∀ u l, r = some (u, l) → ∃ B C, w0.heap.size ≤ B ∧ C ≤ w.heap.size ∧ Fr w B C u l ∧ ∀ g, pa = some g ∨ pb = some g → g < B ∨ C ≤ g

section
variable {w0 w w' : World} {ta tb : TypeId} {ca cb : Array Value} {pa pb : Option Nat} {r : Option (Value × List Wy)} {u : Value} {l : List Wy}
theorem Mid.start (w : World) (ta : TypeId) (ca : Array Value) (tb : TypeId) (cb : Array Value) : Mid w ta ca tb cb w none none none :=
  ⟨Below.refl _ _, fun _ h => (by cases h), fun _ h => (by cases h), fun _ _ h => (by cases h), fun _ _ h => (by cases h)⟩

theorem Mid.allocA (h : Mid w0 ta ca tb cb w none pb r) : Mid w0 ta ca tb cb (w.alloc (.cells ca ta)) (some w.heap.size) pb r := by
  have hs := h.low.size
  refine ⟨gAlloc h.low _, fun g e => ?_, fun g e => ?_, fun g g' e e' => ?_, fun u l e => ?_⟩
  · cases e; exact ⟨hs, Box.new w ta ca⟩
  · obtain ⟨h1, h2⟩ := h.fb g e; exact ⟨h1, h2.alloc _⟩
  · cases e; have := (h.fb g' e').2.lt; omega
  · obtain ⟨B, C, h1, h2, h3, h4⟩ := h.fr u l e
    refine ⟨B, C, h1, by simp; omega, h3.alloc _, fun g hg => ?_⟩
    rcases hg with hg | hg
    · cases hg; exact .inr h2
    · exact h4 g (.inr hg)

theorem Mid.allocB (h : Mid w0 ta ca tb cb w pa none r) : Mid w0 ta ca tb cb (w.alloc (.cells cb tb)) pa (some w.heap.size) r := by
  have hs := h.low.size
  refine ⟨gAlloc h.low _, fun g e => ?_, fun g e => ?_, fun g g' e e' => ?_, fun u l e => ?_⟩
  · obtain ⟨h1, h2⟩ := h.fa g e; exact ⟨h1, h2.alloc _⟩
  · cases e; exact ⟨hs, Box.new w tb cb⟩
  · cases e'; have := (h.fa g e).2.lt; omega
  · obtain ⟨B, C, h1, h2, h3, h4⟩ := h.fr u l e
    refine ⟨B, C, h1, by simp; omega, h3.alloc _, fun g hg => ?_⟩
    rcases hg with hg | hg
    · exact h4 g (.inl hg)
    · cases hg; exact .inr h2

theorem Mid.call (h : Mid w0 ta ca tb cb w pa pb none) (hb : Below w.heap.size w w') (fr : Fr w' w.heap.size w'.heap.size u l) : Mid w0 ta ca tb cb w' pa pb (some (u, l)) := by
  have hs := h.low.size
  refine ⟨gCall h.low hb, fun g e => ?_, fun g e => ?_, h.ne, fun u' l' e => ?_⟩
  · obtain ⟨h1, h2⟩ := h.fa g e; exact ⟨h1, h2.call hb⟩
  · obtain ⟨h1, h2⟩ := h.fb g e; exact ⟨h1, h2.call hb⟩
  · cases e
    refine ⟨_, _, hs, Nat.le_refl _, fr, fun g hg => .inl ?_⟩
    rcases hg with hg | hg
    · exact (h.fa g hg).2.lt
    · exact (h.fb g hg).2.lt
end

/-- The calls of package row, with what is new. -/
def GivesF (F : Nat) (args : Array Value) (w : World) (la : List Wy) (t : Bool × Bool × Bool) (y : Wy) (E : Int) : Prop :=
  Calls Try.prog F args w fun e w' => (∃ A cp, e = .returned (.tuple #[rowV (.slice A la.length cp) t.1 t.2.1 t.2.2, y.val, .int .i64 E]) ∧ Fr w' w.heap.size w'.heap.size (.slice A la.length cp) la) ∧ Below w.heap.size w w'
def GivesF2 (F : Nat) (args : Array Value) (w : World) (la : List Wy) (t : Bool × Bool × Bool) (E : Int) : Prop :=
  Calls Try.prog F args w fun e w' => (∃ A cp, e = .returned (.tuple #[rowV (.slice A la.length cp) t.1 t.2.1 t.2.2, .int .i64 E]) ∧ Fr w' w.heap.size w'.heap.size (.slice A la.length cp) la) ∧ Below w.heap.size w w'

theorem put_fr (v : Value) (l : List Wy) (a b c : Bool) (n : Int) (x : Wy) : ∃ la t y E, PutIs l a b c n x la t y E ∧ ∀ w, Ws w v l → GivesF 9 #[rowV v a b c, .int .i64 n, x.val] w la t y E := by
  by_cases he : putE l a b c n x = 0
  · obtain ⟨k, y, hk, hy⟩ := room_in (putE_ok he).1
    refine ⟨l.set k x, touchT a b c n k, y, 0, ⟨he.symm, .inr ⟨rfl, k, hk, hy, rfl, rfl⟩⟩, fun w h => ?_⟩
    refine (rowPut_ok v l a b c n x k y w h he hk hy).mono ?_
    rintro e w' ⟨⟨v', rfl, fr⟩, hb⟩
    obtain ⟨A, cp, rfl⟩ := fr.shape
    exact ⟨⟨A, cp, rfl, fr⟩, hb⟩
  · refine ⟨[], t0, wy0, _, ⟨rfl, .inl ⟨he, rfl, rfl, rfl⟩⟩, fun w h => ?_⟩
    refine (rowPut_bad v l a b c n x w h he).mono ?_
    rintro e w' ⟨rfl, hb⟩
    exact ⟨⟨none, 0, rfl, Fr.nil _ _ _⟩, hb⟩

theorem take_fr (v : Value) (l : List Wy) (a b c : Bool) (n m : Int) : ∃ la t y E, TakeIs l a b c n m la t y E ∧ ∀ w, Ws w v l → GivesF 11 #[rowV v a b c, .int .i64 n, .int .i64 m] w la t y E := by
  by_cases he : takeE l a b c n m = 0
  · obtain ⟨h1, h2⟩ := takeE_ok he
    obtain ⟨k, y, hk, hy, _⟩ := idxP_there h2
    refine ⟨l.set k wy0, (a, b, c), y, 0, ⟨he.symm, .inr ⟨rfl, k, hk, hy, rfl, rfl⟩⟩, fun w h => ?_⟩
    refine (rowTake_ok v l a b c n m k y w h h1 hk hy).mono ?_
    rintro e w' ⟨⟨v', rfl, fr⟩, hb⟩
    obtain ⟨A, cp, rfl⟩ := fr.shape
    exact ⟨⟨A, cp, rfl, fr⟩, hb⟩
  · refine ⟨[], t0, wy0, _, ⟨rfl, .inl ⟨he, rfl, rfl, rfl⟩⟩, fun w h => ?_⟩
    refine (rowTake_bad v l a b c n m w h he).mono ?_
    rintro e w' ⟨rfl, hb⟩
    exact ⟨⟨none, 0, rfl, Fr.nil _ _ _⟩, hb⟩

theorem set_fr (v : Value) (l : List Wy) (a b c : Bool) (n : Int) (x : Wy) : ∃ la t E, SetIs l a b c n x la t E ∧ ∀ w, Ws w v l → GivesF2 54 #[rowV v a b c, .int .i64 n, x.val] w la t E := by
  by_cases he : setE l a b c n x = 0
  · obtain ⟨h1, h2, h3⟩ := setE_ok he
    obtain ⟨k, y, hk, hy, _⟩ := idxP_there h3
    refine ⟨l.set k x, touchT a b c n k, 0, ⟨he.symm, .inr ⟨rfl, k, hk, set_lt hy, rfl, rfl⟩⟩, fun w h => ?_⟩
    refine (rowSet_ok v l a b c n x k w h h1 h2 hk (set_lt hy)).mono ?_
    rintro e w' ⟨⟨v', rfl, fr⟩, hb⟩
    obtain ⟨A, cp, rfl⟩ := fr.shape
    exact ⟨⟨A, cp, rfl, fr⟩, hb⟩
  · refine ⟨[], t0, _, ⟨rfl, .inl ⟨he, rfl, rfl⟩⟩, fun w h => ?_⟩
    refine (rowSet_bad v l a b c n x w h he).mono ?_
    rintro e w' ⟨rfl, hb⟩
    exact ⟨⟨none, 0, rfl, Fr.nil _ _ _⟩, hb⟩
end Go.Proofs.Ytmodajmjmdigfaa
