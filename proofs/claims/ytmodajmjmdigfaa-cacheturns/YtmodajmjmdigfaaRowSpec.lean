/-
Proved: what Find, Put, Take and Set of package row return, in one form for every case; what the law's own closure returns. Condition: the closure is asked of a set that is right.
-/
import Derived.Test.YtmodajmjmdigfaaRefRow2
import Derived.Test.YtmodajmjmdigfaaRowFacts
namespace Go.Proofs.Ytmodajmjmdigfaa
open Go.ChangeShapes Go.WideShapes Go.ChangeAt Go.RowKit Go.Joins

/-- No bit is set. -/
abbrev t0 : Bool × Bool × Bool := (false, false, false)

/-- What Put, Take and Set give. -/
def PutIs (l : List Wy) (a b c : Bool) (n : Int) (x : Wy) (la : List Wy) (t : Bool × Bool × Bool) (y : Wy) (E : Int) : Prop :=
  E = putE l a b c n x ∧ ((E ≠ 0 ∧ la = [] ∧ t = t0 ∧ y = wy0) ∨ (E = 0 ∧ ∃ k : Nat, roomN l a b c n = k ∧ l[k]? = some y ∧ la = l.set k x ∧ t = touchT a b c n k))
def TakeIs (l : List Wy) (a b c : Bool) (n m : Int) (la : List Wy) (t : Bool × Bool × Bool) (y : Wy) (E : Int) : Prop :=
  E = takeE l a b c n m ∧ ((E ≠ 0 ∧ la = [] ∧ t = t0 ∧ y = wy0) ∨ (E = 0 ∧ ∃ k : Nat, idxP (hasW m) l = k ∧ l[k]? = some y ∧ la = l.set k wy0 ∧ t = (a, b, c)))
def SetIs (l : List Wy) (a b c : Bool) (n : Int) (x : Wy) (la : List Wy) (t : Bool × Bool × Bool) (E : Int) : Prop :=
  E = setE l a b c n x ∧ ((E ≠ 0 ∧ la = [] ∧ t = t0) ∨ (E = 0 ∧ ∃ k : Nat, idxP (hasW x.ln) l = k ∧ k < l.length ∧ la = l.set k x ∧ t = touchT a b c n k))
def FindIs (l : List Wy) (a b c : Bool) (n m f E : Int) : Prop :=
  E = rowE l a b c n ∧ ((E ≠ 0 ∧ f = 0) ∨ (E = 0 ∧ f = idxP (hasW m) l))

/-- The calls that give it. -/
def GivesRW (F : Nat) (args : Array Value) (w : World) (la : List Wy) (t : Bool × Bool × Bool) (y : Wy) (E : Int) : Prop :=
  Calls Try.prog F args w fun e w' => (∃ A cp, e = .returned (.tuple #[rowV (.slice A la.length cp) t.1 t.2.1 t.2.2, y.val, .int .i64 E]) ∧ Ws w' (.slice A la.length cp) la) ∧ Below w.heap.size w w'
def GivesR (F : Nat) (args : Array Value) (w : World) (la : List Wy) (t : Bool × Bool × Bool) (E : Int) : Prop :=
  Calls Try.prog F args w fun e w' => (∃ A cp, e = .returned (.tuple #[rowV (.slice A la.length cp) t.1 t.2.1 t.2.2, .int .i64 E]) ∧ Ws w' (.slice A la.length cp) la) ∧ Below w.heap.size w w'

theorem put_spec (v : Value) (l : List Wy) (a b c : Bool) (n : Int) (x : Wy) : ∃ la t y E, PutIs l a b c n x la t y E ∧ ∀ w, Ws w v l → GivesRW 9 #[rowV v a b c, .int .i64 n, x.val] w la t y E := by
  by_cases he : putE l a b c n x = 0
  · obtain ⟨k, y, hk, hy⟩ := room_in (putE_ok he).1
    refine ⟨l.set k x, touchT a b c n k, y, 0, ⟨he.symm, .inr ⟨rfl, k, hk, hy, rfl, rfl⟩⟩, fun w h => ?_⟩
    refine (rowPut_ok v l a b c n x k y w h he hk hy).mono ?_
    rintro e w' ⟨⟨v', rfl, fr⟩, hb⟩
    obtain ⟨A, cp, rfl⟩ := fr.shape
    exact ⟨⟨A, cp, rfl, fr.ws⟩, hb⟩
  · refine ⟨[], t0, wy0, _, ⟨rfl, .inl ⟨he, rfl, rfl, rfl⟩⟩, fun w h => ?_⟩
    refine (rowPut_bad v l a b c n x w h he).mono ?_
    rintro e w' ⟨rfl, hb⟩
    exact ⟨⟨none, 0, rfl, Ws.nil _⟩, hb⟩

theorem take_spec (v : Value) (l : List Wy) (a b c : Bool) (n m : Int) : ∃ la t y E, TakeIs l a b c n m la t y E ∧ ∀ w, Ws w v l → GivesRW 11 #[rowV v a b c, .int .i64 n, .int .i64 m] w la t y E := by
  by_cases he : takeE l a b c n m = 0
  · obtain ⟨h1, h2⟩ := takeE_ok he
    obtain ⟨k, y, hk, hy, _⟩ := idxP_there h2
    refine ⟨l.set k wy0, (a, b, c), y, 0, ⟨he.symm, .inr ⟨rfl, k, hk, hy, rfl, rfl⟩⟩, fun w h => ?_⟩
    refine (rowTake_ok v l a b c n m k y w h h1 hk hy).mono ?_
    rintro e w' ⟨⟨v', rfl, fr⟩, hb⟩
    obtain ⟨A, cp, rfl⟩ := fr.shape
    exact ⟨⟨A, cp, rfl, fr.ws⟩, hb⟩
  · refine ⟨[], t0, wy0, _, ⟨rfl, .inl ⟨he, rfl, rfl, rfl⟩⟩, fun w h => ?_⟩
    refine (rowTake_bad v l a b c n m w h he).mono ?_
    rintro e w' ⟨rfl, hb⟩
    exact ⟨⟨none, 0, rfl, Ws.nil _⟩, hb⟩

theorem set_spec (v : Value) (l : List Wy) (a b c : Bool) (n : Int) (x : Wy) : ∃ la t E, SetIs l a b c n x la t E ∧ ∀ w, Ws w v l → GivesR 54 #[rowV v a b c, .int .i64 n, x.val] w la t E := by
  by_cases he : setE l a b c n x = 0
  · obtain ⟨h1, h2, h3⟩ := setE_ok he
    obtain ⟨k, y, hk, hy, _⟩ := idxP_there h3
    refine ⟨l.set k x, touchT a b c n k, 0, ⟨he.symm, .inr ⟨rfl, k, hk, set_lt hy, rfl, rfl⟩⟩, fun w h => ?_⟩
    refine (rowSet_ok v l a b c n x k w h h1 h2 hk (set_lt hy)).mono ?_
    rintro e w' ⟨⟨v', rfl, fr⟩, hb⟩
    obtain ⟨A, cp, rfl⟩ := fr.shape
    exact ⟨⟨A, cp, rfl, fr.ws⟩, hb⟩
  · refine ⟨[], t0, _, ⟨rfl, .inl ⟨he, rfl, rfl⟩⟩, fun w h => ?_⟩
    refine (rowSet_bad v l a b c n x w h he).mono ?_
    rintro e w' ⟨rfl, hb⟩
    exact ⟨⟨none, 0, rfl, Ws.nil _⟩, hb⟩

theorem find_spec (v : Value) (l : List Wy) (a b c : Bool) (n m : Int) : ∃ f E, FindIs l a b c n m f E ∧ ∀ w, Ws w v l → Calls Try.prog 10 #[rowV v a b c, .int .i64 n, .int .i64 m] w fun e w' => e = .returned (.tuple #[.int .i64 f, .int .i64 E]) ∧ Below w.heap.size w w' := by
  by_cases he : rowE l a b c n = 0
  · exact ⟨_, _, ⟨he.symm, .inr ⟨rfl, rfl⟩⟩, fun w h => rowFind_ok v l a b c n m w h he⟩
  · exact ⟨_, _, ⟨rfl, .inl ⟨he, rfl⟩⟩, fun w h => rowFind_bad v l a b c n m w h he⟩

end Go.Proofs.Ytmodajmjmdigfaa
