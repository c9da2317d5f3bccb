/-
Proved: what Put, Take and Set of package cache return where the cache and the argument are right: one contract for the error of the set, one for the good case. No condition.
-/
import Derived.Test.YtmodajmjmdigfaaCache5
import Derived.Test.YtmodajmjmdigfaaCache4
namespace Go.Proofs.Ytmodajmjmdigfaa
open Go.ChangeShapes Go.WideShapes Go.ChangeAt Go.RowKit Go.Joins

/-- Behind a call that gives a new cache and a way. -/
abbrev GaveCW (w : World) (ss : List St) (z : Wy) (sa : List St) (e : Ending) (w' : World) : Prop :=
  (∃ A c, e = .returned (.tuple #[.slice A ss.length c, z.val, .int .i64 0]) ∧ CFr w' w.heap.size w'.heap.size (.slice A ss.length c) sa) ∧ Below w.heap.size w w'

theorem cachePut_err (n s y b : Int) (v : Value) (ss : List St) (x : Wy) (k : Nat) (t : St) (w : World) (h : Cs w v ss) (he : wayCE n s y b ss x = 0) (hk : x.ln % s = k) (ht : ss[k]? = some t) (hp : putE t.l t.a t.b t.c y x ≠ 0) :
    Calls Try.prog 16 #[cfg n s y b, v, x.val] w fun e w' => e = .returned (.tuple #[.slice none 0 0, zeroV, .int .i64 (putE t.l t.a t.b t.c y x)]) ∧ Below w.heap.size w w' := by
  obtain ⟨la, tt, z, E, ⟨rfl, _⟩, C⟩ := cachePut_in n s y b v ss x k t w h he hk ht
  refine C.mono ?_
  rintro e w' ⟨⟨_, rfl⟩ | ⟨h0, _⟩, hb⟩
  · exact ⟨rfl, hb⟩
  · exact absurd h0 hp

theorem cachePut_ok (n s y b : Int) (v : Value) (ss : List St) (x : Wy) (k : Nat) (t : St) (j : Nat) (old : Wy) (w : World) (h : Cs w v ss) (he : wayCE n s y b ss x = 0) (hk : x.ln % s = k) (ht : ss[k]? = some t) (hp : putE t.l t.a t.b t.c y x = 0)
    (hr : roomN t.l t.a t.b t.c y = j) (hj : t.l[j]? = some old) :
    Calls Try.prog 16 #[cfg n s y b, v, x.val] w (GaveCW w ss old (ss.set k ⟨t.l.set j x, (touchT t.a t.b t.c y j).1, (touchT t.a t.b t.c y j).2.1, (touchT t.a t.b t.c y j).2.2⟩)) := by
  obtain ⟨la, tt, z, E, ⟨rfl, P⟩, C⟩ := cachePut_in n s y b v ss x k t w h he hk ht
  rcases P with ⟨h0, _⟩ | ⟨_, j', hr', hj', rfl, rfl⟩
  · exact absurd hp h0
  obtain rfl : j' = j := by rw [hr] at hr'; omega
  rw [hj] at hj'
  cases hj'
  refine C.mono ?_
  rintro e w' ⟨⟨h0, _⟩ | ⟨_, h1⟩, hb⟩
  · exact absurd hp h0
  · exact ⟨h1, hb⟩

theorem cacheTake_err (n s y b : Int) (v : Value) (ss : List St) (m : Int) (k : Nat) (t : St) (w : World) (h : Cs w v ss) (he : lineE n s y b ss m = 0) (hk : m % s = k) (ht : ss[k]? = some t) (hp : takeE t.l t.a t.b t.c y m ≠ 0) :
    Calls Try.prog 17 #[cfg n s y b, v, .int .i64 m] w fun e w' => e = .returned (.tuple #[.slice none 0 0, zeroV, .int .i64 (takeE t.l t.a t.b t.c y m)]) ∧ Below w.heap.size w w' := by
  obtain ⟨la, tt, z, E, ⟨rfl, _⟩, C⟩ := cacheTake_in n s y b v ss m k t w h he hk ht
  refine C.mono ?_
  rintro e w' ⟨⟨_, rfl⟩ | ⟨h0, _⟩, hb⟩
  · exact ⟨rfl, hb⟩
  · exact absurd h0 hp

theorem cacheTake_ok (n s y b : Int) (v : Value) (ss : List St) (m : Int) (k : Nat) (t : St) (j : Nat) (old : Wy) (w : World) (h : Cs w v ss) (he : lineE n s y b ss m = 0) (hk : m % s = k) (ht : ss[k]? = some t) (hp : takeE t.l t.a t.b t.c y m = 0)
    (hr : idxP (hasW m) t.l = j) (hj : t.l[j]? = some old) :
    Calls Try.prog 17 #[cfg n s y b, v, .int .i64 m] w (GaveCW w ss old (ss.set k ⟨t.l.set j wy0, t.a, t.b, t.c⟩)) := by
  obtain ⟨la, tt, z, E, ⟨rfl, P⟩, C⟩ := cacheTake_in n s y b v ss m k t w h he hk ht
  rcases P with ⟨h0, _⟩ | ⟨_, j', hr', hj', rfl, rfl⟩
  · exact absurd hp h0
  obtain rfl : j' = j := by rw [hr] at hr'; omega
  rw [hj] at hj'
  cases hj'
  refine C.mono ?_
  rintro e w' ⟨⟨h0, _⟩ | ⟨_, h1⟩, hb⟩
  · exact absurd hp h0
  · exact ⟨h1, hb⟩

theorem cacheSet_err (n s y b : Int) (v : Value) (ss : List St) (x : Wy) (k : Nat) (t : St) (w : World) (h : Cs w v ss) (he : wayCE n s y b ss x = 0) (hk : x.ln % s = k) (ht : ss[k]? = some t) (hp : setE t.l t.a t.b t.c y x ≠ 0) :
    Calls Try.prog 18 #[cfg n s y b, v, x.val] w fun e w' => e = .returned (.tuple #[.slice none 0 0, .int .i64 (setE t.l t.a t.b t.c y x)]) ∧ Below w.heap.size w w' := by
  obtain ⟨la, tt, E, ⟨rfl, _⟩, C⟩ := cacheSet_in n s y b v ss x k t w h he hk ht
  refine C.mono ?_
  rintro e w' ⟨⟨_, rfl⟩ | ⟨h0, _⟩, hb⟩
  · exact ⟨rfl, hb⟩
  · exact absurd h0 hp

theorem cacheSet_ok (n s y b : Int) (v : Value) (ss : List St) (x : Wy) (k : Nat) (t : St) (j : Nat) (w : World) (h : Cs w v ss) (he : wayCE n s y b ss x = 0) (hk : x.ln % s = k) (ht : ss[k]? = some t) (hp : setE t.l t.a t.b t.c y x = 0)
    (hr : idxP (hasW x.ln) t.l = j) :
    Calls Try.prog 18 #[cfg n s y b, v, x.val] w fun e w' => (∃ A c, e = .returned (.tuple #[.slice A ss.length c, .int .i64 0]) ∧ CFr w' w.heap.size w'.heap.size (.slice A ss.length c) (ss.set k ⟨t.l.set j x, (touchT t.a t.b t.c y j).1, (touchT t.a t.b t.c y j).2.1, (touchT t.a t.b t.c y j).2.2⟩)) ∧ Below w.heap.size w w' := by
  obtain ⟨la, tt, E, ⟨rfl, P⟩, C⟩ := cacheSet_in n s y b v ss x k t w h he hk ht
  rcases P with ⟨h0, _⟩ | ⟨_, j', hr', _, rfl, rfl⟩
  · exact absurd hp h0
  obtain rfl : j' = j := by rw [hr] at hr'; omega
  refine C.mono ?_
  rintro e w' ⟨⟨h0, _⟩ | ⟨_, h1⟩, hb⟩
  · exact absurd hp h0
  · exact ⟨h1, hb⟩
end Go.Proofs.Ytmodajmjmdigfaa
