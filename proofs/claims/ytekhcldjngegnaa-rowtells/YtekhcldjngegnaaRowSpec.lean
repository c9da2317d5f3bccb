/-
Proved: what Find, Put, Take and Set of package row return, in one form for every case; what the law's own closure returns. Condition: the closure is asked of a set that is right.
-/
import Derived.Test.YtekhcldjngegnaaRefRow2
import Derived.Test.YtekhcldjngegnaaRowFacts
namespace Go.Proofs.Ytekhcldjngegnaa
open Go.ChangeShapes Go.WideShapes Go.ChangeAt Go.RowKit Go.Joins

/-- No bit is set. -/
abbrev t0 : Bool × Bool × Bool := (false, false, false)

/-- What Put, Take and Set give. -/
def PutIs (l : List Wy) (a b c : Bool) (n : Int) (x : Wy) (la : List Wy) (t : Bool × Bool × Bool) (y : Wy) (E : Int) : Prop :=
  E = putE l a b c n x ∧ ((E ≠ 0 ∧ la = [] ∧ t = t0 ∧ y = wy0) ∨ (E = 0 ∧ ∃ k : Nat, roomN l a b c n = k ∧ l[k]? = some y ∧ la = l.set k x ∧ t = touchT a b c n k))
def TakeIs (l : List Wy) (a b c : Bool) (n m : Int) (la : List Wy) (t : Bool × Bool × Bool) (y : Wy) (E : Int) : Prop :=
  E = takeE l a b c n m ∧ ((E ≠ 0 ∧ la = [] ∧ t = t0 ∧ y = wy0) ∨ (E = 0 ∧ ∃ k : Nat, idxP (hasW m) l = k ∧ l[k]? = some y ∧ la = l.set k wy0 ∧ t = (a, b, c)))
def SetIs (l : List Wy) (a b c : Bool) (n : Int) (x : Wy) (la : List Wy) (t : Bool × Bool × Bool) (E : Int) : Prop :=
  E = setE l a b c n x ∧ ((E ≠ 0 ∧ la = [] ∧ t = t0) ∨ (E = 0 ∧ ∃ k : Nat, idxP (hasW x.ln) l = k ∧ k < l.length ∧ la = l.set k x ∧ t = touchT a b c n k))
def FindIs (l : List Wy) (a b c : Bool) (n m f E : Int) : Prop :=
  E = rowE l a b c n ∧ ((E ≠ 0 ∧ f = 0) ∨ (E = 0 ∧ f = idxP (hasW m) l))

/-- The calls that give it. -/
def GivesRW (F : Nat) (args : Array Value) (w : World) (la : List Wy) (t : Bool × Bool × Bool) (y : Wy) (E : Int) : Prop :=
  Calls Try.prog F args w fun e w' => (∃ A cp, e = .returned (.tuple #[rowV (.slice A la.length cp) t.1 t.2.1 t.2.2, y.val, .int .i64 E]) ∧ Ws w' (.slice A la.length cp) la) ∧ Below w.heap.size w w'
def GivesR (F : Nat) (args : Array Value) (w : World) (la : List Wy) (t : Bool × Bool × Bool) (E : Int) : Prop :=
  Calls Try.prog F args w fun e w' => (∃ A cp, e = .returned (.tuple #[rowV (.slice A la.length cp) t.1 t.2.1 t.2.2, .int .i64 E]) ∧ Ws w' (.slice A la.length cp) la) ∧ Below w.heap.size w w'

theorem idxP_there {p : Wy → Bool} {l : List Wy} (h : 0 ≤ idxP p l) : ∃ (k : Nat) (y : Wy), idxP p l = k ∧ l[k]? = some y ∧ p y = true := by
  rcases idxP_cases p l with ⟨e, _⟩ | ⟨k, x, e, hx, hp, _⟩
  · rw [e] at h; omega
  · exact ⟨k, x, e, hx, hp⟩

theorem put_spec (v : Value) (l : List Wy) (a b c : Bool) (n : Int) (x : Wy) : ∃ la t y E, PutIs l a b c n x la t y E ∧ ∀ w, Ws w v l → GivesRW 6 #[rowV v a b c, .int .i64 n, x.val] w la t y E := by
  by_cases he : putE l a b c n x = 0
  · obtain ⟨k, y, hk, hy⟩ := room_in (putE_ok he).1
    refine ⟨l.set k x, touchT a b c n k, y, 0, ⟨he.symm, .inr ⟨rfl, k, hk, hy, rfl, rfl⟩⟩, fun w h => ?_⟩
    refine (rowPut_ok v l a b c n x k y w h he hk hy).mono ?_
    rintro e w' ⟨⟨v', rfl, fr⟩, hb⟩
    obtain ⟨A, cp, rfl⟩ := fr.shape
    exact ⟨⟨A, cp, rfl, fr.ws⟩, hb⟩
  · refine ⟨[], t0, wy0, _, ⟨rfl, .inl ⟨he, rfl, rfl, rfl⟩⟩, fun w h => ?_⟩
    refine (rowPut_bad v l a b c n x w h he).mono ?_
    rintro e w' ⟨rfl, hb⟩
    exact ⟨⟨none, 0, rfl, Ws.nil _⟩, hb⟩

theorem take_spec (v : Value) (l : List Wy) (a b c : Bool) (n m : Int) : ∃ la t y E, TakeIs l a b c n m la t y E ∧ ∀ w, Ws w v l → GivesRW 7 #[rowV v a b c, .int .i64 n, .int .i64 m] w la t y E := by
  by_cases he : takeE l a b c n m = 0
  · obtain ⟨h1, h2⟩ := takeE_ok he
    obtain ⟨k, y, hk, hy, _⟩ := idxP_there h2
    refine ⟨l.set k wy0, (a, b, c), y, 0, ⟨he.symm, .inr ⟨rfl, k, hk, hy, rfl, rfl⟩⟩, fun w h => ?_⟩
    refine (rowTake_ok v l a b c n m k y w h h1 hk hy).mono ?_
    rintro e w' ⟨⟨v', rfl, fr⟩, hb⟩
    obtain ⟨A, cp, rfl⟩ := fr.shape
    exact ⟨⟨A, cp, rfl, fr.ws⟩, hb⟩
  · refine ⟨[], t0, wy0, _, ⟨rfl, .inl ⟨he, rfl, rfl, rfl⟩⟩, fun w h => ?_⟩
    refine (rowTake_bad v l a b c n m w h he).mono ?_
    rintro e w' ⟨rfl, hb⟩
    exact ⟨⟨none, 0, rfl, Ws.nil _⟩, hb⟩

theorem set_spec (v : Value) (l : List Wy) (a b c : Bool) (n : Int) (x : Wy) : ∃ la t E, SetIs l a b c n x la t E ∧ ∀ w, Ws w v l → GivesR 8 #[rowV v a b c, .int .i64 n, x.val] w la t E := by
  by_cases he : setE l a b c n x = 0
  · obtain ⟨h1, h2, h3⟩ := setE_ok he
    obtain ⟨k, y, hk, hy, _⟩ := idxP_there h3
    refine ⟨l.set k x, touchT a b c n k, 0, ⟨he.symm, .inr ⟨rfl, k, hk, set_lt hy, rfl, rfl⟩⟩, fun w h => ?_⟩
    refine (rowSet_ok v l a b c n x k w h h1 h2 hk (set_lt hy)).mono ?_
    rintro e w' ⟨⟨v', rfl, fr⟩, hb⟩
    obtain ⟨A, cp, rfl⟩ := fr.shape
    exact ⟨⟨A, cp, rfl, fr.ws⟩, hb⟩
  · refine ⟨[], t0, _, ⟨rfl, .inl ⟨he, rfl, rfl⟩⟩, fun w h => ?_⟩
    refine (rowSet_bad v l a b c n x w h he).mono ?_
    rintro e w' ⟨rfl, hb⟩
    exact ⟨⟨none, 0, rfl, Ws.nil _⟩, hb⟩

theorem find_spec (v : Value) (l : List Wy) (a b c : Bool) (n m : Int) : ∃ f E, FindIs l a b c n m f E ∧ ∀ w, Ws w v l → Calls Try.prog 5 #[rowV v a b c, .int .i64 n, .int .i64 m] w fun e w' => e = .returned (.tuple #[.int .i64 f, .int .i64 E]) ∧ Below w.heap.size w w' := by
  by_cases he : rowE l a b c n = 0
  · exact ⟨_, _, ⟨he.symm, .inr ⟨rfl, rfl⟩⟩, fun w h => rowFind_ok v l a b c n m w h he⟩
  · exact ⟨_, _, ⟨rfl, .inl ⟨he, rfl⟩⟩, fun w h => rowFind_bad v l a b c n m w h he⟩

set_option maxHeartbeats 2000000 in
theorem with_any (v : Value) (l : List Wy) (a b c : Bool) (n : Int) (j : Nat) (x : Wy) (p q r : Nat) (w : World) (h : Ws w v l) (ht : treeE a b c n = 0) (hn : (l.length : Int) = n) (hj : j < l.length)
    (rb : Box w p 26 (rowA v a b c)) (xb : Box w q 32 x.arr) (nb : Box w r 3 #[.int .i64 n]) :
    Calls Try.prog 15 #[.int .i64 j, .pointer (some ⟨p, 0, none⟩), .pointer (some ⟨q, 0, none⟩), .pointer (some ⟨r, 0, none⟩)] w fun e w' =>
      (∃ A cp, e = .returned (rowV (.slice A l.length cp) (touchT a b c n j).1 (touchT a b c n j).2.1 (touchT a b c n j).2.2) ∧ Ws w' (.slice A l.length cp) (l.set j x)) ∧ Below w.heap.size w w' := by
  obtain ⟨hn1, hn4⟩ := treeE_range ht
  have TO := Lib.hid fun w => touched_ok a b c n j w ht (by omega) (by omega)
  have RW := Lib.hid fun w (hw : Ws w v l) => rowWith_any v l a b c j x w hw (by omega) hj
  generalize touchT a b c n j = t at TO ⊢
  clear ht hn hn1 hn4
  have low := Below.refl w.heap.size w
  have ob := boxNext low 26 (rowA (.slice none 0 0) false false false)
  replace low := gAlloc low (.cells (rowA (.slice none 0 0) false false false) 26)
  replace h := h.alloc (.cells (rowA (.slice none 0 0) false false false) 26)
  replace rb := rb.alloc (.cells (rowA (.slice none 0 0) false false false) 26)
  replace xb := xb.alloc (.cells (rowA (.slice none 0 0) false false false) 26)
  replace nb := nb.alloc (.cells (rowA (.slice none 0 0) false false false) 26)
  try simp only [World.size_alloc] at ob
  simp only [rowA] at ob
  obtain ⟨r0, r1, r2, r3⟩ := rb.rowC
  obtain ⟨x0, x1, x2, x3, x4, x5⟩ := xb.wayC
  go_enter Try.func15, Try.ntmps15
  go_wp2_with fail
  (with_reducible refine (RW.out _ h).mono ?_); rintro e w1 ⟨⟨v', rfl, fr⟩, hb⟩
  have zw : w.heap.size < w1.heap.size := (ob.call hb).lt
  replace ob := ob.call hb
  replace nb := nb.call hb
  replace low := gCall low hb
  clear hb rb xb h r0 r1 r2 r3 x0 x1 x2 x3 x4 x5
  simp only [World.size_alloc] at fr
  obtain ⟨A', c', rfl⟩ := fr.shape
  simp only [List.length_set] at fr ⊢
  have sb := boxNext low 26 (rowA (.slice A' l.length c') a b c)
  replace low := gAlloc low (.cells (rowA (.slice A' l.length c') a b c) 26)
  replace ob := ob.alloc (.cells (rowA (.slice A' l.length c') a b c) 26)
  replace nb := nb.alloc (.cells (rowA (.slice A' l.length c') a b c) 26)
  replace fr := fr.alloc (.cells (rowA (.slice A' l.length c') a b c) 26)
  try simp only [World.size_alloc] at sb
  simp only [rowA] at sb
  have n0 := nb.at_ 0 rfl
  go_wp2_with fail
  (with_reducible refine (TO.out _).mono ?_); rintro e w2 ⟨rfl, hb⟩
  replace ob := ob.call hb
  replace sb := sb.call hb
  replace fr := fr.call hb
  replace low := gCall low hb
  clear hb
  clear n0
  have z2 : w1.heap.size < w2.heap.size := sb.lt
  have sb_0 := sb.at_ 0 rfl
  have sb_1 := sb.at_ 1 rfl
  have sb_2 := sb.at_ 2 rfl
  have sb_3 := sb.at_ 3 rfl
  have ob_0 := ob.at_ 0 rfl
  have ob_1 := ob.at_ 1 rfl
  have ob_2 := ob.at_ 2 rfl
  have ob_3 := ob.at_ 3 rfl
  have sb_f0 := sb.frozen 0
  have sb_f1 := sb.frozen 1
  have sb_f2 := sb.frozen 2
  have sb_f3 := sb.frozen 3
  have ob_f0 := ob.frozen 0
  have ob_f1 := ob.frozen 1
  have ob_f2 := ob.frozen 2
  have ob_f3 := ob.frozen 3
  have ne : w.heap.size ≠ w1.heap.size := by omega
  have ne' := ne.symm
  go_wp2_with fail
  refine bodyPost_ret (v := rowV (.slice A' l.length c') t.1 t.2.1 t.2.2) (by simp [results, Try.results15, go_sem, ob_0, ob_1, ob_2, ob_3]) rfl ⟨⟨_, _, rfl, ?_⟩, ?_⟩
  · refine Fr.ws (B := w.heap.size + 1) (C := w1.heap.size) ?_
    repeat (refine Fr.far ?_ (by dsimp only; omega) _)
    exact fr
  · repeat (refine gSet ?_ (by dsimp only; omega) _)
    exact low
end Go.Proofs.Ytekhcldjngegnaa
