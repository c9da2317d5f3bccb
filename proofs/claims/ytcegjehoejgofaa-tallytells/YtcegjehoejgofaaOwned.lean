/-
Proved: rows and ints that a call owns, from world to world, beside blocks of another type. No condition.
-/
import Derived.Test.YtcegjehoejgofaaSorted
import Derived.Laws.MakeOwn
namespace Go.Proofs.Ytcegjehoejgofaa
open Go.ChangeShapes Go.WideShapes Go.ChangeAt Go.RowKit Go.Joins

/-! A row that a call owns, and other blocks. -/
theorem own_ne {w : World} {base size n g : Nat} {e t : TypeId} {v : Value} {xs : List Value} {cs : Array Value} (h : w.ownsRow base e size v n xs) (b : Box w g t cs) (ht : t ≠ e) : some g ≠ v.ownBlock := by
  rcases h.2 with ⟨rfl, _⟩ | ⟨g', cap, cur, rfl, _, hh, _⟩
  · simp [Value.ownBlock]
  · simp only [Value.ownBlock]
    intro e'
    cases e'
    unfold Box at b
    rw [hh] at b
    simp only [Option.some.injEq, Obj.cells.injEq] at b
    exact ht b.2.1.symm
theorem own_stored {w w' : World} {base size n g : Nat} {e : TypeId} {v : Value} {xs : List Value} (h : w.ownsRow base e size v n xs) (st : Stored w g w') (hne : some g ≠ v.ownBlock) : w'.ownsRow base e size v n xs := by
  refine ⟨h.1, ?_⟩
  rcases h.2 with hn | ⟨g', cap, cur, rfl, hb, hgg, rest⟩
  · exact .inl hn
  · exact .inr ⟨g', cap, cur, rfl, hb, (st.heap (fun e => hne (by simp [Value.ownBlock, e]))).trans hgg, rest⟩

section
variable {w w' : World} {g : Nat} {v : Value} {l : List Int}
theorem OwnI.call (h : OwnI w g v l) (hb : Below w.heap.size w w') : OwnI w' g v l := by
  obtain ⟨cap, cur, rfl, h1, h2⟩ := h
  exact ⟨cap, cur, rfl, h1.call hb, h2⟩
theorem OwnI.alloc (h : OwnI w g v l) (o : Obj) : OwnI (w.alloc o) g v l := h.call (gAlloc (Below.refl _ _) o)
theorem OwnI.sl (h : OwnI w g v l) : Sl w w.heap.size 1 v l.length (l.map (Value.int .i64)) := Sl.ofOwn (h.row (Nat.le_refl g))
theorem OwnI.ne {base size n : Nat} {e : TypeId} {u : Value} {xs : List Value} (h : OwnI w g v l) (row : w.ownsRow base e size u n xs) (ht : 3 ≠ e) : some g ≠ u.ownBlock := by
  obtain ⟨_, _, _, hb, _⟩ := h
  exact own_ne row hb ht
theorem OwnI.grown {row : Option Nat} (h : OwnI w g v l) (hb : w.grownBy w' row) (hg : some g ≠ row) : OwnI w' g v l := by
  obtain ⟨cap, cur, rfl, h1, h2⟩ := h
  exact ⟨cap, cur, rfl, h1.grown hb hg, h2⟩
theorem OwnI.far (h : OwnI w g v l) {p : Addr} (hp : g ≠ p.block) (u : Value) : OwnI (w.setCell p u) g v l := by
  obtain ⟨cap, cur, rfl, h1, h2⟩ := h
  exact ⟨cap, cur, rfl, h1.far hp u, h2⟩
/-- A store into the ints leaves a row of another type. -/
theorem OwnI.row_far {base size n : Nat} {e : TypeId} {u : Value} {xs : List Value} (h : OwnI w g v l) (row : w.ownsRow base e size u n xs) (ht : 3 ≠ e) (k : Nat) (y : Value) : (w.setCell ⟨g, k, none⟩ y).ownsRow base e size u n xs :=
  own_stored row (Stored.cell1 w ⟨g, k, none⟩ y) (h.ne row ht)
end

theorem info_int1 : (Try.prog.info? 3).map (fun i => (i.zero, i.size, i.bytes)) = some (some (.int .i64 0), 1, 8) := by kernel_rfl
end Go.Proofs.Ytcegjehoejgofaa
