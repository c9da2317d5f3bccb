/-
Proved: slices.Sort of at most eight ints that a call owns puts them in order, and changes nothing else. Condition: the slice lies in a block that is known whole.
-/
import Derived.Test.YtcegjehoejgofaaStored
import Derived.StillTailTactics
namespace Go.Proofs.Ytcegjehoejgofaa
open Go.ChangeShapes Go.WideShapes Go.ChangeAt Go.RowKit Go.Joins

/-- The slice lies in block 'g', which is known whole and of which the ints are the first. -/
def OwnI (w : World) (g : Nat) (v : Value) (l : List Int) : Prop :=
  ∃ cap cur, v = .slice (some ⟨g, 0, none⟩) l.length cap ∧ Box w g 3 cur ∧ l.length ≤ cap ∧ cap ≤ maxLen ∧ cur.size = cap * 1 ∧ ∀ (q : Nat) (y : Int), l[q]? = some y → cur[q]? = some (.int .i64 y)

section
variable {w w' : World} {g : Nat} {v : Value} {l : List Int}
theorem OwnI.lt (h : OwnI w g v l) : g < w.heap.size := by
  obtain ⟨_, _, _, hb, _⟩ := h
  exact hb.lt
theorem OwnI.drew (h : OwnI w g v l) : OwnI w.drew g v l := h
theorem OwnI.at_ (h : OwnI w g v l) {q : Nat} {y : Int} (hq : l[q]? = some y) : w.cell? ⟨g, q, none⟩ = some (.int .i64 y) := by
  obtain ⟨cap, cur, rfl, hb, _, _, _, ht⟩ := h
  exact (hb.cell q).trans (ht q y hq)
theorem OwnI.free (h : OwnI w g v l) (q : Nat) : w.frozen? ⟨g, q, none⟩ = false := by
  obtain ⟨cap, cur, rfl, hb, _, _, _, ht⟩ := h
  exact hb.frozen q
theorem OwnI.set (h : OwnI w g v l) (k : Nat) (y : Int) : OwnI (w.setCell ⟨g, k, none⟩ (.int .i64 y)) g v (l.set k y) := by
  obtain ⟨cap, cur, rfl, hb, hn, hm, hs, ht⟩ := h
  refine ⟨cap, _, by rw [List.length_set], hb.set k (.int .i64 y), by rw [List.length_set]; exact hn, hm, by simpa using hs, fun q z hz => ?_⟩
  rw [Array.getElem?_setIfInBounds]
  by_cases e : k = q
  · subst e
    have hk : k < l.length := by
      have := (List.getElem?_eq_some_iff.1 hz).1
      simpa using this
    rw [List.getElem?_set_self hk] at hz
    cases hz
    rw [if_pos rfl, if_pos (by omega)]
  · rw [if_neg e]
    rw [List.getElem?_set_ne e] at hz
    exact ht q z hz
theorem OwnI.shape (h : OwnI w g v l) : ∃ c, v = .slice (some ⟨g, 0, none⟩) l.length c ∧ l.length ≤ c := by
  obtain ⟨c, _, e, _, h1, _⟩ := h
  exact ⟨c, e, h1⟩
theorem OwnI.row (h : OwnI w g v l) {base : Nat} (hg : base ≤ g) : w.ownsRow base 3 1 v l.length (l.map (Value.int .i64)) := by
  obtain ⟨cap, cur, rfl, hb, hn, hm, hs, ht⟩ := h
  refine ⟨by rw [List.length_map]; omega, .inr ⟨g, cap, cur, rfl, hg, hb, hn, hm, hs, ?_⟩⟩
  apply List.ext_getElem?
  intro j
  rw [Nat.mul_one]
  by_cases hj : j < l.length
  · rw [List.getElem?_take_of_lt hj, Array.getElem?_toList, ht j _ (List.getElem?_eq_getElem hj), List.getElem?_map, List.getElem?_eq_getElem hj]
    rfl
  · rw [List.getElem?_take_eq_none (by omega), List.getElem?_eq_none (by rw [List.length_map]; omega)]
theorem OwnI.of {base : Nat} (h : w.ownsRow base 3 1 v l.length (l.map (Value.int .i64))) (h0 : 0 < l.length) : ∃ g, base ≤ g ∧ OwnI w g v l := by
  obtain ⟨_, h2⟩ := h
  rcases h2 with ⟨_, e⟩ | ⟨g, cap, cur, rfl, hg, hh, hn, hm, hs, ht⟩
  · omega
  · refine ⟨g, hg, cap, cur, rfl, hh, hn, hm, hs, fun q y hq => ?_⟩
    have hj := (List.getElem?_eq_some_iff.1 hq).1
    rw [Nat.mul_one] at ht
    rw [← Array.getElem?_toList, ← List.getElem?_take_of_lt hj, ht, List.getElem?_map, hq]
    rfl
theorem Stored.refl (w : World) (g : Nat) : Stored w g w := ⟨fun _ => rfl, rfl, fun h _ => h⟩
theorem Stored.drew (h : Stored w g w') : Stored w g w'.drew := ⟨h.heap, h.size, fun b hB => (h.low b hB).drew⟩
theorem Stored.drewN (h : Stored w g w') (n : Nat) : Stored w g (w'.drewN n) := ⟨h.heap, h.size, fun b hB => let k := h.low b hB; ⟨k.os, k.tape, k.output, k.size, k.block⟩⟩
theorem OwnI.drewN (h : OwnI w g v l) (n : Nat) : OwnI (w.drewN n) g v l := h
theorem Stored.cellTo (h : Stored w g w') (k : Nat) (x : Value) : Stored w g (w'.setCell ⟨g, k, none⟩ x) := h.trans (Stored.cell1 w' ⟨g, k, none⟩ x)
end

/-! Lists in order. -/
abbrev UpI (l : List Int) : Prop := l.Pairwise (· ≤ ·)
/-- The first k are in order but for 'x', which is to go in at j or ahead of it. -/
structure Mov (l : List Int) (k j : Nat) (xs a : List Int) (x : Int) (b c : List Int) : Prop where
  all : xs = a ++ x :: (b ++ c)
  perm : xs.Perm l
  la : a.length = j
  lb : j + b.length = k
  up : UpI (a ++ b)
  le : ∀ y ∈ b, x ≤ y

theorem Mov.start {l xs : List Int} {k : Nat} {x : Int} (hp : xs.Perm l) (hu : UpI (xs.take k)) (hx : xs[k]? = some x) : Mov l k k xs (xs.take k) x [] (xs.drop (k + 1)) := by
  have hk := (List.getElem?_eq_some_iff.1 hx).1
  have e1 : xs.drop k = x :: xs.drop (k + 1) := by
    rw [List.drop_eq_getElem_cons hk]
    congr 1
    exact (List.getElem?_eq_some_iff.1 hx).2
  refine ⟨?_, hp, by rw [List.length_take]; omega, rfl, by simpa using hu, by simp⟩
  rw [List.nil_append, ← e1, List.take_append_drop]

theorem Mov.step {l xs a b c : List Int} {k j : Nat} {x y : Int} (h : Mov l k (j + 1) xs (a ++ [y]) x b c) (hlt : x < y) : Mov l k j ((xs.set (j + 1) y).set j x) a x (y :: b) c := by
  obtain ⟨rfl, hp, la, lb, up, le⟩ := h
  have hj : a.length = j := by simpa using la
  have e : ((a ++ [y] ++ x :: (b ++ c)).set (j + 1) y).set j x = a ++ x :: (y :: b ++ c) := by
    subst hj
    simp
  rw [e]
  refine ⟨rfl, ?_, hj, by simp; omega, by simpa using up, ?_⟩
  · refine List.Perm.trans ?_ hp
    rw [List.append_assoc]
    exact List.Perm.append_left _ (List.Perm.swap y x _)
  · intro z hz
    rcases List.mem_cons.1 hz with rfl | hz
    · omega
    · exact le z hz

theorem Mov.at_x {l xs a b c : List Int} {k j : Nat} {x : Int} (h : Mov l k j xs a x b c) : xs[j]? = some x := by
  rw [h.all, List.getElem?_append_right (by rw [h.la]; omega), h.la, Nat.sub_self]
  rfl
theorem Mov.at_y {l xs a b c : List Int} {k j : Nat} {x y : Int} (h : Mov l k (j + 1) xs (a ++ [y]) x b c) : xs[j]? = some y := by
  have hj : a.length = j := by simpa using h.la
  rw [h.all, List.append_assoc, List.getElem?_append_right (by omega), hj, Nat.sub_self]
  rfl

theorem Mov.up_end {l xs a b c : List Int} {k j : Nat} {x : Int} (h : Mov l k j xs a x b c) (hl : ∀ y ∈ a, y ≤ x) : UpI (xs.take (k + 1)) ∧ xs.Perm l := by
  obtain ⟨rfl, hp, la, lb, up, le⟩ := h
  refine ⟨?_, hp⟩
  have e : (a ++ x :: (b ++ c)).take (k + 1) = a ++ x :: b := by
    rw [show a ++ x :: (b ++ c) = (a ++ x :: b) ++ c by simp, List.take_left' (by simp; omega)]
  rw [e]
  obtain ⟨u1, u2, u3⟩ := List.pairwise_append.1 up
  refine List.pairwise_append.2 ⟨u1, List.pairwise_cons.2 ⟨le, u2⟩, fun y hy z hz => ?_⟩
  rcases List.mem_cons.1 hz with rfl | hz
  · exact hl y hy
  · exact u3 y hy z hz

theorem Mov.le_all {l xs a b c : List Int} {k j : Nat} {x y : Int} (h : Mov l k (j + 1) xs (a ++ [y]) x b c) (hy : y ≤ x) : ∀ z ∈ a ++ [y], z ≤ x := by
  intro z hz
  have up := (List.pairwise_append.1 h.up).1
  obtain ⟨_, _, u3⟩ := List.pairwise_append.1 up
  rcases List.mem_append.1 hz with hz | hz
  · exact Int.le_trans (u3 z hz y (by simp)) hy
  · simp at hz; subst hz; exact hy






/-! Two lists in order with the same members are one. -/
theorem up_unique : ∀ {a b : List Int}, UpI a → UpI b → a.Perm b → a = b
  | [], b, _, _, h => (List.Perm.nil_eq h)
  | x :: a, b, ha, hb, h => by
    cases b with
    | nil => exact absurd h.length_eq (by simp)
    | cons y b =>
      obtain ⟨h1, h2⟩ := List.pairwise_cons.1 ha
      obtain ⟨k1, k2⟩ := List.pairwise_cons.1 hb
      have e : x = y := by
        have m1 : x ∈ y :: b := h.mem_iff.1 (by simp)
        have m2 : y ∈ x :: a := h.mem_iff.2 (by simp)
        rcases List.mem_cons.1 m1 with e | m1
        · exact e
        · rcases List.mem_cons.1 m2 with e | m2
          · exact e.symm
          · have := h1 y m2
            have := k1 x m1
            omega
      subst e
      rw [up_unique h2 k2 ((List.perm_cons x).1 h)]
end Go.Proofs.Ytcegjehoejgofaa
