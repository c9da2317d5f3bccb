/-
Proved: words for slices of any flat elements (so many cells each): read, owned by the call, appended to, stored into. No condition but that the elements have their cells.
-/
import Derived.Test.YtcegjehoejgofaaStored
import Derived.Test.YtcegjehoejgofaaFlat
namespace Go.Proofs.Ytcegjehoejgofaa
open Go.ChangeShapes Go.WideShapes Go.ChangeAt Go.RowKit Go.Joins

/-- A kind of element: its cells, how many they are, its type. -/
structure El (α : Type) where
  F : α → List Value
  sz : Nat
  t : TypeId
  len : ∀ x, (F x).length = sz
  pos : 0 < sz
  one : ∀ x, ∀ u ∈ F x, u.oneCell' = true
  size : (Try.prog.info? t).map (·.size) = some sz

section
variable {α : Type} (E : El α)
def El.C (l : List α) : List Value := l.flatMap E.F
theorem El.C_length (l : List α) : (E.C l).length = l.length * E.sz := by
  induction l with
  | nil => simp [El.C]
  | cons x r ih =>
    simp only [El.C, List.flatMap_cons, List.length_append, List.length_cons] at *
    rw [ih, E.len, Nat.succ_mul, Nat.add_comm]
theorem El.C_append (a b : List α) : E.C (a ++ b) = E.C a ++ E.C b := List.flatMap_append
theorem El.C_single (x : α) : E.C [x] = E.F x := by simp [El.C]
theorem El.C_snoc (l : List α) (x : α) : E.C (l ++ [x]) = E.C l ++ E.F x := by rw [E.C_append, E.C_single]
theorem El.C_one (l : List α) : ∀ u ∈ E.C l, u.oneCell' = true := by
  intro u hu
  simp only [El.C, List.mem_flatMap] at hu
  obtain ⟨x, _, hx⟩ := hu
  exact E.one x u hx
theorem El.C_at {l : List α} {k : Nat} {x : α} (h : l[k]? = some x) (j : Nat) (hj : j < E.sz) : (E.C l)[k * E.sz + j]? = (E.F x)[j]? := by
  induction l generalizing k with
  | nil => simp at h
  | cons y r ih =>
    have hy := E.len y
    simp only [El.C, List.flatMap_cons] at *
    cases k with
    | zero =>
      simp at h
      subst h
      rw [List.getElem?_append_left (by omega), Nat.zero_mul, Nat.zero_add]
    | succ k =>
      rw [List.getElem?_append_right (by rw [hy, Nat.succ_mul]; omega), hy]
      have : (k + 1) * E.sz + j - E.sz = k * E.sz + j := by rw [Nat.succ_mul]; omega
      rw [this]
      exact ih (by simpa using h)

/-- The slice reads as this list. -/
def El.R (w : World) (v : Value) (l : List α) : Prop := Sl w w.heap.size E.sz v l.length (E.C l)
end

section
variable {α : Type} {E : El α} {w w' : World} {v : Value} {l : List α} {g : Nat}
theorem El.R.call (h : E.R w v l) (hb : Below w.heap.size w w') : E.R w' v l := Sl.call h hb
theorem El.R.alloc (h : E.R w v l) (o : Obj) : E.R (w.alloc o) v l := h.call (gAlloc (Below.refl _ _) o)
theorem El.R.drew (h : E.R w v l) : E.R w.drew v l := h.call (Below.refl _ _).drew
theorem El.R.drewN (h : E.R w v l) (n : Nat) : E.R (w.drewN n) v l := h.call (gDrewN (Below.refl _ _) n)
theorem El.R.shape (h : E.R w v l) : ∃ A c, v = .slice A l.length c := by
  obtain ⟨_, A, c, e, _⟩ := h
  exact ⟨A, c, e⟩
theorem El.R.nil (E : El α) (w : World) : E.R w (.slice none 0 0) [] := ⟨by simp [El.C], none, 0, rfl, Nat.le_refl _, Nat.zero_le _, fun h => absurd h (Nat.lt_irrefl 0)⟩
/-- The cells of an element, in a world that keeps what was there. -/
theorem El.R.at_ {b o B : Nat} {k : Nat} {x : α} (hc : ∀ j u, (E.C l)[j]? = some u → w.cell? ⟨b, o + j, none⟩ = some u) (hb : b < B) (low : Below B w w') (h : l[k]? = some x) (j : Nat) (u : Value) (hj : j < E.sz) (hu : (E.F x)[j]? = some u) :
    w'.cell? ⟨b, o + k * E.sz + j, none⟩ = some u := by
  refine (low.cell (p := ⟨b, o + k * E.sz + j, none⟩) hb).trans ?_
  rw [Nat.add_assoc]
  exact hc _ _ ((E.C_at h j hj).trans hu)

/-- The slice lies in block 'g', which is known whole and of which the elements are the first. -/
def El.Own (E : El α) (w : World) (g : Nat) (v : Value) (l : List α) : Prop :=
  ∃ cap cur, v = .slice (some ⟨g, 0, none⟩) l.length cap ∧ Box w g E.t cur ∧ l.length ≤ cap ∧ cap ≤ maxLen ∧ cur.size = cap * E.sz ∧ ∀ (q : Nat) (y : α), l[q]? = some y → ∀ r, r < E.sz → cur[q * E.sz + r]? = (E.F y)[r]?

theorem El.Own.lt (h : E.Own w g v l) : g < w.heap.size := by
  obtain ⟨_, _, _, hb, _⟩ := h
  exact hb.lt
theorem El.Own.call (h : E.Own w g v l) (hb : Below w.heap.size w w') : E.Own w' g v l := by
  obtain ⟨cap, cur, rfl, h1, h2⟩ := h
  exact ⟨cap, cur, rfl, h1.call hb, h2⟩
theorem El.Own.alloc (h : E.Own w g v l) (o : Obj) : E.Own (w.alloc o) g v l := h.call (gAlloc (Below.refl _ _) o)
theorem El.Own.drew (h : E.Own w g v l) : E.Own w.drew g v l := h
theorem El.Own.stored {x : Nat} (h : E.Own w g v l) (st : Stored w x w') (hne : g ≠ x) : E.Own w' g v l := by
  obtain ⟨cap, cur, rfl, h1, h2⟩ := h
  exact ⟨cap, cur, rfl, st.box h1 hne, h2⟩
theorem El.Own.grown {row : Option Nat} (h : E.Own w g v l) (hb : w.grownBy w' row) (hg : some g ≠ row) : E.Own w' g v l := by
  obtain ⟨cap, cur, rfl, h1, h2⟩ := h
  exact ⟨cap, cur, rfl, h1.grown hb hg, h2⟩
theorem El.Own.shape (h : E.Own w g v l) : ∃ c, v = .slice (some ⟨g, 0, none⟩) l.length c := by
  obtain ⟨c, _, e, _⟩ := h
  exact ⟨c, e⟩

theorem El.Own.row (h : E.Own w g v l) {base : Nat} (hg : base ≤ g) : w.ownsRow base E.t E.sz v l.length (E.C l) := by
  obtain ⟨cap, cur, rfl, hb, hn, hm, hs, ht⟩ := h
  refine ⟨E.C_length l, .inr ⟨g, cap, cur, rfl, hg, hb, hn, hm, hs, ?_⟩⟩
  apply List.ext_getElem?
  intro j
  have hp := E.pos
  have hle : l.length * E.sz ≤ cap * E.sz := Nat.mul_le_mul_right _ hn
  by_cases hj : j < l.length * E.sz
  · rw [List.getElem?_take_of_lt hj, Array.getElem?_toList]
    have hq : j / E.sz < l.length := Nat.div_lt_of_lt_mul (by rw [Nat.mul_comm]; exact hj)
    have hr : j % E.sz < E.sz := Nat.mod_lt _ hp
    have hjq : j / E.sz * E.sz + j % E.sz = j := by rw [Nat.mul_comm]; exact Nat.div_add_mod j E.sz
    have h1 := ht (j / E.sz) l[j / E.sz] (List.getElem?_eq_getElem hq) (j % E.sz) hr
    have h2 := E.C_at (List.getElem?_eq_getElem hq) (j % E.sz) hr
    rw [hjq] at h1 h2
    rw [h1, h2]
  · rw [List.getElem?_take_eq_none (by omega), List.getElem?_eq_none (by rw [E.C_length]; omega)]
theorem El.Own.of {base n : Nat} (h : w.ownsRow base E.t E.sz v n (E.C l)) (hn : n = l.length) (h0 : 0 < l.length) : ∃ g, base ≤ g ∧ E.Own w g v l := by
  subst hn
  obtain ⟨_, h2⟩ := h
  rcases h2 with ⟨_, e⟩ | ⟨g, cap, cur, rfl, hg, hh, hn, hm, hs, ht⟩
  · omega
  · refine ⟨g, hg, cap, cur, rfl, hh, hn, hm, hs, fun q y hq r hr => ?_⟩
    have hj := (List.getElem?_eq_some_iff.1 hq).1
    have hlt : q * E.sz + r < l.length * E.sz := by
      have : (q + 1) * E.sz ≤ l.length * E.sz := Nat.mul_le_mul_right _ hj
      rw [Nat.succ_mul] at this
      omega
    rw [← E.C_at hq r hr, ← ht, List.getElem?_take_of_lt hlt, Array.getElem?_toList]
theorem El.Own.r (h : E.Own w g v l) : E.R w v l := Sl.ofOwn (h.row (Nat.le_refl g))

/-- Cells stored one by one into a block that is known whole. -/
theorem setCells_box {t : TypeId} : ∀ (vs : List Value) (o : Nat) {w : World} {cur : Array Value}, Box w g t cur → o + vs.length ≤ cur.size →
    ∃ cur', Box (w.setCells g o vs) g t cur' ∧ cur'.size = cur.size ∧ (∀ q, q < o ∨ o + vs.length ≤ q → cur'[q]? = cur[q]?) ∧ (∀ j, j < vs.length → cur'[o + j]? = vs[j]?) ∧ Stored w g (w.setCells g o vs)
  | [], o, w, cur, h, _ => ⟨cur, h, rfl, fun _ _ => rfl, fun j hj => absurd hj (Nat.not_lt_zero j), ⟨fun _ => rfl, rfl, fun h _ => h⟩⟩
  | v :: vs, o, w, cur, h, hl => by
    rw [List.length_cons] at hl
    obtain ⟨cur', h1, h2, h3, h4, h5⟩ := setCells_box vs (o + 1) (h.set o v) (by simp; omega)
    refine ⟨cur', h1, by rw [h2]; simp, fun q hq => ?_, fun j hj => ?_, (Stored.cell1 w ⟨g, o, none⟩ v).trans h5⟩
    · rw [List.length_cons] at hq
      rw [h3 q (by omega), Array.getElem?_setIfInBounds, if_neg (by omega)]
    · rw [List.length_cons] at hj
      cases j with
      | zero =>
        rw [Nat.add_zero, h3 o (by omega), Array.getElem?_setIfInBounds, if_pos rfl, if_pos (by omega)]
        rfl
      | succ j =>
        have := h4 j (by omega)
        rw [show o + (j + 1) = o + 1 + j by omega, this]
        rfl

/-- An element stored into a slice of one's own. -/
theorem El.Own.put (h : E.Own w g v l) (k : Nat) (x : α) (hk : k < l.length) : E.Own (w.setCells g (k * E.sz) (E.F x)) g v (l.set k x) ∧ Stored w g (w.setCells g (k * E.sz) (E.F x)) := by
  obtain ⟨cap, cur, rfl, hb, hn, hm, hs, ht⟩ := h
  have hx := E.len x
  have fit : ∀ q, q < cap → q * E.sz + E.sz ≤ cap * E.sz := fun q hq => by
    have : (q + 1) * E.sz ≤ cap * E.sz := Nat.mul_le_mul_right _ hq
    rwa [Nat.succ_mul] at this
  obtain ⟨cur', h1, h2, h3, h4, h5⟩ := setCells_box (E.F x) (k * E.sz) hb (by rw [hx, hs]; exact fit k (by omega))
  refine ⟨⟨cap, cur', by rw [List.length_set], h1, by rw [List.length_set]; exact hn, hm, by rw [h2, hs], fun q y hy r hr => ?_⟩, h5⟩
  by_cases e : q = k
  · subst e
    rw [List.getElem?_set_self hk] at hy
    cases hy
    exact h4 r (by rw [hx]; exact hr)
  · rw [List.getElem?_set_ne (fun h => e h.symm)] at hy
    rw [h3 _ ?_]
    · exact ht q y hy r hr
    · rcases Nat.lt_or_gt_of_ne e with c | c
      · have : (q + 1) * E.sz ≤ k * E.sz := Nat.mul_le_mul_right _ c
        rw [Nat.succ_mul] at this
        omega
      · have : (k + 1) * E.sz ≤ q * E.sz := Nat.mul_le_mul_right _ c
        rw [Nat.succ_mul] at this
        omega
theorem El.Own.there (h : E.Own w g v l) {k : Nat} (hk : k < l.length) (n : Nat) (hn : n = E.sz) : w.there g (k * E.sz) n := by
  subst hn
  obtain ⟨cap, cur, rfl, hb, h1, hm, hs, ht⟩ := h
  intro j hj
  refine ⟨?_, hb.frozen _⟩
  rw [hb.cell, ht k _ (List.getElem?_eq_getElem hk) j hj, List.getElem?_eq_getElem (by rw [E.len]; exact hj)]
  rfl
theorem wpList_put {ops : Array Oper} {rest : List Oper} {op : Oper} {a : Act} {Q : Exit → Act → World → Prop} (hgd : op.guard = none) (x y : Operand) (ho : op.op = .store E.t x y)
    (k : Nat) (X : α) (own : E.Own w g v l) (hk : k < l.length) (hx : a.eval x = .pointer (some ⟨g, k * E.sz, none⟩)) (hy : a.eval y = .agg (E.F X).toArray)
    (h : ∀ w', E.Own w' g v (l.set k X) → Stored w g w' → wpList Try.prog ops Q rest (a.put op.dst undef) w') : wpList Try.prog ops Q (op :: rest) a w := by
  refine wpList_store_mid hgd E.t x y ho g (k * E.sz) (E.F X).toArray hx hy (own.there hk _ (by simp [E.len])) (by rw [E.size]; simp [E.len]) (all_oneCell_toArray (E.one X)) ?_
  obtain ⟨h1, h2⟩ := own.put k X hk
  exact h _ h1 h2
end
end Go.Proofs.Ytcegjehoejgofaa
