/-
Proved: words for slices of any flat elements that grow side by side, each element in the slice of its key (its first cell). No walk. Condition: the first cell is the key.
-/
import Derived.Test.YtcegjehoejgofaaTolds
import Derived.Test.YtcegjehoejgofaaOwned
namespace Go.Proofs.Ytcegjehoejgofaa
open Go.ChangeShapes Go.WideShapes Go.ChangeAt Go.RowKit Go.Joins

/-- A kind of element whose first cell is a key. -/
structure KeyEl (α : Type) where
  el : El α
  key : α → Int
  first : ∀ x, (el.F x)[0]? = some (.int .i64 (key x))
section
variable {α : Type} (E : KeyEl α)
/-- The elements of key k. -/
def KeyEl.on (k : Nat) (l : List α) : List α := l.filter fun x => E.key x == (k : Int)
variable {E}
theorem KeyEl.on_key {k : Nat} {P : List α} {c : α} (h : c ∈ E.on k P) : E.key c = k := by
  simpa using (List.mem_filter.1 h).2
theorem KeyEl.on_same {k : Nat} (P : List α) {c : α} (h : E.key c = (k : Int)) : E.on k (P ++ [c]) = E.on k P ++ [c] := by
  simp [KeyEl.on, List.filter_append, h]
theorem KeyEl.on_other {k : Nat} (P : List α) {c : α} (h : E.key c ≠ (k : Int)) : E.on k (P ++ [c]) = E.on k P := by
  simp [KeyEl.on, List.filter_append, h]
theorem KeyEl.on_length (k : Nat) (P : List α) : (E.on k P).length ≤ P.length := List.length_filter_le _ _
end

/-- The slices, key by key. -/
structure Side {α : Type} (E : KeyEl α) (w : World) (base n : Nat) (us : List Value) (P : List α) : Prop where
  len : us.length = n
  own : ∀ (k : Nat) u, us[k]? = some u → w.ownsRow base E.el.t E.el.sz u (E.on k P).length (E.el.C (E.on k P)) ∧ (u = .slice none 0 0 ∨ E.on k P ≠ [])
theorem Side.start {α : Type} (E : KeyEl α) (w : World) (base n : Nat) : Side E w base n (List.replicate n (.slice none 0 0)) [] := by
  refine ⟨by simp, fun k u hu => ?_⟩
  have : u = .slice none 0 0 := List.eq_of_mem_replicate (List.mem_of_getElem? hu)
  subst this
  exact ⟨World.ownsRow_nil _ _ _ _, .inl rfl⟩
section
variable {α : Type} {E : KeyEl α} {w w' : World} {base n : Nat} {us : List Value} {P : List α}
theorem Side.call (h : Side E w base n us P) (hb : Below w.heap.size w w') : Side E w' base n us P :=
  ⟨h.len, fun k u hu => ⟨own_below (h.own k u hu).1 hb, (h.own k u hu).2⟩⟩
theorem Side.alloc (h : Side E w base n us P) (o : Obj) : Side E (w.alloc o) base n us P := h.call (gAlloc (Below.refl _ _) o)
theorem Side.drew (h : Side E w base n us P) : Side E w.drew base n us P := h.call (Below.refl _ _).drew
theorem Side.stored {g : Nat} {t : TypeId} {cs : Array Value} (h : Side E w base n us P) (b : Box w g t cs) (ht : t ≠ E.el.t) (st : Stored w g w') : Side E w' base n us P :=
  ⟨h.len, fun k u hu => ⟨own_stored (h.own k u hu).1 st (own_ne (h.own k u hu).1 b ht), (h.own k u hu).2⟩⟩
/-- The key of the first element that a slice holds. -/
theorem Side.first (h : Side E w base n us P) {k g : Nat} {u : Value} (hu : us[k]? = some u) (hg : u.ownBlock = some g) : w.cell? ⟨g, 0, none⟩ = some (.int .i64 k) := by
  obtain ⟨h1, h2⟩ := h.own k u hu
  rcases h2 with rfl | h2
  · simp [Value.ownBlock] at hg
  · have e : (⟨g, 0, none⟩ : Addr).add 0 = ⟨g, 0, none⟩ := by simp [Addr.add]
    rw [← e]
    refine h1.cells hg 0 _ ?_
    cases hl : E.on k P with
    | nil => exact absurd hl h2
    | cons c r =>
      have hc : E.key c = k := KeyEl.on_key (P := P) (by rw [hl]; simp)
      have := E.el.C_at (l := c :: r) (k := 0) (x := c) rfl 0 E.el.pos
      simp only [Nat.zero_mul, Nat.zero_add] at this
      rw [this, E.first, hc]
/-- One element more. -/
theorem Side.push (h : Side E w base n us P) {k : Nat} {u v' : Value} (hu : us[k]? = some u) {c : α} (hc : E.key c = (k : Int))
    (own : w'.ownsRow base E.el.t E.el.sz v' ((E.on k P).length + 1) (E.el.C (E.on k P) ++ E.el.F c)) (grow : w.grownBy w' u.ownBlock) : Side E w' base n (us.set k v') (P ++ [c]) := by
  have hk := (List.getElem?_eq_some_iff.1 hu).1
  refine ⟨by rw [List.length_set]; exact h.len, fun j z hz => ?_⟩
  by_cases e : j = k
  · subst e
    rw [List.getElem?_set_self hk] at hz
    cases hz
    rw [KeyEl.on_same P hc, E.el.C_snoc, List.length_append]
    exact ⟨own, .inr (by simp)⟩
  · rw [List.getElem?_set_ne (fun h => e h.symm)] at hz
    rw [KeyEl.on_other P (by rw [hc]; omega)]
    refine ⟨(h.own j z hz).1.kept grow ?_, (h.own j z hz).2⟩
    cases hzb : z.ownBlock with
    | none => exact .inl rfl
    | some g =>
      refine .inr fun e' => ?_
      have a1 := h.first hz hzb
      have a2 := h.first hu e'.symm
      rw [a1] at a2
      simp at a2
      omega
theorem Side.shape (h : Side E w base n us P) {k : Nat} {u : Value} (hu : us[k]? = some u) : ∃ A c, u = .slice A (E.on k P).length c := own_shape (h.own k u hu).1
/-- What a caller may read. -/
theorem Side.rr (h : Side E w base n us P) {g : Nat} {t : TypeId} (hb : Box w g t us.toArray) (hn : n ≤ maxLen) : E.el.RR w (.slice (some ⟨g, 0, none⟩) n n) ((List.range n).map fun k => E.on k P) := by
  have hl : ((List.range n).map fun k => E.on k P).length = n := by simp
  refine ⟨some ⟨g, 0, none⟩, n, by rw [hl], by rw [hl]; exact Nat.le_refl _, hn, fun _ => ⟨g, 0, rfl, hb.lt, fun k l hk => ?_⟩⟩
  have hkn : k < n := by have := (List.getElem?_eq_some_iff.1 hk).1; rwa [hl] at this
  have e : ((List.range n).map fun k => E.on k P)[k]? = some (E.on k P) := by simp [hkn]
  rw [e] at hk
  cases hk
  have hu : us[k]? = some (us[k]'(by rw [h.len]; exact hkn)) := List.getElem?_eq_getElem _
  generalize us[k]'(by rw [h.len]; exact hkn) = u at hu
  obtain ⟨A, c, rfl⟩ := h.shape hu
  refine ⟨A, c, ?_, Sl.ofOwn (h.own k _ hu).1⟩
  rw [Nat.zero_add, hb.cell, List.getElem?_toArray]
  exact hu
end

/-- Observations by their nodes. -/
def keyT : KeyEl Td where
  el := elT
  key := fun x => x.d.nd
  first := fun _ => rfl
end Go.Proofs.Ytcegjehoejgofaa
