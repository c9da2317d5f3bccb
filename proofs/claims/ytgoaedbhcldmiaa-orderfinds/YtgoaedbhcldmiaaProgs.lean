/-
Proved: words for programs (lists of lists of operations): a slice that reads as programs, the first error of programs, an argument that is programs. No walk. No condition.
-/
import Derived.Test.YtgoaedbhcldmiaaOps
namespace Go.Proofs.Ytgoaedbhcldmiaa
open Go.ChangeShapes Go.WideShapes Go.ChangeAt Go.RowKit Go.Joins

/-- The slice holds the programs. -/
structure Ps (w : World) (v : Value) (p : List (List Dd)) : Prop where
  ex : ∃ A c, v = .slice A p.length c ∧ p.length ≤ c ∧ c ≤ maxLen ∧ (0 < p.length → ∃ b o, A = some ⟨b, o, none⟩ ∧ b < w.heap.size ∧ ∀ (k : Nat) l, p[k]? = some l → ∃ A' c', w.cell? ⟨b, o + k, none⟩ = some (.slice A' l.length c') ∧ Ds w (.slice A' l.length c') l)
theorem Ps.call {w w' : World} {v : Value} {p : List (List Dd)} (h : Ps w v p) (hb : Below w.heap.size w w') : Ps w' v p := by
  obtain ⟨A, c, e, h1, h2, h3⟩ := h
  refine ⟨A, c, e, h1, h2, fun h0 => ?_⟩
  obtain ⟨b, o, eA, hlt, hl⟩ := h3 h0
  refine ⟨b, o, eA, Nat.lt_of_lt_of_le hlt hb.size, fun k ss hk => ?_⟩
  obtain ⟨A', c', k1, k2⟩ := hl k ss hk
  exact ⟨A', c', (hb.cell (p := ⟨b, o + k, none⟩) hlt).trans k1, k2.call hb⟩
theorem Ps.alloc {w : World} {v : Value} {p : List (List Dd)} (h : Ps w v p) (o : Obj) : Ps (w.alloc o) v p := h.call (gAlloc (Below.refl _ _) o)
theorem Ps.drew {w : World} {v : Value} {p : List (List Dd)} (h : Ps w v p) : Ps w.drew v p := h.call (Below.refl _ _).drew
theorem Ps.shape {w : World} {v : Value} {p : List (List Dd)} (h : Ps w v p) : ∃ A c, v = .slice A p.length c := by
  obtain ⟨A, c, e, _⟩ := h.ex
  exact ⟨A, c, e⟩
def IsProgs (w : World) (v : Value) : Prop := ∃ p, Ps w v p

/-- The first error of a node's operations, of its program, of programs. -/
def ownE (k : Int) : List Dd → Int
  | [] => 0
  | d :: r => if deedE d ≠ 0 then deedE d else if d.nd ≠ k then 3 else ownE k r
def progE (k : Int) (l : List Dd) : Int := if 20 < l.length then 2 else ownE k l
def listE : Int → List (List Dd) → Int
  | _, [] => 0
  | k, l :: r => if progE k l ≠ 0 then progE k l else listE (k + 1) r
def progsE (n s y b : Int) (p : List (List Dd)) : Int := if cfgB n s y b = false then 4 else if (p.length : Int) ≠ n then 3 else listE 0 p

theorem ownE_at {k : Int} {l : List Dd} {j : Nat} {d : Dd} (h : l[j]? = some d) : ownE k (l.drop j) = if deedE d ≠ 0 then deedE d else if d.nd ≠ k then 3 else ownE k (l.drop (j + 1)) := by
  obtain ⟨hk, rfl⟩ := List.getElem?_eq_some_iff.1 h
  rw [List.drop_eq_getElem_cons hk, ownE]
theorem listE_at {p : List (List Dd)} {j : Nat} {l : List Dd} {k : Int} (h : p[j]? = some l) : listE k (p.drop j) = if progE k l ≠ 0 then progE k l else listE (k + 1) (p.drop (j + 1)) := by
  obtain ⟨hk, rfl⟩ := List.getElem?_eq_some_iff.1 h
  rw [List.drop_eq_getElem_cons hk, listE]

/-! What is right of right programs. -/
theorem ownE_zero {k : Int} : ∀ {l : List Dd}, ownE k l = 0 ↔ ∀ d ∈ l, deedE d = 0 ∧ d.nd = k
  | [] => by simp [ownE]
  | d :: r => by
    have ih := ownE_zero (k := k) (l := r)
    unfold ownE
    by_cases h1 : deedE d = 0
    · rw [if_neg (by simpa using h1)]
      by_cases h2 : d.nd = k
      · rw [if_neg (by simpa using h2), ih]
        constructor
        · intro h e he
          rcases List.mem_cons.1 he with rfl | he
          · exact ⟨h1, h2⟩
          · exact h e he
        · intro h e he
          exact h e (by simp [he])
      · rw [if_pos h2]
        constructor
        · intro h; cases h
        · intro h; exact absurd (h d (by simp)).2 h2
    · rw [if_pos h1]
      constructor
      · intro h; exact absurd h h1
      · intro h; exact absurd (h d (by simp)).1 h1
theorem listE_zero : ∀ {p : List (List Dd)} {k : Int}, listE k p = 0 ↔ ∀ (j : Nat) l, p[j]? = some l → l.length ≤ 20 ∧ ∀ d ∈ l, deedE d = 0 ∧ d.nd = k + j
  | [], k => by simp [listE]
  | l :: r, k => by
    have ih := listE_zero (p := r) (k := k + 1)
    unfold listE
    have hp : progE k l = 0 ↔ l.length ≤ 20 ∧ ∀ d ∈ l, deedE d = 0 ∧ d.nd = k := by
      unfold progE
      by_cases c : 20 < l.length
      · rw [if_pos c]
        constructor
        · intro h; cases h
        · intro h; omega
      · rw [if_neg c, ownE_zero]
        exact ⟨fun h => ⟨by omega, h⟩, fun h => h.2⟩
    by_cases h1 : progE k l = 0
    · rw [if_neg (by simpa using h1), ih]
      constructor
      · intro h j m hm
        cases j with
        | zero =>
          simp at hm
          subst hm
          have := hp.1 h1
          simpa using this
        | succ j =>
          have := h j m (by simpa using hm)
          refine ⟨this.1, fun d hd => ?_⟩
          have := this.2 d hd
          exact ⟨this.1, by rw [this.2]; push_cast; omega⟩
      · intro h j m hm
        have := h (j + 1) m (by simpa using hm)
        refine ⟨this.1, fun d hd => ?_⟩
        have := this.2 d hd
        exact ⟨this.1, by rw [this.2]; push_cast; omega⟩
    · rw [if_pos h1]
      constructor
      · intro h; exact absurd h h1
      · intro h
        have := h 0 l (by simp)
        exact absurd (hp.2 (by simpa using this)) h1

/-! An argument that is programs. -/
theorem lists_of {W : World} : ∀ {css : List (List Value)}, (∀ c ∈ css, ∃ s, c = [s] ∧ IsDeeds W s) →
    ∃ p : List (List Dd), p.length = css.length ∧ ∀ (k : Nat) l, p[k]? = some l → ∃ A c, css[k]? = some [.slice A l.length c] ∧ Ds W (.slice A l.length c) l
  | [], _ => ⟨[], rfl, fun k t h => by simp at h⟩
  | c :: r, h => by
    obtain ⟨s, rfl, l, ds⟩ := h c (by simp)
    obtain ⟨p, h1, h2⟩ := lists_of (css := r) (fun d hd => h d (by simp [hd]))
    obtain ⟨A, cp, rfl⟩ : ∃ A c, s = .slice A l.length c := by obtain ⟨_, A, c, e, _⟩ := ds; exact ⟨A, c, e⟩
    refine ⟨l :: p, by simp [h1], fun k t hk => ?_⟩
    cases k with
    | zero =>
      simp only [List.getElem?_cons_zero, Option.some.injEq] at hk
      subst hk
      exact ⟨A, cp, rfl, ds⟩
    | succ k =>
      obtain ⟨A', c2, h3, h4⟩ := h2 k t (by simpa using hk)
      exact ⟨A', c2, by simpa using h3, h4⟩
theorem single_at : ∀ {css : List (List Value)} {k : Nat} {u : Value}, (∀ c ∈ css, c.length = 1) → css[k]? = some [u] → css.flatten[k]? = some u
  | [], k, u, _, h => by simp at h
  | d :: r, 0, u, _, h => by
    simp only [List.getElem?_cons_zero, Option.some.injEq] at h
    subst h
    rfl
  | d :: r, k + 1, u, hl, h => by
    have hd := hl d (by simp)
    rw [List.flatten_cons, List.getElem?_append_right (by omega), hd, Nat.add_sub_cancel]
    exact single_at (fun c hc => hl c (by simp [hc])) (by simpa using h)

section
variable {H : Type} {enc : TypeId × Value → H} {W : World} {base : Nat} {v : Value} {d : DataW H} {q : List MemPlace}
theorem cells_list : Try.prog.cellsOf 41 = 1 := by kernel_rfl

set_option maxRecDepth 10000 in
theorem openProgs (hv : Value.okWide Try.prog W .any base 27 v) (h : DataW.Trod enc Try.prog W 0 (fun _ => true) true 27 v d q) : IsProgs W v := by
  obtain ⟨css, sl, hcs⟩ := slice_value Try.underlying27 (by rw [cells_list]; omega) hv h
  have one : ∀ c ∈ css, ∃ s, c = [s] ∧ IsDeeds W s := fun c hc => by
    obtain ⟨_, m, y, hy⟩ := hcs c hc
    obtain ⟨s, css', e, sl', h'⟩ := slice_open Try.underlying41 (by rw [cells_deed]; omega) hy
    obtain ⟨l, l1, l2⟩ := deeds_of (css := css') (fun c hc => by
      obtain ⟨_, m, y, hy⟩ := h' c hc
      exact deed_of (flat_open 3 36 _ (by kernel_rfl) m c y hy))
    rw [cells_deed, l2, ← l1] at sl'
    exact ⟨s, e, l, ⟨sl'⟩⟩
  obtain ⟨p, h1, h2⟩ := lists_of one
  have hl : ∀ c ∈ css, c.length = 1 := fun c hc => by
    obtain ⟨s, rfl, _⟩ := one c hc
    rfl
  rw [cells_list] at sl
  obtain ⟨_, A, cp, rfl, g1, g2, g3⟩ := sl
  refine ⟨p, A, cp, by rw [h1], by omega, g2, fun h0 => ?_⟩
  obtain ⟨b, o, eA, hb, hc⟩ := g3 (by omega)
  refine ⟨b, o, eA, hb, fun k l hk => ?_⟩
  obtain ⟨A', c', h3, h4⟩ := h2 k l hk
  exact ⟨A', c', hc k _ (single_at hl h3), h4⟩
end
end Go.Proofs.Ytgoaedbhcldmiaa
