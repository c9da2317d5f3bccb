/-
Proved: what is known of a cache that can be read. No condition.
-/
import Derived.Test.YtmodajmjmdigfaaRowOpen
import Derived.Test.YtmodajmjmdigfaaCache
namespace Go.Proofs.Ytmodajmjmdigfaa
open Go.ChangeShapes Go.WideShapes Go.ChangeAt Go.RowKit Go.Joins

def IsCache (w : World) (v : Value) : Prop := ∃ ss, Cs w v ss

theorem flatten_at {α : Type} {n : Nat} : ∀ {css : List (List α)} {k : Nat} {c : List α}, (∀ c ∈ css, c.length = n) → css[k]? = some c → ∀ j, j < n → css.flatten[k * n + j]? = c[j]?
  | [], k, c, _, h, j, hj => by simp at h
  | d :: r, 0, c, hl, h, j, hj => by
    simp only [List.getElem?_cons_zero, Option.some.injEq] at h
    subst h
    have := hl d (by simp)
    rw [List.flatten_cons, Nat.zero_mul, Nat.zero_add, List.getElem?_append_left (by omega)]
  | d :: r, k + 1, c, hl, h, j, hj => by
    have hd := hl d (by simp)
    rw [List.flatten_cons, List.getElem?_append_right (by rw [hd, Nat.succ_mul]; omega), hd, show (k + 1) * n + j - n = k * n + j by rw [Nat.succ_mul]; omega]
    exact flatten_at (fun c hc => hl c (by simp [hc])) (by simpa using h) j hj

theorem rows_of {W : World} : ∀ {css : List (List Value)}, (∀ c ∈ css, ∃ s l a b c', c = [s, .bool a, .bool b, .bool c'] ∧ Ws W s l) →
    ∃ ss : List St, ss.length = css.length ∧ ∀ (k : Nat) t, ss[k]? = some t → ∃ A c, css[k]? = some [.slice A t.l.length c, .bool t.a, .bool t.b, .bool t.c] ∧ Ws W (.slice A t.l.length c) t.l
  | [], _ => ⟨[], rfl, fun k t h => by simp at h⟩
  | c :: r, h => by
    obtain ⟨s, l, a, b, c', rfl, ws⟩ := h c (by simp)
    obtain ⟨ss, h1, h2⟩ := rows_of (css := r) (fun d hd => h d (by simp [hd]))
    obtain ⟨A, cp, rfl⟩ : ∃ A c, s = .slice A l.length c := by obtain ⟨_, A, c, e, _⟩ := ws; exact ⟨A, c, e⟩
    refine ⟨⟨l, a, b, c'⟩ :: ss, by simp [h1], fun k t hk => ?_⟩
    cases k with
    | zero =>
      simp only [List.getElem?_cons_zero, Option.some.injEq] at hk
      subst hk
      exact ⟨A, cp, rfl, ws⟩
    | succ k =>
      obtain ⟨A', c2, h3, h4⟩ := h2 k t (by simpa using hk)
      exact ⟨A', c2, by simpa using h3, h4⟩

section
variable {H : Type} {enc : TypeId × Value → H} {W : World} {base : Nat} {v : Value} {d : DataW H} {p : List MemPlace}
theorem cs_of {css : List (List Value)} (sl : Sl W W.heap.size 4 v css.length css.flatten) (hcs : ∀ c ∈ css, ∃ m y, DataW.trod enc Try.prog W 0 (fun _ => true) true m 26 c = some y) : IsCache W v := by
  obtain ⟨ss, h1, h2⟩ := rows_of (W := W) (css := css) (fun c hc => by
    obtain ⟨m, y, hy⟩ := hcs c hc
    exact row_trod hy)
  have hl : ∀ c ∈ css, c.length = 4 := fun c hc => by
    obtain ⟨m, y, hy⟩ := hcs c hc
    obtain ⟨s, l, a, b, c', rfl, _⟩ := row_trod hy
    rfl
  obtain ⟨_, A, cp, rfl, g1, g2, g3⟩ := sl
  refine ⟨ss, A, cp, by rw [h1], by omega, g2, fun h0 => ?_⟩
  obtain ⟨b, o, eA, hb, hc⟩ := g3 (by omega)
  refine ⟨b, o, eA, hb, ⟨fun k t hk => ?_⟩⟩
  obtain ⟨A', c', h3, h4⟩ := h2 k t hk
  have f : ∀ j u, j < 4 → [Value.slice A' t.l.length c', .bool t.a, .bool t.b, .bool t.c][j]? = some u → W.cell? ⟨b, o + k * 4 + j, none⟩ = some u := fun j u hj hu => by
    rw [Nat.add_assoc]
    exact hc _ _ ((flatten_at hl h3 j hj).trans hu)
  exact ⟨A', c', ⟨f 0 _ (by omega) rfl, f 1 _ (by omega) rfl, f 2 _ (by omega) rfl, f 3 _ (by omega) rfl⟩, h4⟩

set_option maxRecDepth 10000 in
theorem openCache (hv : Value.okWide Try.prog W .any base 46 v) (h : DataW.Trod enc Try.prog W 0 (fun _ => true) true 46 v d p) : IsCache W v := by
  obtain ⟨css, h1, h2⟩ := slice_value Try.underlying46 (by rw [cells_row]; omega) hv h
  rw [cells_row] at h1
  exact cs_of h1 (fun c hc => (h2 c hc).2)
end
end Go.Proofs.Ytmodajmjmdigfaa
