/-
Proved: what is known of a way and of a set that can be read. No condition.
-/
import Derived.Test.YtmodajmjmdigfaaRow
namespace Go.Proofs.Ytmodajmjmdigfaa
open Go.ChangeShapes Go.WideShapes Go.ChangeAt Go.RowKit Go.Joins

def IsWay (v : Value) : Prop := ∃ x : Wy, v = x.val
def IsRow (w : World) (v : Value) : Prop := ∃ s l a b c, v = rowV s a b c ∧ Ws w s l

theorem way_of {cs : List Value} (h : AllOk [.int .i64, .int .i64, .int .u64, .int .u64, .int .u64, .int .u64] cs) : ∃ x : Wy, cs = x.cells := by
  obtain ⟨_, _, rfl, ⟨a, rfl, _⟩, h1⟩ := h.cons_
  obtain ⟨_, _, rfl, ⟨b, rfl, _⟩, h2⟩ := h1.cons_
  obtain ⟨_, _, rfl, ⟨c, rfl, _⟩, h3⟩ := h2.cons_
  obtain ⟨_, _, rfl, ⟨d, rfl, _⟩, h4⟩ := h3.cons_
  obtain ⟨_, _, rfl, ⟨e, rfl, _⟩, h5⟩ := h4.cons_
  obtain ⟨_, _, rfl, ⟨f, rfl, _⟩, h6⟩ := h5.cons_
  obtain rfl := h6.nil_
  exact ⟨⟨a, b, c, d, e, f⟩, rfl⟩

theorem ways_of : ∀ {css : List (List Value)}, (∀ c ∈ css, ∃ x : Wy, c = x.cells) → ∃ l : List Wy, l.length = css.length ∧ css.flatten = waysC l
  | [], _ => ⟨[], rfl, rfl⟩
  | c :: r, h => by
    obtain ⟨x, rfl⟩ := h c (by simp)
    obtain ⟨l, h1, h2⟩ := ways_of (css := r) (fun d hd => h d (by simp [hd]))
    exact ⟨x :: l, by simp [h1], by simp only [List.flatten_cons, waysC, List.flatMap_cons] at *; rw [h2]⟩

section
variable {H : Type} {enc : TypeId × Value → H} {W : World} {base : Nat} {v : Value} {d : DataW H} {p : List MemPlace}
set_option maxRecDepth 10000 in
theorem openWay (hv : Value.okWide Try.prog W .any base 32 v) (h : DataW.Trod enc Try.prog W 0 (fun _ => true) true 32 v d p) : IsWay v := by
  obtain ⟨cs, rfl, hk⟩ := flat_value (n := 3) (ks := [.int .i64, .int .i64, .int .u64, .int .u64, .int .u64, .int .u64]) (by kernel_rfl) (.inl ⟨_, Try.underlying32⟩) hv h
  obtain ⟨x, rfl⟩ := way_of hk
  exact ⟨x, rfl⟩

theorem cells_row : Try.prog.cellsOf 26 = 4 := by kernel_rfl
theorem cells_ways : Try.prog.cellsOf 22 = 1 := by kernel_rfl
theorem cells_way : Try.prog.cellsOf 32 = 6 := by kernel_rfl
theorem cells_tree3 : Try.prog.cellsOf 24 = 3 := by kernel_rfl

set_option maxRecDepth 10000 in
theorem row_trod {fuel : Nat} {cs : List Value} {x : DataW H × List MemPlace} (h : DataW.trod enc Try.prog W 0 (fun _ => true) true fuel 26 cs = some x) : ∃ s l a b c, cs = [s, .bool a, .bool b, .bool c] ∧ Ws W s l := by
  obtain ⟨xs, m, _, _, hl, hxl, hf⟩ := DataW.trod_struct Try.underlying26 h
  rw [cells_row] at hl
  match cs, hl with
  | [c0, c1, c2, c3], _ =>
    have hf' : ∀ (i : Nat) (f : Field), _ → _ := fun i f hi => hf i f (by rw [← Array.getElem?_toList]; exact hi)
    have h0 := hf' 0 _ rfl
    have h1 := hf' 1 _ rfl
    dsimp only at h0 h1
    rw [List.getElem?_eq_getElem (by simp at hxl; omega)] at h0 h1
    obtain ⟨v, css, e, sl, hcs⟩ := slice_open Try.underlying22 (by rw [cells_way]; omega) h0
    simp only [cells_ways, List.drop_zero, List.take_succ_cons, List.take_zero, List.cons.injEq, and_true] at e
    subst e
    have h1' := flat_open 2 24 [.bool, .bool, .bool] (by kernel_rfl) _ _ _ h1
    simp only [cells_tree3, List.drop_succ_cons, List.drop_zero, List.take_succ_cons, List.take_zero] at h1'
    obtain ⟨⟨a, rfl⟩, ⟨b, rfl⟩, ⟨c, rfl⟩, _⟩ := h1'
    obtain ⟨l, l1, l2⟩ := ways_of (css := css) (fun c hc => by
      obtain ⟨_, m, y, hy⟩ := hcs c hc
      exact way_of (flat_open 3 32 _ (by kernel_rfl) m c y hy))
    rw [cells_way, l2, ← l1] at sl
    exact ⟨c0, l, a, b, c, rfl, ⟨sl⟩⟩

set_option maxRecDepth 10000 in
theorem openRow (hv : Value.okWide Try.prog W .any base 26 v) (h : DataW.Trod enc Try.prog W 0 (fun _ => true) true 26 v d p) : IsRow W v := by
  obtain ⟨cs, rfl⟩ := okWide_agg (.inl ⟨_, Try.underlying26⟩) hv
  obtain ⟨m, h⟩ := h
  obtain ⟨s, l, a, b, c, rfl, ws⟩ := row_trod (cs := cs) (by simpa [Value.cells] using h)
  exact ⟨s, l, a, b, c, rfl, ws⟩
end
end Go.Proofs.Ytmodajmjmdigfaa
