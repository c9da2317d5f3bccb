/-
Proved: an argument that is a slice of events. No walk. No condition.
-/
import Derived.Test.YtcegjehoejgofaaEvents
namespace Go.Proofs.Ytcegjehoejgofaa
open Go.ChangeShapes Go.WideShapes Go.ChangeAt Go.RowKit Go.Joins

theorem ev_of {cs : List Value} (h : AllOk [.int .i64, .int .i64, .int .i64, .int .u64, .int .u64, .bool] cs) : ∃ x : Ev, cs = x.cells := by
  obtain ⟨_, _, rfl, ⟨a, rfl, _⟩, h1⟩ := h.cons_
  obtain ⟨_, _, rfl, ⟨b, rfl, _⟩, h2⟩ := h1.cons_
  obtain ⟨_, _, rfl, ⟨c, rfl, _⟩, h3⟩ := h2.cons_
  obtain ⟨_, _, rfl, ⟨d, rfl, _⟩, h4⟩ := h3.cons_
  obtain ⟨_, _, rfl, ⟨e, rfl, _⟩, h5⟩ := h4.cons_
  obtain ⟨_, _, rfl, ⟨f, rfl⟩, h6⟩ := h5.cons_
  obtain rfl := h6.nil_
  exact ⟨⟨⟨a, b, c, d⟩, e, f⟩, rfl⟩
theorem evs_of : ∀ {css : List (List Value)}, (∀ c ∈ css, ∃ x : Ev, c = x.cells) → ∃ l : List Ev, l.length = css.length ∧ css.flatten = elE.C l
  | [], _ => ⟨[], rfl, rfl⟩
  | c :: r, h => by
    obtain ⟨x, rfl⟩ := h c (by simp)
    obtain ⟨l, h1, h2⟩ := evs_of (css := r) (fun d hd => h d (by simp [hd]))
    exact ⟨x :: l, by simp [h1], by simp only [List.flatten_cons, El.C, List.flatMap_cons] at *; rw [h2]; rfl⟩
def IsEvs (w : World) (v : Value) : Prop := ∃ l, elE.R w v l
section
variable {H : Type} {enc : TypeId × Value → H} {W : World} {base : Nat} {v : Value} {d : DataW H} {q : List MemPlace}
theorem cells_event : Try.prog.cellsOf 43 = 6 := by kernel_rfl
set_option maxRecDepth 10000 in
theorem openEvs (hv : Value.okWide Try.prog W .any base 29 v) (h : DataW.Trod enc Try.prog W 0 (fun _ => true) true 29 v d q) : IsEvs W v := by
  obtain ⟨css, sl, hcs⟩ := slice_value Try.underlying29 (by rw [cells_event]; omega) hv h
  obtain ⟨l, l1, l2⟩ := evs_of (css := css) (fun c hc => by
    obtain ⟨_, m, y, hy⟩ := hcs c hc
    exact ev_of (flat_open 5 43 _ (by kernel_rfl) m c y hy))
  rw [cells_event, l2, ← l1] at sl
  exact ⟨l, sl⟩
end
end Go.Proofs.Ytcegjehoejgofaa
