/-
Proved: what happened in some cycles of a right machine is legal plain memory, as package order means it; from the beginning on it keeps the programs. By lists alone, no walk. Condition: an operation does in the flat memory what it does (handed in).
-/
import Derived.Test.YtcegjehoejgofaaGreatMachPlain
import Derived.Test.YtcegjehoejgofaaGreatOrderSpec
import Derived.Test.YtcegjehoejgofaaGreatEvTolds
namespace Go.Proofs.YtcegjehoejgofaaGreat
open Go.ChangeShapes Go.WideShapes Go.ChangeAt Go.RowKit Go.Joins

theorem Inv.legal {M0 M : Mc} {es : List Ev} (h : Inv M0 M es) : legB (flatW M0.css M0.mem) (evTd es) = true := by
  unfold legB
  rw [evTd_d, evTd_v, h.told]
  exact decide_eq_true rfl
theorem Inv.errs {M0 M : Mc} {es : List Ev} (h : Inv M0 M es) (hl : es.length ≤ 200) : toldE 200 (evTd es) = 0 := by
  unfold toldE
  rw [if_neg (by rw [evTd_length]; omega), evTd_d]
  exact h.good
theorem left_nonneg {M : Mc} (h : McOk M) : 0 ≤ leftM M ∧ leftM M ≤ 160 := by
  have bound : ∀ n : Nat, n ≤ M.at_.length → 0 ≤ ((List.range n).map fun k => ((M.pr.getD k []).length : Int) - M.at_.getD k 0).sum ∧ ((List.range n).map fun k => ((M.pr.getD k []).length : Int) - M.at_.getD k 0).sum ≤ 20 * n := by
    intro n
    induction n with
    | zero => simp
    | succ n ih =>
      intro hn
      rw [List.range_succ, List.map_append, List.sum_append]
      obtain ⟨x, l, hx, hl, gx, gl, x0, x1⟩ := h.there (show n < M.at_.length by omega)
      have := (listE_zero.1 (progsE_zero h.prg).2.2 n l hl).1
      have ih := ih (by omega)
      simp only [List.map_cons, List.map_nil, List.sum_cons, List.sum_nil, gx, gl]
      push_cast
      omega
  have := bound M.at_.length (Nat.le_refl _)
  have hl := h.len
  have hn := h.nodes
  unfold leftM
  omega
end Go.Proofs.YtcegjehoejgofaaGreat
