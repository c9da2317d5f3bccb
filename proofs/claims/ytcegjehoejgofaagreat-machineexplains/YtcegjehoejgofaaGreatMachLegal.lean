/-
Proved: what happened in some cycles of a right machine is legal plain memory, as package order means it; from the beginning on it keeps the programs. By lists alone, no walk. Condition: an operation does in the flat memory what it does (handed in).
-/
import Derived.Test.YtcegjehoejgofaaGreatMachPlain
import Derived.Test.YtcegjehoejgofaaGreatOrderSpec
import Derived.Test.YtcegjehoejgofaaGreatEvTolds
namespace Go.Proofs.YtcegjehoejgofaaGreat
open Go.ChangeShapes Go.WideShapes Go.ChangeAt Go.RowKit Go.Joins
theorem Inv.legal {M0 M : Mc} {es : List Ev} (h : Inv M0 M es) : legB (flatW M0.css M0.mem) (evTd es) = true := by
 unfold legB
 rw [evTd_d, evTd_v, h.told]
 exact decide_eq_true rfl
theorem Inv.errs {M0 M : Mc} {es : List Ev} (h : Inv M0 M es) (hl : es.length ≤ 200) : toldE 200 (evTd es) = 0 := by
 unfold toldE
 rw [if_neg (by rw [evTd_length]; omega), evTd_d]
 exact h.good
theorem Inv.keeps {M0 M : Mc} {es : List Ev} (h : Inv M0 M es) (h0 : ∀ k, M0.at_.getD k 0 = 0) : keepB M0.pr (evTd es) = true := by
 unfold keepB
 rw [List.all_eq_true]
 intro k _
 have e := (h.kept k).2
 rw [h0 k, h.pr, Int.toNat_zero, List.take_zero, List.nil_append] at e
 unfold keep1
 rw [evTd_d, ← e]
 simp only [Bool.and_eq_true, decide_eq_true_eq]
 generalize M0.pr.getD k [] = l
 generalize (M.at_.getD k 0).toNat = q
 refine ⟨by rw [List.length_take]; omega, ?_⟩
 rw [List.length_take]
 by_cases hq : q ≤ l.length
 ·rw [Nat.min_eq_left hq]
 ·rw [Nat.min_eq_right (by omega), List.take_of_length_le (by omega), List.take_length]
theorem run_left {D : DidF} (hD : DidOk D) : ∀ (c : Nat) (M : Mc), McOk M → M.mem.length = 64 → runF D c M = 0 → leftM M = leftM (runC D c M).1 + ((runC D c M).2.length : Int) ∧ McOk (runC D c M).1
 | 0, M, h, hm, _ => by
  refine ⟨?_, h⟩
  show leftM M = leftM M + 0
  omega
 | c + 1, M, h, hm, hr => by
  by_cases he : endB M = true
  ·rw [(run_ended he (c + 1)).1]
   refine ⟨?_, h⟩
   show leftM M = leftM M + 0
   omega
  ·unfold runF at hr
   rw [if_neg he] at hr
   by_cases hf : 999991 < M.had
   ·rw [if_pos hf] at hr; cases hr
   ·rw [if_neg hf] at hr
    have mid := cyc_mid hD h hm (by omega)
    obtain ⟨i1, i2⟩ := run_left hD c (cycM D M).1 mid.ok mid.m64 hr
    have := cyc_left hD h hm (by omega)
    rw [runC, if_neg he]
    refine ⟨?_, i2⟩
    simp only [List.length_append]
    push_cast
    omega
theorem left_nonneg {M : Mc} (h : McOk M) : 0 ≤ leftM M ∧ leftM M ≤ 160 := by
 have bound : ∀ n : Nat, n ≤ M.at_.length → 0 ≤ ((List.range n).map fun k => ((M.pr.getD k []).length : Int) - M.at_.getD k 0).sum ∧ ((List.range n).map fun k => ((M.pr.getD k []).length : Int) - M.at_.getD k 0).sum ≤ 20 * n := by
  intro n
  induction n with
  | zero => simp
  | succ n ih =>
   intro hn
   rw [List.range_succ, List.map_append, List.sum_append]
   obtain ⟨x, l, hx, hl, gx, gl, x0, x1⟩ := h.there (show n < M.at_.length by omega)
   have := (listE_zero.1 (progsE_zero h.prg).2.2 n l hl).1
   have ih := ih (by omega)
   simp only [List.map_cons, List.map_nil, List.sum_cons, List.sum_nil, gx, gl]
   push_cast
   omega
 have := bound M.at_.length (Nat.le_refl _)
 have hl := h.len
 have hn := h.nodes
 unfold leftM
 omega
theorem run_events {D : DidF} (hD : DidOk D) {c : Nat} {M : Mc} (h : McOk M) (hm : M.mem.length = 64) (hr : runF D c M = 0) : (runC D c M).2.length ≤ 160 := by
 obtain ⟨h1, h2⟩ := run_left hD c M h hm hr
 have := left_nonneg h
 have := left_nonneg h2
 omega
end Go.Proofs.YtcegjehoejgofaaGreat
