/-
Proved: what Play of package atomic returns, for every list of operations that can be read; it changes nothing that was there. An argument that is an operation, or a list of them. No condition.
-/
import Derived.Test.YtcegjehoejgofaaAtomic
import Derived.Laws.MakeOwn
namespace Go.Proofs.Ytcegjehoejgofaa
open Go.ChangeShapes Go.WideShapes Go.ChangeAt Go.RowKit Go.Joins

/-! Operations one after the other: the first error, the memory, what they tell. -/
def runE : List Dd → Int
  | [] => 0
  | d :: r => if deedE d = 0 then runE r else deedE d
def runM (l : List Int) (r : List Dd) : List Int := r.foldl doM l
def runV (l : List Int) : List Dd → List Int
  | [] => []
  | d :: r => doV l d :: runV (doM l d) r

theorem runM_length {l : List Int} (hl : l.length = 64) : ∀ (r : List Dd), (runM l r).length = 64 := fun r => by
  induction r generalizing l with
  | nil => exact hl
  | cons d r ih => exact ih (doM_length d hl)
theorem runV_length (l : List Int) (r : List Dd) : (runV l r).length = r.length := by
  induction r generalizing l with
  | nil => rfl
  | cons d r ih => simp [runV, ih]
theorem runE_append (a b : List Dd) : runE (a ++ b) = if runE a = 0 then runE b else runE a := by
  induction a with
  | nil => simp [runE]
  | cons d r ih =>
    simp only [List.cons_append, runE]
    by_cases h : deedE d = 0
    · simp only [if_pos h, ih]
    · simp only [if_neg h]
theorem runM_append (l : List Int) (a b : List Dd) : runM l (a ++ b) = runM (runM l a) b := List.foldl_append
theorem runV_append (l : List Int) (a b : List Dd) : runV l (a ++ b) = runV l a ++ runV (runM l a) b := by
  induction a generalizing l with
  | nil => rfl
  | cons d r ih => simp only [List.cons_append, runV, ih]; rfl

theorem take_more {r : List Dd} {j : Nat} {d : Dd} (h : r[j]? = some d) : r.take (j + 1) = r.take j ++ [d] := by
  rw [List.take_add_one, h]; rfl

/-- What the first j operations tell; the others' places hold 0. -/
def toldL (l : List Int) (r : List Dd) (j : Nat) : List Int := runV l (r.take j) ++ List.replicate (r.length - j) 0
theorem toldL_zero (l : List Int) (r : List Dd) : toldL l r 0 = List.replicate r.length 0 := rfl
theorem toldL_length (l : List Int) (r : List Dd) (j : Nat) (hj : j ≤ r.length) : (toldL l r j).length = r.length := by
  simp [toldL, runV_length]; omega
theorem toldL_all (l : List Int) (r : List Dd) : toldL l r r.length = runV l r := by simp [toldL]
theorem toldL_step {l : List Int} {r : List Dd} {j : Nat} {d : Dd} (h : r[j]? = some d) : (toldL l r j).set j (doV (runM l (r.take j)) d) = toldL l r (j + 1) := by
  have hj : j < r.length := (List.getElem?_eq_some_iff.1 h).1
  have e : (runV l (r.take j)).length = j := by rw [runV_length, List.length_take]; omega
  unfold toldL
  rw [take_more h, runV_append, List.set_append_right _ _ (by omega), e, Nat.sub_self, show r.length - j = (r.length - (j + 1)) + 1 by omega, List.replicate_succ, List.set_cons_zero, List.append_assoc]
  rfl

theorem info_word : (Try.prog.info? 24).map (fun i => (i.zero, i.size, i.bytes)) = some (some (.int .u64 0), 1, 8) := by kernel_rfl

end Go.Proofs.Ytcegjehoejgofaa
