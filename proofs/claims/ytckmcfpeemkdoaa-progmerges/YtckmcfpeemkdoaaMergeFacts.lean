/-
Proved: what merging programs gives, by lists alone: what is taken, how much of each program; of right programs, the operations of a node are the first of its program. No walk. No condition.
-/
import Derived.Test.YtckmcfpeemkdoaaProgs
namespace Go.Proofs.Ytckmcfpeemkdoaa
open Go.ChangeShapes Go.WideShapes Go.ChangeAt Go.RowKit Go.Joins

/-- The next operation of node k. -/
def takeAt (p : List (List Dd)) (t : List Int) (k : Int) : Option Dd := if k < 0 then none else (p[k.toNat]?).bind fun l => (t[k.toNat]?).bind fun a => l[a.toNat]?
def stepM (p : List (List Dd)) (s : List Dd × List Int) (k : Int) : List Dd × List Int :=
  match takeAt p s.2 k with
  | none => s
  | some d => (s.1 ++ [d], s.2.set k.toNat (s.2.getD k.toNat 0 + 1))
def mergeL (p : List (List Dd)) (picks : List Int) : List Dd × List Int := picks.foldl (stepM p) ([], List.replicate p.length 0)
def mergeE (n s y b : Int) (p : List (List Dd)) (q : Nat) : Int := if progsE n s y b p ≠ 0 then progsE n s y b p else if 200 < q then 2 else 0

theorem progsE_zero {n s y b : Int} {p : List (List Dd)} (h : progsE n s y b p = 0) : cfgB n s y b = true ∧ (p.length : Int) = n ∧ listE 0 p = 0 := by
  unfold progsE at h
  by_cases h1 : cfgB n s y b = false
  · rw [if_pos h1] at h; cases h
  · rw [if_neg h1] at h
    by_cases h2 : (p.length : Int) ≠ n
    · rw [if_pos h2] at h; cases h
    · rw [if_neg h2] at h
      exact ⟨by simpa using h1, by omega, h⟩

/-- How much is taken. -/
structure GoodM (p : List (List Dd)) (s : List Dd × List Int) : Prop where
  len : s.2.length = p.length
  at_ : ∀ (k : Nat) l, p[k]? = some l → ∃ j : Nat, s.2[k]? = some (j : Int) ∧ j ≤ l.length

/-- What a pick does. -/
def StepIs (p : List (List Dd)) (s : List Dd × List Int) (k : Int) (l : List Dd) (q j : Nat) : Prop :=
  (j = l.length ∧ stepM p s k = s) ∨ ∃ d, l[j]? = some d ∧ stepM p s k = (s.1 ++ [d], s.2.set q ((j + 1 : Nat) : Int))
theorem step_cases {p : List (List Dd)} {s : List Dd × List Int} (h : GoodM p s) (k : Int) :
    ((k < 0 ∨ (p.length : Int) ≤ k) ∧ stepM p s k = s) ∨ ∃ (q : Nat) (l : List Dd) (j : Nat), k = q ∧ p[q]? = some l ∧ s.2[q]? = some (j : Int) ∧ j ≤ l.length ∧ StepIs p s k l q j := by
  by_cases h1 : k < 0
  · exact .inl ⟨.inl h1, by simp [stepM, takeAt, h1]⟩
  · obtain ⟨q, rfl⟩ : ∃ q : Nat, k = q := ⟨k.toNat, by omega⟩
    by_cases h2 : q < p.length
    · have hp : p[q]? = some p[q] := List.getElem?_eq_getElem _
      generalize p[q] = l at hp
      obtain ⟨j, h3, h4⟩ := h.at_ q l hp
      refine .inr ⟨q, l, j, rfl, hp, h3, h4, ?_⟩
      have ht : takeAt p s.2 q = l[j]? := by
        unfold takeAt
        rw [if_neg h1]
        simp [hp, h3]
      by_cases h5 : j < l.length
      · refine .inr ⟨l[j], List.getElem?_eq_getElem h5, ?_⟩
        rw [stepM, ht, List.getElem?_eq_getElem h5]
        simp [h3]
      · refine .inl ⟨by omega, ?_⟩
        rw [stepM, ht, List.getElem?_eq_none (by omega)]
    · refine .inl ⟨.inr (by omega), ?_⟩
      have ht : takeAt p s.2 q = none := by
        unfold takeAt
        rw [if_neg h1, List.getElem?_eq_none (by simpa using Nat.not_lt.1 h2)]
        rfl
      rw [stepM, ht]

theorem set_at_ {t : List Int} {q k : Nat} {x y : Int} (h : t[k]? = some y) : (t.set q x)[k]? = some (if q = k then x else y) := by
  have hk := (List.getElem?_eq_some_iff.1 h).1
  by_cases e : q = k
  · subst e
    rw [List.getElem?_set_self hk, if_pos rfl]
  · rw [List.getElem?_set_ne e, if_neg e, h]

theorem GoodM.step {p : List (List Dd)} {s : List Dd × List Int} (h : GoodM p s) (k : Int) : GoodM p (stepM p s k) := by
  rcases step_cases h k with ⟨_, e⟩ | ⟨q, l, j, rfl, h1, h2, h3, ⟨_, e⟩ | ⟨d, hd, e⟩⟩
  · rw [e]; exact h
  · rw [e]; exact h
  · rw [e]
    refine ⟨by rw [List.length_set]; exact h.len, fun k l' hk => ?_⟩
    obtain ⟨j', h4, h5⟩ := h.at_ k l' hk
    by_cases e : q = k
    · subst e
      rw [h1] at hk
      cases hk
      refine ⟨j + 1, by rw [set_at_ h4, if_pos rfl], ?_⟩
      exact (List.getElem?_eq_some_iff.1 hd).1
    · exact ⟨j', by rw [set_at_ h4, if_neg e], h5⟩
theorem good_start (p : List (List Dd)) : GoodM p ([], List.replicate p.length 0) := by
  refine ⟨by simp, fun k l hk => ⟨0, ?_, Nat.zero_le _⟩⟩
  rw [List.getElem?_replicate, if_pos (List.getElem?_eq_some_iff.1 hk).1]
  rfl
theorem foldl_keeps {α β : Type} {f : β → α → β} {P : β → Prop} (hf : ∀ b a, P b → P (f b a)) : ∀ (l : List α) (b : β), P b → P (l.foldl f b)
  | [], _, h => h
  | a :: r, b, h => foldl_keeps hf r (f b a) (hf b a h)
theorem mergeL_good (p : List (List Dd)) (picks : List Int) : GoodM p (mergeL p picks) := by
  unfold mergeL
  exact foldl_keeps (P := GoodM p) (fun s k h => GoodM.step h k) picks _ (good_start p)
theorem mergeL_snoc {p : List (List Dd)} {picks : List Int} {i : Nat} {k : Int} (h : picks[i]? = some k) : mergeL p (picks.take (i + 1)) = stepM p (mergeL p (picks.take i)) k := by
  rw [List.take_add_one, h]
  simp [mergeL, List.foldl_append]
theorem stepM_few (p : List (List Dd)) (s : List Dd × List Int) (k : Int) : (stepM p s k).1.length ≤ s.1.length + 1 := by
  unfold stepM
  split <;> simp
theorem mergeL_few (p : List (List Dd)) (picks : List Int) : ∀ i, (mergeL p (picks.take i)).1.length ≤ i
  | 0 => by simp [mergeL]
  | i + 1 => by
    have ih := mergeL_few p picks i
    cases h : picks[i]? with
    | none =>
      rw [List.take_add_one, h]
      simp only [Option.toList_none, List.append_nil]
      omega
    | some k =>
      rw [mergeL_snoc h]
      have := stepM_few p (mergeL p (picks.take i)) k
      omega

/-- Of right programs: the operations of node k are the first of its program. -/
structure MineM (p : List (List Dd)) (s : List Dd × List Int) : Prop where
  good : GoodM p s
  right : ∀ d ∈ s.1, deedE d = 0 ∧ 0 ≤ d.nd ∧ d.nd < p.length
  mine : ∀ (k : Nat) l (j : Nat), p[k]? = some l → s.2[k]? = some (j : Int) → s.1.filter (fun d => d.nd == (k : Int)) = l.take j
theorem MineM.step {p : List (List Dd)} {s : List Dd × List Int} (hp : listE 0 p = 0) (h : MineM p s) (k : Int) : MineM p (stepM p s k) := by
  have hg := h.good.step k
  rcases step_cases h.good k with ⟨_, e⟩ | ⟨q, l, j, rfl, h1, h2, h3, ⟨_, e⟩ | ⟨d, hd, e⟩⟩
  · rw [e]; exact h
  · rw [e]; exact h
  · rw [e] at hg ⊢
    obtain ⟨_, hr⟩ := listE_zero.1 hp q l h1
    obtain ⟨d0, d1⟩ := hr d (List.mem_of_getElem? hd)
    have hq := (List.getElem?_eq_some_iff.1 h1).1
    have d2 : d.nd = q := by omega
    refine ⟨hg, fun x hx => ?_, fun k l' j' hk hj => ?_⟩
    · rcases List.mem_append.1 hx with hx | hx
      · exact h.right x hx
      · simp at hx
        subst hx
        exact ⟨d0, by omega, by omega⟩
    · obtain ⟨j2, h4, _⟩ := h.good.at_ k l' hk
      rw [set_at_ h4] at hj
      rw [List.filter_append]
      by_cases e : q = k
      · subst e
        rw [if_pos rfl] at hj
        rw [h1] at hk
        cases hk
        obtain rfl : j + 1 = j' := by simp at hj; omega
        rw [h.mine q l j h1 h2, List.take_add_one, hd]
        simp [d2]
      · rw [if_neg e] at hj
        obtain rfl : j2 = j' := by simp at hj; omega
        rw [h.mine k l' j2 hk h4]
        have : (d.nd == (k : Int)) = false := by simp; omega
        simp [this]
theorem mergeL_mine {p : List (List Dd)} (hp : listE 0 p = 0) (picks : List Int) : MineM p (mergeL p picks) := by
  unfold mergeL
  refine foldl_keeps (P := MineM p) (fun s k h => MineM.step hp h k) picks _ ⟨good_start p, by simp, fun k l j hk hj => ?_⟩
  rw [List.getElem?_replicate, if_pos (List.getElem?_eq_some_iff.1 hk).1] at hj
  obtain rfl : j = 0 := by simp at hj; omega
  simp
end Go.Proofs.Ytckmcfpeemkdoaa
