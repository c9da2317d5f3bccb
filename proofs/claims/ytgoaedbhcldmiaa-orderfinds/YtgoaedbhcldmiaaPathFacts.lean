/-
Proved: an order that the search finds is a way through the logs, and there is one if there is a way; the logs of one order have a way. By lists alone, no walk. No condition.
-/
import Derived.Test.YtgoaedbhcldmiaaExplFacts
import Derived.Test.YtgoaedbhcldmiaaOrderSpec
namespace Go.Proofs.Ytgoaedbhcldmiaa
open Go.ChangeShapes Go.WideShapes Go.ChangeAt Go.RowKit Go.Joins

/-- A way through logs: picks, each of the next observation of its log, and each tells what the memory holds. -/
def Path (logs : List (List Td)) : List Int → List Nat → List Nat → Prop
  | _, _, [] => True
  | m, a, k :: r => ∃ l j t, logs[k]? = some l ∧ a[k]? = some j ∧ l[j]? = some t ∧ doV m t.d = t.v ∧ Path logs (doM m t.d) (a.set k (j + 1)) r
theorem explO_path {logs : List (List Td)} : ∀ {n : Nat} {m : List Int} {a r : List Nat}, explO logs n m a = some r → Path logs m a r
  | 0, m, a, r, h => by
    cases h
    trivial
  | n + 1, m, a, r, h => by
    rw [explO] at h
    obtain ⟨k, hk, e⟩ := List.exists_of_findSome?_eq_some h
    unfold tryK at e
    cases h1 : logs[k]? with
    | none => rw [h1] at e; cases e
    | some l =>
      cases h2 : a[k]? with
      | none => rw [h1, h2] at e; cases e
      | some j =>
        cases h3 : l[j]? with
        | none => rw [h1, h2] at e; simp [h3] at e
        | some t =>
          rw [h1, h2] at e
          simp only [Option.bind_some, h3] at e
          split at e
          · rename_i hv
            rw [Option.map_eq_some_iff] at e
            obtain ⟨s, h4, rfl⟩ := e
            exact ⟨l, j, t, h1, h2, h3, hv, explO_path h4⟩
          · cases e
theorem path_found {logs : List (List Td)} : ∀ {r : List Nat} {m : List Int} {a : List Nat}, Path logs m a r → (explO logs r.length m a).isSome = true
  | [], m, a, _ => rfl
  | k :: r, m, a, h => by
    obtain ⟨l, j, t, h1, h2, h3, hv, h4⟩ := h
    have ih := path_found h4
    rw [List.length_cons, explO]
    have hk := (List.getElem?_eq_some_iff.1 h1).1
    have ht := tryK_at (rec := explO logs r.length) (m := m) h1 h2 h3
    rw [if_pos hv] at ht
    obtain ⟨s, hs⟩ := Option.isSome_iff_exists.1 ih
    rw [hs] at ht
    rw [List.isSome_findSome?, List.any_eq_true]
    exact ⟨k, by simpa using hk, by rw [ht]; rfl⟩

/-! What is taken along a way. -/
def seqL (logs : List (List Td)) : List Nat → List Nat → List Td
  | _, [] => []
  | a, k :: r => match logs[k]?, a[k]? with
    | some l, some j => match l[j]? with
      | some t => t :: seqL logs (a.set k (j + 1)) r
      | none => []
    | _, _ => []
def endA : List Nat → List Nat → List Nat
  | a, [] => a
  | a, k :: r => endA (a.set k (a.getD k 0 + 1)) r
theorem seqL_at {logs : List (List Td)} {a r : List Nat} {k j : Nat} {l : List Td} {t : Td} (h1 : logs[k]? = some l) (h2 : a[k]? = some j) (h3 : l[j]? = some t) : seqL logs a (k :: r) = t :: seqL logs (a.set k (j + 1)) r := by
  rw [seqL, h1, h2]
  simp only [h3]
theorem path_legal {logs : List (List Td)} : ∀ {r : List Nat} {m : List Int} {a : List Nat}, Path logs m a r → legB m (seqL logs a r) = true
  | [], m, a, _ => legB_nil m
  | k :: r, m, a, h => by
    obtain ⟨l, j, t, h1, h2, h3, hv, h4⟩ := h
    have ih := path_legal h4
    rw [seqL_at h1 h2 h3]
    unfold legB at ih ⊢
    simp only [decide_eq_true_eq] at ih ⊢
    rw [List.map_cons, List.map_cons, runV, hv, ih]
theorem path_in {logs : List (List Td)} : ∀ {r : List Nat} {m : List Int} {a : List Nat}, Path logs m a r → ∀ t ∈ seqL logs a r, ∃ l ∈ logs, t ∈ l
  | [], m, a, _ => by simp [seqL]
  | k :: r, m, a, h => by
    obtain ⟨l, j, t, h1, h2, h3, hv, h4⟩ := h
    rw [seqL_at h1 h2 h3]
    intro x hx
    rcases List.mem_cons.1 hx with rfl | hx
    · exact ⟨l, List.mem_of_getElem? h1, List.mem_of_getElem? h3⟩
    · exact path_in h4 x hx
theorem path_length {logs : List (List Td)} : ∀ {r : List Nat} {m : List Int} {a : List Nat}, Path logs m a r → (seqL logs a r).length = r.length
  | [], m, a, _ => rfl
  | k :: r, m, a, h => by
    obtain ⟨l, j, t, h1, h2, h3, hv, h4⟩ := h
    rw [seqL_at h1 h2 h3, List.length_cons, List.length_cons, path_length h4]

/-- How much is taken of each log, at most all of it. -/
structure Within (logs : List (List Td)) (a : List Nat) : Prop where
  len : a.length = logs.length
  le : ∀ (k : Nat) l j, logs[k]? = some l → a[k]? = some j → j ≤ l.length
theorem Within.step {logs : List (List Td)} {a : List Nat} (h : Within logs a) {k j : Nat} {l : List Td} (h1 : logs[k]? = some l) (hj : j < l.length) : Within logs (a.set k (j + 1)) := by
  refine ⟨by rw [List.length_set]; exact h.len, fun q l' j' hq hj' => ?_⟩
  have hk := (List.getElem?_eq_some_iff.1 h1).1
  by_cases e : k = q
  · subst e
    rw [h1] at hq
    cases hq
    rw [List.getElem?_set_self (by have := h.len; omega)] at hj'
    cases hj'
    omega
  · rw [List.getElem?_set_ne e] at hj'
    exact h.le q l' j' hq hj'
theorem within_zero (logs : List (List Td)) : Within logs (List.replicate logs.length 0) := by
  refine ⟨by simp, fun k l j _ hj => ?_⟩
  rw [List.getElem?_replicate] at hj
  split at hj
  · cases hj; omega
  · cases hj
theorem sum_set : ∀ (a : List Nat) (k j : Nat), a[k]? = some j → (a.set k (j + 1)).sum = a.sum + 1
  | [], k, j, h => by simp at h
  | x :: r, 0, j, h => by
    simp only [List.getElem?_cons_zero, Option.some.injEq] at h
    subst h
    simp; omega
  | x :: r, k + 1, j, h => by
    have := sum_set r k j (by simpa using h)
    simp [this]; omega
theorem path_end {logs : List (List Td)} : ∀ {r : List Nat} {m : List Int} {a : List Nat}, Within logs a → Path logs m a r → Within logs (endA a r) ∧ (endA a r).sum = a.sum + r.length
  | [], m, a, w, _ => ⟨w, rfl⟩
  | k :: r, m, a, w, h => by
    obtain ⟨l, j, t, h1, h2, h3, hv, h4⟩ := h
    have hj := (List.getElem?_eq_some_iff.1 h3).1
    obtain ⟨w', s'⟩ := path_end (w.step h1 hj) h4
    have e : a.getD k 0 = j := by simp [List.getD, h2]
    rw [endA, e]
    exact ⟨w', by rw [s', sum_set a k j h2, List.length_cons]; omega⟩
theorem within_tail {x : List Td} {r : List (List Td)} {y : Nat} {a : List Nat} (w : Within (x :: r) (y :: a)) : Within r a :=
  ⟨by have := w.len; simpa using this, fun q l' j' hq hj' => w.le (q + 1) l' j' (by simpa using hq) (by simpa using hj')⟩
theorem within_sum : ∀ {logs : List (List Td)} {a : List Nat}, Within logs a → a.sum ≤ totL logs
  | [], a, w => by
    have := w.len
    cases a with
    | nil => simp [totL]
    | cons y b => simp at this
  | x :: r, [], w => by have := w.len; simp at this
  | x :: r, y :: b, w => by
    have hy : y ≤ x.length := w.le 0 x y rfl rfl
    have ih := within_sum (within_tail w)
    simp [totL] at ih ⊢
    omega
theorem all_taken : ∀ {logs : List (List Td)} {a : List Nat}, Within logs a → a.sum = totL logs → ∀ (k : Nat) l j, logs[k]? = some l → a[k]? = some j → j = l.length
  | [], a, w, _, k, l, j, h, _ => by simp at h
  | x :: r, [], w, _, k, l, j, h, _ => by have := w.len; simp at this
  | x :: r, y :: a, w, hs, k, l, j, h1, h2 => by
    have w' := within_tail w
    have hy : y ≤ x.length := w.le 0 x y rfl rfl
    have bound := within_sum w'
    have e : totL (x :: r) = x.length + totL r := by simp [totL]
    rw [e] at hs
    simp at hs
    cases k with
    | zero =>
      simp at h1 h2
      subst h1 h2
      omega
    | succ k => exact all_taken w' (by omega) k l j (by simpa using h1) (by simpa using h2)

/-! The logs of one order. -/
/-- What the operations of node k tell. -/
def mineT (n : Nat) (l : List Td) : List (List Td) := (List.range n).map fun (k : Nat) => l.filter fun t => t.d.nd == (k : Int)
/-- How many of the first i are each node's. -/
def cntA (n : Nat) (l : List Td) : List Nat := (List.range n).map fun (k : Nat) => (l.filter fun t => t.d.nd == (k : Int)).length
theorem mineT_at {n k : Nat} (l : List Td) (h : k < n) : (mineT n l)[k]? = some (l.filter fun t => t.d.nd == (k : Int)) := by simp [mineT, h]
theorem cntA_at {n k : Nat} (l : List Td) (h : k < n) : (cntA n l)[k]? = some (l.filter fun t => t.d.nd == (k : Int)).length := by simp [cntA, h]
theorem cntA_snoc {n k : Nat} {l : List Td} {t : Td} (hk : k < n) (ht : t.d.nd = (k : Int)) : (cntA n l).set k ((l.filter fun t => t.d.nd == (k : Int)).length + 1) = cntA n (l ++ [t]) := by
  apply List.ext_getElem?
  intro q
  by_cases e : k = q
  · subst e
    rw [List.getElem?_set_self (by simp [cntA, hk]), cntA_at _ hk, List.filter_append, List.length_append]
    simp [ht]
  · rw [List.getElem?_set_ne e]
    by_cases hq : q < n
    · rw [cntA_at _ hq, cntA_at _ hq, List.filter_append]
      have : (t.d.nd == (q : Int)) = false := by rw [ht]; simp; omega
      simp [this]
    · simp [cntA, hq]
theorem path_order {n : Nat} : ∀ {s b : List Td} {m : List Int}, (∀ t ∈ s, 0 ≤ t.d.nd ∧ t.d.nd < n) → legB m s = true → Path (mineT n (b ++ s)) m (cntA n b) (s.map fun t => t.d.nd.toNat)
  | [], b, m, _, _ => trivial
  | t :: s, b, m, hs, hl => by
    obtain ⟨h0, h1⟩ := hs t (by simp)
    have hk : t.d.nd.toNat < n := by omega
    have ht : t.d.nd = (t.d.nd.toNat : Int) := by omega
    unfold legB at hl
    simp only [decide_eq_true_eq, List.map_cons, runV, List.cons.injEq] at hl
    obtain ⟨hv, hr⟩ := hl
    refine ⟨_, _, t, mineT_at _ hk, cntA_at _ hk, ?_, hv, ?_⟩
    · rw [List.filter_append, List.getElem?_append_right (Nat.le_refl _), Nat.sub_self, List.filter_cons, if_pos (by rw [← ht]; simp)]
      rfl
    · rw [cntA_snoc hk ht]
      have := path_order (n := n) (s := s) (b := b ++ [t]) (m := doM m t.d) (fun x hx => hs x (by simp [hx])) (by unfold legB; simpa using hr)
      rwa [List.append_assoc, List.singleton_append] at this
theorem mineT_sum {n : Nat} : ∀ {l : List Td}, (∀ t ∈ l, 0 ≤ t.d.nd ∧ t.d.nd < n) → (cntA n l).sum = l.length := by
  intro l
  have key : ∀ (s b : List Td), (∀ t ∈ s, 0 ≤ t.d.nd ∧ t.d.nd < n) → (cntA n (b ++ s)).sum = (cntA n b).sum + s.length := by
    intro s
    induction s with
    | nil => intro b _; simp
    | cons t s ih =>
      intro b hs
      obtain ⟨h0, h1⟩ := hs t (by simp)
      have hk : t.d.nd.toNat < n := by omega
      have ht : t.d.nd = (t.d.nd.toNat : Int) := by omega
      have := ih (b ++ [t]) (fun x hx => hs x (by simp [hx]))
      rw [List.append_assoc, List.singleton_append] at this
      rw [this, ← cntA_snoc hk ht, sum_set _ _ _ (cntA_at b hk), List.length_cons]
      omega
  intro h
  have := key l [] h
  simp only [List.nil_append] at this
  rw [this]
  have z : (cntA n []).sum = 0 := by
    have e : cntA n [] = List.replicate n 0 := by
      apply List.ext_getElem?
      intro q
      by_cases hq : q < n <;> simp [cntA, hq]
    rw [e]
    simp
  omega
theorem mineT_tot {n : Nat} {l : List Td} (h : ∀ t ∈ l, 0 ≤ t.d.nd ∧ t.d.nd < n) : totL (mineT n l) = l.length := by
  rw [← mineT_sum h]
  unfold totL mineT cntA
  rw [List.map_map]
  rfl
theorem order_found {n : Nat} {l : List Td} {m : List Int} (h : ∀ t ∈ l, 0 ≤ t.d.nd ∧ t.d.nd < n) (hl : legB m l = true) : (explR m (mineT n l)).isSome = true := by
  have p := path_order (n := n) (b := []) h hl
  have e : cntA n [] = List.replicate (mineT n l).length 0 := by
    apply List.ext_getElem?
    intro q
    by_cases hq : q < n <;> simp [cntA, mineT, hq]
  rw [List.nil_append, e] at p
  have f := path_found p
  rw [List.length_map] at f
  unfold explR
  rw [mineT_tot h]
  exact f
end Go.Proofs.Ytgoaedbhcldmiaa
