/-
Proved: an order that the search finds is a way through the logs, and there is one if there is a way; the logs of one order have a way. By lists alone, no walk. No condition.
-/
import Derived.Test.YtcegjehoejgofaaGreatExplFacts
import Derived.Test.YtcegjehoejgofaaGreatOrderSpec
namespace Go.Proofs.YtcegjehoejgofaaGreat
open Go.ChangeShapes Go.WideShapes Go.ChangeAt Go.RowKit Go.Joins
def Path (logs : List (List Td)) : List Int → List Nat → List Nat → Prop
 | _, _, [] => True
 | m, a, k :: r => ∃ l j t, logs[k]? = some l ∧ a[k]? = some j ∧ l[j]? = some t ∧ doV m t.d = t.v ∧ Path logs (doM m t.d) (a.set k (j + 1)) r
theorem path_found {logs : List (List Td)} : ∀ {r : List Nat} {m : List Int} {a : List Nat}, Path logs m a r → (explO logs r.length m a).isSome = true
 | [], m, a, _ => rfl
 | k :: r, m, a, h => by
  obtain ⟨l, j, t, h1, h2, h3, hv, h4⟩ := h
  have ih := path_found h4
  rw [List.length_cons, explO]
  have hk := (List.getElem?_eq_some_iff.1 h1).1
  have ht := tryK_at (rec := explO logs r.length) (m := m) h1 h2 h3
  rw [if_pos hv] at ht
  obtain ⟨s, hs⟩ := Option.isSome_iff_exists.1 ih
  rw [hs] at ht
  rw [List.isSome_findSome?, List.any_eq_true]
  exact ⟨k, by simpa using hk, by rw [ht]; rfl⟩
structure Within (logs : List (List Td)) (a : List Nat) : Prop where
 len : a.length = logs.length
 le : ∀ (k : Nat) l j, logs[k]? = some l → a[k]? = some j → j ≤ l.length
theorem sum_set : ∀ (a : List Nat) (k j : Nat), a[k]? = some j → (a.set k (j + 1)).sum = a.sum + 1
 | [], k, j, h => by simp at h
 | x :: r, 0, j, h => by
  simp only [List.getElem?_cons_zero, Option.some.injEq] at h
  subst h
  simp; omega
 | x :: r, k + 1, j, h => by
  have := sum_set r k j (by simpa using h)
  simp [this]; omega
def mineT (n : Nat) (l : List Td) : List (List Td) := (List.range n).map fun (k : Nat) => l.filter fun t => t.d.nd == (k : Int)
def cntA (n : Nat) (l : List Td) : List Nat := (List.range n).map fun (k : Nat) => (l.filter fun t => t.d.nd == (k : Int)).length
theorem mineT_at {n k : Nat} (l : List Td) (h : k < n) : (mineT n l)[k]? = some (l.filter fun t => t.d.nd == (k : Int)) := by simp [mineT, h]
theorem cntA_at {n k : Nat} (l : List Td) (h : k < n) : (cntA n l)[k]? = some (l.filter fun t => t.d.nd == (k : Int)).length := by simp [cntA, h]
theorem cntA_snoc {n k : Nat} {l : List Td} {t : Td} (hk : k < n) (ht : t.d.nd = (k : Int)) : (cntA n l).set k ((l.filter fun t => t.d.nd == (k : Int)).length + 1) = cntA n (l ++ [t]) := by
 apply List.ext_getElem?
 intro q
 by_cases e : k = q
 ·subst e
  rw [List.getElem?_set_self (by simp [cntA, hk]), cntA_at _ hk, List.filter_append, List.length_append]
  simp [ht]
 ·rw [List.getElem?_set_ne e]
  by_cases hq : q < n
  ·rw [cntA_at _ hq, cntA_at _ hq, List.filter_append]
   have : (t.d.nd == (q : Int)) = false := by rw [ht]; simp; omega
   simp [this]
  ·simp [cntA, hq]
theorem path_order {n : Nat} : ∀ {s b : List Td} {m : List Int}, (∀ t ∈ s, 0 ≤ t.d.nd ∧ t.d.nd < n) → legB m s = true → Path (mineT n (b ++ s)) m (cntA n b) (s.map fun t => t.d.nd.toNat)
 | [], b, m, _, _ => trivial
 | t :: s, b, m, hs, hl => by
  obtain ⟨h0, h1⟩ := hs t (by simp)
  have hk : t.d.nd.toNat < n := by omega
  have ht : t.d.nd = (t.d.nd.toNat : Int) := by omega
  unfold legB at hl
  simp only [decide_eq_true_eq, List.map_cons, runV, List.cons.injEq] at hl
  obtain ⟨hv, hr⟩ := hl
  refine ⟨_, _, t, mineT_at _ hk, cntA_at _ hk, ?_, hv, ?_⟩
  ·rw [List.filter_append, List.getElem?_append_right (Nat.le_refl _), Nat.sub_self, List.filter_cons, if_pos (by rw [← ht]; simp)]
   rfl
  ·rw [cntA_snoc hk ht]
   have := path_order (n := n) (s := s) (b := b ++ [t]) (m := doM m t.d) (fun x hx => hs x (by simp [hx])) (by unfold legB; simpa using hr)
   rwa [List.append_assoc, List.singleton_append] at this
theorem mineT_sum {n : Nat} : ∀ {l : List Td}, (∀ t ∈ l, 0 ≤ t.d.nd ∧ t.d.nd < n) → (cntA n l).sum = l.length := by
 intro l
 have key : ∀ (s b : List Td), (∀ t ∈ s, 0 ≤ t.d.nd ∧ t.d.nd < n) → (cntA n (b ++ s)).sum = (cntA n b).sum + s.length := by
  intro s
  induction s with
  | nil => intro b _; simp
  | cons t s ih =>
   intro b hs
   obtain ⟨h0, h1⟩ := hs t (by simp)
   have hk : t.d.nd.toNat < n := by omega
   have ht : t.d.nd = (t.d.nd.toNat : Int) := by omega
   have := ih (b ++ [t]) (fun x hx => hs x (by simp [hx]))
   rw [List.append_assoc, List.singleton_append] at this
   rw [this, ← cntA_snoc hk ht, sum_set _ _ _ (cntA_at b hk), List.length_cons]
   omega
 intro h
 have := key l [] h
 simp only [List.nil_append] at this
 rw [this]
 have z : (cntA n []).sum = 0 := by
  have e : cntA n [] = List.replicate n 0 := by
   apply List.ext_getElem?
   intro q
   by_cases hq : q < n <;> simp [cntA, hq]
  rw [e]
  simp
 omega
theorem mineT_tot {n : Nat} {l : List Td} (h : ∀ t ∈ l, 0 ≤ t.d.nd ∧ t.d.nd < n) : totL (mineT n l) = l.length := by
 rw [← mineT_sum h]
 unfold totL mineT cntA
 rw [List.map_map]
 rfl
theorem order_found {n : Nat} {l : List Td} {m : List Int} (h : ∀ t ∈ l, 0 ≤ t.d.nd ∧ t.d.nd < n) (hl : legB m l = true) : (explR m (mineT n l)).isSome = true := by
 have p := path_order (n := n) (b := []) h hl
 have e : cntA n [] = List.replicate (mineT n l).length 0 := by
  apply List.ext_getElem?
  intro q
  by_cases hq : q < n <;> simp [cntA, mineT, hq]
 rw [List.nil_append, e] at p
 have f := path_found p
 rw [List.length_map] at f
 unfold explR
 rw [mineT_tot h]
 exact f
end Go.Proofs.YtcegjehoejgofaaGreat
