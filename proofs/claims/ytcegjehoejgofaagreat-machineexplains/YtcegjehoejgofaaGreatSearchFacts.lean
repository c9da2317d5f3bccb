/-
Proved: what the way of a search through logs says of the order that is found first. By lists alone, no walk. No condition.
-/
import Derived.Test.YtcegjehoejgofaaGreatPathFacts
namespace Go.Proofs.YtcegjehoejgofaaGreat
open Go.ChangeShapes Go.WideShapes Go.ChangeAt Go.RowKit Go.Joins
def stepK (logs : List (List Td)) (m : List Int) (a : List Nat) (k : Nat) : Option (List Nat × List Int) :=
 (logs[k]?).bind fun l => (a[k]?).bind fun j => (l[j]?).bind fun t => if doV m t.d = t.v then some (a.set k (j + 1), doM m t.d) else none
theorem tryK_stepK (logs : List (List Td)) (rec : List Int → List Nat → Option (List Nat)) (m : List Int) (a : List Nat) (k : Nat) : tryK logs rec m a k = (stepK logs m a k).bind fun x => (rec x.2 x.1).map (k :: ·) := by
 unfold tryK stepK
 cases logs[k]? with
 | none => rfl
 | some l =>
  cases a[k]? with
  | none => rfl
  | some j =>
   simp only [Option.bind_some]
   cases l[j]? with
   | none => rfl
   | some t =>
    simp only [Option.bind_some]
    by_cases h : doV m t.d = t.v
    ·rw [if_pos h, if_pos h]; rfl
    ·rw [if_neg h, if_neg h]; rfl
theorem stepK_some {logs : List (List Td)} {m : List Int} {a : List Nat} {k : Nat} {x : List Nat × List Int} (h : stepK logs m a k = some x) : ∃ l j t, logs[k]? = some l ∧ a[k]? = some j ∧ l[j]? = some t ∧ doV m t.d = t.v ∧ x = (a.set k (j + 1), doM m t.d) := by
 unfold stepK at h
 cases h1 : logs[k]? with
 | none => rw [h1] at h; cases h
 | some l =>
  cases h2 : a[k]? with
  | none => rw [h1, h2] at h; cases h
  | some j =>
   cases h3 : l[j]? with
   | none => rw [h1, h2] at h; simp [h3] at h
   | some t =>
    rw [h1, h2] at h
    simp only [Option.bind_some, h3] at h
    split at h
    ·rename_i hv
     cases h
     exact ⟨l, j, t, rfl, rfl, h3, hv, rfl⟩
    ·cases h
theorem explO_take (logs : List (List Td)) : ∀ (n : Nat) (m : List Int) (a : List Nat), explO logs n m (a.take logs.length) = explO logs n m a
 | 0, m, a => rfl
 | n + 1, m, a => by
  rw [explO, explO]
  have : tryK logs (explO logs n) m (a.take logs.length) = tryK logs (explO logs n) m a := by
   funext k
   unfold tryK
   by_cases hk : k < logs.length
   ·rw [List.getElem?_take_of_lt hk]
    congr 1
    funext l
    congr 1
    funext j
    simp only [← List.take_set, explO_take logs n]
   ·rw [List.getElem?_eq_none (Nat.le_of_not_lt hk)]
    rfl
  rw [this]
theorem explR_eight {m : List Int} {logs : List (List Td)} (h : logs.length ≤ 8) : explR m logs = explO logs (totL logs) m (List.replicate 8 0) := by
 unfold explR
 rw [← explO_take logs _ m (List.replicate 8 0), List.take_replicate, Nat.min_eq_left h]
structure Stp where
 at_ : List Nat
 mem : List Int
 next : Nat
 ha : at_.length = 8
 hm : mem.length = 64
def Tried (logs : List (List Td)) (n : Nat) (s : Stp) (q : Nat) : Prop := ∀ k, k < q → tryK logs (explO logs (n - s.at_.sum - 1)) s.mem s.at_ k = none
def Trail (logs : List (List Td)) (n : Nat) (m : List Int) : List Stp → Stp → Prop
 | [], s => s.at_ = List.replicate 8 0 ∧ s.mem = m
 | b :: r, s => Trail logs n m r b ∧ r.length + 1 ≤ n ∧ Tried logs n b (b.next - 1) ∧ 0 < b.next ∧ b.next ≤ logs.length ∧ stepK logs b.mem b.at_ (b.next - 1) = some (s.at_, s.mem)
def Upto (logs : List (List Td)) (a : List Nat) : Prop := ∀ (k : Nat) l j, logs[k]? = some l → a[k]? = some j → j ≤ l.length
def Dead (logs : List (List Td)) (n : Nat) (m : List Int) (a : List Nat) : Prop := explO logs (n - a.sum) m a = none
section
variable {logs : List (List Td)} {n : Nat} {m : List Int}
theorem Trail.same {bs : List Stp} {s s' : Stp} (h : Trail logs n m bs s) (ha : s'.at_ = s.at_) (hm : s'.mem = s.mem) : Trail logs n m bs s' := by
 cases bs with
 | nil => exact ⟨ha.trans h.1, hm.trans h.2⟩
 | cons b r => exact ⟨h.1, h.2.1, h.2.2.1, h.2.2.2.1, h.2.2.2.2.1, by rw [ha, hm]; exact h.2.2.2.2.2⟩
theorem Trail.sum : ∀ {bs : List Stp} {s : Stp}, Trail logs n m bs s → s.at_.sum = bs.length
 | [], s, h => by rw [h.1]; simp
 | b :: r, s, h => by
  obtain ⟨l, j, t, _, h2, _, _, e⟩ := stepK_some h.2.2.2.2.2
  have e1 : s.at_ = b.at_.set (b.next - 1) (j + 1) := congrArg Prod.fst e
  rw [e1, sum_set _ _ _ h2, Trail.sum h.1, List.length_cons]
theorem Trail.nexts : ∀ {bs : List Stp} {s : Stp}, Trail logs n m bs s → ∀ b ∈ bs, 0 < b.next ∧ b.next ≤ logs.length
 | [], _, _ => by simp
 | b :: r, _, h => by
  intro x hx
  rcases List.mem_cons.1 hx with rfl | hx
  ·exact ⟨h.2.2.2.1, h.2.2.2.2.1⟩
  ·exact Trail.nexts h.1 x hx
theorem Trail.upto : ∀ {bs : List Stp} {s : Stp}, Trail logs n m bs s → Upto logs s.at_
 | [], s, h => by
  rw [h.1]
  intro k l j _ hj
  rw [List.getElem?_replicate] at hj
  split at hj
  ·cases hj; omega
  ·cases hj
 | b :: r, s, h => by
  have ih := Trail.upto h.1
  obtain ⟨l, j, t, h1, h2, h3, _, e⟩ := stepK_some h.2.2.2.2.2
  have e1 : s.at_ = b.at_.set (b.next - 1) (j + 1) := congrArg Prod.fst e
  rw [e1]
  intro q l' j' hq hj'
  have hk := (List.getElem?_eq_some_iff.1 h2).1
  by_cases e : b.next - 1 = q
  ·subst e
   rw [h1] at hq
   cases hq
   rw [List.getElem?_set_self hk] at hj'
   cases hj'
   exact (List.getElem?_eq_some_iff.1 h3).1
  ·rw [List.getElem?_set_ne e] at hj'
   exact ih q l' j' hq hj'
theorem Trail.dead {bs : List Stp} {s : Stp} (h : Trail logs n m bs s) (hn : bs.length < n) (ht : Tried logs n s logs.length) : Dead logs n s.mem s.at_ := by
 unfold Dead
 have e := h.sum
 rw [show n - s.at_.sum = (n - s.at_.sum - 1) + 1 by omega, explO]
 exact findSome_none ht
theorem Trail.pop {b : Stp} {r : List Stp} {s : Stp} (h : Trail logs n m (b :: r) s) (hd : Dead logs n s.mem s.at_) : Tried logs n b b.next := by
 intro k hk
 have e1 := h.sum
 have e2 := h.1.sum
 by_cases e : k < b.next - 1
 ·exact h.2.2.1 k e
 ·obtain rfl : k = b.next - 1 := by omega
  rw [tryK_stepK, h.2.2.2.2.2]
  unfold Dead at hd
  rw [List.length_cons] at e1
  rw [show n - s.at_.sum = n - b.at_.sum - 1 by omega] at hd
  rw [Option.bind_some, hd]
  rfl
theorem Trail.push {bs : List Stp} {s s1 s2 : Stp} {q : Nat} (h : Trail logs n m bs s) (hn : bs.length + 1 ≤ n) (ht : Tried logs n s q) (hq : q < logs.length) (hs : stepK logs s.mem s.at_ q = some (s2.at_, s2.mem))
  (ea : s1.at_ = s.at_) (em : s1.mem = s.mem) (en : s1.next = q + 1) : Trail logs n m (s1 :: bs) s2 := by
 refine ⟨h.same ea em, hn, ?_, by omega, by omega, ?_⟩
 ·rw [en, Nat.add_sub_cancel]
  unfold Tried
  rw [ea, em]
  exact ht
 ·rw [en, Nat.add_sub_cancel, ea, em]
  exact hs
theorem Tried.skip {s : Stp} {q : Nat} (h : Tried logs n s q) (hs : stepK logs s.mem s.at_ q = none) : Tried logs n s (q + 1) := by
 intro k hk
 by_cases e : k < q
 ·exact h k e
 ·obtain rfl : k = q := by omega
  rw [tryK_stepK, hs]
  rfl
theorem Tried.lost {s : Stp} {q : Nat} {a' : List Nat} {m' : List Int} (h : Tried logs n s q) (hs : stepK logs s.mem s.at_ q = some (a', m')) (hd : Dead logs n m' a') : Tried logs n s (q + 1) := by
 intro k hk
 by_cases e : k < q
 ·exact h k e
 ·obtain rfl : k = q := by omega
  rw [tryK_stepK, hs, Option.bind_some]
  obtain ⟨l, j, t, _, h2, _, _, e⟩ := stepK_some hs
  have e1 : a' = s.at_.set k (j + 1) := congrArg Prod.fst e
  unfold Dead at hd
  rw [e1, sum_set _ _ _ h2] at hd
  rw [e1, show n - s.at_.sum - 1 = n - (s.at_.sum + 1) by omega]
  simp only [hd]
  rfl
theorem Trail.found : ∀ {bs : List Stp} {s : Stp} {r : List Nat}, Trail logs n m bs s → explO logs (n - bs.length) s.mem s.at_ = some r → explO logs n m (List.replicate 8 0) = some ((bs.map fun b => b.next - 1).reverse ++ r)
 | [], s, r, h, e => by
  rw [← h.1, ← h.2]
  exact e
 | b :: t, s, r, h, e => by
  have hs := h.1.sum
  have e2 : explO logs (n - t.length) b.mem b.at_ = some ((b.next - 1) :: r) := by
   have hn := h.2.1
   rw [show n - t.length = (n - t.length - 1) + 1 by omega, explO]
   refine findSome_first (k := b.next - 1) (by have := h.2.2.2.1; have := h.2.2.2.2.1; omega) (fun j hj => ?_) ?_
   ·have := h.2.2.1 j hj
    rwa [hs] at this
   ·rw [tryK_stepK, h.2.2.2.2.2, Option.bind_some]
    rw [List.length_cons] at e
    rw [show n - t.length - 1 = n - (t.length + 1) by omega, e]
    rfl
  rw [Trail.found h.1 e2, List.map_cons, List.reverse_cons, List.append_assoc]
  rfl
end
def fallL (L n : Nat) : List Nat → Nat
 | [] => 0
 | x :: r => (L + 1 - x) * (L + 2) ^ (n - r.length) + fallL L n r
theorem fall_push {L n x y : Nat} {r : List Nat} (hn : r.length + 1 ≤ n) (hx : x < y) (hy : y ≤ L) : fallL L n (0 :: y :: r) < fallL L n (x :: r) := by
 have e : n - r.length = (n - (y :: r).length) + 1 := by rw [List.length_cons]; omega
 unfold fallL
 rw [show fallL L n (y :: r) = (L + 1 - y) * (L + 2) ^ (n - r.length) + fallL L n r from rfl, e, Nat.pow_succ]
 have hp : 0 < (L + 2) ^ (n - (y :: r).length) := Nat.pow_pos (by omega)
 generalize (L + 2) ^ (n - (y :: r).length) = p at *
 have h1 : (L + 1 - y + 1) * (p * (L + 2)) ≤ (L + 1 - x) * (p * (L + 2)) := Nat.mul_le_mul_right _ (by omega)
 rw [Nat.succ_mul] at h1
 have h2 : (L + 1 - 0) * p + p = p * (L + 2) := by
  rw [Nat.sub_zero, ← Nat.succ_mul, Nat.mul_comm]
 generalize (L + 1 - y) * (p * (L + 2)) = u at *
 generalize (L + 1 - x) * (p * (L + 2)) = v at *
 generalize p * (L + 2) = z at *
 generalize (L + 1 - 0) * p = z' at *
 omega
theorem fall_pop {L n x : Nat} {r : List Nat} (hx : x ≤ L) : fallL L n r < fallL L n (x :: r) := by
 unfold fallL
 have : 0 < (L + 1 - x) * (L + 2) ^ (n - r.length) := Nat.mul_pos (by omega) (Nat.pow_pos (by omega))
 cases r with
 | nil => simp only [fallL] at *; omega
 | cons y t => simp only [fallL] at *; omega
end Go.Proofs.YtcegjehoejgofaaGreat
