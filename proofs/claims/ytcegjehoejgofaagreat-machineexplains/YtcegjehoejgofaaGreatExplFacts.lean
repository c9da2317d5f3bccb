/-
Proved: words for what Explain is to give: the first error of logs, the order; how many observations logs have. No walk. No condition.
-/
import Derived.Test.YtcegjehoejgofaaGreatOrderFacts
namespace Go.Proofs.YtcegjehoejgofaaGreat
open Go.ChangeShapes Go.WideShapes Go.ChangeAt Go.RowKit Go.Joins
def logsE : List (List Td) → Int
 | [] => 0
 | l :: r => if runE (l.map Td.d) ≠ 0 then runE (l.map Td.d) else logsE r
def explE (logs : List (List Td)) : Int := if 8 < logs.length ∨ 12 < totL logs then 2 else logsE logs
theorem logsE_at {logs : List (List Td)} {j : Nat} {l : List Td} (h : logs[j]? = some l) : logsE (logs.drop j) = if runE (l.map Td.d) ≠ 0 then runE (l.map Td.d) else logsE (logs.drop (j + 1)) := by
 obtain ⟨hk, rfl⟩ := List.getElem?_eq_some_iff.1 h
 rw [List.drop_eq_getElem_cons hk, logsE]
theorem logsE_zero : ∀ {logs : List (List Td)}, logsE logs = 0 ↔ ∀ l ∈ logs, ∀ t ∈ l, deedE t.d = 0
 | [] => by simp [logsE]
 | l :: r => by
  have ih := logsE_zero (logs := r)
  have hl : runE (l.map Td.d) = 0 ↔ ∀ t ∈ l, deedE t.d = 0 := by
   rw [runE_zero]
   constructor
   ·intro h t ht
    exact h t.d (List.mem_map.2 ⟨t, ht, rfl⟩)
   ·intro h d hd
    obtain ⟨t, ht, rfl⟩ := List.mem_map.1 hd
    exact h t ht
  unfold logsE
  by_cases h1 : runE (l.map Td.d) = 0
  ·rw [if_neg (by simpa using h1), ih]
   constructor
   ·intro h m hm
    rcases List.mem_cons.1 hm with rfl | hm
    ·exact hl.1 h1
    ·exact h m hm
   ·intro h m hm
    exact h m (by simp [hm])
  ·rw [if_pos h1]
   constructor
   ·intro h; exact absurd h h1
   ·intro h; exact absurd (hl.2 (h l (by simp))) h1
def explR (m : List Int) (logs : List (List Td)) : Option (List Nat) := explO logs (totL logs) m (List.replicate logs.length 0)
def ExplR (m : List Int) (logs : List (List Td)) (E : Int) (A : Option Addr) (n c : Nat) (B : Bool) (w : World) : Prop :=
 (E ≠ 0 ∧ n = 0 ∧ B = false) ∨ (E = 0 ∧ B = (explR m logs).isSome ∧ n = ((explR m logs).getD []).length ∧ Sl w w.heap.size 1 (.slice A n c) n (((explR m logs).getD []).map fun (k : Nat) => Value.int .i64 (k : Int)))
theorem totL_in {logs : List (List Td)} {l : List Td} (h : l ∈ logs) : l.length ≤ totL logs := by
 induction logs with
 | nil => cases h
 | cons x r ih =>
  have e : totL (x :: r) = x.length + totL r := by simp [totL]
  rcases List.mem_cons.1 h with rfl | h
  ·omega
  ·have := ih h
   omega
theorem explE_right {logs : List (List Td)} (h : explE logs = 0) : logs.length ≤ 8 ∧ totL logs ≤ 12 ∧ logsE logs = 0 := by
 unfold explE at h
 by_cases h1 : 8 < logs.length ∨ 12 < totL logs
 ·rw [if_pos h1] at h; cases h
 ·rw [if_neg h1] at h
  exact ⟨by omega, by omega, h⟩
end Go.Proofs.YtcegjehoejgofaaGreat
