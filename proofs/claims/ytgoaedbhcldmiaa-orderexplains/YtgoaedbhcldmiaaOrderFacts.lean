/-
Proved: the first order that explains logs, by lists alone; ints of the call's own that are known whole; a world that is as it was behind a store and its undoing. No walk. No condition.
-/
import Derived.Test.YtgoaedbhcldmiaaToldFault
import Derived.Test.YtgoaedbhcldmiaaOwned
namespace Go.Proofs.Ytgoaedbhcldmiaa
open Go.ChangeShapes Go.WideShapes Go.ChangeAt Go.RowKit Go.Joins

/-- The next observation of log k is tried, then the others. -/
def tryK (logs : List (List Td)) (rec : List Int → List Nat → Option (List Nat)) (m : List Int) (a : List Nat) (k : Nat) : Option (List Nat) :=
  (logs[k]?).bind fun l => (a[k]?).bind fun j => (l[j]?).bind fun t => if doV m t.d = t.v then (rec (doM m t.d) (a.set k (j + 1))).map (k :: ·) else none
/-- The first order of n observations. -/
def explO (logs : List (List Td)) : Nat → List Int → List Nat → Option (List Nat)
  | 0, _, _ => some []
  | n + 1, m, a => (List.range logs.length).findSome? (tryK logs (explO logs n) m a)

theorem findSome_first {β : Type} {f : Nat → Option β} {n k : Nat} {y : β} (hk : k < n) (hno : ∀ j, j < k → f j = none) (hy : f k = some y) : (List.range n).findSome? f = some y := by
  induction n with
  | zero => omega
  | succ n ih =>
    rw [List.range_succ, List.findSome?_append]
    by_cases h : k < n
    · rw [ih h]
      rfl
    · obtain rfl : k = n := by omega
      have : (List.range k).findSome? f = none := by
        rw [List.findSome?_eq_none_iff]
        intro x hx
        exact hno x (by simpa using hx)
      rw [this]
      simp [hy]
theorem findSome_none {β : Type} {f : Nat → Option β} {n : Nat} (hno : ∀ j, j < n → f j = none) : (List.range n).findSome? f = none := by
  rw [List.findSome?_eq_none_iff]
  intro x hx
  exact hno x (by simpa using hx)
theorem tryK_out {logs : List (List Td)} {rec : List Int → List Nat → Option (List Nat)} {m : List Int} {a : List Nat} {k j : Nat} {l : List Td} (hl : logs[k]? = some l) (ha : a[k]? = some j) (hj : l.length ≤ j) : tryK logs rec m a k = none := by
  unfold tryK
  simp [hl, ha, hj]
theorem tryK_at {logs : List (List Td)} {rec : List Int → List Nat → Option (List Nat)} {m : List Int} {a : List Nat} {k j : Nat} {l : List Td} {t : Td} (hl : logs[k]? = some l) (ha : a[k]? = some j) (ht : l[j]? = some t) :
    tryK logs rec m a k = if doV m t.d = t.v then (rec (doM m t.d) (a.set k (j + 1))).map (k :: ·) else none := by
  unfold tryK
  simp [hl, ha, ht]
theorem explO_length {logs : List (List Td)} : ∀ {n : Nat} {m : List Int} {a : List Nat} {r : List Nat}, explO logs n m a = some r → r.length = n
  | 0, m, a, r, h => by
    cases h
    rfl
  | n + 1, m, a, r, h => by
    rw [explO] at h
    obtain ⟨k, hk, e⟩ := List.exists_of_findSome?_eq_some h
    unfold tryK at e
    cases h1 : logs[k]? with
    | none => rw [h1] at e; cases e
    | some l =>
      cases h2 : a[k]? with
      | none => rw [h1, h2] at e; cases e
      | some j =>
        cases h3 : l[j]? with
        | none => rw [h1, h2] at e; simp [h3] at e
        | some t =>
          rw [h1, h2] at e
          simp only [Option.bind_some, h3] at e
          split at e
          · rw [Option.map_eq_some_iff] at e
            obtain ⟨s, h4, rfl⟩ := e
            rw [List.length_cons, explO_length h4]
          · cases e

/-! Ints known whole. -/
def atA (a : List Nat) : Array Value := (a.map fun (j : Nat) => Value.int .i64 (j : Int)).toArray
theorem atA_size (a : List Nat) : (atA a).size = a.length := by simp [atA]
theorem atA_at {a : List Nat} {k j : Nat} (h : a[k]? = some j) : (atA a)[k]? = some (.int .i64 (j : Int)) := by
  rw [atA, List.getElem?_toArray, List.getElem?_map, h]
  rfl
theorem atA_set (a : List Nat) (k j : Nat) : (atA a).setIfInBounds k (.int .i64 (j : Int)) = atA (a.set k j) := by
  simp [atA, List.map_set]
theorem box_ne {w : World} {g h : Nat} {t u : TypeId} {cs ds : Array Value} (a : Box w g t cs) (b : Box w h u ds) (ht : t ≠ u) : g ≠ h := by
  rintro rfl
  unfold Box at a b
  rw [a] at b
  cases b
  exact ht rfl

/-- Nothing appended. -/
theorem run_append_none (w : World) (t e ty : TypeId) (i : TypeInfo) (ht : Try.prog.underlying t = some (.slice e)) (hi : Try.prog.info? e = some i) (b : Addr) (n c : Nat) (h : n ≤ c) :
    (Builtin.append_ #[t, t] ty #[.slice (some b) n c, .slice none 0 0]).run Try.prog w = .ok (.slice (some b) n c) w := by
  simp [Builtin.append_, run_underlying ht, sizeOf, typeInfo, hi, Builtin.lenOf, Builtin.firstCells, h, storeCells]

/-- A store, a call, and the store undone. -/
theorem below_restore {w wA w2 : World} {g : Nat} {p q : Addr} {t : TypeId} {cs : Array Value} {x y : Value} (h1 : Below w.heap.size w wA) (hg : g < w.heap.size) (b : Box wA g t cs) (hp : p.block = g) (hq : q.block = g)
    (h2 : Below (wA.setCell p x).heap.size (wA.setCell p x) w2) (b3 : Box (w2.setCell q y) g t cs) : Below w.heap.size w (w2.setCell q y) := by
  have hs : (wA.setCell p x).heap.size = wA.heap.size := by simp [World.setCell]
  have hs2 : (w2.setCell q y).heap.size = w2.heap.size := by simp [World.setCell]
  refine ⟨h2.os.trans h1.os, h2.tape.trans h1.tape, h2.output.trans h1.output, ?_, fun h hh => ?_⟩
  · have a := h1.size
    have c := h2.size
    omega
  · have a := h1.size
    by_cases e : h = g
    · subst e
      have k1 := h1.block h hh
      unfold Box at b b3
      rw [b3, ← b, k1]
    · rw [Below.heap_setCell _ _ _ _ (by omega), h2.block h (by omega), Below.heap_setCell _ _ _ _ (by omega), h1.block h hh]
end Go.Proofs.Ytgoaedbhcldmiaa
