/-
Proved: what the reference's Road returns: a map of the bits that are met on the road to a way. Condition: the number of ways and the way are in range.
-/
import Derived.Test.YtmodajmjmdigfaaRefPlru
namespace Go.Proofs.Ytmodajmjmdigfaa
open Go.ChangeShapes Go.WideShapes Go.ChangeAt Go.RowKit Go.Joins Go.Maps

/-- Which bits are met on the road to way k of n, and on which side it lies. -/
def road (n k x : Int) : Option Bool :=
  if n = 2 then (if x = 0 then some (k == 1) else none)
  else if 2 < n then (if x = 0 then some (decide (2 ≤ k)) else if k < 2 then (if x = 1 then some (k == 1) else none) else if n = 4 ∧ x = 2 then some (k == 3) else none)
  else none

/-- A map as read holds just what the function says. -/
def IsRoad (D : DataW Unit) (f : Int → Option Bool) : Prop :=
  IsMap D ∧ ∀ x, Maps.has D (.int .i64 x) = (f x).isSome ∧ ∀ g, f x = some g → ∀ zd, D.atKey (.int .i64 x) zd = .lit (.bool g)

theorem isRoad_empty : IsRoad (.map []) (fun _ => none) := ⟨isMap_empty, fun x => ⟨rfl, fun g h => by cases h⟩⟩

theorem isRoad_put {D : DataW Unit} {f : Int → Option Bool} (h : IsRoad D f) (y : Int) (g : Bool) : IsRoad (D.put (.int .i64 y) (.lit (.bool g))) (fun x => if x = y then some g else f x) := by
  refine ⟨h.1.put _ _, fun x => ?_⟩
  by_cases e : x = y
  · subst e
    refine ⟨by rw [has_put_same h.1 (by trivial)]; simp, fun g' hg zd => ?_⟩
    rw [atKey_put_same h.1 (by trivial)]
    simp at hg
    rw [hg]
  · have hne : Lit.int .i64 x ≠ Lit.int .i64 y := by intro k; injection k with _ k; exact e k
    refine ⟨by rw [has_put_other hne, (h.2 x).1]; simp [e], fun g' hg zd => ?_⟩
    rw [atKey_put_other hne]
    exact (h.2 x).2 g' (by simpa [e] using hg) zd

theorem isRoad_congr {D : DataW Unit} {f g : Int → Option Bool} (h : IsRoad D f) (e : ∀ x, f x = g x) : IsRoad D g := by
  obtain rfl : f = g := funext e
  exact h

theorem lawK : Keyed Try.prog 3 := int_keyed Try.underlying3

/-- The map of a road: a new block. -/
def RoadMap (f : Int → Option Bool) (w : World) (v : Value) (w' : World) : Prop :=
  ∃ b D, v = .map (some b) ∧ w.heap.size ≤ b ∧ w'.ownsMap Try.prog 3 (plainElem (H := Unit) Try.prog 4) b 2 D ∧ IsRoad D f

def RoadIs (n k : Int) (w : World) (e : Ending) (w' : World) : Prop := ∃ v, e = .returned v ∧ RoadMap (road n k) w v w' ∧ Below w.heap.size w w'

theorem road_one (n k : Int) (w : World) (h : n = 1) : Calls Try.prog 87 #[.int .i64 n, .int .i64 k] w (RoadIs n k w) := by
  subst h
  have hmm := @run_makeMap Try.prog
  go_enter Try.func87, Try.ntmps87
  go_wp2
  go_ret
  exact ⟨_, rfl, ⟨_, _, rfl, Nat.le_refl _, (World.ownsMap_made _ _ _ _).mono (by omega), isRoad_congr isRoad_empty (fun x => by simp [road])⟩, gAlloc (Below.refl _ _) _⟩

theorem road_two (n k : Int) (w : World) (h : n = 2) : Calls Try.prog 87 #[.int .i64 n, .int .i64 k] w (RoadIs n k w) := by
  subst h
  have hmm := @run_makeMap Try.prog
  have own0 := World.ownsMap_made (H := Unit) w Try.prog 3 (plainElem Try.prog 4)
  go_enter Try.func87, Try.ntmps87
  go_wp2_with (at_mapUpdate; refine wpList_mapUpdate_own _ rfl _ _ _ 131 rfl 3 4 lawK Try.underlying131 _ w.heap.size 0 _ rfl own0 (by unfold maxLen; omega) _ _ _ rfl rfl (keyOf_int_mk Try.underlying3 (by decide)) _ [] (plainElem_bool Try.underlying4 _) ?_)
  intro w1 own1 g1
  have low1 : Below w.heap.size w w1 := (gAlloc (Below.refl _ _) _).grown g1 (by simp) (fun j e => by cases e; exact Nat.le_refl _)
  clear own0 g1
  go_wp2_with fail
  go_ret
  exact ⟨_, rfl, ⟨_, _, rfl, Nat.le_refl _, own1.mono (by omega), isRoad_congr (isRoad_put isRoad_empty 0 _) (fun x => by simp [road])⟩, low1⟩

theorem road_low (n k : Int) (w : World) (h : 2 < n) (hk : k < 2) : Calls Try.prog 87 #[.int .i64 n, .int .i64 k] w (RoadIs n k w) := by
  have hmm := @run_makeMap Try.prog
  have own0 := World.ownsMap_made (H := Unit) w Try.prog 3 (plainElem Try.prog 4)
  have h2 : (n == 2) = false := by simp; omega
  have hk2 : decide (2 ≤ k) = false := by simp; omega
  go_enter Try.func87, Try.ntmps87
  go_wp2_with (at_mapUpdate; refine wpList_mapUpdate_own _ rfl _ _ _ 131 rfl 3 4 lawK Try.underlying131 _ w.heap.size 0 _ rfl own0 (by unfold maxLen; omega) _ _ _ rfl rfl (keyOf_int_mk Try.underlying3 (by decide)) _ [] (plainElem_bool Try.underlying4 _) ?_)
  intro w1 own1 g1
  have low1 : Below w.heap.size w w1 := (gAlloc (Below.refl _ _) _).grown g1 (by simp) (fun j e => by cases e; exact Nat.le_refl _)
  clear own0 g1
  go_wp2_with (at_mapUpdate; refine wpList_mapUpdate_own _ rfl _ _ _ 131 rfl 3 4 lawK Try.underlying131 _ w.heap.size 1 _ rfl own1 (by unfold maxLen; omega) _ _ _ rfl rfl (keyOf_int_mk Try.underlying3 (by decide)) _ [] (plainElem_bool Try.underlying4 _) ?_)
  intro w2 own2 g2
  have low2 : Below w.heap.size w w2 := low1.grown g2 low1.size (fun j e => by cases e; exact Nat.le_refl _)
  clear own1 g2 low1
  go_wp2_with fail
  go_ret
  refine ⟨_, rfl, ⟨_, _, rfl, Nat.le_refl _, own2.mono (by omega), isRoad_congr (isRoad_put (isRoad_put isRoad_empty 0 _) 1 _) (fun x => ?_)⟩, low2⟩
  have n2 : n ≠ 2 := by omega
  by_cases x0 : x = 0
  · subst x0; simp [road, n2, h]; omega
  · by_cases x1 : x = 1
    · subst x1; simp [road, n2, h, hk]
    · simp [road, n2, h, hk, x0, x1]

theorem road_three (n k : Int) (w : World) (h : n = 3) (hk : 2 ≤ k) : Calls Try.prog 87 #[.int .i64 n, .int .i64 k] w (RoadIs n k w) := by
  subst h
  have hmm := @run_makeMap Try.prog
  have own0 := World.ownsMap_made (H := Unit) w Try.prog 3 (plainElem Try.prog 4)
  go_enter Try.func87, Try.ntmps87
  go_wp2_with (at_mapUpdate; refine wpList_mapUpdate_own _ rfl _ _ _ 131 rfl 3 4 lawK Try.underlying131 _ w.heap.size 0 _ rfl own0 (by unfold maxLen; omega) _ _ _ rfl rfl (keyOf_int_mk Try.underlying3 (by decide)) _ [] (plainElem_bool Try.underlying4 _) ?_)
  intro w1 own1 g1
  have low1 : Below w.heap.size w w1 := (gAlloc (Below.refl _ _) _).grown g1 (by simp) (fun j e => by cases e; exact Nat.le_refl _)
  clear own0 g1
  go_wp2_with fail
  go_ret
  refine ⟨_, rfl, ⟨_, _, rfl, Nat.le_refl _, own1.mono (by omega), isRoad_congr (isRoad_put isRoad_empty 0 _) (fun x => ?_)⟩, low1⟩
  have k2 : ¬ k < 2 := by omega
  by_cases x0 : x = 0
  · subst x0; simp [road, hk]
  · simp [road, x0, k2]

theorem road_four (n k : Int) (w : World) (h : n = 4) (hk : 2 ≤ k) : Calls Try.prog 87 #[.int .i64 n, .int .i64 k] w (RoadIs n k w) := by
  subst h
  have hmm := @run_makeMap Try.prog
  have own0 := World.ownsMap_made (H := Unit) w Try.prog 3 (plainElem Try.prog 4)
  go_enter Try.func87, Try.ntmps87
  go_wp2_with (at_mapUpdate; refine wpList_mapUpdate_own _ rfl _ _ _ 131 rfl 3 4 lawK Try.underlying131 _ w.heap.size 0 _ rfl own0 (by unfold maxLen; omega) _ _ _ rfl rfl (keyOf_int_mk Try.underlying3 (by decide)) _ [] (plainElem_bool Try.underlying4 _) ?_)
  intro w1 own1 g1
  have low1 : Below w.heap.size w w1 := (gAlloc (Below.refl _ _) _).grown g1 (by simp) (fun j e => by cases e; exact Nat.le_refl _)
  clear own0 g1
  go_wp2_with (at_mapUpdate; refine wpList_mapUpdate_own _ rfl _ _ _ 131 rfl 3 4 lawK Try.underlying131 _ w.heap.size 1 _ rfl own1 (by unfold maxLen; omega) _ _ _ rfl rfl (keyOf_int_mk Try.underlying3 (by decide)) _ [] (plainElem_bool Try.underlying4 _) ?_)
  intro w2 own2 g2
  have low2 : Below w.heap.size w w2 := low1.grown g2 low1.size (fun j e => by cases e; exact Nat.le_refl _)
  clear own1 g2 low1
  go_wp2_with fail
  go_ret
  refine ⟨_, rfl, ⟨_, _, rfl, Nat.le_refl _, own2.mono (by omega), isRoad_congr (isRoad_put (isRoad_put isRoad_empty 0 _) 2 _) (fun x => ?_)⟩, low2⟩
  have k2 : ¬ k < 2 := by omega
  by_cases x0 : x = 0
  · subst x0; simp [road, hk]
  · by_cases x2 : x = 2
    · subst x2; simp [road, k2]
    · simp [road, k2, x0, x2]

theorem road_any (n k : Int) (w : World) (h1 : 1 ≤ n) (h4 : n ≤ 4) : Calls Try.prog 87 #[.int .i64 n, .int .i64 k] w (RoadIs n k w) := by
  by_cases e1 : n = 1
  · exact road_one n k w e1
  by_cases e2 : n = 2
  · exact road_two n k w e2
  by_cases hk : k < 2
  · exact road_low n k w (by omega) hk
  by_cases e3 : n = 3
  · exact road_three n k w e3 (by omega)
  · exact road_four n k w (by omega) (by omega)
end Go.Proofs.Ytmodajmjmdigfaa
