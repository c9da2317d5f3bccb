/-
Proved: what Same of package bank returns; '==' on memories; an argument that is a memory. No condition.
-/
import Derived.Test.YtcegjehoejgofaaBank
import Derived.Test.YtcegjehoejgofaaIntsEqual
import Derived.Deep.RegionHeld3
namespace Go.Proofs.Ytcegjehoejgofaa
open Go.ChangeShapes Go.WideShapes Go.ChangeAt Go.RowKit Go.Joins

def IsMem (v : Value) : Prop := ∃ l, v = memV l ∧ l.length = 64

theorem words_of : ∀ {n : Nat} {cs : List Value}, AllOk (List.replicate n (.int .u64)) cs → ∃ l : List Int, cs = l.map (Value.int .u64) ∧ l.length = n
  | 0, [], _ => ⟨[], rfl, rfl⟩
  | 0, _ :: _, h => h.elim
  | n + 1, [], h => h.elim
  | n + 1, c :: cs, h => by
    obtain ⟨⟨a, rfl, _⟩, h2⟩ := h
    obtain ⟨l, rfl, hl⟩ := words_of h2
    exact ⟨a :: l, rfl, by simp [hl]⟩

section
variable {H : Type} {enc : TypeId × Value → H} {W : World} {base : Nat} {v : Value} {d : DataW H} {p : List MemPlace}
set_option maxRecDepth 10000 in
theorem openMem (hv : Value.okWide Try.prog W .any base 28 v) (h : DataW.Trod enc Try.prog W 0 (fun _ => true) true 28 v d p) : IsMem v := by
  obtain ⟨cs, rfl, hk⟩ := flat_value (n := 3) (ks := List.replicate 64 (.int .u64)) (by kernel_rfl) (.inr ⟨_, _, Try.underlying28⟩) hv h
  obtain ⟨l, rfl, hl⟩ := words_of hk
  exact ⟨l, rfl, hl⟩
end

/-- Two memories are the same. -/
def sameM (l m : List Int) : Bool := decide (l = m)

theorem eqCells_words : ∀ (l m : List Int), l.length = m.length → eqCells (l.map (Value.int .u64)) (m.map (Value.int .u64)) = sameM l m
  | [], [], _ => rfl
  | [], _ :: _, h => by cases h
  | _ :: _, [], h => by cases h
  | a :: l, b :: m, h => by
    have ih := eqCells_words l m (by simpa using h)
    simp only [List.map_cons, eqCells, scEq, ih, sameM]
    rw [Bool.eq_iff_iff]
    simp

theorem allK_words : ∀ (l : List Int), AllK (List.replicate l.length (.int .u64)) (l.map (Value.int .u64))
  | [] => trivial
  | a :: l => ⟨⟨a, rfl⟩, allK_words l⟩

/-- '==' on memories. -/
theorem eqMem (l m : List Int) (hl : l.length = 64) (hm : m.length = 64) (w : World) : (Op.equalIn 10000 28 (memV l) (memV m)).run Try.prog w = .ok (sameM l m) w := by
  have al := allK_words l
  have am := allK_words m
  rw [hl] at al
  rw [hm] at am
  have := equal_flat (P := Try.prog) 3 28 (List.replicate 64 (.int .u64)) (by kernel_rfl) (by kernel_rfl) 10000 (by omega) w _ _ (memV l) (memV m) al am (by simp [ValIs, Try.underlying28, memA]) (by simp [ValIs, Try.underlying28, memA])
  rwa [eqCells_words l m (by rw [hl, hm])] at this

/-- The addresses below k at which two memories differ. -/
def diffL (l m : List Int) : Nat → List Int
  | 0 => []
  | k + 1 => if wd l k = wd m k then diffL l m k else diffL l m k ++ [(k : Int)]

theorem diffL_length (l m : List Int) : ∀ k, (diffL l m k).length ≤ k
  | 0 => Nat.le_refl _
  | k + 1 => by
    have := diffL_length l m k
    unfold diffL
    split <;> simp <;> omega

theorem info_int : (Try.prog.info? 3).map (fun i => (i.zero, i.size, i.bytes)) = some (some (.int .i64 0), 1, 8) := by kernel_rfl

end Go.Proofs.Ytcegjehoejgofaa
