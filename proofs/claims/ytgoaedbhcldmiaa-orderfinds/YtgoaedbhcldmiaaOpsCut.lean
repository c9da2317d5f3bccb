/-
Proved: the first k operations of a list that can be read, and the others, as l[:k] and l[k:] give them. Condition: they are there.
-/
import Derived.Test.YtgoaedbhcldmiaaOps
namespace Go.Proofs.Ytgoaedbhcldmiaa
open Go.ChangeShapes Go.WideShapes Go.ChangeAt Go.RowKit Go.Joins

/-! The first k operations of a list, and the others. -/
theorem deedsC_append (a b : List Dd) : deedsC (a ++ b) = deedsC a ++ deedsC b := List.flatMap_append

theorem ds_take {w : World} {A : Option Addr} {c : Nat} {r : List Dd} (h : Ds w (.slice A r.length c) r) (k : Nat) (hk : k ≤ r.length) : Ds w (sliced A 0 k c 4) (r.take k) := by
  obtain ⟨_, A', c', e, h1, h2, h3⟩ := h
  obtain ⟨rfl, rfl⟩ : A = A' ∧ c = c' := by injection e with e1 e2 e3; exact ⟨e1, e3⟩
  have hn : (r.take k).length = k := by rw [List.length_take]; omega
  refine ⟨deedsC_length _, _, _, by unfold sliced; rw [hn]; rfl, by rw [hn]; omega, by omega, fun h0 => ?_⟩
  rw [hn] at h0
  obtain ⟨b, o, rfl, hb, hc⟩ := h3 (by omega)
  refine ⟨b, o, by rw [if_neg (by omega)]; simp [Addr.add], hb, fun j u hu => hc j u ?_⟩
  have := (List.getElem?_eq_some_iff.1 hu).1
  rw [← List.take_append_drop k r, deedsC_append, List.getElem?_append_left this]
  exact hu

theorem ds_front {w : World} {A : Option Addr} {c : Nat} {r : List Dd} (h : Ds w (.slice A r.length c) r) (k : Nat) (hk : k ≤ r.length) : Ds w (.slice A (r.take k).length c) (r.take k) := by
  obtain ⟨_, A', c', e, h1, h2, h3⟩ := h
  obtain ⟨rfl, rfl⟩ : A = A' ∧ c = c' := by injection e with e1 e2 e3; exact ⟨e1, e3⟩
  have hn : (r.take k).length = k := by rw [List.length_take]; omega
  refine ⟨deedsC_length _, A, c, rfl, by rw [hn]; omega, h2, fun h0 => ?_⟩
  rw [hn] at h0
  obtain ⟨b, o, rfl, hb, hc⟩ := h3 (by omega)
  refine ⟨b, o, rfl, hb, fun j u hu => hc j u ?_⟩
  have := (List.getElem?_eq_some_iff.1 hu).1
  rw [← List.take_append_drop k r, deedsC_append, List.getElem?_append_left this]
  exact hu

theorem ds_drop {w : World} {A : Option Addr} {c : Nat} {r : List Dd} (h : Ds w (.slice A r.length c) r) (k : Nat) (hk : k ≤ r.length) : Ds w (sliced A k r.length c 4) (r.drop k) := by
  obtain ⟨_, A', c', e, h1, h2, h3⟩ := h
  obtain ⟨rfl, rfl⟩ : A = A' ∧ c = c' := by injection e with e1 e2 e3; exact ⟨e1, e3⟩
  have hn : (r.drop k).length = r.length - k := List.length_drop
  refine ⟨deedsC_length _, _, _, by unfold sliced; rw [hn], by rw [hn]; omega, by omega, fun h0 => ?_⟩
  rw [hn] at h0
  obtain ⟨b, o, rfl, hb, hc⟩ := h3 (by omega)
  have ea : (⟨b, o, none⟩ : Addr).add (k * 4) = ⟨b, o + k * 4, none⟩ := by
    unfold Addr.add
    split
    · rename_i e; rw [e]; rfl
    · rfl
  refine ⟨b, o + k * 4, by rw [if_neg (by omega)]; exact congrArg some ea, hb, fun j u hu => ?_⟩
  rw [Nat.add_assoc]
  refine hc _ u ?_
  have e4 : (deedsC (r.take k)).length = k * 4 := by rw [deedsC_length, List.length_take]; congr 1; omega
  rw [← List.take_append_drop k r, deedsC_append, List.getElem?_append_right (by omega), e4, Nat.add_sub_cancel_left]
  exact hu

section
variable {ρ : Operand → Value} {dst : Option Tmp} {t : TypeId} {pos : String} {after : Array Edge} {gd : Option (Nat × Bool)} {x y : Operand} {A : Option Addr} {n c k : Nat} {s : Value} {w : World}
theorem exec_front (hx : ρ x = .slice A n c) (hy : ρ y = .int .i64 k) (hk : k ≤ c) (hs : sliced A 0 k c 4 = s) :
    (execOp ρ ⟨dst, .slice 41 x none (some y) none, t, pos, after, gd⟩).run Try.prog w = .ok (.value s) w := by
  have hu : Try.prog.underlying 41 = some (.slice (Try.prog.elem 41)) := by kernel_rfl
  have hz : (sizeOf (Try.prog.elem 41)).run Try.prog w = .ok 4 w := by kernel_rfl
  unfold execOp
  simp only [hx, hy, Option.map_some, Option.map_none, Sem.run_bind, run_sliceAt_slice _ _ _ _ _ _ hu, run_slice_h w 41 A n c hu .i64 (k : Int) (by omega) (by omega), hz, Result.andThen_ok, Int.toNat_natCast, hs, Sem.run_pure]
theorem exec_back (hx : ρ x = .slice A n c) (hy : ρ y = .int .i64 k) (hk : k ≤ n) (hs : sliced A k n c 4 = s) :
    (execOp ρ ⟨dst, .slice 41 x (some y) none none, t, pos, after, gd⟩).run Try.prog w = .ok (.value s) w := by
  have hu : Try.prog.underlying 41 = some (.slice (Try.prog.elem 41)) := by kernel_rfl
  have hz : (sizeOf (Try.prog.elem 41)).run Try.prog w = .ok 4 w := by kernel_rfl
  unfold execOp
  simp only [hx, hy, Option.map_some, Option.map_none, Sem.run_bind, run_sliceAt_slice _ _ _ _ _ _ hu, run_slice_l w 41 A n c hu .i64 (k : Int) (by omega) (by omega), hz, Result.andThen_ok, Int.toNat_natCast, hs, Sem.run_pure]
end

end Go.Proofs.Ytgoaedbhcldmiaa
