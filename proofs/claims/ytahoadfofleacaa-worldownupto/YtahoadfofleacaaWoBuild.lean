/-
Proved: slices of worlds and a world without memory are built of letters. Condition: each memory has 64 words.
-/
import Derived.Test.YtahoadfofleacaaDeedWorld
import Derived.Great.BuildSlice
namespace Go.Proofs.Ytahoadfofleacaa
open Go.ChangeShapes Go.WideShapes Go.ChangeAt Go.RowKit Go.Joins

theorem fold_at (Z A : Array Value) (off i : Nat) (h : off + A.size ≤ Z.size) :
    (A.zipIdx.foldl (fun cs x => match x with | (c, j) => cs.setIfInBounds (off + j) c) Z)[i]? = if off ≤ i ∧ i < off + A.size then A[i - off]? else Z[i]? := by
  rw [← Array.foldl_toList, Array.toList_zipIdx]
  refine (foldl_set A.toList 0 off Z i (by rw [Array.length_toList]; omega)).trans ?_
  rw [Array.length_toList, Nat.add_zero, Array.getElem?_toList]
theorem fold_size (Z A : Array Value) (off : Nat) (h : off + A.size ≤ Z.size) :
    (A.zipIdx.foldl (fun cs x => match x with | (c, j) => cs.setIfInBounds (off + j) c) Z).size = Z.size := by
  have key : ∀ i, (A.zipIdx.foldl (fun cs x => match x with | (c, j) => cs.setIfInBounds (off + j) c) Z)[i]? = none ↔ Z[i]? = none := fun i => by
    rw [fold_at Z A off i h]
    split
    · rename_i hi
      rw [Array.getElem?_eq_none_iff, Array.getElem?_eq_none_iff]
      omega
    · exact Iff.rfl
  have h1 := (key Z.size).2 (by simp)
  have h2 := (key (A.zipIdx.foldl (fun cs x => match x with | (c, j) => cs.setIfInBounds (off + j) c) Z).size).1 (by simp)
  rw [Array.getElem?_eq_none_iff] at h1 h2
  omega

/-- The cells of a world. -/
theorem wv_cells (v : Value) (m : List Int) : (wldV v m).cells = wldA v m := rfl
theorem fill_one (Z : Array Value) (hZ : Z.size = 65) (v : Value) (m : List Int) (hm : m.length = 64) : Instr.fill (fun i => some (i * 65, 65)) Z [(0, wldV v m)] = some (wldA v m) := by
  have s1 : (wldA v m).size = 65 := by rw [wldA_size, hm]
  simp only [Instr.fill, wv_cells, s1, hZ]
  rw [if_neg (by simp)]
  congr 1
  refine Array.ext_getElem? fun i => ?_
  refine (fold_at Z (wldA v m) (0 * 65) i (by omega)).trans ?_
  by_cases h : i < 65
  · rw [if_pos (by omega)]; simp
  · rw [if_neg (by omega), Array.getElem?_eq_none (by omega), Array.getElem?_eq_none (by omega)]
theorem fill_two (Z : Array Value) (hZ : Z.size = 130) (v v' : Value) (m m' : List Int) (hm : m.length = 64) (hm' : m'.length = 64) : Instr.fill (fun i => some (i * 65, 65)) Z [(0, wldV v m), (1, wldV v' m')] = some (wldA v m ++ wldA v' m') := by
  have s1 : (wldA v m).size = 65 := by rw [wldA_size, hm]
  have s2 : (wldA v' m').size = 65 := by rw [wldA_size, hm']
  have z1 := fold_size Z (wldA v m) (0 * 65) (by omega)
  simp only [Instr.fill, wv_cells, s1, s2, hZ]
  rw [if_neg (by simp), if_neg (by rw [z1, hZ]; simp)]
  congr 1
  refine Array.ext_getElem? fun i => ?_
  refine (fold_at _ (wldA v' m') (1 * 65) i (by rw [z1]; omega)).trans ?_
  rw [fold_at Z (wldA v m) (0 * 65) i (by omega), Array.getElem?_append, s1, s2]
  by_cases h : i < 65
  · rw [if_neg (by omega), if_pos (by omega), if_pos h]; simp
  · rw [if_neg h]
    by_cases h2 : i < 130
    · rw [if_pos (by omega), Nat.one_mul]
    · rw [if_neg (by omega), if_neg (by omega), Array.getElem?_eq_none (by omega), Array.getElem?_eq_none (by omega)]

theorem info_world : (Try.prog.info? 31).map (fun i => (i.zero, i.size, i.bytes)) = some (some (wldV (.slice none 0 0) zeroL), 65, 536) := by kernel_rfl

theorem build_nomem (A : Option Addr) (n c : Nat) (w : World) : (Instr.build 31 #[(0, .slice A n c)]).run Try.prog w = .ok (wldV (.slice A n c) zeroL) w := by
  refine run_build w _ _ _ ?_
  rw [built_world]
  have e0 : (Value.slice A n c).cells = #[Value.slice A n c] := rfl
  have z1 : (wldA (.slice none 0 0) zeroL).size = 65 := zero_size
  simp only [Instr.fill, e0, z1]
  simp only [List.getElem?_toArray, List.getElem?_cons_zero]
  rw [if_neg (by simp)]
  have e2 : (#[Value.slice A n c].zipIdx.foldl (fun cs x => match x with | (c, j) => cs.setIfInBounds (0 + j) c) (wldA (.slice none 0 0) zeroL)) = wldA (.slice A n c) zeroL := by kernel_rfl
  rw [e2]

section
variable {ops : Array Oper} {rest : List Oper} {dst : Option Tmp} {t : TypeId} {pos : String} {after : Array Edge} {a : Act} {w : World} {Q : Exit → Act → World → Prop}
theorem wp_nomem {x : Operand} (A : Option Addr) (n c : Nat) (hx : a.eval x = .slice A n c)
    (h : wpList Try.prog ops Q rest (a.put dst (wldV (.slice A n c) zeroL)) w) : wpList Try.prog ops Q (⟨dst, .build 31 #[(0, x)], t, pos, after, none⟩ :: rest) a w := by
  refine wpList_plain rfl fun K hK => ?_
  unfold Oper.wp execOp
  simp only [List.map_toArray, List.map_cons, List.map_nil, hx, Sem.run_bind, build_nomem, Result.andThen_ok, Sem.run_pure]
  exact hK _ _ h
theorem wp_world1 {x : Operand} (v : Value) (m : List Int) (hm : m.length = 64) (hx : a.eval x = wldV v m)
    (h : wpList Try.prog ops Q rest (a.put dst (.slice (some ⟨w.heap.size, 0, none⟩) 1 1)) (w.alloc (.cells (wldA v m) 31))) : wpList Try.prog ops Q (⟨dst, .buildSlice 80 1 #[(0, x)], t, pos, after, none⟩ :: rest) a w := by
  obtain ⟨i0, hi, hz0, hz1, hz2⟩ := info_parts info_world
  refine wpList_buildSlice rfl 80 31 1 #[(0, x)] rfl (wldA v m) i0 _ Try.underlying80 hi hz0 (by rw [hz1]; omega) (by rw [hz1]; omega) ?_ h
  rw [hz1]
  simp only [List.map_toArray, List.map_cons, List.map_nil, hx]
  exact fill_one _ (by simp) v m hm
theorem wp_world2 {x y : Operand} (v v' : Value) (m m' : List Int) (hm : m.length = 64) (hm' : m'.length = 64) (hx : a.eval x = wldV v m) (hy : a.eval y = wldV v' m')
    (h : wpList Try.prog ops Q rest (a.put dst (.slice (some ⟨w.heap.size, 0, none⟩) 2 2)) (w.alloc (.cells (wldA v m ++ wldA v' m') 31))) : wpList Try.prog ops Q (⟨dst, .buildSlice 80 2 #[(0, x), (1, y)], t, pos, after, none⟩ :: rest) a w := by
  obtain ⟨i0, hi, hz0, hz1, hz2⟩ := info_parts info_world
  refine wpList_buildSlice rfl 80 31 2 #[(0, x), (1, y)] rfl (wldA v m ++ wldA v' m') i0 _ Try.underlying80 hi hz0 (by rw [hz1]; omega) (by rw [hz1]; omega) ?_ h
  rw [hz1]
  simp only [List.map_toArray, List.map_cons, List.map_nil, hx, hy]
  exact fill_two _ (by simp) v v' m m' hm hm'
end
end Go.Proofs.Ytahoadfofleacaa
