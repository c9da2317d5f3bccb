/-
Proved: an array of two machines: what is built of two, and what lies at each index. No condition.
-/
import Derived.Test.YtgdacpcifnpojaaGreatOwnBump
namespace Go.Proofs.YtgdacpcifnpojaaGreat
open Go.ChangeShapes Go.WideShapes Go.ChangeAt Go.RowKit Go.Joins
def pairV (X Y : Array Value) : Value := .agg (X.toList ++ Y.toList).toArray
set_option maxRecDepth 10000 in
theorem pair_fn (f g : Nat → Value) (w : World) : (Instr.build 70 #[(0, .agg ((List.range 74).map f).toArray), (1, .agg ((List.range 74).map g).toArray)]).run Tryz.prog w = .ok (.agg (((List.range 74).map f) ++ ((List.range 74).map g)).toArray) w := by kernel_rfl
set_option maxRecDepth 10000 in
theorem left_fn (f g : Nat → Value) (w : World) : (Instr.index 70 (.agg (((List.range 74).map f) ++ ((List.range 74).map g)).toArray) (.int .i64 0)).run Tryz.prog w = .ok (.agg ((List.range 74).map f).toArray) w := by kernel_rfl
set_option maxRecDepth 10000 in
theorem right_fn (f g : Nat → Value) (w : World) : (Instr.index 70 (.agg (((List.range 74).map f) ++ ((List.range 74).map g)).toArray) (.int .i64 1)).run Tryz.prog w = .ok (.agg ((List.range 74).map g).toArray) w := by kernel_rfl
section
variable {X Y : Array Value}
theorem arr_fn (hX : X.size = 74) : ∃ f : Nat → Value, X = ((List.range 74).map f).toArray := by
 obtain ⟨l⟩ := X
 have hl : l.length = 74 := by simpa using hX
 refine ⟨fun i => l.getD i (.bool false), ?_⟩
 congr 1
 refine List.ext_getElem (by simp [hl]) fun i h1 h2 => ?_
 simp [List.getD, List.getElem?_eq_getElem h1]
theorem pairV_fn (f g : Nat → Value) : pairV ((List.range 74).map f).toArray ((List.range 74).map g).toArray = .agg (((List.range 74).map f) ++ ((List.range 74).map g)).toArray := by
 unfold pairV
 generalize (List.range 74).map f = a
 generalize (List.range 74).map g = b
 rfl
theorem pair_built (hX : X.size = 74) (hY : Y.size = 74) (w : World) : (Instr.build 70 #[(0, .agg X), (1, .agg Y)]).run Tryz.prog w = .ok (pairV X Y) w := by
 obtain ⟨f, rfl⟩ := arr_fn hX
 obtain ⟨g, rfl⟩ := arr_fn hY
 rw [pairV_fn]
 exact pair_fn f g w
theorem pair_left (hX : X.size = 74) (hY : Y.size = 74) (w : World) : (Instr.index 70 (pairV X Y) (.int .i64 0)).run Tryz.prog w = .ok (.agg X) w := by
 obtain ⟨f, rfl⟩ := arr_fn hX
 obtain ⟨g, rfl⟩ := arr_fn hY
 rw [pairV_fn]
 exact left_fn f g w
theorem pair_right (hX : X.size = 74) (hY : Y.size = 74) (w : World) : (Instr.index 70 (pairV X Y) (.int .i64 1)).run Tryz.prog w = .ok (.agg Y) w := by
 obtain ⟨f, rfl⟩ := arr_fn hX
 obtain ⟨g, rfl⟩ := arr_fn hY
 rw [pairV_fn]
 exact right_fn f g w
end
theorem wp_pair {ops : Array Oper} {rest : List Oper} {dst : Option Tmp} {t : TypeId} {pos : String} {after : Array Edge} {a : Act} {w : World} {Q : Exit → Act → World → Prop} {x y : Operand} {X Y : Array Value} (hX : X.size = 74) (hY : Y.size = 74) (hx : a.eval x = .agg X) (hy : a.eval y = .agg Y) (h : wpList Tryz.prog ops Q rest (a.put dst (pairV X Y)) w) : wpList Tryz.prog ops Q (⟨dst, .build 70 #[(0, x), (1, y)], t, pos, after, none⟩ :: rest) a w := by
 refine wpList_plain rfl fun K hK => ?_
 unfold Oper.wp execOp
 simp only [List.map_toArray, List.map_cons, List.map_nil, hx, hy, pair_built hX hY, Sem.run_bind, Sem.run_pure, Result.andThen_ok]
 exact hK _ _ h
theorem pair_at {X Y : Array Value} {w : World} {B : Nat} (hX : ShM w B X) (hY : ShM w B Y) (j : Nat) (hj : j < 2) : ∃ Z, (∀ w, (Instr.index 70 (pairV X Y) (.int .i64 j)).run Tryz.prog w = .ok (.agg Z) w) ∧ ShM w B Z := by
 match j, hj with
 | 0, _ => exact ⟨X, pair_left hX.size.1 hY.size.1, hX⟩
 | 1, _ => exact ⟨Y, pair_right hX.size.1 hY.size.1, hY⟩
theorem given_sh {E : Int} {X : Mc × List Ev} {B : Nat} {e : Ending} {w' : World} (h : GivesN E X B e w') : ∃ Z A n c, e = .returned (.tuple #[.agg Z, .slice A n c, .int .i64 E]) ∧ ShM w' B Z := by
 obtain ⟨v, u, rfl, ⟨_, rfl, rfl⟩ | ⟨_, h1, h2⟩⟩ := h
 ·exact ⟨_, _, _, _, rfl, ShM.zero _ _⟩
 ·obtain ⟨Z, rfl, sh⟩ := h1.sh
  obtain ⟨A, c, rfl⟩ := own_shape h2
  exact ⟨Z, _, _, _, rfl, sh⟩
end Go.Proofs.YtgdacpcifnpojaaGreat
