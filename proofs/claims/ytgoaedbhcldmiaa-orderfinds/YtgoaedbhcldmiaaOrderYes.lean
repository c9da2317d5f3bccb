/-
Proved: the closed fact that the statement 'OrderFinds' asks for first: a load of what is there is legal. Condition: what Legal of package order tells (handed in).
-/
import Derived.Test.YtgoaedbhcldmiaaOrderTell
namespace Go.Proofs.Ytgoaedbhcldmiaa.orderTells
open Go.ChangeShapes Go.WideShapes Go.ChangeAt Go.RowKit Go.Joins

def sevenL : List Int := 7 :: List.replicate 63 0
/-- The literal 'Memory{{7}}'. -/
theorem wp_sevenMem {ops : Array Oper} {rest : List Oper} {dst : Option Tmp} {t : TypeId} {pos : String} {after : Array Edge} {a : Act} {w : World} {Q : Exit → Act → World → Prop} {x : Operand} (hx : a.eval x = line 7 0 0 0)
    (h : wpList Try.prog ops Q rest (a.put dst (memV sevenL)) w) : wpList Try.prog ops Q (⟨dst, .build 26 #[(0, x)], t, pos, after, none⟩ :: rest) a w := by
  refine wpList_plain rfl fun K hK => ?_
  have e : (Instr.build 26 #[(0, line 7 0 0 0)]).run Try.prog w = .ok (memV sevenL) w := by kernel_rfl
  unfold Oper.wp execOp
  simp only [List.map_toArray, List.map_cons, List.map_nil, hx, e, Sem.run_bind, Sem.run_pure, Result.andThen_ok]
  exact hK _ _ h
theorem r_one {W : World} {a : Nat} {x : Td} (db : Box W a 38 x.arr) : elT.R W (.slice (some ⟨a, 0, none⟩) 1 1) [x] := by
  refine ⟨rfl, _, _, rfl, Nat.le_refl _, by unfold maxLen; decide, fun _ => ⟨a, 0, rfl, db.lt, fun j u hu => ?_⟩⟩
  rw [Nat.zero_add, db.cell]
  simpa [El.C, elT] using hu

theorem orders_yes (LGI : LegalIs) (w : World) : Calls Try.prog 14 #[] w fun e w' => e = .returned (.bool true) ∧ Below w.heap.size w w' := by
  have low := Below.refl w.heap.size w
  have db := boxNext low 38 #[.int .i64 0, .int .i64 1, .int .i64 0, .int .u64 0, .int .u64 7]
  replace low := gAlloc low (.cells #[.int .i64 0, .int .i64 1, .int .i64 0, .int .u64 0, .int .u64 7] 38)
  try simp only [World.size_alloc] at db
  have LG := Lib.hid (LGI sevenL _ [⟨⟨0, 1, 0, 0⟩, 7⟩] _ (by simp [sevenL]) (r_one (x := ⟨⟨0, 1, 0, 0⟩, 7⟩) db))
  rw [show toldE 200 [⟨⟨0, 1, 0, 0⟩, 7⟩] = 0 by decide +kernel, show legB sevenL [⟨⟨0, 1, 0, 0⟩, 7⟩] = true by decide +kernel] at LG
  clear db
  go_enter Try.func14, Try.ntmps14
  go_wp2_with ((with_reducible refine wp_sevenMem ?_ ?_); rfl)
  (with_reducible refine LG.out.mono ?_); rintro e w2 ⟨rfl, hb⟩
  replace low := gCall low hb
  clear hb LG
  go_wp2_with fail
  go_ret
  exact ⟨rfl, low⟩
end Go.Proofs.Ytgoaedbhcldmiaa.orderTells
