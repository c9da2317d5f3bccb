/-
Proved: the law 'OrderExplains' returns true for every argument, and each argument reads behind the call as it read before. No condition.
-/
import Derived.Test.YtgoaedbhcldmiaaExplains
import Derived.Test.YtgoaedbhcldmiaaLogsFew
import Derived.Test.YtgoaedbhcldmiaaBank2
namespace Go.Proofs.Ytgoaedbhcldmiaa.orderExplains
open Go.ChangeShapes Go.WideShapes Go.ChangeAt Go.RowKit Go.Joins

theorem walk (mv lv : Value) (w : World) (hm : IsMem mv) (hl : IsLogsFew w lv) :
    Calls Try.prog 4 #[mv, lv] w fun e w' => e = .returned (.bool true) ∧ Below w.heap.size w w' := by
  obtain ⟨m, rfl, hm⟩ := hm
  obtain ⟨p, hp, hfew⟩ := hl
  by_cases h8 : 8 < p.length
  · exact walk_many explain_is m lv p w hm hfew hp h8
  · exact walk_few explain_is m lv p w hm hfew hp (by omega)
set_option maxRecDepth 100000 in
theorem lifted (os : Os) (started : os.Started) (H : Type) (enc : TypeId × Value → H) :
    ReturnsInHanded {} Try.checked os 4 .any (Rows.orderExplainsSpec.pre6 enc Try.prog Try.f4 Rows.orderExplainsRow.domain false) (Rows.orderExplainsSpec.post enc Try.prog Try.f4 false true false false) := by
  refine returnsInHanded_of_change_sized (C := Try.checked) own started (by kernel_rfl) Try.func4
    (ChangeSpec.witness6 (enc := enc) (C := Try.checked) false ⟨#[], #[memV zeroL, .slice none 0 0], []⟩ 8 (by kernel_rfl) (by kernel_rfl) (by kernel_rfl) (by kernel_rfl)) ?_
  intro W base args ds gs before hval0 hW hcnd hwt _
  have hval : ∀ (j : Nat) t v, Try.f4.params[j]? = some t → args[j]? = some v → Value.okWide Try.prog W .any base t v := hval0
  have hW' := hW
  obtain ⟨p, q, hA0, hV, rfl, hfz, hnd⟩ := hW
  have hA : DataW.TrodAll enc Try.prog W 0 (fun _ => true) true Try.f4.params.toList args.toList ds p := hA0
  rw [Try.params4] at hA hval
  obtain ⟨v0, vs0, d0, ds0, p0, q0, hargs, rfl, rfl, h0, r0⟩ := trodAll_cons hA
  obtain ⟨v1, vs1, d1, ds1, p1, q1, rfl, rfl, rfl, h1, r1⟩ := trodAll_cons r0
  obtain ⟨rfl, rfl, rfl⟩ := trodAll_nil r1
  obtain rfl : args = #[v0, v1] := by cases args; simp_all
  have k0 := openMem (hval 0 26 v0 rfl rfl) h0
  have k1 := openLogsFew (hval 1 44 v1 rfl rfl) h1 (fun n hn => of_decide_eq_true (List.all_eq_true.1 hwt n (DataW.weights_mem_each (j := 1) (t := 44) (d := d1) (by rfl) (by rfl) n hn)))
  obtain ⟨rfl, rfl⟩ := trodVars_none hV
  clear hA0 hval0
  refine (walk v0 v1 W k0 k1).mono fun e W' ⟨he, bel⟩ => ⟨_, he, ?_⟩
  exact law_post (by kernel_rfl) (by kernel_rfl) rfl hW' rfl rfl rfl bel

theorem over : Rows.orderExplainsRow.holds Try.pinned (OpenSpec.ofChange Rows.orderExplainsSpec) :=
  OpenClaim.holds_of_wide 4 Try.f4 rfl rfl rfl rfl rfl rfl rfl ⟨rfl, rfl, rfl, rfl, rfl⟩ rfl rfl rfl rfl rfl (by kernel_rfl) Try.func4 (by kernel_rfl)
    (of_decide_eq_true (by kernel_rfl)) (by unfold Func.isWrapper; first | (rw [if_pos (by decide +kernel)]; kernel_rfl) | (rw [if_neg (by decide +kernel)]; exact ⟨rfl, rfl⟩))
    (fun os started H enc _ => lifted os started H enc)

/-- The statement. -/
theorem orderExplains_holds : Rows.OrderExplainsSaid := over
end Go.Proofs.Ytgoaedbhcldmiaa.orderExplains
namespace Go.Proofs.Ytgoaedbhcldmiaa
theorem orderExplains_holds : Rows.OrderExplainsSaid := orderExplains.orderExplains_holds
#print axioms orderExplains_holds
end Go.Proofs.Ytgoaedbhcldmiaa
