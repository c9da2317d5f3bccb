/-
Proved: the law 'OrderFinds' returns true for every argument, and each argument reads behind the call as it read before. No condition.
-/
import Derived.Test.YtgoaedbhcldmiaaExplains
import Derived.Test.YtgoaedbhcldmiaaLogsFew
import Derived.Test.YtgoaedbhcldmiaaOrderFinding
import Derived.Test.YtgoaedbhcldmiaaBank2
namespace Go.Proofs.Ytgoaedbhcldmiaa.orderFinds
open Go.ChangeShapes Go.WideShapes Go.ChangeAt Go.RowKit Go.Joins

theorem walk (mv dv lv : Value) (w : World) (hm : IsMem mv) (hd : IsDeeds w dv) (hl : IsLogsFew w lv) :
    Calls Try.prog 5 #[mv, dv, lv] w fun e w' => e = .returned (.bool true) ∧ Below w.heap.size w w' := by
  obtain ⟨m, rfl, hm⟩ := hm
  obtain ⟨r, hd⟩ := hd
  obtain ⟨p, hp, hfew⟩ := hl
  by_cases hE : explE p = 0
  · exact walk_good legal_is orderExplains.explain_is m dv lv r p w hm hfew hd hp hE
  · exact walk_bad legal_is orderExplains.explain_is m dv lv r p w hm hfew hd hp hE
set_option maxRecDepth 100000 in
theorem lifted (os : Os) (started : os.Started) (H : Type) (enc : TypeId × Value → H) :
    ReturnsInHanded {} Try.checked os 5 .any (Rows.orderFindsSpec.pre6 enc Try.prog Try.f5 Rows.orderFindsRow.domain false) (Rows.orderFindsSpec.post enc Try.prog Try.f5 false true false false) := by
  refine returnsInHanded_of_change_sized (C := Try.checked) own started (by kernel_rfl) Try.func5
    (ChangeSpec.witness6 (enc := enc) (C := Try.checked) false ⟨#[], #[memV zeroL, .slice none 0 0, .slice none 0 0], []⟩ 8 (by kernel_rfl) (by kernel_rfl) (by kernel_rfl) (by kernel_rfl)) ?_
  intro W base args ds gs before hval0 hW hcnd hwt _
  have hval : ∀ (j : Nat) t v, Try.f5.params[j]? = some t → args[j]? = some v → Value.okWide Try.prog W .any base t v := hval0
  have hW' := hW
  obtain ⟨p, q, hA0, hV, rfl, hfz, hnd⟩ := hW
  have hA : DataW.TrodAll enc Try.prog W 0 (fun _ => true) true Try.f5.params.toList args.toList ds p := hA0
  rw [Try.params5] at hA hval
  obtain ⟨v0, vs0, d0, ds0, p0, q0, hargs, rfl, rfl, h0, r0⟩ := trodAll_cons hA
  obtain ⟨v1, vs1, d1, ds1, p1, q1, rfl, rfl, rfl, h1, r1⟩ := trodAll_cons r0
  obtain ⟨v2, vs2, d2, ds2, p2, q2, rfl, rfl, rfl, h2, r2⟩ := trodAll_cons r1
  obtain ⟨rfl, rfl, rfl⟩ := trodAll_nil r2
  obtain rfl : args = #[v0, v1, v2] := by cases args; simp_all
  have k0 := openMem (hval 0 26 v0 rfl rfl) h0
  have k1 := openDeeds (hval 1 41 v1 rfl rfl) h1
  have k2 := openLogsFew (hval 2 44 v2 rfl rfl) h2 (fun n hn => of_decide_eq_true (List.all_eq_true.1 hwt n (DataW.weights_mem_each (j := 2) (t := 44) (d := d2) (by rfl) (by rfl) n hn)))
  obtain ⟨rfl, rfl⟩ := trodVars_none hV
  clear hA0 hval0
  refine (walk v0 v1 v2 W k0 k1 k2).mono fun e W' ⟨he, bel⟩ => ⟨_, he, ?_⟩
  exact law_post (by kernel_rfl) (by kernel_rfl) rfl hW' rfl rfl rfl bel

theorem over : Rows.orderFindsRow.holds Try.pinned (OpenSpec.ofChange Rows.orderFindsSpec) :=
  OpenClaim.holds_of_wide 5 Try.f5 rfl rfl rfl rfl rfl rfl rfl ⟨rfl, rfl, rfl, rfl, rfl⟩ rfl rfl rfl rfl rfl (by kernel_rfl) Try.func5 (by kernel_rfl)
    (of_decide_eq_true (by kernel_rfl)) (by unfold Func.isWrapper; first | (rw [if_pos (by decide +kernel)]; kernel_rfl) | (rw [if_neg (by decide +kernel)]; exact ⟨rfl, rfl⟩))
    (fun os started H enc _ => lifted os started H enc)

/-- The statement. -/
theorem orderFinds_holds : Rows.OrderFindsSaid := over
end Go.Proofs.Ytgoaedbhcldmiaa.orderFinds
namespace Go.Proofs.Ytgoaedbhcldmiaa
theorem orderFinds_holds : Rows.OrderFindsSaid := orderFinds.orderFinds_holds
#print axioms orderFinds_holds
end Go.Proofs.Ytgoaedbhcldmiaa
