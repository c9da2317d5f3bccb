/-
Proved: the given statement MachineEnds: each machine is through within as many cycles as Bound tells. No condition.
-/
import Derived.Test.YtgdacpcifnpojaaGreatMachEnds
import Derived.Test.YtgdacpcifnpojaaGreatJoined8
namespace Go.Proofs.YtgdacpcifnpojaaGreat.machineEndsLaw
open Go.ChangeShapes Go.WideShapes Go.ChangeAt Go.RowKit Go.Joins

theorem walk (c kv pv tv : Value) (w : World) (hc : IsCfg c) (hk : IsInt kv) (hp : IsProgs w pv) (ht : IsInts w tv) : Calls Tryz.prog 4 #[c, kv, pv, tv] w fun e w' => e = .returned (.bool true) ∧ Below w.heap.size w w' := by
  obtain ⟨n, s, y, b, rfl, _⟩ := hc
  obtain ⟨k, rfl, _⟩ := hk
  exact machineEnds.walk machNew_is bound_is run_is ended_is n s y b k pv tv w hp ht
set_option maxRecDepth 100000 in
theorem lifted (os : Os) (started : os.Started) (H : Type) (enc : TypeId × Value → H) :
    ReturnsInHanded {} Tryz.checked os 4 .any (Rows.machineEndsSpec.pre6 enc Tryz.prog Tryz.f4 Rows.machineEndsRow.domain false) (Rows.machineEndsSpec.post enc Tryz.prog Tryz.f4 false true false false) := by
  refine returnsInHanded_of_change (C := Tryz.checked) own started (by kernel_rfl) Tryz.func4
    (ChangeSpec.witness6 (enc := enc) (C := Tryz.checked) false ⟨#[], #[cfg 2 1 1 1, .int .i64 1, .slice none 0 0, .slice none 0 0], []⟩ 8 (by kernel_rfl) (by kernel_rfl) (by kernel_rfl) (by kernel_rfl)) ?_
  intro W base args ds gs before hval0 hW hcnd _
  have hval : ∀ (j : Nat) t v, Tryz.f4.params[j]? = some t → args[j]? = some v → Value.okWide Tryz.prog W .any base t v := hval0
  have hW' := hW
  obtain ⟨p, q, hA0, hV, rfl, hfz, hnd⟩ := hW
  have hA : DataW.TrodAll enc Tryz.prog W 0 (fun _ => true) true Tryz.f4.params.toList args.toList ds p := hA0
  rw [Tryz.params4] at hA hval
  obtain ⟨v0, vs0, d0, ds0, p0, q0, hargs, rfl, rfl, h0, r0⟩ := trodAll_cons hA
  obtain ⟨v1, vs1, d1, ds1, p1, q1, rfl, rfl, rfl, h1, r1⟩ := trodAll_cons r0
  obtain ⟨v2, vs2, d2, ds2, p2, q2, rfl, rfl, rfl, h2, r2⟩ := trodAll_cons r1
  obtain ⟨v3, vs3, d3, ds3, p3, q3, rfl, rfl, rfl, h3, r3⟩ := trodAll_cons r2
  obtain ⟨rfl, rfl, rfl⟩ := trodAll_nil r3
  obtain rfl : args = #[v0, v1, v2, v3] := by cases args; simp_all
  have k0 := openCfg (hval 0 23 v0 rfl rfl) h0
  have k1 := openInt (hval 1 3 v1 rfl rfl) h1
  have k2 := openProgs (hval 2 34 v2 rfl rfl) h2
  have k3 := openInts (hval 3 35 v3 rfl rfl) h3
  obtain ⟨rfl, rfl⟩ := trodVars_none hV
  clear hA0 hval0
  refine (walk v0 v1 v2 v3 W k0 k1 k2 k3).mono fun e W' ⟨he, bel⟩ => ⟨_, he, ?_⟩
  exact law_post (by kernel_rfl) (by kernel_rfl) rfl hW' rfl rfl rfl bel

theorem over : Rows.machineEndsRow.holds Tryz.pinned (OpenSpec.ofChange Rows.machineEndsSpec) :=
  OpenClaim.holds_of_wide 4 Tryz.f4 rfl rfl rfl rfl rfl rfl rfl ⟨rfl, rfl, rfl, rfl, rfl⟩ rfl rfl rfl rfl rfl (by kernel_rfl) Tryz.func4 (by kernel_rfl)
    (of_decide_eq_true (by kernel_rfl)) (by unfold Func.isWrapper; first | (rw [if_pos (by decide +kernel)]; kernel_rfl) | (rw [if_neg (by decide +kernel)]; exact ⟨rfl, rfl⟩))
    (fun os started H enc _ => lifted os started H enc)

/-- The statement. -/
theorem machineEnds_holds : Rows.MachineEndsSaid := over
end Go.Proofs.YtgdacpcifnpojaaGreat.machineEndsLaw
namespace Go.Proofs.YtgdacpcifnpojaaGreat
theorem machineEnds_holds : Rows.MachineEndsSaid := machineEndsLaw.machineEnds_holds
#print axioms machineEnds_holds
end Go.Proofs.YtgdacpcifnpojaaGreat
