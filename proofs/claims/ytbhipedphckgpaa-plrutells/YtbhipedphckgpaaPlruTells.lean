/-
Proved: the law 'PlruTells' returns true for every argument, and changes nothing that was there. No condition.
-/
import Derived.Test.YtbhipedphckgpaaRefPlru4
import Derived.Deep.RegionHeld3
namespace Go.Proofs.Ytbhipedphckgpaa.plruTells
open Go.ChangeShapes Go.WideShapes Go.ChangeAt Go.RowKit

set_option maxHeartbeats 4000000 in
theorem walk_bad (a b c : Bool) (n k : Int) (w : World) (h : treeE a b c n ≠ 0) :
    Calls Try.prog 3 #[tree a b c, .int .i64 n, .int .i64 k] w fun e w' => e = .returned (.bool true) ∧ Below w.heap.size w w' := by
  have H := Lib.hid h
  have h' : (treeE a b c n != 0) = true := by simpa using h
  clear h
  have low := Below.refl w.heap.size w
  have bx := Box.new w 23 #[.bool a, .bool b, .bool c]
  replace low := gAlloc low (.cells #[.bool a, .bool b, .bool c] 23)
  go_enter Try.func3, Try.ntmps3
  go_wp2_with fail
  (with_reducible refine (touch_bad _ _ _ _ _ _ H.out).mono ?_); rintro e w1 ⟨rfl, hb⟩
  replace bx := bx.call hb
  replace low := gCall low hb
  clear hb
  have y := Box.new w1 23 #[.bool false, .bool false, .bool false]
  replace low := gAlloc low (.cells #[.bool false, .bool false, .bool false] 23)
  replace bx := bx.alloc (.cells #[.bool false, .bool false, .bool false] 23)
  have bx_0 := bx.at_ 0 rfl
  have bx_1 := bx.at_ 1 rfl
  have bx_2 := bx.at_ 2 rfl
  go_wp2_with fail
  (with_reducible refine (victim_bad _ _ _ _ _ H.out).mono ?_); rintro e w2 ⟨rfl, hb⟩
  replace bx := bx.call hb
  replace y := y.call hb
  replace low := gCall low hb
  clear hb bx_0 bx_1 bx_2
  have bx_0 := bx.at_ 0 rfl
  have bx_1 := bx.at_ 1 rfl
  have bx_2 := bx.at_ 2 rfl
  go_wp2_with fail
  (with_reducible refine (treeFault_any _ _ _ _ _).mono ?_); rintro e w3 ⟨rfl, hb⟩
  replace bx := bx.call hb
  replace y := y.call hb
  replace low := gCall low hb
  clear hb bx_0 bx_1 bx_2
  have bx_0 := bx.at_ 0 rfl
  have bx_1 := bx.at_ 1 rfl
  have bx_2 := bx.at_ 2 rfl
  go_wp2_with fail
  (with_reducible refine (plruCheck_any _ _ _ _ _).mono ?_); rintro e w4 ⟨rfl, hb⟩
  replace bx := bx.call hb
  replace y := y.call hb
  replace low := gCall low hb
  clear hb bx_0 bx_1 bx_2
  have y_0 := y.at_ 0 rfl
  have y_1 := y.at_ 1 rfl
  have y_2 := y.at_ 2 rfl
  go_wp2_with fail
  go_ret
  exact ⟨rfl, low⟩

set_option maxHeartbeats 4000000 in
theorem walk_out (a b c : Bool) (n k : Int) (w : World) (h : treeE a b c n = 0) (hk : k < 0 ∨ n ≤ k) :
    Calls Try.prog 3 #[tree a b c, .int .i64 n, .int .i64 k] w fun e w' => e = .returned (.bool true) ∧ Below w.heap.size w w' := by
  have H := Lib.hid h
  clear h
  by_cases h1 : k < 0
  all_goals
    have h2 : ¬ (0 ≤ k ∧ k < n) := by omega
    have low := Below.refl w.heap.size w
    have bx := Box.new w 23 #[.bool a, .bool b, .bool c]
    replace low := gAlloc low (.cells #[.bool a, .bool b, .bool c] 23)
    go_enter Try.func3, Try.ntmps3
    go_wp2_with fail
    (with_reducible refine (touch_out _ _ _ _ _ _ H.out (by omega)).mono ?_); rintro e w1 ⟨rfl, hb⟩
    replace bx := bx.call hb
    replace low := gCall low hb
    clear hb
    have y := Box.new w1 23 #[.bool false, .bool false, .bool false]
    replace low := gAlloc low (.cells #[.bool false, .bool false, .bool false] 23)
    replace bx := bx.alloc (.cells #[.bool false, .bool false, .bool false] 23)
    have bx_0 := bx.at_ 0 rfl
    have bx_1 := bx.at_ 1 rfl
    have bx_2 := bx.at_ 2 rfl
    go_wp2_with fail
    (with_reducible refine (victim_ok _ _ _ _ _ H.out).mono ?_); rintro e w2 ⟨rfl, hb⟩
    replace bx := bx.call hb
    replace y := y.call hb
    replace low := gCall low hb
    clear hb bx_0 bx_1 bx_2
    have bx_0 := bx.at_ 0 rfl
    have bx_1 := bx.at_ 1 rfl
    have bx_2 := bx.at_ 2 rfl
    go_wp2_with fail
    (with_reducible refine (treeFault_any _ _ _ _ _).mono ?_); rintro e w3 ⟨rfl, hb⟩
    replace bx := bx.call hb
    replace y := y.call hb
    replace low := gCall low hb
    clear hb bx_0 bx_1 bx_2
    rw [H.out]
    have bx_0 := bx.at_ 0 rfl
    have bx_1 := bx.at_ 1 rfl
    have bx_2 := bx.at_ 2 rfl
    go_wp2_with fail
    (with_reducible refine (plruCheck_zero _ _ _ _ _ H.out).mono ?_); rintro e w4 ⟨rfl, hb⟩
    replace bx := bx.call hb
    replace y := y.call hb
    replace low := gCall low hb
    clear hb bx_0 bx_1 bx_2
    have bx_0 := bx.at_ 0 rfl
    have bx_1 := bx.at_ 1 rfl
    have bx_2 := bx.at_ 2 rfl
    go_wp2_with fail
    (with_reducible refine (victimOf_ok _ _ _ _ _ H.out).mono ?_); rintro e w5 ⟨rfl, hb⟩
    replace bx := bx.call hb
    replace y := y.call hb
    replace low := gCall low hb
    clear hb bx_0 bx_1 bx_2
    have y_0 := y.at_ 0 rfl
    have y_1 := y.at_ 1 rfl
    have y_2 := y.at_ 2 rfl
    go_wp2_with fail
    go_ret
    exact ⟨rfl, low⟩

set_option maxHeartbeats 4000000 in
theorem walk_right (a b c : Bool) (n k : Int) (w : World) (h : treeE a b c n = 0) (h0 : 0 ≤ k) (h1 : k < n) :
    Calls Try.prog 3 #[tree a b c, .int .i64 n, .int .i64 k] w fun e w' => e = .returned (.bool true) ∧ Below w.heap.size w w' := by
  have H := Lib.hid h
  have T := Lib.hid fun W => touch_ok a b c n k W h h0 h1
  have R := Lib.hid fun W => touched_ok a b c n k W h h0 h1
  generalize touchT a b c n k = t at T R
  obtain ⟨x, y, z⟩ := t
  clear h
  have low := Below.refl w.heap.size w
  have bx := Box.new w 23 #[.bool a, .bool b, .bool c]
  replace low := gAlloc low (.cells #[.bool a, .bool b, .bool c] 23)
  go_enter Try.func3, Try.ntmps3
  go_wp2_with fail
  (with_reducible refine (T.out _).mono ?_); rintro e w1 ⟨rfl, hb⟩
  replace bx := bx.call hb
  replace low := gCall low hb
  clear hb
  have ty := Box.new w1 23 #[.bool x, .bool y, .bool z]
  replace low := gAlloc low (.cells #[.bool x, .bool y, .bool z] 23)
  replace bx := bx.alloc (.cells #[.bool x, .bool y, .bool z] 23)
  have bx_0 := bx.at_ 0 rfl
  have bx_1 := bx.at_ 1 rfl
  have bx_2 := bx.at_ 2 rfl
  go_wp2_with fail
  (with_reducible refine (victim_ok _ _ _ _ _ H.out).mono ?_); rintro e w2 ⟨rfl, hb⟩
  replace bx := bx.call hb
  replace ty := ty.call hb
  replace low := gCall low hb
  clear hb bx_0 bx_1 bx_2
  have bx_0 := bx.at_ 0 rfl
  have bx_1 := bx.at_ 1 rfl
  have bx_2 := bx.at_ 2 rfl
  go_wp2_with fail
  (with_reducible refine (treeFault_any _ _ _ _ _).mono ?_); rintro e w3 ⟨rfl, hb⟩
  replace bx := bx.call hb
  replace ty := ty.call hb
  replace low := gCall low hb
  clear hb bx_0 bx_1 bx_2
  rw [H.out]
  have bx_0 := bx.at_ 0 rfl
  have bx_1 := bx.at_ 1 rfl
  have bx_2 := bx.at_ 2 rfl
  go_wp2_with fail
  (with_reducible refine (plruCheck_zero _ _ _ _ _ H.out).mono ?_); rintro e w4 ⟨rfl, hb⟩
  replace bx := bx.call hb
  replace ty := ty.call hb
  replace low := gCall low hb
  clear hb bx_0 bx_1 bx_2
  have bx_0 := bx.at_ 0 rfl
  have bx_1 := bx.at_ 1 rfl
  have bx_2 := bx.at_ 2 rfl
  go_wp2_with fail
  (with_reducible refine (victimOf_ok _ _ _ _ _ H.out).mono ?_); rintro e w5 ⟨rfl, hb⟩
  replace bx := bx.call hb
  replace ty := ty.call hb
  replace low := gCall low hb
  clear hb bx_0 bx_1 bx_2
  have bx_0 := bx.at_ 0 rfl
  have bx_1 := bx.at_ 1 rfl
  have bx_2 := bx.at_ 2 rfl
  have ty_0 := ty.at_ 0 rfl
  have ty_1 := ty.at_ 1 rfl
  have ty_2 := ty.at_ 2 rfl
  go_wp2_with fail
  go_region_held3 (fun w' => w'.cell? ⟨w.heap.size, 0, none⟩ = some (.bool a) ∧ w'.cell? ⟨w.heap.size, 1, none⟩ = some (.bool b) ∧ w'.cell? ⟨w.heap.size, 2, none⟩ = some (.bool c) ∧
      w'.cell? ⟨w1.heap.size, 0, none⟩ = some (.bool x) ∧ w'.cell? ⟨w1.heap.size, 1, none⟩ = some (.bool y) ∧ w'.cell? ⟨w1.heap.size, 2, none⟩ = some (.bool z) ∧ Below w.heap.size w w')
    (first
      | (refine ⟨bx_0, bx_1, bx_2, ty_0, ty_1, ty_2, low⟩)
      | (refine ⟨bx_0, bx_1, bx_2, ty_0, ty_1, ty_2, low.drew⟩)
      | go_keep
      | (go_split_ands
         refine ⟨?_, ?_, ?_, ?_, ?_, ?_, ?_⟩ <;> first | (refine (hb.cell (World.block_lt_of_cell? _ _ (by assumption))).trans ?_; assumption) | exact gCall (by assumption) hb))
    (first | (go_at_call 10; refine (R.out _).mono ?_; rintro e w' ⟨rfl, hb⟩))
  go_wp2_with fail
  go_ret
  exact ⟨rfl, by go_split_ands; assumption⟩

theorem walk (v0 v1 v2 : Value) (w : World) (h0 : IsTree v0) (h1 : IsInt v1) (h2 : IsInt v2) :
    Calls Try.prog 3 #[v0, v1, v2] w fun e w' => e = .returned (.bool true) ∧ Below w.heap.size w w' := by
  obtain ⟨a, b, c, rfl⟩ := h0
  obtain ⟨n, rfl, _⟩ := h1
  obtain ⟨k, rfl, _⟩ := h2
  by_cases h : treeE a b c n = 0
  · by_cases hk : 0 ≤ k ∧ k < n
    · exact walk_right a b c n k w h hk.1 hk.2
    · exact walk_out a b c n k w h (by omega)
  · exact walk_bad a b c n k w h

set_option maxRecDepth 100000 in
theorem lifted (os : Os) (started : os.Started) (H : Type) (enc : TypeId × Value → H) :
    ReturnsInHanded {} Try.checked os 3 .any (Rows.plruTellsSpec.pre6 enc Try.prog Try.f3 Rows.plruTellsRow.domain false) (Rows.plruTellsSpec.post enc Try.prog Try.f3 false true false false) := by
  refine returnsInHanded_of_change (C := Try.checked) own started (by kernel_rfl) Try.func3
    (ChangeSpec.witness6 (enc := enc) (C := Try.checked) false ⟨#[], #[tree false false false, .int .i64 2, .int .i64 1], []⟩ 8 (by kernel_rfl) (by kernel_rfl) (by kernel_rfl) (by kernel_rfl)) ?_
  intro W base args ds gs before hval0 hW hcnd _
  have hval : ∀ (j : Nat) t v, Try.f3.params[j]? = some t → args[j]? = some v → Value.okWide Try.prog W .any base t v := hval0
  have hW' := hW
  obtain ⟨p, q, hA0, hV, rfl, hfz, hnd⟩ := hW
  have hA : DataW.TrodAll enc Try.prog W 0 (fun _ => true) true Try.f3.params.toList args.toList ds p := hA0
  rw [Try.params3] at hA hval
  obtain ⟨v0, vs0, d0, ds0, p0, q0, hargs, rfl, rfl, h0, r0⟩ := trodAll_cons hA
  obtain ⟨v1, vs1, d1, ds1, p1, q1, rfl, rfl, rfl, h1, r1⟩ := trodAll_cons r0
  obtain ⟨v2, vs2, d2, ds2, p2, q2, rfl, rfl, rfl, h2, r2⟩ := trodAll_cons r1
  obtain ⟨rfl, rfl, rfl⟩ := trodAll_nil r2
  obtain rfl : args = #[v0, v1, v2] := by cases args; simp_all
  have k0 := openTree (hval 0 23 v0 rfl rfl) h0
  have k1 := openInt (hval 1 3 v1 rfl rfl) h1
  have k2 := openInt (hval 2 3 v2 rfl rfl) h2
  obtain ⟨rfl, rfl⟩ := trodVars_none hV
  clear hA0 hval0
  refine (walk v0 v1 v2 W k0 k1 k2).mono fun e W' ⟨he, bel⟩ => ⟨_, he, ?_⟩
  exact law_post (by kernel_rfl) (by kernel_rfl) rfl hW' rfl rfl rfl bel

theorem over : Rows.plruTellsRow.holds Try.pinned (OpenSpec.ofChange Rows.plruTellsSpec) :=
  OpenClaim.holds_of_wide 3 Try.f3 rfl rfl rfl rfl rfl rfl rfl ⟨rfl, rfl, rfl, rfl, rfl⟩ rfl rfl rfl rfl rfl (by kernel_rfl) Try.func3 (by kernel_rfl)
    (of_decide_eq_true (by kernel_rfl)) (by unfold Func.isWrapper; first | (rw [if_pos (by decide +kernel)]; kernel_rfl) | (rw [if_neg (by decide +kernel)]; exact ⟨rfl, rfl⟩))
    (fun os started H enc _ => lifted os started H enc)

/-- The statement. -/
theorem plruTells_holds : Rows.PlruTellsSaid := over
end Go.Proofs.Ytbhipedphckgpaa.plruTells
namespace Go.Proofs.Ytbhipedphckgpaa
theorem plruTells_holds : Rows.PlruTellsSaid := plruTells.plruTells_holds
#print axioms plruTells_holds
end Go.Proofs.Ytbhipedphckgpaa
