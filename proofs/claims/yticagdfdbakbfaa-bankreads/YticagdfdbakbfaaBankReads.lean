/-
Proved: the law 'BankReads' returns true for every argument, and changes nothing that was there. No condition.
-/
import Derived.Test.YticagdfdbakbfaaBank2
import Derived.Test.YticagdfdbakbfaaGood
namespace Go.Proofs.Yticagdfdbakbfaa.bankReads
open Go.ChangeShapes Go.WideShapes Go.ChangeAt Go.RowKit

theorem banks_yes (w : World) : Calls Try.prog 14 #[] w fun e w' => e = .returned (.bool true) ∧ Below w.heap.size w w' := by
  have P := Lib.hid fun W => bankPoke_ok zeroL zeroL_length 5 (by decide) 9 W
  have hl : (pokeL zeroL 5 9).length = 64 := by rw [pokeL_length, zeroL_length]
  have m0 : (memA (pokeL zeroL 5 9))[5]? = some (.int .u64 9) := by rw [memA_at 5 (by rw [hl]; decide)]; rfl
  generalize pokeL zeroL 5 9 = l at *
  have low := Below.refl w.heap.size w
  go_enter Try.func14, Try.ntmps14
  go_wp2_with fail
  (with_reducible refine (bankNew_any _).mono ?_); rintro e w1 ⟨rfl, hb⟩
  replace low := gCall low hb
  clear hb
  go_wp2_with fail
  refine (P.out _).mono ?_; rintro e w2 ⟨rfl, hb⟩
  replace low := gCall low hb
  clear hb
  go_wp2_with (first | (with_reducible refine wp_newMem ?_) | ((with_reducible refine wp_storeNew (zeroL_length) (hl) ?_ ?_ ?_); rfl; rfl))
  go_ret
  exact ⟨rfl, gAlloc low _⟩

/-- The addresses at which a memory with another word differs. -/
theorem wd_poke (l : List Int) (i : Nat) (v : Int) (hi : i < l.length) (k : Nat) : wd (pokeL l i v) k = if k = i then v else wd l k := by
  unfold wd pokeL
  by_cases h : k = i
  · subst h
    simp [List.getD, hi]
  · simp [List.getD, h, List.getElem?_set_ne (fun e => h e.symm)]

theorem diff_poke (l : List Int) (i : Nat) (v : Int) (hi : i < l.length) (h : wd l i ≠ v) : ∀ k, diffL l (pokeL l i v) k = if i < k then [(i : Int)] else []
  | 0 => by simp [diffL]
  | k + 1 => by
    have ih := diff_poke l i v hi h k
    by_cases e : k = i
    · subst e
      rw [diffL_other (by rw [wd_poke l k v hi, if_pos rfl]; exact h), ih, if_neg (by omega), if_pos (by omega)]
      rfl
    · rw [diffL_same (by rw [wd_poke l i v hi, if_neg e]), ih]
      by_cases hk : i < k
      · rw [if_pos hk, if_pos (by omega)]
      · rw [if_neg hk, if_neg (by omega)]

theorem diff_none (l : List Int) (i : Nat) (v : Int) (hi : i < l.length) (h : wd l i = v) : ∀ k, diffL l (pokeL l i v) k = []
  | 0 => rfl
  | k + 1 => by
    rw [diffL_same, diff_none l i v hi h k]
    rw [wd_poke l i v hi]
    split
    · rename_i e; rw [e, h]
    · rfl

set_option maxHeartbeats 1000000 in
theorem walk_bad (l : List Int) (hl : l.length = 64) (a v : Int) (w : World) (h : a < 0 ∨ 63 < a) :
    Calls Try.prog 4 #[memV l, .int .i64 a, .int .u64 v] w fun e w' => e = .returned (.bool true) ∧ Below w.heap.size w w' := by
  have P := Lib.hid fun W => bankPoke_out l a h v W
  have eqM := eqMem zeroL zeroL zeroL_length zeroL_length
  have eq1 : sameM zeroL zeroL = true := by simp [sameM]
  clear h
  have low := Below.refl w.heap.size w
  have mb := Box.new w 26 (memA l)
  replace low := gAlloc low (.cells (memA l) 26)
  go_enter Try.func4, Try.ntmps4
  go_wp2_with fail
  (with_reducible refine (banks_yes _).mono ?_); rintro e w1 ⟨rfl, hb⟩
  replace mb := mb.call hb
  replace low := gCall low hb
  clear hb
  go_wp2_with ((with_reducible refine wp_loadMem (⟨mb, hl⟩) ?_ ?_ ?_); rfl; rfl)
  refine (P.out _).mono ?_; rintro e w2 ⟨rfl, hb⟩
  replace low := gCall low hb
  clear hb mb
  have nb := Mb.new (l := zeroL) w2 zeroL_length
  go_wp2_with (first | (with_reducible refine wp_newMem ?_) | ((with_reducible refine wp_storeNew (zeroL_length) (zeroL_length) ?_ ?_ ?_); rfl; rfl) | ((with_reducible refine wp_loadMem (nb) ?_ ?_ ?_); rfl; rfl) | (with_reducible refine wp_zeroMem ?_))
  go_ret
  exact ⟨rfl, gAlloc low _⟩

set_option maxHeartbeats 2000000 in
theorem walk_good (l : List Int) (hl : l.length = 64) (i : Nat) (hi : i < 64) (v : Int) (w : World) :
    Calls Try.prog 4 #[memV l, .int .i64 i, .int .u64 v] w fun e w' => e = .returned (.bool true) ∧ Below w.heap.size w w' := by
  have hl2 : (pokeL l i v).length = 64 := by rw [pokeL_length, hl]
  have P := Lib.hid fun W => bankPoke_ok l hl i hi v W
  have W1 := Lib.hid fun W => bankWord_ok (pokeL l i v) hl2 i hi W
  have W2 := Lib.hid fun W => bankWord_ok l hl i hi W
  have S := Lib.hid fun W => bankSame_any l (pokeL l i v) hl hl2 W
  rw [wd_poke l i v (by omega), if_pos rfl] at W1
  have D : Hid ((wd l i = v → diffL l (pokeL l i v) 64 = []) ∧ (wd l i ≠ v → diffL l (pokeL l i v) 64 = [(i : Int)])) :=
    Lib.hid ⟨fun h => diff_none l i v (by omega) h 64, fun h => by rw [diff_poke l i v (by omega) h 64, if_pos hi]⟩
  generalize diffL l (pokeL l i v) 64 = dl at S D
  generalize pokeL l i v = m at *
  generalize wd l i = was at *
  clear hi
  have low := Below.refl w.heap.size w
  have mb := Box.new w 26 (memA l)
  replace low := gAlloc low (.cells (memA l) 26)
  go_enter Try.func4, Try.ntmps4
  go_wp2_with fail
  (with_reducible refine (banks_yes _).mono ?_); rintro e w1 ⟨rfl, hb⟩
  replace mb := mb.call hb
  replace low := gCall low hb
  clear hb
  go_wp2_with ((with_reducible refine wp_loadMem (⟨mb, hl⟩) ?_ ?_ ?_); rfl; rfl)
  refine (P.out _).mono ?_; rintro e w2 ⟨rfl, hb⟩
  replace low := gAlloc (gCall low hb) (.cells (memA m) 26)
  replace mb := (mb.call hb).alloc (.cells (memA m) 26)
  have nb := Mb.new (l := m) w2 hl2
  clear hb
  go_wp2_with (first | (with_reducible refine wp_newMem ?_) | ((with_reducible refine wp_storeNew (zeroL_length) (hl2) ?_ ?_ ?_); rfl; rfl) | ((with_reducible refine wp_loadMem (nb) ?_ ?_ ?_); rfl; rfl))
  refine (W1.out _).mono ?_; rintro e w3 ⟨rfl, hb⟩
  replace low := gCall low hb
  replace mb := mb.call hb
  replace nb := nb.call hb
  clear hb
  go_wp2_with ((with_reducible refine wp_loadMem (⟨mb, hl⟩) ?_ ?_ ?_); rfl; rfl)
  refine (W2.out _).mono ?_; rintro e w4 ⟨rfl, hb⟩
  replace low := gCall low hb
  replace mb := mb.call hb
  replace nb := nb.call hb
  clear hb
  go_wp2_with (first | ((with_reducible refine wp_loadMem (⟨mb, hl⟩) ?_ ?_ ?_); rfl; rfl) | ((with_reducible refine wp_loadMem (nb) ?_ ?_ ?_); rfl; rfl))
  refine (S.out _).mono ?_; rintro e w5 ⟨⟨s, rfl, sl⟩, hb⟩
  replace low := gCall low hb
  clear hb mb nb
  obtain ⟨A, c, rfl⟩ : ∃ A c, s = .slice A dl.length c := by obtain ⟨_, A, c, e, _⟩ := sl; exact ⟨A, c, e⟩
  have SL := Lib.hid sl
  clear sl
  by_cases h : was = v
  · have e1 : (was == v) = true := by simpa using h
    obtain rfl := D.out.1 h
    clear D h
    go_wp2_with fail
    with_reducible refine (good_yes _ 2 _ (by omega) ?_).mono ?_
    · intro j hj
      have : j = 0 ∨ j = 1 := by omega
      rcases this with rfl | rfl <;> go_simp
    rintro e w6 ⟨rfl, rfl⟩
    go_wp2_with fail
    go_ret
    exact ⟨rfl, gAlloc low _⟩
  · have e1 : (was == v) = false := by simpa using h
    obtain rfl := D.out.2 h
    clear D h
    go_wp2_with fail
    with_reducible refine (good_yes _ 2 _ (by omega) ?_).mono ?_
    · intro j hj
      have : j = 0 ∨ j = 1 := by omega
      rcases this with rfl | rfl <;> go_simp
    rintro e w6 ⟨rfl, rfl⟩
    have T1 := Lib.hid (fun o => ((SL.out.call (gAlloc (Below.refl _ _) (.cells #[.int .i64 0, .int .i64 0] 27))).call (gAlloc (Below.refl _ _) o)))
    go_wp2_with fail
    refine (equalInts_yes _ _ _ _ _ (T1.out _) ?_).mono ?_
    · refine ⟨rfl, some ⟨w5.heap.size + 1, 0, none⟩, 1, rfl, Nat.le_refl _, by decide, fun _ => ⟨w5.heap.size + 1, 0, rfl, by simp, fun j u hu => ?_⟩⟩
      match j, hu with
      | 0, hu => simp at hu; subst hu; go_simp
    rintro e w7 ⟨rfl, hb⟩
    replace low := gCall (gAlloc (gAlloc low _) _) hb
    clear hb
    go_wp2_with fail
    go_ret
    exact ⟨rfl, low⟩

theorem walk (v0 v1 v2 : Value) (w : World) (h0 : IsMem v0) (h1 : IsInt v1) (h2 : IsU64 v2) :
    Calls Try.prog 4 #[v0, v1, v2] w fun e w' => e = .returned (.bool true) ∧ Below w.heap.size w w' := by
  obtain ⟨l, rfl, hl⟩ := h0
  obtain ⟨a, rfl, _⟩ := h1
  obtain ⟨v, rfl, _⟩ := h2
  by_cases h : a < 0 ∨ 63 < a
  · exact walk_bad l hl a v w h
  · obtain ⟨i, rfl⟩ : ∃ i : Nat, a = i := ⟨a.toNat, by omega⟩
    exact walk_good l hl i (by omega) v w

set_option maxRecDepth 100000 in
theorem lifted (os : Os) (started : os.Started) (H : Type) (enc : TypeId × Value → H) :
    ReturnsInHanded {} Try.checked os 4 .any (Rows.bankReadsSpec.pre6 enc Try.prog Try.f4 Rows.bankReadsRow.domain false) (Rows.bankReadsSpec.post enc Try.prog Try.f4 false true false false) := by
  refine returnsInHanded_of_change (C := Try.checked) own started (by kernel_rfl) Try.func4
    (ChangeSpec.witness6 (enc := enc) (C := Try.checked) false ⟨#[], #[memV zeroL, .int .i64 0, .int .u64 5], []⟩ 8 (by kernel_rfl) (by kernel_rfl) (by kernel_rfl) (by kernel_rfl)) ?_
  intro W base args ds gs before hval0 hW hcnd _
  have hval : ∀ (j : Nat) t v, Try.f4.params[j]? = some t → args[j]? = some v → Value.okWide Try.prog W .any base t v := hval0
  have hW' := hW
  obtain ⟨p, q, hA0, hV, rfl, hfz, hnd⟩ := hW
  have hA : DataW.TrodAll enc Try.prog W 0 (fun _ => true) true Try.f4.params.toList args.toList ds p := hA0
  rw [Try.params4] at hA hval
  obtain ⟨v0, vs0, d0, ds0, p0, q0, hargs, rfl, rfl, h0, r0⟩ := trodAll_cons hA
  obtain ⟨v1, vs1, d1, ds1, p1, q1, rfl, rfl, rfl, h1, r1⟩ := trodAll_cons r0
  obtain ⟨v2, vs2, d2, ds2, p2, q2, rfl, rfl, rfl, h2, r2⟩ := trodAll_cons r1
  obtain ⟨rfl, rfl, rfl⟩ := trodAll_nil r2
  obtain rfl : args = #[v0, v1, v2] := by cases args; simp_all
  have k0 := openMem (hval 0 26 v0 rfl rfl) h0
  have k1 := openInt (hval 1 3 v1 rfl rfl) h1
  have k2 := openU64 (hval 2 22 v2 rfl rfl) h2
  obtain ⟨rfl, rfl⟩ := trodVars_none hV
  clear hA0 hval0
  refine (walk v0 v1 v2 W k0 k1 k2).mono fun e W' ⟨he, bel⟩ => ⟨_, he, ?_⟩
  exact law_post (by kernel_rfl) (by kernel_rfl) rfl hW' rfl rfl rfl bel

theorem over : Rows.bankReadsRow.holds Try.pinned (OpenSpec.ofChange Rows.bankReadsSpec) :=
  OpenClaim.holds_of_wide 4 Try.f4 rfl rfl rfl rfl rfl rfl rfl ⟨rfl, rfl, rfl, rfl, rfl⟩ rfl rfl rfl rfl rfl (by kernel_rfl) Try.func4 (by kernel_rfl)
    (of_decide_eq_true (by kernel_rfl)) (by unfold Func.isWrapper; first | (rw [if_pos (by decide +kernel)]; kernel_rfl) | (rw [if_neg (by decide +kernel)]; exact ⟨rfl, rfl⟩))
    (fun os started H enc _ => lifted os started H enc)

/-- The statement. -/
theorem bankReads_holds : Rows.BankReadsSaid := over
end Go.Proofs.Yticagdfdbakbfaa.bankReads
namespace Go.Proofs.Yticagdfdbakbfaa
theorem bankReads_holds : Rows.BankReadsSaid := bankReads.bankReads_holds
#print axioms bankReads_holds
end Go.Proofs.Yticagdfdbakbfaa
