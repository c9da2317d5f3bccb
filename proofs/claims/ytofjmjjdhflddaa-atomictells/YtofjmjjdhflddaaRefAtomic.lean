/-
Proved: what DeedFault and Plain of the reference return; neither changes anything that was there. Condition: for Plain, the operation has no error.
-/
import Derived.Test.YtofjmjjdhflddaaAtomic
import Derived.Test.YtofjmjjdhflddaaRefLow
import Derived.StillTailTactics
namespace Go.Proofs.Ytofjmjjdhflddaa
open Go.ChangeShapes Go.WideShapes Go.ChangeAt Go.RowKit Go.Joins

theorem Mb.drewN {w : World} {g : Nat} {l : List Int} (h : Mb w g l) (n : Nat) : Mb (w.drewN n) g l := ⟨h.1.drewN n, h.2⟩

theorem deedFault_any (d : Dd) (w : World) : Calls Try.prog 7 #[d.val] w fun e w' => e = .returned (.int .i64 (deedE d)) ∧ Below w.heap.size w w' := by
  obtain ⟨n, k, a, v⟩ := d
  have low := Below.refl w.heap.size w
  have db := Box.new w 29 #[.int .i64 n, .int .i64 k, .int .i64 a, .int .u64 v]
  replace low := gAlloc low (.cells #[.int .i64 n, .int .i64 k, .int .i64 a, .int .u64 v] 29)
  by_cases h0 : n < 0 ∨ 7 < n
  · rw [show deedE ⟨n, k, a, v⟩ = 4 by simp [deedE, h0]]
    by_cases h1 : n < 0
    · clear h0
      go_enter Try.func7, Try.ntmps7
      have db_0 := db.at_ 0 rfl
      have db_1 := db.at_ 1 rfl
      have db_2 := db.at_ 2 rfl
      have db_3 := db.at_ 3 rfl
      go_wp2_with fail
      go_ret
      exact ⟨rfl, low⟩
    · have h2 : 0 ≤ n := by omega
      have h3 : 7 < n := by omega
      clear h0 h1
      go_enter Try.func7, Try.ntmps7
      have db_0 := db.at_ 0 rfl
      have db_1 := db.at_ 1 rfl
      have db_2 := db.at_ 2 rfl
      have db_3 := db.at_ 3 rfl
      go_wp2_with fail
      go_ret
      exact ⟨rfl, low⟩
  have n0 : 0 ≤ n := by omega
  have n1 : n ≤ 7 := by omega
  by_cases h1 : k < 1 ∨ 4 < k
  · rw [show deedE ⟨n, k, a, v⟩ = 1 by simp [deedE, h0, h1]]
    have B := Lib.hid fun W => goodKind_no k W h1
    clear h0 h1
    go_enter Try.func7, Try.ntmps7
    have db_0 := db.at_ 0 rfl
    have db_1 := db.at_ 1 rfl
    have db_2 := db.at_ 2 rfl
    have db_3 := db.at_ 3 rfl
    go_wp2_with fail
    (with_reducible refine (B.out _).mono ?_); rintro e w' ⟨rfl, rfl⟩
    go_wp2_with fail
    go_ret
    exact ⟨rfl, low⟩
  have B := Lib.hid fun W => goodKind_yes k W (by omega) (by omega)
  by_cases h2 : a < 0 ∨ 63 < a
  · rw [show deedE ⟨n, k, a, v⟩ = 4 by simp [deedE, h0, h1, h2]]
    have L := Lib.hid fun W => goodAddr_no a W h2
    clear h0 h1 h2
    go_enter Try.func7, Try.ntmps7
    have db_0 := db.at_ 0 rfl
    have db_1 := db.at_ 1 rfl
    have db_2 := db.at_ 2 rfl
    have db_3 := db.at_ 3 rfl
    go_wp2_with fail
    (with_reducible refine (B.out _).mono ?_); rintro e w' ⟨rfl, rfl⟩
    go_wp2_with fail
    (with_reducible refine (L.out _).mono ?_); rintro e w' ⟨rfl, rfl⟩
    go_wp2_with fail
    go_ret
    exact ⟨rfl, low⟩
  have L := Lib.hid fun W => goodAddr_yes a W (by omega) (by omega)
  have E := Lib.hid (show deedE ⟨n, k, a, v⟩ = if setsB k = false ∧ v ≠ 0 then 3 else 0 by simp [deedE, h0, h1, h2])
  generalize deedE ⟨n, k, a, v⟩ = e' at *
  clear h0 h1 h2
  cases hv : (v != 0)
  · have E2 := Lib.hid (show e' = 0 by rw [E.out, if_neg]; simp at hv; simp [hv])
    clear E
    go_enter Try.func7, Try.ntmps7
    have db_0 := db.at_ 0 rfl
    have db_1 := db.at_ 1 rfl
    have db_2 := db.at_ 2 rfl
    have db_3 := db.at_ 3 rfl
    go_wp2_with fail
    (with_reducible refine (B.out _).mono ?_); rintro e w' ⟨rfl, rfl⟩
    go_wp2_with fail
    (with_reducible refine (L.out _).mono ?_); rintro e w' ⟨rfl, rfl⟩
    go_wp2_with fail
    go_ret
    exact ⟨by rw [E2.out]; rfl, low⟩
  · cases k2 : (k != 2)
    · have E2 := Lib.hid (show e' = 0 by rw [E.out, if_neg]; simp at k2; simp [setsB, k2])
      clear E
      go_enter Try.func7, Try.ntmps7
      have db_0 := db.at_ 0 rfl
      have db_1 := db.at_ 1 rfl
      have db_2 := db.at_ 2 rfl
      have db_3 := db.at_ 3 rfl
      go_wp2_with fail
      (with_reducible refine (B.out _).mono ?_); rintro e w' ⟨rfl, rfl⟩
      go_wp2_with fail
      (with_reducible refine (L.out _).mono ?_); rintro e w' ⟨rfl, rfl⟩
      go_wp2_with fail
      go_ret
      exact ⟨by rw [E2.out]; rfl, low⟩
    · cases k3 : (k != 3)
      · have E2 := Lib.hid (show e' = 0 by rw [E.out, if_neg]; simp at k3; simp [setsB, k3])
        clear E
        go_enter Try.func7, Try.ntmps7
        have db_0 := db.at_ 0 rfl
        have db_1 := db.at_ 1 rfl
        have db_2 := db.at_ 2 rfl
        have db_3 := db.at_ 3 rfl
        go_wp2_with fail
        (with_reducible refine (B.out _).mono ?_); rintro e w' ⟨rfl, rfl⟩
        go_wp2_with fail
        (with_reducible refine (L.out _).mono ?_); rintro e w' ⟨rfl, rfl⟩
        go_wp2_with fail
        go_ret
        exact ⟨by rw [E2.out]; rfl, low⟩
      · have E2 := Lib.hid (show e' = 3 by rw [E.out, if_pos]; simp at k2 k3 hv; simp [setsB, k2, k3, hv])
        clear E
        go_enter Try.func7, Try.ntmps7
        have db_0 := db.at_ 0 rfl
        have db_1 := db.at_ 1 rfl
        have db_2 := db.at_ 2 rfl
        have db_3 := db.at_ 3 rfl
        go_wp2_with fail
        (with_reducible refine (B.out _).mono ?_); rintro e w' ⟨rfl, rfl⟩
        go_wp2_with fail
        (with_reducible refine (L.out _).mono ?_); rintro e w' ⟨rfl, rfl⟩
        go_wp2_with fail
        go_ret
        exact ⟨by rw [E2.out]; rfl, low⟩


set_option maxHeartbeats 2000000 in
theorem plain_ok (l : List Int) (hl : l.length = 64) (d : Dd) (h : deedE d = 0) (w : World) : Calls Try.prog 9 #[memV l, d.val] w fun e w' =>
    e = .returned (.tuple #[memV (doM l d), .int .u64 (doV l d)]) ∧ Below w.heap.size w w' := by
  obtain ⟨-, -, i, hi, ha⟩ := deedE_ok h
  obtain ⟨n, k, a, v⟩ := d
  simp only at ha
  subst ha
  have hp : (pokeL l i v).length = 64 := by rw [pokeL_length, hl]
  have eM : doM l ⟨n, k, i, v⟩ = if setsB k = true then pokeL l i v else l := by simp [doM]
  have eV : doV l ⟨n, k, i, v⟩ = if tellsB k = true then wd l i else 0 := by simp [doV]
  rw [eM, eV]
  have HI := Lib.hid hi
  obtain ⟨c, hc⟩ : ∃ c : Nat, i / 4 = c := ⟨_, rfl⟩
  obtain ⟨r, hr0⟩ : ∃ r : Nat, i % 4 = r := ⟨_, rfl⟩
  have HCR := Lib.hid (show c * 4 + r = i by omega)
  have hq : IntKind.i64.wrap ((i : Int) / 4) = (c : Int) := by rw [wrap_i64_ediv _ _ (by omega) (by omega) (by omega)]; omega
  have hr : (i : Int) % 4 = (r : Int) := by omega
  have hr2 : (i : Int).tmod 4 = (r : Int) := by rw [Int.tmod_eq_emod_of_nonneg (by omega)]; omega
  have c0 : (memA l)[c * 4 + r]? = some (.int .u64 (wd l i)) := (memA_at (l := l) (c * 4 + r) (by omega)).trans (by rw [HCR.out])
  have lc : (c : Int) < 16 := by omega
  have ld : (r : Int) < 4 := by omega
  have hi2 : (i : Int) < 64 := by omega
  generalize wd l i = wi at *
  clear h hi eM eV hc hr0
  unfold setsB tellsB
  have HC0 := Lib.hid c0
  clear c0
  have low := Below.refl w.heap.size w
  have xb := boxNext low 26 (memA l)
  replace low := gAlloc low (.cells (memA l) 26)
  try simp only [World.size_alloc] at xb
  have db := boxNext low 29 #[.int .i64 n, .int .i64 k, .int .i64 i, .int .u64 v]
  replace low := gAlloc low (.cells #[.int .i64 n, .int .i64 k, .int .i64 i, .int .u64 v] 29)
  replace xb := xb.alloc (.cells #[.int .i64 n, .int .i64 k, .int .i64 i, .int .u64 v] 29)
  try simp only [World.size_alloc] at db
  have ob := boxNext low 26 (memA zeroL)
  replace low := gAlloc low (.cells (memA zeroL) 26)
  replace xb := xb.alloc (.cells (memA zeroL) 26)
  replace db := db.alloc (.cells (memA zeroL) 26)
  try simp only [World.size_alloc] at ob
  have m0 := xb.at_ (c * 4 + r) HC0.out
  have mb : Mb _ _ l := ⟨xb, hl⟩
  clear xb HC0
  have db_0 := db.at_ 0 rfl
  have db_1 := db.at_ 1 rfl
  have db_2 := db.at_ 2 rfl
  have db_3 := db.at_ 3 rfl
  cases k1 : (k == 1) <;> cases k2 : (k == 2) <;> cases k3 : (k == 3)
  all_goals
    go_enter Try.func9, Try.ntmps9
    go_wp2_with (with_reducible refine wp_newMem ?_)
    go_quiet (fail)
    replace mb := Mb.drewN mb nq
    replace ob := ob.drewN nq
    replace db := db.drewN nq
    replace low := gDrewN low nq
    clear m0
    clear db_0 db_1 db_2 db_3
    generalize World.drewN _ nq = wx at *
    have db_0 := db.at_ 0 rfl
    have db_1 := db.at_ 1 rfl
    have db_2 := db.at_ 2 rfl
    have db_3 := db.at_ 3 rfl
  · have hl2 := mb.2
    go_wp2_with (first | ((with_reducible refine wp_loadMem (mb) ?_ ?_ ?_); rfl; rfl) | ((with_reducible refine wp_storeMem (⟨ob, zeroL_length⟩) (hl2) ?_ ?_ ?_); rfl; rfl))
    intro w7 m7 st
    replace low := st.low low (by omega)
    clear st ob mb db
    go_wp2_with fail
    refine bodyPost_ret (v := .tuple #[memV (l), .int .u64 (0)]) (results_mem2 Try.results9 rfl rfl m7) rfl ⟨rfl, low⟩
  · go_wp2_with fail
    refine wp_region_still_tail 10 (by kernel_rfl) (by kernel_rfl) ?_
    simp only [List.take_succ_cons, List.take_zero, List.drop_succ_cons, List.drop_zero]
    still_step
    still_step
    still_step
    still_step
    still_step
    still_step
    still_step
    still_step
    still_step
    still_step
    refine wpStill_nil ?_
    change wpList _ _ _ _ _ (World.drew _)
    replace mb := mb.drew
    replace ob := ob.drew
    replace db := db.drew
    replace low := low.drew
    clear db_0 db_1 db_2 db_3
    go_wp2_with ((with_reducible refine wp_storeWord (mb) (c * 4 + r) (by have := HCR.out; have := HI.out; omega) (v) ?_ ?_ ?_); rfl; rfl)
    intro w4 m4 st
    rw [HCR.out] at m4
    replace low := st.low low (by omega)
    replace ob := st.box ob (by omega)
    replace db := st.box db (by omega)
    replace mb := m4
    clear st m4
    have db_0 := db.at_ 0 rfl
    have db_1 := db.at_ 1 rfl
    have db_2 := db.at_ 2 rfl
    have db_3 := db.at_ 3 rfl
    have hl2 := mb.2
    go_wp2_with (first | ((with_reducible refine wp_loadMem (mb) ?_ ?_ ?_); rfl; rfl) | ((with_reducible refine wp_storeMem (⟨ob, zeroL_length⟩) (hl2) ?_ ?_ ?_); rfl; rfl))
    intro w7 m7 st
    replace low := st.low low (by omega)
    clear st ob mb db
    go_wp2_with fail
    refine bodyPost_ret (v := .tuple #[memV (pokeL l i v), .int .u64 (wi)]) (results_mem2 Try.results9 rfl rfl m7) rfl ⟨rfl, low⟩
  · go_wp2_with fail
    refine wp_region_still_tail 10 (by kernel_rfl) (by kernel_rfl) ?_
    simp only [List.take_succ_cons, List.take_zero, List.drop_succ_cons, List.drop_zero]
    still_step
    still_step
    still_step
    still_step
    still_step
    still_step
    still_step
    still_step
    still_step
    still_step
    refine wpStill_nil ?_
    change wpList _ _ _ _ _ (World.drew _)
    replace mb := mb.drew
    replace ob := ob.drew
    replace db := db.drew
    replace low := low.drew
    clear db_0 db_1 db_2 db_3
    go_wp2_with ((with_reducible refine wp_storeWord (mb) (c * 4 + r) (by have := HCR.out; have := HI.out; omega) (v) ?_ ?_ ?_); rfl; rfl)
    intro w4 m4 st
    rw [HCR.out] at m4
    replace low := st.low low (by omega)
    replace ob := st.box ob (by omega)
    replace db := st.box db (by omega)
    replace mb := m4
    clear st m4
    have db_0 := db.at_ 0 rfl
    have db_1 := db.at_ 1 rfl
    have db_2 := db.at_ 2 rfl
    have db_3 := db.at_ 3 rfl
    have hl2 := mb.2
    go_wp2_with (first | ((with_reducible refine wp_loadMem (mb) ?_ ?_ ?_); rfl; rfl) | ((with_reducible refine wp_storeMem (⟨ob, zeroL_length⟩) (hl2) ?_ ?_ ?_); rfl; rfl))
    intro w7 m7 st
    replace low := st.low low (by omega)
    clear st ob mb db
    go_wp2_with fail
    refine bodyPost_ret (v := .tuple #[memV (pokeL l i v), .int .u64 (0)]) (results_mem2 Try.results9 rfl rfl m7) rfl ⟨rfl, low⟩
  · go_wp2_with fail
    refine wp_region_still_tail 10 (by kernel_rfl) (by kernel_rfl) ?_
    simp only [List.take_succ_cons, List.take_zero, List.drop_succ_cons, List.drop_zero]
    still_step
    still_step
    still_step
    still_step
    still_step
    still_step
    still_step
    still_step
    still_step
    still_step
    refine wpStill_nil ?_
    change wpList _ _ _ _ _ (World.drew _)
    replace mb := mb.drew
    replace ob := ob.drew
    replace db := db.drew
    replace low := low.drew
    clear db_0 db_1 db_2 db_3
    go_wp2_with ((with_reducible refine wp_storeWord (mb) (c * 4 + r) (by have := HCR.out; have := HI.out; omega) (v) ?_ ?_ ?_); rfl; rfl)
    intro w4 m4 st
    rw [HCR.out] at m4
    replace low := st.low low (by omega)
    replace ob := st.box ob (by omega)
    replace db := st.box db (by omega)
    replace mb := m4
    clear st m4
    have db_0 := db.at_ 0 rfl
    have db_1 := db.at_ 1 rfl
    have db_2 := db.at_ 2 rfl
    have db_3 := db.at_ 3 rfl
    have hl2 := mb.2
    go_wp2_with (first | ((with_reducible refine wp_loadMem (mb) ?_ ?_ ?_); rfl; rfl) | ((with_reducible refine wp_storeMem (⟨ob, zeroL_length⟩) (hl2) ?_ ?_ ?_); rfl; rfl))
    intro w7 m7 st
    replace low := st.low low (by omega)
    clear st ob mb db
    go_wp2_with fail
    refine bodyPost_ret (v := .tuple #[memV (pokeL l i v), .int .u64 (wi)]) (results_mem2 Try.results9 rfl rfl m7) rfl ⟨rfl, low⟩
  · have hl2 := mb.2
    go_wp2_with (first | ((with_reducible refine wp_loadMem (mb) ?_ ?_ ?_); rfl; rfl) | ((with_reducible refine wp_storeMem (⟨ob, zeroL_length⟩) (hl2) ?_ ?_ ?_); rfl; rfl))
    intro w7 m7 st
    replace low := st.low low (by omega)
    clear st ob mb db
    go_wp2_with fail
    refine bodyPost_ret (v := .tuple #[memV (l), .int .u64 (wi)]) (results_mem2 Try.results9 rfl rfl m7) rfl ⟨rfl, low⟩
  · go_wp2_with fail
    refine wp_region_still_tail 10 (by kernel_rfl) (by kernel_rfl) ?_
    simp only [List.take_succ_cons, List.take_zero, List.drop_succ_cons, List.drop_zero]
    still_step
    still_step
    still_step
    still_step
    still_step
    still_step
    still_step
    still_step
    still_step
    still_step
    refine wpStill_nil ?_
    change wpList _ _ _ _ _ (World.drew _)
    replace mb := mb.drew
    replace ob := ob.drew
    replace db := db.drew
    replace low := low.drew
    clear db_0 db_1 db_2 db_3
    go_wp2_with ((with_reducible refine wp_storeWord (mb) (c * 4 + r) (by have := HCR.out; have := HI.out; omega) (v) ?_ ?_ ?_); rfl; rfl)
    intro w4 m4 st
    rw [HCR.out] at m4
    replace low := st.low low (by omega)
    replace ob := st.box ob (by omega)
    replace db := st.box db (by omega)
    replace mb := m4
    clear st m4
    have db_0 := db.at_ 0 rfl
    have db_1 := db.at_ 1 rfl
    have db_2 := db.at_ 2 rfl
    have db_3 := db.at_ 3 rfl
    have hl2 := mb.2
    go_wp2_with (first | ((with_reducible refine wp_loadMem (mb) ?_ ?_ ?_); rfl; rfl) | ((with_reducible refine wp_storeMem (⟨ob, zeroL_length⟩) (hl2) ?_ ?_ ?_); rfl; rfl))
    intro w7 m7 st
    replace low := st.low low (by omega)
    clear st ob mb db
    go_wp2_with fail
    refine bodyPost_ret (v := .tuple #[memV (pokeL l i v), .int .u64 (wi)]) (results_mem2 Try.results9 rfl rfl m7) rfl ⟨rfl, low⟩
  · go_wp2_with fail
    refine wp_region_still_tail 10 (by kernel_rfl) (by kernel_rfl) ?_
    simp only [List.take_succ_cons, List.take_zero, List.drop_succ_cons, List.drop_zero]
    still_step
    still_step
    still_step
    still_step
    still_step
    still_step
    still_step
    still_step
    still_step
    still_step
    refine wpStill_nil ?_
    change wpList _ _ _ _ _ (World.drew _)
    replace mb := mb.drew
    replace ob := ob.drew
    replace db := db.drew
    replace low := low.drew
    clear db_0 db_1 db_2 db_3
    go_wp2_with ((with_reducible refine wp_storeWord (mb) (c * 4 + r) (by have := HCR.out; have := HI.out; omega) (v) ?_ ?_ ?_); rfl; rfl)
    intro w4 m4 st
    rw [HCR.out] at m4
    replace low := st.low low (by omega)
    replace ob := st.box ob (by omega)
    replace db := st.box db (by omega)
    replace mb := m4
    clear st m4
    have db_0 := db.at_ 0 rfl
    have db_1 := db.at_ 1 rfl
    have db_2 := db.at_ 2 rfl
    have db_3 := db.at_ 3 rfl
    have hl2 := mb.2
    go_wp2_with (first | ((with_reducible refine wp_loadMem (mb) ?_ ?_ ?_); rfl; rfl) | ((with_reducible refine wp_storeMem (⟨ob, zeroL_length⟩) (hl2) ?_ ?_ ?_); rfl; rfl))
    intro w7 m7 st
    replace low := st.low low (by omega)
    clear st ob mb db
    go_wp2_with fail
    refine bodyPost_ret (v := .tuple #[memV (pokeL l i v), .int .u64 (wi)]) (results_mem2 Try.results9 rfl rfl m7) rfl ⟨rfl, low⟩
  · go_wp2_with fail
    refine wp_region_still_tail 10 (by kernel_rfl) (by kernel_rfl) ?_
    simp only [List.take_succ_cons, List.take_zero, List.drop_succ_cons, List.drop_zero]
    still_step
    still_step
    still_step
    still_step
    still_step
    still_step
    still_step
    still_step
    still_step
    still_step
    refine wpStill_nil ?_
    change wpList _ _ _ _ _ (World.drew _)
    replace mb := mb.drew
    replace ob := ob.drew
    replace db := db.drew
    replace low := low.drew
    clear db_0 db_1 db_2 db_3
    go_wp2_with ((with_reducible refine wp_storeWord (mb) (c * 4 + r) (by have := HCR.out; have := HI.out; omega) (v) ?_ ?_ ?_); rfl; rfl)
    intro w4 m4 st
    rw [HCR.out] at m4
    replace low := st.low low (by omega)
    replace ob := st.box ob (by omega)
    replace db := st.box db (by omega)
    replace mb := m4
    clear st m4
    have db_0 := db.at_ 0 rfl
    have db_1 := db.at_ 1 rfl
    have db_2 := db.at_ 2 rfl
    have db_3 := db.at_ 3 rfl
    have hl2 := mb.2
    go_wp2_with (first | ((with_reducible refine wp_loadMem (mb) ?_ ?_ ?_); rfl; rfl) | ((with_reducible refine wp_storeMem (⟨ob, zeroL_length⟩) (hl2) ?_ ?_ ?_); rfl; rfl))
    intro w7 m7 st
    replace low := st.low low (by omega)
    clear st ob mb db
    go_wp2_with fail
    refine bodyPost_ret (v := .tuple #[memV (pokeL l i v), .int .u64 (wi)]) (results_mem2 Try.results9 rfl rfl m7) rfl ⟨rfl, low⟩
end Go.Proofs.Ytofjmjjdhflddaa
