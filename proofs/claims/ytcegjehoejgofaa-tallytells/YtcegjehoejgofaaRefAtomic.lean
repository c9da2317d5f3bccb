/-
Proved: what Plain of the reference returns; it changes nothing that was there. Condition: for Plain, the operation has no error.
-/
import Derived.Test.YtcegjehoejgofaaAtomic
import Derived.Test.YtcegjehoejgofaaRefOps
import Derived.StillTailTactics
namespace Go.Proofs.Ytcegjehoejgofaa
open Go.ChangeShapes Go.WideShapes Go.ChangeAt Go.RowKit Go.Joins

theorem Mb.drewN {w : World} {g : Nat} {l : List Int} (h : Mb w g l) (n : Nat) : Mb (w.drewN n) g l := ⟨h.1.drewN n, h.2⟩


set_option maxHeartbeats 2000000 in
theorem plain_ok (l : List Int) (hl : l.length = 64) (d : Dd) (h : deedE d = 0) (w : World) : Calls Try.prog 9 #[memV l, d.val] w fun e w' =>
    e = .returned (.tuple #[memV (doM l d), .int .u64 (doV l d)]) ∧ Below w.heap.size w w' := by
  obtain ⟨-, -, i, hi, ha⟩ := deedE_ok h
  obtain ⟨n, k, a, v⟩ := d
  simp only at ha
  subst ha
  have hp : (pokeL l i v).length = 64 := by rw [pokeL_length, hl]
  have eM : doM l ⟨n, k, i, v⟩ = if setsB k = true then pokeL l i v else l := by simp [doM]
  have eV : doV l ⟨n, k, i, v⟩ = if tellsB k = true then wd l i else 0 := by simp [doV]
  rw [eM, eV]
  have HI := Lib.hid hi
  obtain ⟨c, hc⟩ : ∃ c : Nat, i / 4 = c := ⟨_, rfl⟩
  obtain ⟨r, hr0⟩ : ∃ r : Nat, i % 4 = r := ⟨_, rfl⟩
  have HCR := Lib.hid (show c * 4 + r = i by omega)
  have hq : IntKind.i64.wrap ((i : Int) / 4) = (c : Int) := by rw [wrap_i64_ediv _ _ (by omega) (by omega) (by omega)]; omega
  have hr : (i : Int) % 4 = (r : Int) := by omega
  have hr2 : (i : Int).tmod 4 = (r : Int) := by rw [Int.tmod_eq_emod_of_nonneg (by omega)]; omega
  have c0 : (memA l)[c * 4 + r]? = some (.int .u64 (wd l i)) := (memA_at (l := l) (c * 4 + r) (by omega)).trans (by rw [HCR.out])
  have lc : (c : Int) < 16 := by omega
  have ld : (r : Int) < 4 := by omega
  have hi2 : (i : Int) < 64 := by omega
  generalize wd l i = wi at *
  clear h hi eM eV hc hr0
  unfold setsB tellsB
  have HC0 := Lib.hid c0
  clear c0
  have low := Below.refl w.heap.size w
  have xb := boxNext low 28 (memA l)
  replace low := gAlloc low (.cells (memA l) 28)
  try simp only [World.size_alloc] at xb
  have db := boxNext low 41 #[.int .i64 n, .int .i64 k, .int .i64 i, .int .u64 v]
  replace low := gAlloc low (.cells #[.int .i64 n, .int .i64 k, .int .i64 i, .int .u64 v] 41)
  replace xb := xb.alloc (.cells #[.int .i64 n, .int .i64 k, .int .i64 i, .int .u64 v] 41)
  try simp only [World.size_alloc] at db
  have ob := boxNext low 28 (memA zeroL)
  replace low := gAlloc low (.cells (memA zeroL) 28)
  replace xb := xb.alloc (.cells (memA zeroL) 28)
  replace db := db.alloc (.cells (memA zeroL) 28)
  try simp only [World.size_alloc] at ob
  have m0 := xb.at_ (c * 4 + r) HC0.out
  have mb : Mb _ _ l := ⟨xb, hl⟩
  clear xb HC0
  have db_0 := db.at_ 0 rfl
  have db_1 := db.at_ 1 rfl
  have db_2 := db.at_ 2 rfl
  have db_3 := db.at_ 3 rfl
  cases k1 : (k == 1) <;> cases k2 : (k == 2) <;> cases k3 : (k == 3)
  all_goals
    go_enter Try.func9, Try.ntmps9
    go_wp2_with (with_reducible refine wp_newMem ?_)
    go_quiet (fail)
    replace mb := Mb.drewN mb nq
    replace ob := ob.drewN nq
    replace db := db.drewN nq
    replace low := gDrewN low nq
    clear m0
    clear db_0 db_1 db_2 db_3
    generalize World.drewN _ nq = wx at *
    have db_0 := db.at_ 0 rfl
    have db_1 := db.at_ 1 rfl
    have db_2 := db.at_ 2 rfl
    have db_3 := db.at_ 3 rfl
  · have hl2 := mb.2
    go_wp2_with (first | ((with_reducible refine wp_loadMem (mb) ?_ ?_ ?_); rfl; rfl) | ((with_reducible refine wp_storeMem (⟨ob, zeroL_length⟩) (hl2) ?_ ?_ ?_); rfl; rfl))
    intro w7 m7 st
    replace low := st.low low (by omega)
    clear st ob mb db
    go_wp2_with fail
    refine bodyPost_ret (v := .tuple #[memV (l), .int .u64 (0)]) (results_mem2 Try.results9 rfl rfl m7) rfl ⟨rfl, low⟩
  · go_wp2_with fail
    refine wp_region_still_tail 10 (by kernel_rfl) (by kernel_rfl) ?_
    simp only [List.take_succ_cons, List.take_zero, List.drop_succ_cons, List.drop_zero]
    still_step
    still_step
    still_step
    still_step
    still_step
    still_step
    still_step
    still_step
    still_step
    still_step
    refine wpStill_nil ?_
    change wpList _ _ _ _ _ (World.drew _)
    replace mb := mb.drew
    replace ob := ob.drew
    replace db := db.drew
    replace low := low.drew
    clear db_0 db_1 db_2 db_3
    go_wp2_with ((with_reducible refine wp_storeWord (mb) (c * 4 + r) (by have := HCR.out; have := HI.out; omega) (v) ?_ ?_ ?_); rfl; rfl)
    intro w4 m4 st
    rw [HCR.out] at m4
    replace low := st.low low (by omega)
    replace ob := st.box ob (by omega)
    replace db := st.box db (by omega)
    replace mb := m4
    clear st m4
    have db_0 := db.at_ 0 rfl
    have db_1 := db.at_ 1 rfl
    have db_2 := db.at_ 2 rfl
    have db_3 := db.at_ 3 rfl
    have hl2 := mb.2
    go_wp2_with (first | ((with_reducible refine wp_loadMem (mb) ?_ ?_ ?_); rfl; rfl) | ((with_reducible refine wp_storeMem (⟨ob, zeroL_length⟩) (hl2) ?_ ?_ ?_); rfl; rfl))
    intro w7 m7 st
    replace low := st.low low (by omega)
    clear st ob mb db
    go_wp2_with fail
    refine bodyPost_ret (v := .tuple #[memV (pokeL l i v), .int .u64 (wi)]) (results_mem2 Try.results9 rfl rfl m7) rfl ⟨rfl, low⟩
  · go_wp2_with fail
    refine wp_region_still_tail 10 (by kernel_rfl) (by kernel_rfl) ?_
    simp only [List.take_succ_cons, List.take_zero, List.drop_succ_cons, List.drop_zero]
    still_step
    still_step
    still_step
    still_step
    still_step
    still_step
    still_step
    still_step
    still_step
    still_step
    refine wpStill_nil ?_
    change wpList _ _ _ _ _ (World.drew _)
    replace mb := mb.drew
    replace ob := ob.drew
    replace db := db.drew
    replace low := low.drew
    clear db_0 db_1 db_2 db_3
    go_wp2_with ((with_reducible refine wp_storeWord (mb) (c * 4 + r) (by have := HCR.out; have := HI.out; omega) (v) ?_ ?_ ?_); rfl; rfl)
    intro w4 m4 st
    rw [HCR.out] at m4
    replace low := st.low low (by omega)
    replace ob := st.box ob (by omega)
    replace db := st.box db (by omega)
    replace mb := m4
    clear st m4
    have db_0 := db.at_ 0 rfl
    have db_1 := db.at_ 1 rfl
    have db_2 := db.at_ 2 rfl
    have db_3 := db.at_ 3 rfl
    have hl2 := mb.2
    go_wp2_with (first | ((with_reducible refine wp_loadMem (mb) ?_ ?_ ?_); rfl; rfl) | ((with_reducible refine wp_storeMem (⟨ob, zeroL_length⟩) (hl2) ?_ ?_ ?_); rfl; rfl))
    intro w7 m7 st
    replace low := st.low low (by omega)
    clear st ob mb db
    go_wp2_with fail
    refine bodyPost_ret (v := .tuple #[memV (pokeL l i v), .int .u64 (0)]) (results_mem2 Try.results9 rfl rfl m7) rfl ⟨rfl, low⟩
  · go_wp2_with fail
    refine wp_region_still_tail 10 (by kernel_rfl) (by kernel_rfl) ?_
    simp only [List.take_succ_cons, List.take_zero, List.drop_succ_cons, List.drop_zero]
    still_step
    still_step
    still_step
    still_step
    still_step
    still_step
    still_step
    still_step
    still_step
    still_step
    refine wpStill_nil ?_
    change wpList _ _ _ _ _ (World.drew _)
    replace mb := mb.drew
    replace ob := ob.drew
    replace db := db.drew
    replace low := low.drew
    clear db_0 db_1 db_2 db_3
    go_wp2_with ((with_reducible refine wp_storeWord (mb) (c * 4 + r) (by have := HCR.out; have := HI.out; omega) (v) ?_ ?_ ?_); rfl; rfl)
    intro w4 m4 st
    rw [HCR.out] at m4
    replace low := st.low low (by omega)
    replace ob := st.box ob (by omega)
    replace db := st.box db (by omega)
    replace mb := m4
    clear st m4
    have db_0 := db.at_ 0 rfl
    have db_1 := db.at_ 1 rfl
    have db_2 := db.at_ 2 rfl
    have db_3 := db.at_ 3 rfl
    have hl2 := mb.2
    go_wp2_with (first | ((with_reducible refine wp_loadMem (mb) ?_ ?_ ?_); rfl; rfl) | ((with_reducible refine wp_storeMem (⟨ob, zeroL_length⟩) (hl2) ?_ ?_ ?_); rfl; rfl))
    intro w7 m7 st
    replace low := st.low low (by omega)
    clear st ob mb db
    go_wp2_with fail
    refine bodyPost_ret (v := .tuple #[memV (pokeL l i v), .int .u64 (wi)]) (results_mem2 Try.results9 rfl rfl m7) rfl ⟨rfl, low⟩
  · have hl2 := mb.2
    go_wp2_with (first | ((with_reducible refine wp_loadMem (mb) ?_ ?_ ?_); rfl; rfl) | ((with_reducible refine wp_storeMem (⟨ob, zeroL_length⟩) (hl2) ?_ ?_ ?_); rfl; rfl))
    intro w7 m7 st
    replace low := st.low low (by omega)
    clear st ob mb db
    go_wp2_with fail
    refine bodyPost_ret (v := .tuple #[memV (l), .int .u64 (wi)]) (results_mem2 Try.results9 rfl rfl m7) rfl ⟨rfl, low⟩
  · go_wp2_with fail
    refine wp_region_still_tail 10 (by kernel_rfl) (by kernel_rfl) ?_
    simp only [List.take_succ_cons, List.take_zero, List.drop_succ_cons, List.drop_zero]
    still_step
    still_step
    still_step
    still_step
    still_step
    still_step
    still_step
    still_step
    still_step
    still_step
    refine wpStill_nil ?_
    change wpList _ _ _ _ _ (World.drew _)
    replace mb := mb.drew
    replace ob := ob.drew
    replace db := db.drew
    replace low := low.drew
    clear db_0 db_1 db_2 db_3
    go_wp2_with ((with_reducible refine wp_storeWord (mb) (c * 4 + r) (by have := HCR.out; have := HI.out; omega) (v) ?_ ?_ ?_); rfl; rfl)
    intro w4 m4 st
    rw [HCR.out] at m4
    replace low := st.low low (by omega)
    replace ob := st.box ob (by omega)
    replace db := st.box db (by omega)
    replace mb := m4
    clear st m4
    have db_0 := db.at_ 0 rfl
    have db_1 := db.at_ 1 rfl
    have db_2 := db.at_ 2 rfl
    have db_3 := db.at_ 3 rfl
    have hl2 := mb.2
    go_wp2_with (first | ((with_reducible refine wp_loadMem (mb) ?_ ?_ ?_); rfl; rfl) | ((with_reducible refine wp_storeMem (⟨ob, zeroL_length⟩) (hl2) ?_ ?_ ?_); rfl; rfl))
    intro w7 m7 st
    replace low := st.low low (by omega)
    clear st ob mb db
    go_wp2_with fail
    refine bodyPost_ret (v := .tuple #[memV (pokeL l i v), .int .u64 (wi)]) (results_mem2 Try.results9 rfl rfl m7) rfl ⟨rfl, low⟩
  · go_wp2_with fail
    refine wp_region_still_tail 10 (by kernel_rfl) (by kernel_rfl) ?_
    simp only [List.take_succ_cons, List.take_zero, List.drop_succ_cons, List.drop_zero]
    still_step
    still_step
    still_step
    still_step
    still_step
    still_step
    still_step
    still_step
    still_step
    still_step
    refine wpStill_nil ?_
    change wpList _ _ _ _ _ (World.drew _)
    replace mb := mb.drew
    replace ob := ob.drew
    replace db := db.drew
    replace low := low.drew
    clear db_0 db_1 db_2 db_3
    go_wp2_with ((with_reducible refine wp_storeWord (mb) (c * 4 + r) (by have := HCR.out; have := HI.out; omega) (v) ?_ ?_ ?_); rfl; rfl)
    intro w4 m4 st
    rw [HCR.out] at m4
    replace low := st.low low (by omega)
    replace ob := st.box ob (by omega)
    replace db := st.box db (by omega)
    replace mb := m4
    clear st m4
    have db_0 := db.at_ 0 rfl
    have db_1 := db.at_ 1 rfl
    have db_2 := db.at_ 2 rfl
    have db_3 := db.at_ 3 rfl
    have hl2 := mb.2
    go_wp2_with (first | ((with_reducible refine wp_loadMem (mb) ?_ ?_ ?_); rfl; rfl) | ((with_reducible refine wp_storeMem (⟨ob, zeroL_length⟩) (hl2) ?_ ?_ ?_); rfl; rfl))
    intro w7 m7 st
    replace low := st.low low (by omega)
    clear st ob mb db
    go_wp2_with fail
    refine bodyPost_ret (v := .tuple #[memV (pokeL l i v), .int .u64 (wi)]) (results_mem2 Try.results9 rfl rfl m7) rfl ⟨rfl, low⟩
  · go_wp2_with fail
    refine wp_region_still_tail 10 (by kernel_rfl) (by kernel_rfl) ?_
    simp only [List.take_succ_cons, List.take_zero, List.drop_succ_cons, List.drop_zero]
    still_step
    still_step
    still_step
    still_step
    still_step
    still_step
    still_step
    still_step
    still_step
    still_step
    refine wpStill_nil ?_
    change wpList _ _ _ _ _ (World.drew _)
    replace mb := mb.drew
    replace ob := ob.drew
    replace db := db.drew
    replace low := low.drew
    clear db_0 db_1 db_2 db_3
    go_wp2_with ((with_reducible refine wp_storeWord (mb) (c * 4 + r) (by have := HCR.out; have := HI.out; omega) (v) ?_ ?_ ?_); rfl; rfl)
    intro w4 m4 st
    rw [HCR.out] at m4
    replace low := st.low low (by omega)
    replace ob := st.box ob (by omega)
    replace db := st.box db (by omega)
    replace mb := m4
    clear st m4
    have db_0 := db.at_ 0 rfl
    have db_1 := db.at_ 1 rfl
    have db_2 := db.at_ 2 rfl
    have db_3 := db.at_ 3 rfl
    have hl2 := mb.2
    go_wp2_with (first | ((with_reducible refine wp_loadMem (mb) ?_ ?_ ?_); rfl; rfl) | ((with_reducible refine wp_storeMem (⟨ob, zeroL_length⟩) (hl2) ?_ ?_ ?_); rfl; rfl))
    intro w7 m7 st
    replace low := st.low low (by omega)
    clear st ob mb db
    go_wp2_with fail
    refine bodyPost_ret (v := .tuple #[memV (pokeL l i v), .int .u64 (wi)]) (results_mem2 Try.results9 rfl rfl m7) rfl ⟨rfl, low⟩
end Go.Proofs.Ytcegjehoejgofaa
