/-
Proved: what Do of package atomic returns, for every argument; it changes nothing that was there. No condition.
-/
import Derived.Test.YtcegjehoejgofaaBank2
import Derived.Test.YtcegjehoejgofaaOps
namespace Go.Proofs.Ytcegjehoejgofaa
open Go.ChangeShapes Go.WideShapes Go.ChangeAt Go.RowKit Go.Joins

/-- The memory behind an operation, and what the operation tells. -/
def doM (l : List Int) (d : Dd) : List Int := if setsB d.kd = true then pokeL l d.ad.toNat d.vl else l
def doV (l : List Int) (d : Dd) : Int := if tellsB d.kd = true then wd l d.ad.toNat else 0
theorem doM_length {l : List Int} (d : Dd) (h : l.length = 64) : (doM l d).length = 64 := by
  unfold doM
  split
  · rw [pokeL_length, h]
  · exact h

theorem results_mem3 {fn : Func} {tmps : Array Value} {i j k g : Nat} {l : List Int} {v u : Value} {w : World} (hr : fn.results = #[.cell i 28, .tmp j, .tmp k]) (hi : tmps.getD i undef = .pointer (some ⟨g, 0, none⟩)) (hj : tmps.getD j undef = v) (hk : tmps.getD k undef = u) (hb : Mb w g l) :
    (results fn tmps).run Try.prog w = .ok (.tuple #[memV l, v, u]) w := by
  rw [Array.getD_eq_getD_getElem?] at hi hj hk
  simp [results, hr, hi, hj, hk, asAddr, hb.load]

set_option maxHeartbeats 1000000 in
theorem atomicDo_bad (l : List Int) (d : Dd) (h : deedE d ≠ 0) (w : World) : Calls Try.prog 15 #[memV l, d.val] w fun e w' =>
    e = .returned (.tuple #[memV zeroL, .int .u64 0, .int .i64 (deedE d)]) ∧ Below w.heap.size w w' := by
  have R := Lib.hid fun W => atomicRight_any d W
  obtain ⟨n, k, a, v⟩ := d
  have h1 : (deedE ⟨n, k, a, v⟩ != 0) = true := by simpa using h
  generalize deedE ⟨n, k, a, v⟩ = e0 at *
  clear h
  have low := Below.refl w.heap.size w
  have mb := boxNext low 28 (memA l)
  replace low := gAlloc low (.cells (memA l) 28)
  try simp only [World.size_alloc] at mb
  have db := boxNext low 41 #[.int .i64 n, .int .i64 k, .int .i64 a, .int .u64 v]
  replace low := gAlloc low (.cells #[.int .i64 n, .int .i64 k, .int .i64 a, .int .u64 v] 41)
  replace mb := mb.alloc (.cells #[.int .i64 n, .int .i64 k, .int .i64 a, .int .u64 v] 41)
  try simp only [World.size_alloc] at db
  have ob := boxNext low 28 (memA zeroL)
  replace low := gAlloc low (.cells (memA zeroL) 28)
  replace mb := mb.alloc (.cells (memA zeroL) 28)
  replace db := db.alloc (.cells (memA zeroL) 28)
  try simp only [World.size_alloc] at ob
  go_enter Try.func15, Try.ntmps15
  have db_0 := db.at_ 0 rfl
  have db_1 := db.at_ 1 rfl
  have db_2 := db.at_ 2 rfl
  have db_3 := db.at_ 3 rfl
  go_wp2_with (with_reducible refine wp_newMem ?_)
  (with_reducible refine (R.out _).mono ?_); rintro e w1 ⟨rfl, hb⟩
  replace ob := ob.call hb
  replace low := gCall low hb
  clear hb db mb
  clear db_0 db_1 db_2 db_3
  go_wp2_with (first | (with_reducible refine wp_zeroMem ?_) | ((with_reducible refine wp_storeMem (⟨ob, zeroL_length⟩) (zeroL_length) ?_ ?_ ?_); rfl; rfl))
  intro w3 m3 st
  replace low := st.low low (by omega)
  clear st ob
  go_wp2_with fail
  refine bodyPost_ret (v := .tuple #[memV zeroL, .int .u64 0, .int .i64 e0]) (results_mem3 Try.results15 rfl rfl rfl m3) rfl ⟨rfl, low⟩


set_option maxHeartbeats 2000000 in
theorem atomicDo_ok (l : List Int) (hl : l.length = 64) (d : Dd) (h : deedE d = 0) (w : World) : Calls Try.prog 15 #[memV l, d.val] w fun e w' =>
    e = .returned (.tuple #[memV (doM l d), .int .u64 (doV l d), .int .i64 0]) ∧ Below w.heap.size w w' := by
  have R := Lib.hid fun W => atomicRight_any d W
  rw [h] at R
  obtain ⟨-, -, i, hi, ha⟩ := deedE_ok h
  obtain ⟨n, k, a, v⟩ := d
  simp only at ha
  subst ha
  have W1 := Lib.hid fun W => bankWord_ok l hl i hi W
  have P := Lib.hid fun W => bankPoke_ok l hl i hi v W
  have S := Lib.hid fun W => sets_any k W
  have T := Lib.hid fun W => tells_any k W
  have hp : (pokeL l i v).length = 64 := by rw [pokeL_length, hl]
  have eM : doM l ⟨n, k, i, v⟩ = if setsB k = true then pokeL l i v else l := by simp [doM]
  have eV : doV l ⟨n, k, i, v⟩ = if tellsB k = true then wd l i else 0 := by simp [doV]
  rw [eM, eV]
  generalize wd l i = wi at *
  generalize pokeL l i v = m at *
  clear h hi eM eV
  cases hs : setsB k <;> cases ht : tellsB k
  all_goals
    rw [hs] at S
    rw [ht] at T
    clear hs ht
    have low := Below.refl w.heap.size w
    have xb := boxNext low 28 (memA l)
    replace low := gAlloc low (.cells (memA l) 28)
    try simp only [World.size_alloc] at xb
    have db := boxNext low 41 #[.int .i64 n, .int .i64 k, .int .i64 i, .int .u64 v]
    replace low := gAlloc low (.cells #[.int .i64 n, .int .i64 k, .int .i64 i, .int .u64 v] 41)
    replace xb := xb.alloc (.cells #[.int .i64 n, .int .i64 k, .int .i64 i, .int .u64 v] 41)
    try simp only [World.size_alloc] at db
    have ob := boxNext low 28 (memA zeroL)
    replace low := gAlloc low (.cells (memA zeroL) 28)
    replace xb := xb.alloc (.cells (memA zeroL) 28)
    replace db := db.alloc (.cells (memA zeroL) 28)
    try simp only [World.size_alloc] at ob
    have mb : Mb _ _ l := ⟨xb, hl⟩
    clear xb
    go_enter Try.func15, Try.ntmps15
    have db_0 := db.at_ 0 rfl
    have db_1 := db.at_ 1 rfl
    have db_2 := db.at_ 2 rfl
    have db_3 := db.at_ 3 rfl
    go_wp2_with (with_reducible refine wp_newMem ?_)
    (with_reducible refine (R.out _).mono ?_); rintro e w1 ⟨rfl, hb⟩
    replace ob := ob.call hb
    replace mb := mb.call hb
    replace db := db.call hb
    replace low := gCall low hb
    clear hb
    clear db_0 db_1 db_2 db_3
    have db_0 := db.at_ 0 rfl
    have db_1 := db.at_ 1 rfl
    have db_2 := db.at_ 2 rfl
    have db_3 := db.at_ 3 rfl
    go_wp2_with ((with_reducible refine wp_loadMem (mb) ?_ ?_ ?_); rfl; rfl)
    (with_reducible refine (W1.out _).mono ?_); rintro e w2 ⟨rfl, hb⟩
    replace ob := ob.call hb
    replace mb := mb.call hb
    replace db := db.call hb
    replace low := gCall low hb
    clear hb
    clear db_0 db_1 db_2 db_3
    have db_0 := db.at_ 0 rfl
    have db_1 := db.at_ 1 rfl
    have db_2 := db.at_ 2 rfl
    have db_3 := db.at_ 3 rfl
    go_wp2_with fail
    (with_reducible refine (S.out _).mono ?_); rintro e w' ⟨rfl, rfl⟩
  · go_wp2_with fail
    (with_reducible refine (T.out _).mono ?_); rintro e w' ⟨rfl, rfl⟩
    have hl2 := mb.2
    go_wp2_with (first | ((with_reducible refine wp_loadMem (mb) ?_ ?_ ?_); rfl; rfl) | ((with_reducible refine wp_storeMem (⟨ob, zeroL_length⟩) (hl2) ?_ ?_ ?_); rfl; rfl))
    intro w7 m7 st
    replace low := st.low low (by omega)
    clear st ob mb db
    go_wp2_with fail
    refine bodyPost_ret (v := .tuple #[memV (l), .int .u64 (0), .int .i64 0]) (results_mem3 Try.results15 rfl rfl rfl m7) rfl ⟨rfl, low⟩
  · go_wp2_with fail
    (with_reducible refine (T.out _).mono ?_); rintro e w' ⟨rfl, rfl⟩
    have hl2 := mb.2
    go_wp2_with (first | ((with_reducible refine wp_loadMem (mb) ?_ ?_ ?_); rfl; rfl) | ((with_reducible refine wp_storeMem (⟨ob, zeroL_length⟩) (hl2) ?_ ?_ ?_); rfl; rfl))
    intro w7 m7 st
    replace low := st.low low (by omega)
    clear st ob mb db
    go_wp2_with fail
    refine bodyPost_ret (v := .tuple #[memV (l), .int .u64 (wi), .int .i64 0]) (results_mem3 Try.results15 rfl rfl rfl m7) rfl ⟨rfl, low⟩
  · go_wp2_with ((with_reducible refine wp_loadMem (mb) ?_ ?_ ?_); rfl; rfl)
    (with_reducible refine (P.out _).mono ?_); rintro e w3 ⟨rfl, hb⟩
    replace ob := ob.call hb
    replace mb := mb.call hb
    replace db := db.call hb
    replace low := gCall low hb
    clear hb
    clear db_0 db_1 db_2 db_3
    go_wp2_with ((with_reducible refine wp_storeMem (mb) (hp) ?_ ?_ ?_); rfl; rfl)
    intro w4 m4 st
    replace low := st.low low (by omega)
    replace ob := st.box ob (by omega)
    replace db := st.box db (by omega)
    replace mb := m4
    clear st m4
    have db_0 := db.at_ 0 rfl
    have db_1 := db.at_ 1 rfl
    have db_2 := db.at_ 2 rfl
    have db_3 := db.at_ 3 rfl
    go_wp2_with fail
    (with_reducible refine (T.out _).mono ?_); rintro e w' ⟨rfl, rfl⟩
    have hl2 := mb.2
    go_wp2_with (first | ((with_reducible refine wp_loadMem (mb) ?_ ?_ ?_); rfl; rfl) | ((with_reducible refine wp_storeMem (⟨ob, zeroL_length⟩) (hl2) ?_ ?_ ?_); rfl; rfl))
    intro w7 m7 st
    replace low := st.low low (by omega)
    clear st ob mb db
    go_wp2_with fail
    refine bodyPost_ret (v := .tuple #[memV (m), .int .u64 (0), .int .i64 0]) (results_mem3 Try.results15 rfl rfl rfl m7) rfl ⟨rfl, low⟩
  · go_wp2_with ((with_reducible refine wp_loadMem (mb) ?_ ?_ ?_); rfl; rfl)
    (with_reducible refine (P.out _).mono ?_); rintro e w3 ⟨rfl, hb⟩
    replace ob := ob.call hb
    replace mb := mb.call hb
    replace db := db.call hb
    replace low := gCall low hb
    clear hb
    clear db_0 db_1 db_2 db_3
    go_wp2_with ((with_reducible refine wp_storeMem (mb) (hp) ?_ ?_ ?_); rfl; rfl)
    intro w4 m4 st
    replace low := st.low low (by omega)
    replace ob := st.box ob (by omega)
    replace db := st.box db (by omega)
    replace mb := m4
    clear st m4
    have db_0 := db.at_ 0 rfl
    have db_1 := db.at_ 1 rfl
    have db_2 := db.at_ 2 rfl
    have db_3 := db.at_ 3 rfl
    go_wp2_with fail
    (with_reducible refine (T.out _).mono ?_); rintro e w' ⟨rfl, rfl⟩
    have hl2 := mb.2
    go_wp2_with (first | ((with_reducible refine wp_loadMem (mb) ?_ ?_ ?_); rfl; rfl) | ((with_reducible refine wp_storeMem (⟨ob, zeroL_length⟩) (hl2) ?_ ?_ ?_); rfl; rfl))
    intro w7 m7 st
    replace low := st.low low (by omega)
    clear st ob mb db
    go_wp2_with fail
    refine bodyPost_ret (v := .tuple #[memV (m), .int .u64 (wi), .int .i64 0]) (results_mem3 Try.results15 rfl rfl rfl m7) rfl ⟨rfl, low⟩

end Go.Proofs.Ytcegjehoejgofaa
