/-
Proved: the given statement DeedPlain: what an operation with caches tells, and the flat memory behind it, are those of the operation on plain memory. No condition.
-/
import Derived.Test.YtahoadfofleacaaJoined6
import Derived.Test.YtahoadfofleacaaGood
namespace Go.Proofs.Ytahoadfofleacaa.deedPlain
open Go.ChangeShapes Go.WideShapes Go.ChangeAt Go.RowKit Go.Joins Go.Proofs.Ytahoadfofleacaa



set_option maxRecDepth 100000 in
set_option maxHeartbeats 4000000 in
theorem walk_bad (n s y b : Int) (v : Value) (m : List Int) (css : List (List St)) (d : Dd) (w : World) (h : Ks w v css) (hm : m.length = 64) (E : Int) (hE : E ≠ 0)
    (D : Hid (∀ w, Ks w v css → Calls Try.prog 9 #[cfg n s y b, wldV v m, d.val] w fun e w' => e = .returned (.tuple #[.agg nilW, .agg done0, .int .i64 E]) ∧ Below w.heap.size w w')) :
    Calls Try.prog 3 #[cfg n s y b, wldV v m, d.val] w fun e w' => e = .returned (.bool true) ∧ Below w.heap.size w w' := by
  have he' : (E != 0) = true := by simpa using hE
  obtain ⟨dn, dk, da, dv⟩ := d
  clear hE
  have low := Below.refl w.heap.size w
  have cb := boxNext low 23 (cfgA n s y b)
  replace low := gAlloc low (.cells (cfgA n s y b) 23)
  replace h := h.alloc (.cells (cfgA n s y b) 23)
  try simp only [World.size_alloc] at cb
  have wb := boxNext low 31 (wldA v m)
  replace low := gAlloc low (.cells (wldA v m) 31)
  replace cb := cb.alloc (.cells (wldA v m) 31)
  replace h := h.alloc (.cells (wldA v m) 31)
  try simp only [World.size_alloc] at wb
  have db := boxNext low 34 #[.int .i64 (dn), .int .i64 dk, .int .i64 (da), .int .u64 dv]
  replace low := gAlloc low (.cells #[.int .i64 (dn), .int .i64 dk, .int .i64 (da), .int .u64 dv] 34)
  replace cb := cb.alloc (.cells #[.int .i64 (dn), .int .i64 dk, .int .i64 (da), .int .u64 dv] 34)
  replace wb := wb.alloc (.cells #[.int .i64 (dn), .int .i64 dk, .int .i64 (da), .int .u64 dv] 34)
  replace h := h.alloc (.cells #[.int .i64 (dn), .int .i64 dk, .int .i64 (da), .int .u64 dv] 34)
  try simp only [World.size_alloc] at db
  go_enter Try.func3, Try.ntmps3
  go_wp2_with fail
  (with_reducible refine (deeds_yes _).mono ?_); rintro e w1 ⟨rfl, hb1⟩
  replace cb := cb.call hb1
  replace wb := wb.call hb1
  replace db := db.call hb1
  replace h := h.call hb1
  replace low := gCall low hb1
  clear hb1
  simp only [cfgA] at cb
  have cb_0 := cb.at_ 0 rfl
  have cb_1 := cb.at_ 1 rfl
  have cb_2 := cb.at_ 2 rfl
  have cb_3 := cb.at_ 3 rfl
  have db_0 := db.at_ 0 rfl
  have db_1 := db.at_ 1 rfl
  have db_2 := db.at_ 2 rfl
  have db_3 := db.at_ 3 rfl
  have wr := wb.range
  go_wp2_with (first | ((with_reducible refine wp_loadW (tyWorld) (wr) (wld_size hm) ?_ ?_ ?_); rfl; rfl))
  (with_reducible refine (D.out _ h).mono ?_); rintro e w2 ⟨rfl, hb2⟩
  clear cb_0 cb_1 cb_2 cb_3 db_0 db_1 db_2 db_3
  replace low := gCall low hb2
  clear hb2 cb wb db wr h
  have eqD := eqDone0
  have lz2 := low.size
  have xb := boxNext low 31 nilW
  replace low := gAlloc low (.cells nilW 31)
  try simp only [World.size_alloc] at xb
  have eb := boxNext low 37 done0
  replace low := gAlloc low (.cells done0 37)
  replace xb := xb.alloc (.cells done0 37)
  try simp only [World.size_alloc] at eb
  go_wp2_with (first | (with_reducible refine wp_newW (tyWorld) ?_) | (with_reducible refine wp_newW (tyDone) ?_) | ((with_reducible refine wp_storeW (tyWorld) (xb) (rfl) (nilW_size) (nilW_one) ?_ ?_ ?_); rfl; rfl))
  intro w3 xb3 st3
  have near := st3.low (gAlloc (gAlloc (Below.refl w2.heap.size w2) (.cells nilW 31)) (.cells done0 37)) (by omega)
  replace eb := st3.box eb (by omega)
  replace low := st3.low low (by omega)
  clear st3 xb
  have eb9 : Box w3 (w2.alloc (.cells nilW 31)).heap.size 37 done0 := by simpa using eb
  go_wp2_with ((with_reducible refine wp_storeW (tyDone) (eb9) (rfl) (done0_size) (done0_one) ?_ ?_ ?_); rfl; rfl)
  intro w4 eb4 st4
  simp only [World.size_alloc] at eb4
  replace st4 : Stored w3 (w2.heap.size + 1) w4 := by simpa using st4
  clear eb9
  have xb := st4.box xb3 (by omega)
  replace near := st4.low near (by omega)
  replace low := st4.low low (by omega)
  clear st4 eb xb3
  have eb := eb4
  clear eb4
  have x0 := xb.at_ 0 (wldA_zero _ _)
  have er := eb.range
  go_wp2_with (first | (with_reducible refine wp_zeroW (tyDone) ?_) | ((with_reducible refine wp_loadW (tyDone) (er) (done0_size) ?_ ?_ ?_); rfl; rfl))
  go_ret
  exact ⟨rfl, low⟩

set_option maxRecDepth 100000 in
set_option maxHeartbeats 8000000 in
theorem walk_good (n s y b : Int) (v : Value) (m : List Int) (css : List (List St)) (dn dk da dv : Int) (w : World) (h : Ks w v css) (hm : m.length = 64) (css' : List (List St)) (m' : List Int) (hm' : m'.length = 64)
    (f1 f4 : Bool) (u f2 f3 : Int) (F G : List Int) (hF : F.length = 64) (hG : G.length = 64)
    (D : Hid (∀ w, Ks w v css → Calls Try.prog 9 #[cfg n s y b, wldV v m, (⟨dn, dk, da, dv⟩ : Dd).val] w fun e w' => (∃ v', e = .returned (.tuple #[wldV v' m', doneV u f1 f2 f3 f4, .int .i64 0]) ∧ KFr w' w.heap.size w'.heap.size v' css') ∧ Below w.heap.size w w'))
    (C : Hid (∀ w, Ks w v css → Calls Try.prog 10 #[cfg n s y b, wldV v m] w fun e w' => e = .returned (.tuple #[memV F, .int .i64 0]) ∧ Below w.heap.size w w'))
    (C' : Hid (∀ v w, Ks w v css' → Calls Try.prog 10 #[cfg n s y b, wldV v m'] w fun e w' => e = .returned (.tuple #[memV G, .int .i64 0]) ∧ Below w.heap.size w w'))
    (T : Hid (∀ w, Calls Try.prog 11 #[memV F, (⟨dn, dk, da, dv⟩ : Dd).val] w fun e w' => e = .returned (.tuple #[memV G, .int .u64 u, .int .i64 0]) ∧ Below w.heap.size w w')) :
    Calls Try.prog 3 #[cfg n s y b, wldV v m, (⟨dn, dk, da, dv⟩ : Dd).val] w fun e w' => e = .returned (.bool true) ∧ Below w.heap.size w w' := by
  have low := Below.refl w.heap.size w
  have cb := boxNext low 23 (cfgA n s y b)
  replace low := gAlloc low (.cells (cfgA n s y b) 23)
  replace h := h.alloc (.cells (cfgA n s y b) 23)
  try simp only [World.size_alloc] at cb
  have wb := boxNext low 31 (wldA v m)
  replace low := gAlloc low (.cells (wldA v m) 31)
  replace cb := cb.alloc (.cells (wldA v m) 31)
  replace h := h.alloc (.cells (wldA v m) 31)
  try simp only [World.size_alloc] at wb
  have db := boxNext low 34 #[.int .i64 (dn), .int .i64 dk, .int .i64 (da), .int .u64 dv]
  replace low := gAlloc low (.cells #[.int .i64 (dn), .int .i64 dk, .int .i64 (da), .int .u64 dv] 34)
  replace cb := cb.alloc (.cells #[.int .i64 (dn), .int .i64 dk, .int .i64 (da), .int .u64 dv] 34)
  replace wb := wb.alloc (.cells #[.int .i64 (dn), .int .i64 dk, .int .i64 (da), .int .u64 dv] 34)
  replace h := h.alloc (.cells #[.int .i64 (dn), .int .i64 dk, .int .i64 (da), .int .u64 dv] 34)
  try simp only [World.size_alloc] at db
  go_enter Try.func3, Try.ntmps3
  go_wp2_with fail
  (with_reducible refine (deeds_yes _).mono ?_); rintro e w1 ⟨rfl, hb1⟩
  replace cb := cb.call hb1
  replace wb := wb.call hb1
  replace db := db.call hb1
  replace h := h.call hb1
  replace low := gCall low hb1
  clear hb1
  simp only [cfgA] at cb
  have cb_0 := cb.at_ 0 rfl
  have cb_1 := cb.at_ 1 rfl
  have cb_2 := cb.at_ 2 rfl
  have cb_3 := cb.at_ 3 rfl
  have db_0 := db.at_ 0 rfl
  have db_1 := db.at_ 1 rfl
  have db_2 := db.at_ 2 rfl
  have db_3 := db.at_ 3 rfl
  have wr := wb.range
  go_wp2_with (first | ((with_reducible refine wp_loadW (tyWorld) (wr) (wld_size hm) ?_ ?_ ?_); rfl; rfl))
  (with_reducible refine (D.out _ h).mono ?_); rintro e w2 ⟨⟨v', rfl, kf⟩, hb2⟩
  clear cb_0 cb_1 cb_2 cb_3 db_0 db_1 db_2 db_3
  obtain ⟨A, c, rfl⟩ := kf.shape
  replace cb := cb.call hb2
  replace db := db.call hb2
  replace wb := wb.call hb2
  replace h := h.call hb2
  replace low := gCall low hb2
  clear hb2 wr D
  have xs : (wldA (.slice A css'.length c) m').size = (wldA (.slice none 0 0) zeroL).size := wld_size hm'
  have xo : (wldA (.slice A css'.length c) m').all (·.oneCell') = true := wldA_one _
  have ds := done_size u f1 f2 f3 f4
  have dn1 := done_one u f1 f2 f3 f4
  have KS := Lib.hid kf.ks
  clear kf
  have lz2 := low.size
  have xb := boxNext low 31 nilW
  replace low := gAlloc low (.cells nilW 31)
  try simp only [World.size_alloc] at xb
  have eb := boxNext low 37 done0
  replace low := gAlloc low (.cells done0 37)
  replace xb := xb.alloc (.cells done0 37)
  try simp only [World.size_alloc] at eb
  go_wp2_with (first | (with_reducible refine wp_newW (tyWorld) ?_) | (with_reducible refine wp_newW (tyDone) ?_) | ((with_reducible refine wp_storeW (tyWorld) (xb) (rfl) (xs) (xo) ?_ ?_ ?_); rfl; rfl))
  intro w3 xb3 st3
  have near := st3.low (gAlloc (gAlloc (Below.refl w2.heap.size w2) (.cells nilW 31)) (.cells done0 37)) (by omega)
  replace eb := st3.box eb (by omega)
  replace low := st3.low low (by omega)
  clear st3 xb
  have eb9 : Box w3 (w2.alloc (.cells nilW 31)).heap.size 37 done0 := by simpa using eb
  go_wp2_with ((with_reducible refine wp_storeW (tyDone) (eb9) (rfl) (ds) (dn1) ?_ ?_ ?_); rfl; rfl)
  intro w4 eb4 st4
  simp only [World.size_alloc] at eb4
  replace st4 : Stored w3 (w2.heap.size + 1) w4 := by simpa using st4
  clear eb9
  have xb := st4.box xb3 (by omega)
  replace near := st4.low near (by omega)
  replace low := st4.low low (by omega)
  clear st4 eb xb3
  have eb := eb4
  clear eb4
  have ks := KS.out.call near
  replace cb := cb.call near
  replace db := db.call near
  replace wb := wb.call near
  replace h := h.call near
  clear near KS
  have wr := wb.range
  have cb_0 := cb.at_ 0 rfl
  have cb_1 := cb.at_ 1 rfl
  have cb_2 := cb.at_ 2 rfl
  have cb_3 := cb.at_ 3 rfl
  go_wp2_with (first | ((with_reducible refine wp_loadW (tyWorld) (wr) (wld_size hm) ?_ ?_ ?_); rfl; rfl))
  (with_reducible refine (C.out _ h).mono ?_); rintro e w5 ⟨rfl, hb5⟩
  clear cb_0 cb_1 cb_2 cb_3
  replace cb := cb.call hb5
  replace db := db.call hb5
  replace xb := xb.call hb5
  replace eb := eb.call hb5
  replace ks := ks.call hb5
  replace low := gCall low hb5
  clear hb5 C wr wb h
  have fb := boxNext low 29 (memA F)
  replace low := gAlloc low (.cells (memA F) 29)
  replace cb := cb.alloc (.cells (memA F) 29)
  replace db := db.alloc (.cells (memA F) 29)
  replace xb := xb.alloc (.cells (memA F) 29)
  replace eb := eb.alloc (.cells (memA F) 29)
  replace ks := ks.alloc (.cells (memA F) 29)
  try simp only [World.size_alloc] at fb
  have xr := xb.range
  have cb_0 := cb.at_ 0 rfl
  have cb_1 := cb.at_ 1 rfl
  have cb_2 := cb.at_ 2 rfl
  have cb_3 := cb.at_ 3 rfl
  go_wp2_with (first | (with_reducible refine wp_newMem ?_) | ((with_reducible refine wp_storeNew (zeroL_length) (hF) ?_ ?_ ?_); rfl; rfl) | ((with_reducible refine wp_loadW (tyWorld) (xr) (xs) ?_ ?_ ?_); rfl; rfl))
  (with_reducible refine (C'.out _ _ ks).mono ?_); rintro e w6 ⟨rfl, hb6⟩
  clear cb_0 cb_1 cb_2 cb_3
  replace db := db.call hb6
  replace eb := eb.call hb6
  replace fb := fb.call hb6
  replace low := gCall low hb6
  clear hb6 C' xr xb ks cb
  have gb := boxNext low 29 (memA G)
  replace low := gAlloc low (.cells (memA G) 29)
  replace db := db.alloc (.cells (memA G) 29)
  replace eb := eb.alloc (.cells (memA G) 29)
  replace fb := fb.alloc (.cells (memA G) 29)
  try simp only [World.size_alloc] at gb
  have db_0 := db.at_ 0 rfl
  have db_1 := db.at_ 1 rfl
  have db_2 := db.at_ 2 rfl
  have db_3 := db.at_ 3 rfl
  go_wp2_with (first | (with_reducible refine wp_newMem ?_) | ((with_reducible refine wp_storeNew (zeroL_length) (hG) ?_ ?_ ?_); rfl; rfl) | ((with_reducible refine wp_loadMem (⟨fb, hF⟩) ?_ ?_ ?_); rfl; rfl))
  (with_reducible refine (T.out _).mono ?_); rintro e w7 ⟨rfl, hb7⟩
  clear db_0 db_1 db_2 db_3
  replace eb := eb.call hb7
  replace gb := gb.call hb7
  replace low := gCall low hb7
  clear hb7 T fb db
  have pb := boxNext low 29 (memA G)
  replace low := gAlloc low (.cells (memA G) 29)
  replace eb := eb.alloc (.cells (memA G) 29)
  replace gb := gb.alloc (.cells (memA G) 29)
  try simp only [World.size_alloc] at pb
  go_wp2_with (first | (with_reducible refine wp_newMem ?_) | ((with_reducible refine wp_storeNew (zeroL_length) (hG) ?_ ?_ ?_); rfl; rfl))
  with_reducible refine (good_yes _ 3 _ (by omega) ?_).mono ?_
  · intro j hj
    have : j = 0 ∨ j = 1 ∨ j = 2 := by omega
    rcases this with rfl | rfl | rfl <;> go_simp
  rintro e w8 ⟨rfl, rfl⟩
  have eqM := fun w => eqMem G G hG hG w
  have em : sameM G G = true := decide_eq_true rfl
  rw [em] at eqM
  replace eb := eb.alloc (.cells #[.int .i64 0, .int .i64 0, .int .i64 0] 38)
  replace gb := gb.alloc (.cells #[.int .i64 0, .int .i64 0, .int .i64 0] 38)
  replace pb := pb.alloc (.cells #[.int .i64 0, .int .i64 0, .int .i64 0] 38)
  replace low := gAlloc low (.cells #[.int .i64 0, .int .i64 0, .int .i64 0] 38)
  have eb_0 := eb.at_ 0 rfl
  go_wp2_with (first | ((with_reducible refine wp_loadMem (⟨gb, hG⟩) ?_ ?_ ?_); rfl; rfl) | ((with_reducible refine wp_loadMem (⟨pb, hG⟩) ?_ ?_ ?_); rfl; rfl))
  go_ret
  exact ⟨rfl, low⟩

theorem walk (v1 v2 v3 : Value) (w : World) (h1 : IsCfg v1) (h2 : IsWorld w v2) (h3 : IsDeed v3) :
    Calls Try.prog 3 #[v1, v2, v3] w fun e w' => e = .returned (.bool true) ∧ Below w.heap.size w w' := by
  obtain ⟨n, s, y, b, rfl, _⟩ := h1
  obtain ⟨v, m, css, rfl, hm, ks⟩ := h2
  obtain ⟨d, rfl⟩ := h3
  rcases do_cases (n := n) (s := s) (y := y) (b := b) (css := css) hm d with ⟨E, hE, D⟩ | ⟨he, i0, L, css', out, pl, did, D⟩
  · exact walk_bad n s y b v m css d w ks hm E hE (Lib.hid (D v))
  · have hm' := keepM_length hm out
    have hF : (flatW css m).length = 64 := flatN_length _ _ _
    have hG := doM_length d hF
    obtain ⟨h1, h2, _⟩ := findE_ok he
    obtain ⟨dn, dk, da, dv⟩ := d
    refine walk_good n s y b v m css dn dk da dv w ks hm css' (keepM m out) hm' _ _ _ _ _ (flatW css m) (doM (flatW css m) ⟨dn, dk, da, dv⟩) hF hG (Lib.hid fun w hw => D v w hw) (Lib.hid fun w hw => flat_ok n s y b v m css w hw hm h1) (Lib.hid fun v w hw => ?_) (Lib.hid fun w => atomicDo_ok (flatW css m) hF _ h2 w)
    have := flat_ok n s y b v (keepM m out) css' w hw hm' did.ok
    rw [← did.flat]
    exact this

set_option maxRecDepth 100000 in
theorem lifted (os : Os) (started : os.Started) (H : Type) (enc : TypeId × Value → H) :
    ReturnsInHanded {} Try.checked os 3 .any (Rows.deedPlainSpec.pre6 enc Try.prog Try.f3 Rows.deedPlainRow.domain false) (Rows.deedPlainSpec.post enc Try.prog Try.f3 false true false false) := by
  refine returnsInHanded_of_change (C := Try.checked) own started (by kernel_rfl) Try.func3
    (ChangeSpec.witness6 (enc := enc) (C := Try.checked) false ⟨#[], #[cfg 2 1 1 1, wldV (.slice none 0 0) zeroL, (⟨0, 0, 0, 0⟩ : Dd).val], []⟩ 8 (by kernel_rfl) (by kernel_rfl) (by kernel_rfl) (by kernel_rfl)) ?_
  intro W base args ds gs before hval0 hW hcnd _
  have hval : ∀ (j : Nat) t v, Try.f3.params[j]? = some t → args[j]? = some v → Value.okWide Try.prog W .any base t v := hval0
  have hW' := hW
  obtain ⟨p, q, hA0, hV, rfl, hfz, hnd⟩ := hW
  have hA : DataW.TrodAll enc Try.prog W 0 (fun _ => true) true Try.f3.params.toList args.toList ds p := hA0
  rw [Try.params3] at hA hval
  obtain ⟨v0, vs0, d0, ds0, p0, q0, hargs, rfl, rfl, h0, r0⟩ := trodAll_cons hA
  obtain ⟨v1, vs1, d1, ds1, p1, q1, rfl, rfl, rfl, h1, r1⟩ := trodAll_cons r0
  obtain ⟨v2, vs2, d2, ds2, p2, q2, rfl, rfl, rfl, h2, r2⟩ := trodAll_cons r1
  obtain ⟨rfl, rfl, rfl⟩ := trodAll_nil r2
  obtain rfl : args = #[v0, v1, v2] := by cases args; simp_all
  have k0 := openCfg (hval 0 23 v0 rfl rfl) h0
  have k1 := openWorld (hval 1 31 v1 rfl rfl) h1
  have k2 := openDeed (hval 2 34 v2 rfl rfl) h2
  obtain ⟨rfl, rfl⟩ := trodVars_none hV
  clear hA0 hval0
  refine (walk v0 v1 v2 W k0 k1 k2).mono fun e W' ⟨he, bel⟩ => ⟨_, he, ?_⟩
  exact law_post (by kernel_rfl) (by kernel_rfl) rfl hW' rfl rfl rfl bel

theorem over : Rows.deedPlainRow.holds Try.pinned (OpenSpec.ofChange Rows.deedPlainSpec) :=
  OpenClaim.holds_of_wide 3 Try.f3 rfl rfl rfl rfl rfl rfl rfl ⟨rfl, rfl, rfl, rfl, rfl⟩ rfl rfl rfl rfl rfl (by kernel_rfl) Try.func3 (by kernel_rfl)
    (of_decide_eq_true (by kernel_rfl)) (by unfold Func.isWrapper; first | (rw [if_pos (by decide +kernel)]; kernel_rfl) | (rw [if_neg (by decide +kernel)]; exact ⟨rfl, rfl⟩))
    (fun os started H enc _ => lifted os started H enc)

/-- The statement. -/
theorem deedPlain_holds : Rows.DeedPlainSaid := over
end Go.Proofs.Ytahoadfofleacaa.deedPlain
namespace Go.Proofs.Ytahoadfofleacaa
theorem deedPlain_holds : Rows.DeedPlainSaid := deedPlain.deedPlain_holds
#print axioms deedPlain_holds
end Go.Proofs.Ytahoadfofleacaa
