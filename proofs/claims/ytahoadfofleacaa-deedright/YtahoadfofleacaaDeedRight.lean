/-
Proved: the given statement DeedRight: every operation keeps a world coherent, and who did it has the line, unless it was put out. No condition.
-/
import Derived.Test.YtahoadfofleacaaJoined6
namespace Go.Proofs.Ytahoadfofleacaa.deedRight
open Go.ChangeShapes Go.WideShapes Go.ChangeAt Go.RowKit Go.Joins Go.Proofs.Ytahoadfofleacaa



set_option maxRecDepth 100000 in
set_option maxHeartbeats 4000000 in
theorem walk_bad (n s y b : Int) (v : Value) (m : List Int) (css : List (List St)) (d : Dd) (w : World) (h : Ks w v css) (hm : m.length = 64) (E : Int) (hE : E ≠ 0)
    (D : Hid (∀ w, Ks w v css → Calls Try.prog 9 #[cfg n s y b, wldV v m, d.val] w fun e w' => e = .returned (.tuple #[.agg nilW, .agg done0, .int .i64 E]) ∧ Below w.heap.size w w')) :
    Calls Try.prog 4 #[cfg n s y b, wldV v m, d.val] w fun e w' => e = .returned (.bool true) ∧ Below w.heap.size w w' := by
  have he' : (E != 0) = true := by simpa using hE
  obtain ⟨dn, dk, da, dv⟩ := d
  clear hE
  have low := Below.refl w.heap.size w
  have cb := boxNext low 23 (cfgA n s y b)
  replace low := gAlloc low (.cells (cfgA n s y b) 23)
  replace h := h.alloc (.cells (cfgA n s y b) 23)
  try simp only [World.size_alloc] at cb
  have wb := boxNext low 31 (wldA v m)
  replace low := gAlloc low (.cells (wldA v m) 31)
  replace cb := cb.alloc (.cells (wldA v m) 31)
  replace h := h.alloc (.cells (wldA v m) 31)
  try simp only [World.size_alloc] at wb
  have db := boxNext low 34 #[.int .i64 (dn), .int .i64 dk, .int .i64 (da), .int .u64 dv]
  replace low := gAlloc low (.cells #[.int .i64 (dn), .int .i64 dk, .int .i64 (da), .int .u64 dv] 34)
  replace cb := cb.alloc (.cells #[.int .i64 (dn), .int .i64 dk, .int .i64 (da), .int .u64 dv] 34)
  replace wb := wb.alloc (.cells #[.int .i64 (dn), .int .i64 dk, .int .i64 (da), .int .u64 dv] 34)
  replace h := h.alloc (.cells #[.int .i64 (dn), .int .i64 dk, .int .i64 (da), .int .u64 dv] 34)
  try simp only [World.size_alloc] at db
  go_enter Try.func4, Try.ntmps4
  go_wp2_with fail
  (with_reducible refine (deeds_yes _).mono ?_); rintro e w1 ⟨rfl, hb1⟩
  replace cb := cb.call hb1
  replace wb := wb.call hb1
  replace db := db.call hb1
  replace h := h.call hb1
  replace low := gCall low hb1
  clear hb1
  simp only [cfgA] at cb
  have cb_0 := cb.at_ 0 rfl
  have cb_1 := cb.at_ 1 rfl
  have cb_2 := cb.at_ 2 rfl
  have cb_3 := cb.at_ 3 rfl
  have db_0 := db.at_ 0 rfl
  have db_1 := db.at_ 1 rfl
  have db_2 := db.at_ 2 rfl
  have db_3 := db.at_ 3 rfl
  have wr := wb.range
  go_wp2_with (first | ((with_reducible refine wp_loadW (tyWorld) (wr) (wld_size hm) ?_ ?_ ?_); rfl; rfl))
  (with_reducible refine (D.out _ h).mono ?_); rintro e w2 ⟨rfl, hb2⟩
  clear cb_0 cb_1 cb_2 cb_3 db_0 db_1 db_2 db_3
  replace low := gCall low hb2
  clear hb2 cb wb db wr h
  have eqD := eqDone0
  have lz2 := low.size
  have xb := boxNext low 31 nilW
  replace low := gAlloc low (.cells nilW 31)
  try simp only [World.size_alloc] at xb
  have eb := boxNext low 37 done0
  replace low := gAlloc low (.cells done0 37)
  replace xb := xb.alloc (.cells done0 37)
  try simp only [World.size_alloc] at eb
  go_wp2_with (first | (with_reducible refine wp_newW (tyWorld) ?_) | (with_reducible refine wp_newW (tyDone) ?_) | ((with_reducible refine wp_storeW (tyWorld) (xb) (rfl) (nilW_size) (nilW_one) ?_ ?_ ?_); rfl; rfl))
  intro w3 xb3 st3
  have near := st3.low (gAlloc (gAlloc (Below.refl w2.heap.size w2) (.cells nilW 31)) (.cells done0 37)) (by omega)
  replace eb := st3.box eb (by omega)
  replace low := st3.low low (by omega)
  clear st3 xb
  have eb9 : Box w3 (w2.alloc (.cells nilW 31)).heap.size 37 done0 := by simpa using eb
  go_wp2_with ((with_reducible refine wp_storeW (tyDone) (eb9) (rfl) (done0_size) (done0_one) ?_ ?_ ?_); rfl; rfl)
  intro w4 eb4 st4
  simp only [World.size_alloc] at eb4
  replace st4 : Stored w3 (w2.heap.size + 1) w4 := by simpa using st4
  clear eb9
  have xb := st4.box xb3 (by omega)
  replace near := st4.low near (by omega)
  replace low := st4.low low (by omega)
  clear st4 eb xb3
  have eb := eb4
  clear eb4
  have x0 := xb.at_ 0 (wldA_zero _ _)
  have er := eb.range
  go_wp2_with (first | (with_reducible refine wp_zeroW (tyDone) ?_) | ((with_reducible refine wp_loadW (tyDone) (er) (done0_size) ?_ ?_ ?_); rfl; rfl))
  go_ret
  exact ⟨rfl, low⟩

/-- What the node has behind its operation. -/
theorem node_has {n s y b : Int} {css css' : List (List St)} {m : List Int} {d : Dd} {i0 L : Nat} {out : Wy} (did : Did n s y b css m d i0 L css' out) (he : findE n s y b css m d = 0) (pl : Plc css d i0 L) :
    ∃ z p, FindCIs n s y b (css'.getD i0 []) L z p 0 ∧ p = decide (d.kd ≠ 4) ∧ (p = true → rdB z.st = true ∧ (d.kd = 1 ∨ z.st = 4)) := by
  obtain ⟨al, _, own⟩ := did.own
  obtain ⟨z, p, E, hf, _⟩ := cacheFind_all n s y b (css'.getD i0 []) L
  obtain ⟨rfl, hz0, hfn, _⟩ := fnd_find own.good pl.ln hf
  have hkd := (deedE_ok (findE_ok he).2.1).2.1
  refine ⟨z, p, hf, ?_, fun hp => ?_⟩
  · rw [own.here] at hfn
    by_cases h4 : d.kd = 4
    · rw [if_pos h4] at hfn
      cases p
      · simp [h4]
      · cases hfn
    · rw [if_neg h4] at hfn
      cases p
      · cases hfn
      · simp [h4]
  · subst hp
    rw [if_pos rfl] at hfn
    obtain ⟨_, _, f3⟩ := fnd_ok own.good pl.ln hfn
    refine ⟨decide_eq_true f3, ?_⟩
    rw [own.here] at hfn
    by_cases h4 : d.kd = 4
    · rw [if_pos h4] at hfn; cases hfn
    · rw [if_neg h4] at hfn
      by_cases h1 : d.kd = 1
      · exact .inl h1
      · right
        cases hfn
        show ownS _ d.kd al = 4
        have hst : stB (stO (fnd (css.getD i0 []) L)) = true := by
          have hc := (cohE_iff.1 (findE_ok he).1).1.2.2
          cases e : fnd (css.getD i0 []) L with
          | none => decide
          | some x =>
            have := (fnd_ok (hc (css.getD i0 []) (by have := pl.lt; simp [List.getD, this])) pl.ln e).2.2
            exact decide_eq_true (by show 0 ≤ x.st ∧ x.st ≤ 4; omega)
        unfold ownS
        rw [if_pos hst, if_neg h1, if_pos (by omega)]

set_option maxRecDepth 100000 in
set_option maxHeartbeats 8000000 in
theorem walk_good (n s y b : Int) (v : Value) (m : List Int) (css : List (List St)) (i0 L : Nat) (dk da dv : Int) (w : World) (h : Ks w v css) (hm : m.length = 64) (css' : List (List St)) (m' : List Int) (hm' : m'.length = 64) (ss : List St) (hss : css'[i0]? = some ss) (n8 : css'.length ≤ 8)
    (f1 f4 : Bool) (u f2 f3 : Int) (z : Wy) (p : Bool) (hq : IntKind.i64.wrap (da.tdiv 4) = L) (hp : p = decide (dk ≠ 4)) (hz : p = true → rdB z.st = true ∧ (dk = 1 ∨ z.st = 4))
    (D : Hid (∀ w, Ks w v css → Calls Try.prog 9 #[cfg n s y b, wldV v m, (⟨i0, dk, da, dv⟩ : Dd).val] w fun e w' => (∃ v', e = .returned (.tuple #[wldV v' m', doneV u f1 f2 f3 f4, .int .i64 0]) ∧ KFr w' w.heap.size w'.heap.size v' css') ∧ Below w.heap.size w w'))
    (C : Hid (∀ v w, Ks w v css' → Calls Try.prog 13 #[cfg n s y b, wldV v m'] w fun e w' => e = .returned (.tuple #[.int .i64 0, .int .i64 0]) ∧ Below w.heap.size w w'))
    (F : Hid (∀ v w, Cs w v ss → Calls Try.prog 14 #[cfg n s y b, v, .int .i64 L] w fun e w' => e = .returned (.tuple #[z.val, .bool p, .int .i64 0]) ∧ Below w.heap.size w w')) :
    Calls Try.prog 4 #[cfg n s y b, wldV v m, (⟨i0, dk, da, dv⟩ : Dd).val] w fun e w' => e = .returned (.bool true) ∧ Below w.heap.size w w' := by
  have HP := Lib.hid hp
  have HZ := Lib.hid hz
  have HQ := Lib.hid hq
  clear hp hz hq
  have low := Below.refl w.heap.size w
  have cb := boxNext low 23 (cfgA n s y b)
  replace low := gAlloc low (.cells (cfgA n s y b) 23)
  replace h := h.alloc (.cells (cfgA n s y b) 23)
  try simp only [World.size_alloc] at cb
  have wb := boxNext low 31 (wldA v m)
  replace low := gAlloc low (.cells (wldA v m) 31)
  replace cb := cb.alloc (.cells (wldA v m) 31)
  replace h := h.alloc (.cells (wldA v m) 31)
  try simp only [World.size_alloc] at wb
  have db := boxNext low 34 #[.int .i64 (i0), .int .i64 dk, .int .i64 (da), .int .u64 dv]
  replace low := gAlloc low (.cells #[.int .i64 (i0), .int .i64 dk, .int .i64 (da), .int .u64 dv] 34)
  replace cb := cb.alloc (.cells #[.int .i64 (i0), .int .i64 dk, .int .i64 (da), .int .u64 dv] 34)
  replace wb := wb.alloc (.cells #[.int .i64 (i0), .int .i64 dk, .int .i64 (da), .int .u64 dv] 34)
  replace h := h.alloc (.cells #[.int .i64 (i0), .int .i64 dk, .int .i64 (da), .int .u64 dv] 34)
  try simp only [World.size_alloc] at db
  go_enter Try.func4, Try.ntmps4
  go_wp2_with fail
  (with_reducible refine (deeds_yes _).mono ?_); rintro e w1 ⟨rfl, hb1⟩
  replace cb := cb.call hb1
  replace wb := wb.call hb1
  replace db := db.call hb1
  replace h := h.call hb1
  replace low := gCall low hb1
  clear hb1
  simp only [cfgA] at cb
  have cb_0 := cb.at_ 0 rfl
  have cb_1 := cb.at_ 1 rfl
  have cb_2 := cb.at_ 2 rfl
  have cb_3 := cb.at_ 3 rfl
  have db_0 := db.at_ 0 rfl
  have db_1 := db.at_ 1 rfl
  have db_2 := db.at_ 2 rfl
  have db_3 := db.at_ 3 rfl
  have wr := wb.range
  go_wp2_with (first | ((with_reducible refine wp_loadW (tyWorld) (wr) (wld_size hm) ?_ ?_ ?_); rfl; rfl))
  (with_reducible refine (D.out _ h).mono ?_); rintro e w2 ⟨⟨v', rfl, kf⟩, hb2⟩
  clear cb_0 cb_1 cb_2 cb_3 db_0 db_1 db_2 db_3
  obtain ⟨A, c, rfl⟩ := kf.shape
  replace cb := cb.call hb2
  replace db := db.call hb2
  replace low := gCall low hb2
  clear hb2 wb wr h D
  have xs : (wldA (.slice A css'.length c) m').size = (wldA (.slice none 0 0) zeroL).size := wld_size hm'
  have xo : (wldA (.slice A css'.length c) m').all (·.oneCell') = true := wldA_one _
  have ds := done_size u f1 f2 f3 f4
  have dn := done_one u f1 f2 f3 f4
  have KS := Lib.hid kf.ks
  clear kf
  have lz2 := low.size
  have xb := boxNext low 31 nilW
  replace low := gAlloc low (.cells nilW 31)
  try simp only [World.size_alloc] at xb
  have eb := boxNext low 37 done0
  replace low := gAlloc low (.cells done0 37)
  replace xb := xb.alloc (.cells done0 37)
  try simp only [World.size_alloc] at eb
  go_wp2_with (first | (with_reducible refine wp_newW (tyWorld) ?_) | (with_reducible refine wp_newW (tyDone) ?_) | ((with_reducible refine wp_storeW (tyWorld) (xb) (rfl) (xs) (xo) ?_ ?_ ?_); rfl; rfl))
  intro w3 xb3 st3
  have near := st3.low (gAlloc (gAlloc (Below.refl w2.heap.size w2) (.cells nilW 31)) (.cells done0 37)) (by omega)
  replace eb := st3.box eb (by omega)
  replace low := st3.low low (by omega)
  clear st3 xb
  have eb9 : Box w3 (w2.alloc (.cells nilW 31)).heap.size 37 done0 := by simpa using eb
  go_wp2_with ((with_reducible refine wp_storeW (tyDone) (eb9) (rfl) (ds) (dn) ?_ ?_ ?_); rfl; rfl)
  intro w4 eb4 st4
  simp only [World.size_alloc] at eb4
  replace st4 : Stored w3 (w2.heap.size + 1) w4 := by simpa using st4
  clear eb9
  have xb := st4.box xb3 (by omega)
  replace near := st4.low near (by omega)
  replace low := st4.low low (by omega)
  clear st4 eb xb3
  have eb := eb4
  clear eb4
  have ks := KS.out.call near
  replace cb := cb.call near
  replace db := db.call near
  have xr := xb.range
  have cb_0 := cb.at_ 0 rfl
  have cb_1 := cb.at_ 1 rfl
  have cb_2 := cb.at_ 2 rfl
  have cb_3 := cb.at_ 3 rfl
  go_wp2_with (first | ((with_reducible refine wp_loadW (tyWorld) (xr) (xs) ?_ ?_ ?_); rfl; rfl))
  (with_reducible refine (C.out _ _ ks).mono ?_); rintro e w5 ⟨rfl, hb5⟩
  clear cb_0 cb_1 cb_2 cb_3
  replace cb := cb.call hb5
  replace db := db.call hb5
  replace xb := xb.call hb5
  replace ks := ks.call hb5
  replace low := gCall low hb5
  clear hb5 near KS C eb xr
  obtain ⟨Ax, cx, ex, k1, k2, k3⟩ := ks
  simp only [Value.slice.injEq, true_and] at ex
  obtain ⟨rfl, rfl⟩ := ex
  have il : i0 < css'.length := (List.getElem?_eq_some_iff.1 hss).1
  obtain ⟨bb, o, rfl, hbb, hc⟩ := k3 (by omega)
  obtain ⟨A', c', ce, cs⟩ := hc i0 ss hss
  have i1 : (i0 : Int) < css'.length := by omega
  have i2 : (0 : Int) ≤ i0 := by omega
  unfold maxLen at k2
  clear hc k3 hss
  have hq := HQ.out
  have c0 := cb.at_ 0 rfl
  have c1 := cb.at_ 1 rfl
  have c2 := cb.at_ 2 rfl
  have c3 := cb.at_ 3 rfl
  have b0 := xb.at_ 0 (wldA_zero _ _)
  have e0 := db.at_ 0 rfl
  have e2 := db.at_ 2 rfl
  go_wp2_with fail
  refine wp_region_noPanic ?_
  refine wp_region_held_drew (S := fun w' => w'.cell? ⟨w.heap.size, 0, none⟩ = some (.int .i64 n) ∧ w'.cell? ⟨w.heap.size, 1, none⟩ = some (.int .i64 s) ∧ w'.cell? ⟨w.heap.size, 2, none⟩ = some (.int .i64 y) ∧ w'.cell? ⟨w.heap.size, 3, none⟩ = some (.int .i64 b) ∧ w'.cell? ⟨w2.heap.size, 0, none⟩ = some (.slice (some ⟨bb, o, none⟩) css'.length c) ∧ w'.cell? ⟨w.heap.size + 1 + 1, 0, none⟩ = some (.int .i64 i0) ∧ w'.cell? ⟨w.heap.size + 1 + 1, 2, none⟩ = some (.int .i64 da) ∧ w'.cell? ⟨bb, o + i0, none⟩ = some (.slice A' ss.length c')) (by kernel_rfl) ⟨drewC c0, drewC c1, drewC c2, drewC c3, drewC b0, drewC e0, drewC e2, drewC ce⟩ (fun hHeld => ?_)
  clear c0 c1 c2 c3 b0 e0 e2 ce
  replace db := db.drew
  replace low := low.drew
  replace cs := cs.drew
  refine takeFirst (i := 0) (v := ?_) rfl (by kernel_rfl) (by kernel_rfl) (by kernel_rfl) (by rfl) (fun _ _ _ h => h) ?_ (by assumption) ?_
  rotate_left
  · (intro w hSw; go_simp; try (with_reducible rfl))
  try simp only [Act.put, List.setIfInBounds_toArray, List.set_cons_zero, List.set_cons_succ]
  refine takeFirst (i := 1) (v := ?_) rfl (by kernel_rfl) (by kernel_rfl) (by kernel_rfl) (by rfl) (fun _ _ _ h => h) ?_ (by assumption) ?_
  rotate_left
  · (intro w hSw; go_simp; try (with_reducible rfl))
  try simp only [Act.put, List.setIfInBounds_toArray, List.set_cons_zero, List.set_cons_succ]
  refine takeFirst (i := 2) (v := ?_) rfl (by kernel_rfl) (by kernel_rfl) (by kernel_rfl) (by rfl) (fun _ _ _ h => h) ?_ (by assumption) ?_
  rotate_left
  · (intro w hSw; go_simp; try (with_reducible rfl))
  try simp only [Act.put, List.setIfInBounds_toArray, List.set_cons_zero, List.set_cons_succ]
  refine takeFirst (i := 3) (v := ?_) rfl (by kernel_rfl) (by kernel_rfl) (by kernel_rfl) (by rfl) (fun _ _ _ h => h) ?_ (by assumption) ?_
  rotate_left
  · (intro w hSw; go_simp; try (with_reducible rfl))
  try simp only [Act.put, List.setIfInBounds_toArray, List.set_cons_zero, List.set_cons_succ]
  refine takeFirst (i := 4) (v := ?_) rfl (by kernel_rfl) (by kernel_rfl) (by kernel_rfl) (by rfl) (fun _ _ _ h => h) ?_ (by assumption) ?_
  rotate_left
  · (intro w hSw; go_simp; try (with_reducible rfl))
  try simp only [Act.put, List.setIfInBounds_toArray, List.set_cons_zero, List.set_cons_succ]
  refine takeFirst (i := 5) (v := ?_) rfl (by kernel_rfl) (by kernel_rfl) (by kernel_rfl) (by rfl) (fun _ _ _ h => h) ?_ (by assumption) ?_
  rotate_left
  · (intro w hSw; go_simp; try (with_reducible rfl))
  try simp only [Act.put, List.setIfInBounds_toArray, List.set_cons_zero, List.set_cons_succ]
  refine takeFirst (i := 6) (v := ?_) rfl (by kernel_rfl) (by kernel_rfl) (by kernel_rfl) (by rfl) (fun _ _ _ h => h) ?_ (by assumption) ?_
  rotate_left
  · (intro w hSw; go_simp; try (with_reducible rfl))
  try simp only [Act.put, List.setIfInBounds_toArray, List.set_cons_zero, List.set_cons_succ]
  refine takeFirst (i := 7) (v := ?_) rfl (by kernel_rfl) (by kernel_rfl) (by kernel_rfl) (by rfl) (fun _ _ _ h => h) ?_ (by assumption) ?_
  rotate_left
  · (intro w hSw; go_simp; try (with_reducible rfl))
  try simp only [Act.put, List.setIfInBounds_toArray, List.set_cons_zero, List.set_cons_succ]
  refine takeFirst (i := 8) (v := ?_) rfl (by kernel_rfl) (by kernel_rfl) (by kernel_rfl) (by rfl) (fun _ _ _ h => h) ?_ (by assumption) ?_
  rotate_left
  · (intro w hSw; go_simp; try (with_reducible rfl))
  try simp only [Act.put, List.setIfInBounds_toArray, List.set_cons_zero, List.set_cons_succ]
  refine takeFirst (i := 9) (v := ?_) rfl (by kernel_rfl) (by kernel_rfl) (by kernel_rfl) (by rfl) (fun _ _ _ h => h) ?_ (by assumption) ?_
  rotate_left
  · (intro w hSw; go_simp; try (with_reducible rfl))
  try simp only [Act.put, List.setIfInBounds_toArray, List.set_cons_zero, List.set_cons_succ]
  generalize w5.drew = wN at *
  have near := Below.refl wN.heap.size wN
  apply shareV (M := fun g wz => NewV wN g wz 51 zeroA)
  · intro hE
    refine stepTwo (i1 := 10) (i2 := 15) (by kernel_rfl) rfl rfl (by rfl) (by rfl) (fun K hK => ?_) (fun K hK => ?_)
    · go_simp
      (with_reducible refine (F.out _ _ cs).mono ?_); rintro e wy ⟨rfl, hb⟩
      replace near := gCall near hb
      try clear hNow
      have hNow := (And.intro (callC near hHeld.1) (And.intro (callC near hHeld.2.1) (And.intro (callC near hHeld.2.2.1) (And.intro (callC near hHeld.2.2.2.1) (And.intro (callC near hHeld.2.2.2.2.1) (And.intro (callC near hHeld.2.2.2.2.2.1) (And.intro (callC near hHeld.2.2.2.2.2.2.1) (callC near hHeld.2.2.2.2.2.2.2))))))))
      refine hK.out _ _ hNow ?_
      clear hK K
      try simp only [Act.put]
      try simp only [List.setIfInBounds_toArray, List.set_cons_zero, List.set_cons_succ]
      refine takeFirst (i := 11) (v := ?_) rfl (by kernel_rfl) (by kernel_rfl) (by kernel_rfl) (by rfl) (fun _ _ _ h => h) ?_ (by assumption) ?_
      rotate_left
      · (intro w hSw; go_simp; try (with_reducible rfl))
      try simp only [Act.put, List.setIfInBounds_toArray, List.set_cons_zero, List.set_cons_succ]
      refine takeFirst (i := 12) (v := ?_) rfl (by kernel_rfl) (by kernel_rfl) (by kernel_rfl) (by rfl) (fun _ _ _ h => h) ?_ (by assumption) ?_
      rotate_left
      · (intro w hSw; go_simp; try (with_reducible rfl))
      try simp only [Act.put, List.setIfInBounds_toArray, List.set_cons_zero, List.set_cons_succ]
      refine takeFirst (i := 13) (v := ?_) rfl (by kernel_rfl) (by kernel_rfl) (by kernel_rfl) (by rfl) (fun _ _ _ h => h) ?_ (by assumption) ?_
      rotate_left
      · (intro w hSw; go_simp; try (with_reducible rfl))
      try simp only [Act.put, List.setIfInBounds_toArray, List.set_cons_zero, List.set_cons_succ]
      refine takeFirst (i := 14) (v := ?_) rfl (by kernel_rfl) (by kernel_rfl) (by kernel_rfl) (by rfl) (fun _ _ _ h => h) ?_ (by assumption) ?_
      rotate_left
      · (intro w hSw; go_simp; try (with_reducible rfl))
      try simp only [Act.put, List.setIfInBounds_toArray, List.set_cons_zero, List.set_cons_succ]
      refine stepNext (i := 15) (by kernel_rfl) rfl (by rfl) (fun K hK => ?_)
      refine op_newW tyWay ?_
      have sz := near.size
      have box := Box.new wy 51 zeroA
      replace near := gAlloc near (.cells zeroA 51)
      try clear hNow
      have hNow := (And.intro (callC near hHeld.1) (And.intro (callC near hHeld.2.1) (And.intro (callC near hHeld.2.2.1) (And.intro (callC near hHeld.2.2.2.1) (And.intro (callC near hHeld.2.2.2.2.1) (And.intro (callC near hHeld.2.2.2.2.2.1) (And.intro (callC near hHeld.2.2.2.2.2.2.1) (callC near hHeld.2.2.2.2.2.2.2))))))))
      refine hK.out _ _ hNow ?_
      clear hK K
      try simp only [Act.put]
      try simp only [List.setIfInBounds_toArray, List.set_cons_zero, List.set_cons_succ]
      generalize wy.alloc (.cells zeroA 51) = wz at *
      generalize wy.heap.size = ga at *
      refine relist (l2 := #[true, true, true, true, true, true, true, true, true, true, true, true, true, true, true, true, false, false, false]) (by kernel_rfl) ?_
      exact hE _ _ ⟨near, sz, box⟩
    · refine op_newW tyWay ?_
      have box := Box.new wN 51 zeroA
      replace near := gAlloc near (.cells zeroA 51)
      try clear hNow
      have hNow := (And.intro (callC near hHeld.1) (And.intro (callC near hHeld.2.1) (And.intro (callC near hHeld.2.2.1) (And.intro (callC near hHeld.2.2.2.1) (And.intro (callC near hHeld.2.2.2.2.1) (And.intro (callC near hHeld.2.2.2.2.2.1) (And.intro (callC near hHeld.2.2.2.2.2.2.1) (callC near hHeld.2.2.2.2.2.2.2))))))))
      refine hK.out _ _ hNow ?_
      clear hK K
      try simp only [Act.put]
      try simp only [List.setIfInBounds_toArray, List.set_cons_zero, List.set_cons_succ]
      clear hNow
      have cs2 := cs.call near
      generalize wN.alloc (.cells zeroA 51) = wx at *
      generalize hga : wN.heap.size = ga at box ⊢
      have HGA := Lib.hid hga
      clear hga
      refine stepNext (i := 10) (by kernel_rfl) rfl (by rfl) (fun K hK => ?_)
      go_simp
      (with_reducible refine (F.out _ _ cs2).mono ?_); rintro e wy ⟨rfl, hb⟩
      replace near := gCall near hb
      replace box := box.call hb
      try clear hNow
      have hNow := (And.intro (callC near hHeld.1) (And.intro (callC near hHeld.2.1) (And.intro (callC near hHeld.2.2.1) (And.intro (callC near hHeld.2.2.2.1) (And.intro (callC near hHeld.2.2.2.2.1) (And.intro (callC near hHeld.2.2.2.2.2.1) (And.intro (callC near hHeld.2.2.2.2.2.2.1) (callC near hHeld.2.2.2.2.2.2.2))))))))
      refine hK.out _ _ hNow ?_
      clear hK K
      try simp only [Act.put]
      try simp only [List.setIfInBounds_toArray, List.set_cons_zero, List.set_cons_succ]
      refine takeFirst (i := 11) (v := ?_) rfl (by kernel_rfl) (by kernel_rfl) (by kernel_rfl) (by rfl) (fun _ _ _ h => h) ?_ (by assumption) ?_
      rotate_left
      · (intro w hSw; go_simp; try (with_reducible rfl))
      try simp only [Act.put, List.setIfInBounds_toArray, List.set_cons_zero, List.set_cons_succ]
      refine takeFirst (i := 12) (v := ?_) rfl (by kernel_rfl) (by kernel_rfl) (by kernel_rfl) (by rfl) (fun _ _ _ h => h) ?_ (by assumption) ?_
      rotate_left
      · (intro w hSw; go_simp; try (with_reducible rfl))
      try simp only [Act.put, List.setIfInBounds_toArray, List.set_cons_zero, List.set_cons_succ]
      refine takeFirst (i := 13) (v := ?_) rfl (by kernel_rfl) (by kernel_rfl) (by kernel_rfl) (by rfl) (fun _ _ _ h => h) ?_ (by assumption) ?_
      rotate_left
      · (intro w hSw; go_simp; try (with_reducible rfl))
      try simp only [Act.put, List.setIfInBounds_toArray, List.set_cons_zero, List.set_cons_succ]
      refine takeFirst (i := 14) (v := ?_) rfl (by kernel_rfl) (by kernel_rfl) (by kernel_rfl) (by rfl) (fun _ _ _ h => h) ?_ (by assumption) ?_
      rotate_left
      · (intro w hSw; go_simp; try (with_reducible rfl))
      try simp only [Act.put, List.setIfInBounds_toArray, List.set_cons_zero, List.set_cons_succ]
      refine relist (l2 := #[true, true, true, true, true, true, true, true, true, true, true, true, true, true, true, true, false, false, false]) (by kernel_rfl) ?_
      exact hE _ _ ⟨near, Nat.le_of_eq HGA.out, box⟩
  intro gx wz mid
  have zd := db.lt
  have zl := low.size
  obtain ⟨near2, gnew, zb⟩ := mid
  replace db := db.call near2
  replace low := gCall low near2
  have gb1 : bb ≠ gx := by have := block_lt_of_cell hHeld.2.2.2.2.2.2.2; dsimp only at this; omega
  have gb2 : w2.heap.size ≠ gx := by have := block_lt_of_cell hHeld.2.2.2.2.1; dsimp only at this; omega
  obtain ⟨hh0, hh1, hh2, hh3, hh4, hh5, hh6, hh7⟩ := hHeld
  have hHeld := (And.intro (callC near2 hh0) (And.intro (callC near2 hh1) (And.intro (callC near2 hh2) (And.intro (callC near2 hh3) (And.intro (callC near2 hh4) (And.intro (callC near2 hh5) (And.intro (callC near2 hh6) (callC near2 hh7))))))))
  clear hh0 hh1 hh2 hh3 hh4 hh5 hh6 hh7
  clear near cs
  refine stepNext (i := 16) (by kernel_rfl) rfl (by rfl) (fun K hK => ?_)
  refine wp_store_box 51 (.tmp 12) (.tmp 54) rfl _ _ rfl rfl zb (tyWay.size.trans rfl) rfl (way_one z) ?_
  intro w6 zb6 st6
  replace db := st6.box db (by omega)
  replace low := st6.low low (by omega)
  obtain ⟨hh0, hh1, hh2, hh3, hh4, hh5, hh6, hh7⟩ := hHeld
  have hHeld := (And.intro (st6.cell (by dsimp only; omega) hh0) (And.intro (st6.cell (by dsimp only; omega) hh1) (And.intro (st6.cell (by dsimp only; omega) hh2) (And.intro (st6.cell (by dsimp only; omega) hh3) (And.intro (st6.cell (by dsimp only; omega) hh4) (And.intro (st6.cell (by dsimp only; omega) hh5) (And.intro (st6.cell (by dsimp only; omega) hh6) (st6.cell (by dsimp only; omega) hh7))))))))
  clear hh0 hh1 hh2 hh3 hh4 hh5 hh6 hh7
  refine hK.out _ _ hHeld ?_
  clear hK K
  try simp only [Act.put]
  try simp only [List.setIfInBounds_toArray, List.set_cons_zero, List.set_cons_succ]
  refine takeFirst (i := 17) (v := ?_) rfl (by kernel_rfl) (by kernel_rfl) (by kernel_rfl) (by rfl) (fun _ _ _ h => h) ?_ (by assumption) ?_
  rotate_left
  · (intro w hSw; go_simp; try (with_reducible rfl))
  try simp only [Act.put, List.setIfInBounds_toArray, List.set_cons_zero, List.set_cons_succ]
  refine takeFirst (i := 18) (v := ?_) rfl (by kernel_rfl) (by kernel_rfl) (by kernel_rfl) (by rfl) (fun _ _ _ h => h) ?_ (by assumption) ?_
  rotate_left
  · (intro w hSw; go_simp; try (with_reducible rfl))
  try simp only [Act.put, List.setIfInBounds_toArray, List.set_cons_zero, List.set_cons_succ]
  refine wpAnyH_done (by kernel_rfl) ?_ _
  refine NoPanic.normal ?_
  clear hHeld zb st6 near2 hq HQ xb cb
  have RD := Lib.hid fun w => reads_any z.st w
  by_cases h4 : dk = 4
  · obtain rfl : p = false := by have := HP.out; simpa [h4] using this
    have d4 : (dk == 4) = true := by simp [h4]
    clear h4
    have db_1 := db.at_ 1 rfl
    go_wp2_with fail
    go_ret
    exact ⟨rfl, low⟩
  · obtain rfl : p = true := by have := HP.out; simpa [h4] using this
    have d4 : (dk == 4) = false := by simpa using h4
    obtain ⟨hr, h14⟩ := HZ.out rfl
    rw [hr] at RD
    clear h4 hr
    by_cases h1 : dk = 1
    · have d1 : (dk == 1) = true := by simp [h1]
      clear h1 h14
      have db_1 := db.at_ 1 rfl
      have zb6_0 := zb6.at_ 0 rfl
      go_wp2_with fail
      (with_reducible refine (RD.out _).mono ?_); rintro e w' ⟨rfl, rfl⟩
      go_wp2_with fail
      go_ret
      exact ⟨rfl, low⟩
    · have d1 : (dk == 1) = false := by simpa using h1
      have s4 : (z.st == 4) = true := by rcases h14 with h | h; exact absurd h h1; simp [h]
      clear h1 h14
      have db_1 := db.at_ 1 rfl
      have zb6_0 := zb6.at_ 0 rfl
      go_wp2_with fail
      (with_reducible refine (RD.out _).mono ?_); rintro e w' ⟨rfl, rfl⟩
      go_wp2_with fail
      go_ret
      exact ⟨rfl, low⟩

theorem walk (v1 v2 v3 : Value) (w : World) (h1 : IsCfg v1) (h2 : IsWorld w v2) (h3 : IsDeed v3) :
    Calls Try.prog 4 #[v1, v2, v3] w fun e w' => e = .returned (.bool true) ∧ Below w.heap.size w w' := by
  obtain ⟨n, s, y, b, rfl, _⟩ := h1
  obtain ⟨v, m, css, rfl, hm, ks⟩ := h2
  obtain ⟨d, rfl⟩ := h3
  rcases do_cases (n := n) (s := s) (y := y) (b := b) (css := css) hm d with ⟨E, hE, D⟩ | ⟨he, i0, L, css', out, pl, did, D⟩
  · exact walk_bad n s y b v m css d w ks hm E hE (Lib.hid (D v))
  · obtain ⟨z, p, hf, hp, hz⟩ := node_has did he pl
    obtain ⟨z', p', E', hf', F⟩ := cacheFind_all n s y b (css'.getD i0 []) L
    obtain ⟨rfl, rfl, rfl⟩ := hf.only hf'
    obtain ⟨g1, g2, g3⟩ := (cohE_iff.1 (findE_ok he).1).1
    have n8 : css.length ≤ 8 := by have := cfgB_iff.1 g1; omega
    have hm' := keepM_length hm out
    obtain ⟨hnd, hlt, hL, r, hr, ha⟩ := pl
    obtain ⟨dn, dk, da, dv⟩ := d
    simp only at hnd ha
    subst hnd
    have hq : IntKind.i64.wrap (da.tdiv 4) = L := by rw [Int.tdiv_eq_ediv_of_nonneg (by omega), wrap_i64_ediv _ _ (by omega) (by omega) (by omega)]; omega
    have hl : cohL n s y b css' (keepM m out) = 0 := by
      obtain ⟨k1, k2⟩ := cohE_ok did.ok
      unfold cohL
      rw [if_neg (by simp [k1]), badL_none k2]
    refine walk_good n s y b v m css i0 L dk da dv w ks hm css' (keepM m out) hm' (css'.getD i0 []) ?_ (by rw [did.len]; exact n8) _ _ _ _ _ z' p' hq hp hz (Lib.hid fun w hw => D v w hw) (Lib.hid fun v w hw => ?_) (Lib.hid F)
    · have := did.len
      simp [List.getD, show i0 < css'.length by omega]
    · have := agreeCheck_any n s y b v (keepM m out) css' w hw hm'
      rwa [did.ok, hl] at this

set_option maxRecDepth 100000 in
theorem lifted (os : Os) (started : os.Started) (H : Type) (enc : TypeId × Value → H) :
    ReturnsInHanded {} Try.checked os 4 .any (Rows.deedRightSpec.pre6 enc Try.prog Try.f4 Rows.deedRightRow.domain false) (Rows.deedRightSpec.post enc Try.prog Try.f4 false true false false) := by
  refine returnsInHanded_of_change (C := Try.checked) own started (by kernel_rfl) Try.func4
    (ChangeSpec.witness6 (enc := enc) (C := Try.checked) false ⟨#[], #[cfg 2 1 1 1, wldV (.slice none 0 0) zeroL, (⟨0, 0, 0, 0⟩ : Dd).val], []⟩ 8 (by kernel_rfl) (by kernel_rfl) (by kernel_rfl) (by kernel_rfl)) ?_
  intro W base args ds gs before hval0 hW hcnd _
  have hval : ∀ (j : Nat) t v, Try.f4.params[j]? = some t → args[j]? = some v → Value.okWide Try.prog W .any base t v := hval0
  have hW' := hW
  obtain ⟨p, q, hA0, hV, rfl, hfz, hnd⟩ := hW
  have hA : DataW.TrodAll enc Try.prog W 0 (fun _ => true) true Try.f4.params.toList args.toList ds p := hA0
  rw [Try.params4] at hA hval
  obtain ⟨v0, vs0, d0, ds0, p0, q0, hargs, rfl, rfl, h0, r0⟩ := trodAll_cons hA
  obtain ⟨v1, vs1, d1, ds1, p1, q1, rfl, rfl, rfl, h1, r1⟩ := trodAll_cons r0
  obtain ⟨v2, vs2, d2, ds2, p2, q2, rfl, rfl, rfl, h2, r2⟩ := trodAll_cons r1
  obtain ⟨rfl, rfl, rfl⟩ := trodAll_nil r2
  obtain rfl : args = #[v0, v1, v2] := by cases args; simp_all
  have k0 := openCfg (hval 0 23 v0 rfl rfl) h0
  have k1 := openWorld (hval 1 31 v1 rfl rfl) h1
  have k2 := openDeed (hval 2 34 v2 rfl rfl) h2
  obtain ⟨rfl, rfl⟩ := trodVars_none hV
  clear hA0 hval0
  refine (walk v0 v1 v2 W k0 k1 k2).mono fun e W' ⟨he, bel⟩ => ⟨_, he, ?_⟩
  exact law_post (by kernel_rfl) (by kernel_rfl) rfl hW' rfl rfl rfl bel

theorem over : Rows.deedRightRow.holds Try.pinned (OpenSpec.ofChange Rows.deedRightSpec) :=
  OpenClaim.holds_of_wide 4 Try.f4 rfl rfl rfl rfl rfl rfl rfl ⟨rfl, rfl, rfl, rfl, rfl⟩ rfl rfl rfl rfl rfl (by kernel_rfl) Try.func4 (by kernel_rfl)
    (of_decide_eq_true (by kernel_rfl)) (by unfold Func.isWrapper; first | (rw [if_pos (by decide +kernel)]; kernel_rfl) | (rw [if_neg (by decide +kernel)]; exact ⟨rfl, rfl⟩))
    (fun os started H enc _ => lifted os started H enc)

/-- The statement. -/
theorem deedRight_holds : Rows.DeedRightSaid := over
end Go.Proofs.Ytahoadfofleacaa.deedRight
namespace Go.Proofs.Ytahoadfofleacaa
theorem deedRight_holds : Rows.DeedRightSaid := deedRight.deedRight_holds
#print axioms deedRight_holds
end Go.Proofs.Ytahoadfofleacaa
