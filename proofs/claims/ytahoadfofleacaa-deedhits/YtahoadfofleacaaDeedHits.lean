/-
Proved: the given statement DeedHits: a hit leaves memory, and all other caches, as they were. No condition.
-/
import Derived.Test.YtahoadfofleacaaJoined6
import Derived.Test.YtahoadfofleacaaGood
import Derived.Test.YtahoadfofleacaaWaysEqual
namespace Go.Proofs.Ytahoadfofleacaa.deedHits
open Go.ChangeShapes Go.WideShapes Go.ChangeAt Go.RowKit Go.Joins Go.Proofs.Ytahoadfofleacaa




set_option maxRecDepth 100000 in
set_option maxHeartbeats 4000000 in
theorem walk_bad (n s y b : Int) (v : Value) (m : List Int) (css : List (List St)) (d : Dd) (w : World) (h : Ks w v css) (hm : m.length = 64) (hit : Bool) (E G : Int) (hG : G ≠ 0) (hh : hit = false ∨ (E = 0 ∧ G = 5 ∧ d.kd = 4))
    (H : Hid (∀ w, Ks w v css → Calls Try.prog 16 #[cfg n s y b, wldV v m, d.val] w fun e w' => e = .returned (.tuple #[.bool hit, .int .i64 E]) ∧ Below w.heap.size w w'))
    (D : Hid (∀ w, Ks w v css → Calls Try.prog 9 #[cfg n s y b, wldV v m, d.val] w fun e w' => e = .returned (.tuple #[.agg nilW, .agg done0, .int .i64 G]) ∧ Below w.heap.size w w')) :
    Calls Try.prog 5 #[cfg n s y b, wldV v m, d.val] w fun e w' => e = .returned (.bool true) ∧ Below w.heap.size w w' := by
  have hg' : (G != 0) = true := by simpa using hG
  obtain ⟨dn, dk, da, dv⟩ := d
  simp only at hh
  have HH := Lib.hid hh
  clear hG hh
  have low := Below.refl w.heap.size w
  have cb := boxNext low 23 (cfgA n s y b)
  replace low := gAlloc low (.cells (cfgA n s y b) 23)
  replace h := h.alloc (.cells (cfgA n s y b) 23)
  try simp only [World.size_alloc] at cb
  have wb := boxNext low 31 (wldA v m)
  replace low := gAlloc low (.cells (wldA v m) 31)
  replace cb := cb.alloc (.cells (wldA v m) 31)
  replace h := h.alloc (.cells (wldA v m) 31)
  try simp only [World.size_alloc] at wb
  have db := boxNext low 34 #[.int .i64 (dn), .int .i64 dk, .int .i64 (da), .int .u64 dv]
  replace low := gAlloc low (.cells #[.int .i64 (dn), .int .i64 dk, .int .i64 (da), .int .u64 dv] 34)
  replace cb := cb.alloc (.cells #[.int .i64 (dn), .int .i64 dk, .int .i64 (da), .int .u64 dv] 34)
  replace wb := wb.alloc (.cells #[.int .i64 (dn), .int .i64 dk, .int .i64 (da), .int .u64 dv] 34)
  replace h := h.alloc (.cells #[.int .i64 (dn), .int .i64 dk, .int .i64 (da), .int .u64 dv] 34)
  try simp only [World.size_alloc] at db
  go_enter Try.func5, Try.ntmps5
  go_wp2_with fail
  (with_reducible refine (deeds_yes _).mono ?_); rintro e w1 ⟨rfl, hb1⟩
  replace cb := cb.call hb1
  replace wb := wb.call hb1
  replace db := db.call hb1
  replace h := h.call hb1
  replace low := gCall low hb1
  clear hb1
  simp only [cfgA] at cb
  have cb_0 := cb.at_ 0 rfl
  have cb_1 := cb.at_ 1 rfl
  have cb_2 := cb.at_ 2 rfl
  have cb_3 := cb.at_ 3 rfl
  have db_0 := db.at_ 0 rfl
  have db_1 := db.at_ 1 rfl
  have db_2 := db.at_ 2 rfl
  have db_3 := db.at_ 3 rfl
  have wr := wb.range
  go_wp2_with (first | ((with_reducible refine wp_loadW (tyWorld) (wr) (wld_size hm) ?_ ?_ ?_); rfl; rfl))
  (with_reducible refine (H.out _ h).mono ?_); rintro e w9 ⟨rfl, hb9⟩
  clear cb_0 cb_1 cb_2 cb_3 db_0 db_1 db_2 db_3
  replace cb := cb.call hb9
  replace wb := wb.call hb9
  replace db := db.call hb9
  replace h := h.call hb9
  replace low := gCall low hb9
  clear hb9 wr H
  have cb_0 := cb.at_ 0 rfl
  have cb_1 := cb.at_ 1 rfl
  have cb_2 := cb.at_ 2 rfl
  have cb_3 := cb.at_ 3 rfl
  have db_0 := db.at_ 0 rfl
  have db_1 := db.at_ 1 rfl
  have db_2 := db.at_ 2 rfl
  have db_3 := db.at_ 3 rfl
  have wr := wb.range
  go_wp2_with (first | ((with_reducible refine wp_loadW (tyWorld) (wr) (wld_size hm) ?_ ?_ ?_); rfl; rfl))
  (with_reducible refine (D.out _ h).mono ?_); rintro e w2 ⟨rfl, hb2⟩
  clear cb_0 cb_1 cb_2 cb_3 db_0 db_1 db_2 db_3
  replace db := db.call hb2
  replace low := gCall low hb2
  clear hb2 cb wb wr h
  have lz2 := low.size
  have xb := boxNext low 31 nilW
  replace low := gAlloc low (.cells nilW 31)
  try simp only [World.size_alloc] at xb
  have eb := boxNext low 37 done0
  replace low := gAlloc low (.cells done0 37)
  replace xb := xb.alloc (.cells done0 37)
  try simp only [World.size_alloc] at eb
  go_wp2_with (first | (with_reducible refine wp_newW (tyWorld) ?_) | (with_reducible refine wp_newW (tyDone) ?_) | ((with_reducible refine wp_storeW (tyWorld) (xb) (rfl) (nilW_size) (nilW_one) ?_ ?_ ?_); rfl; rfl))
  intro w3 xb3 st3
  have near := st3.low (gAlloc (gAlloc (Below.refl w2.heap.size w2) (.cells nilW 31)) (.cells done0 37)) (by omega)
  replace eb := st3.box eb (by omega)
  replace low := st3.low low (by omega)
  clear st3 xb
  have eb9 : Box w3 (w2.alloc (.cells nilW 31)).heap.size 37 done0 := by simpa using eb
  go_wp2_with ((with_reducible refine wp_storeW (tyDone) (eb9) (rfl) (done0_size) (done0_one) ?_ ?_ ?_); rfl; rfl)
  intro w4 eb4 st4
  simp only [World.size_alloc] at eb4
  replace st4 : Stored w3 (w2.heap.size + 1) w4 := by simpa using st4
  clear eb9
  have xb := st4.box xb3 (by omega)
  replace near := st4.low near (by omega)
  replace low := st4.low low (by omega)
  clear st4 eb xb3
  have eb := eb4
  clear eb4
  replace db := db.call near
  clear xb eb near
  have db_1 := db.at_ 1 rfl
  cases hit
  · cases hE : (E != 0)
    · go_wp2_with fail
      go_ret
      exact ⟨rfl, low⟩
    · go_wp2_with fail
      go_ret
      exact ⟨rfl, low⟩
  · obtain ⟨rfl, rfl, h4⟩ : E = 0 ∧ G = 5 ∧ dk = 4 := by
      rcases HH.out with h | h
      · cases h
      · exact h
    have d4 : (dk == 4) = true := by simp [h4]
    clear h4
    go_wp2_with fail
    go_ret
    exact ⟨rfl, low⟩

/-- A hit concerns no other cache, and nothing that memory must keep. -/
theorem hit_keeps {n s y b : Int} {css css' : List (List St)} {m : List Int} {d : Dd} {i0 L : Nat} {out : Wy} (did : Did n s y b css m d i0 L css' out) (he : findE n s y b css m d = 0) (pl : Plc css d i0 L) (hh : locB (stO (fnd (css.getD i0 []) L)) d.kd = true) :
    owB out.st = false ∧ ∀ i, i < css.length → i ≠ i0 → css'.getD i [] = css.getD i [] := by
  obtain ⟨h1, h2, _⟩ := findE_ok he
  obtain ⟨⟨g1, g2, g3⟩, g4⟩ := cohE_iff.1 h1
  have hkd := (deedE_ok h2).2.1
  obtain ⟨al, _, own⟩ := did.own
  have ok := g4 L pl.ln
  have mem : ∀ i, i < css.length → css.getD i [] ∈ css := fun i hi => by simp [List.getD, hi]
  have hst : ∀ i z, i < css.length → fnd (css.getD i []) L = some z → 1 ≤ z.st ∧ z.st ≤ 4 := fun i z hi hz => (fnd_ok (g3 _ (mem i hi)) pl.ln hz).2.2
  by_cases h4 : d.kd = 4
  · have hp := own.put h4
    refine ⟨?_, fun i hi hne => (did.oth i hi hne).same fun z hz => ?_⟩
    · rw [hp] at hh
      have : (!owB out.st) = true := by unfold locB at hh; rwa [if_neg (by omega), if_pos h4] at hh
      simpa using this
    · have := hst i z hi hz
      rw [h4]
      obtain e | e | e | e : z.st = 1 ∨ z.st = 2 ∨ z.st = 3 ∨ z.st = 4 := by omega
      all_goals rw [e]; decide
  · -- the node has the line
    cases hx : fnd (css.getD i0 []) L with
    | none =>
      rw [hx] at hh
      have : locB 0 d.kd = true := hh
      unfold locB at this
      rw [if_neg h4] at this
      split at this
      · exact absurd this (by decide)
      · exact absurd this (by decide)
    | some x =>
      have hxs := hst i0 x pl.lt hx
      rw [hx] at hh
      have hh' : locB x.st d.kd = true := hh
      have ho : out = wy0 := own.kept h4 (by rw [hx]; exact fun h => by cases h)
      refine ⟨by rw [ho]; decide, fun i hi hne => (did.oth i hi hne).same fun z hz => ?_⟩
      have hzs := hst i z hi hz
      have hbs := ok.bs i0 i x z pl.lt hi (Ne.symm hne) hx hz
      simp [bsB] at hbs
      unfold locB at hh'
      by_cases h1 : d.kd = 1
      · rw [h1]
        obtain e | e : z.st = 1 ∨ z.st = 3 := by omega
        all_goals rw [e]; decide
      · rw [if_neg h1, if_neg h4] at hh'
        have : x.st = 2 ∨ x.st = 4 := by simpa [wrB] using hh'
        omega

set_option maxRecDepth 100000 in
set_option maxHeartbeats 8000000 in
theorem walk_good (n s y b : Int) (v : Value) (m : List Int) (css : List (List St)) (i0 : Nat) (dk da dv : Int) (w : World) (h : Ks w v css) (hm : m.length = 64) (css' : List (List St)) (m' : List Int) (hm' : m'.length = 64) (hlen : css'.length = css.length) (n8 : css.length ≤ 8)
    (hit f4 : Bool) (u f2 f3 : Int) (hh : hit = true → f4 = false ∧ m' = m ∧ ∀ i, i < css.length → i ≠ i0 → css'.getD i [] = css.getD i [])
    (good : ∀ i, i < css.length → cacheE n s y b (css.getD i []) = 0 ∧ cacheE n s y b (css'.getD i []) = 0)
    (H : Hid (∀ w, Ks w v css → Calls Try.prog 16 #[cfg n s y b, wldV v m, (⟨i0, dk, da, dv⟩ : Dd).val] w fun e w' => e = .returned (.tuple #[.bool hit, .int .i64 0]) ∧ Below w.heap.size w w'))
    (D : Hid (∀ w, Ks w v css → Calls Try.prog 9 #[cfg n s y b, wldV v m, (⟨i0, dk, da, dv⟩ : Dd).val] w fun e w' => (∃ v', e = .returned (.tuple #[wldV v' m', doneV u hit f2 f3 f4, .int .i64 0]) ∧ KFr w' w.heap.size w'.heap.size v' css') ∧ Below w.heap.size w w')) :
    Calls Try.prog 5 #[cfg n s y b, wldV v m, (⟨i0, dk, da, dv⟩ : Dd).val] w fun e w' => e = .returned (.bool true) ∧ Below w.heap.size w w' := by
  have HH := Lib.hid hh
  have HG := Lib.hid good
  have HLE := Lib.hid hlen
  clear hh good hlen
  have low := Below.refl w.heap.size w
  have cb := boxNext low 23 (cfgA n s y b)
  replace low := gAlloc low (.cells (cfgA n s y b) 23)
  replace h := h.alloc (.cells (cfgA n s y b) 23)
  try simp only [World.size_alloc] at cb
  have wb := boxNext low 31 (wldA v m)
  replace low := gAlloc low (.cells (wldA v m) 31)
  replace cb := cb.alloc (.cells (wldA v m) 31)
  replace h := h.alloc (.cells (wldA v m) 31)
  try simp only [World.size_alloc] at wb
  have db := boxNext low 34 #[.int .i64 (i0), .int .i64 dk, .int .i64 (da), .int .u64 dv]
  replace low := gAlloc low (.cells #[.int .i64 (i0), .int .i64 dk, .int .i64 (da), .int .u64 dv] 34)
  replace cb := cb.alloc (.cells #[.int .i64 (i0), .int .i64 dk, .int .i64 (da), .int .u64 dv] 34)
  replace wb := wb.alloc (.cells #[.int .i64 (i0), .int .i64 dk, .int .i64 (da), .int .u64 dv] 34)
  replace h := h.alloc (.cells #[.int .i64 (i0), .int .i64 dk, .int .i64 (da), .int .u64 dv] 34)
  try simp only [World.size_alloc] at db
  go_enter Try.func5, Try.ntmps5
  go_wp2_with fail
  (with_reducible refine (deeds_yes _).mono ?_); rintro e w1 ⟨rfl, hb1⟩
  replace cb := cb.call hb1
  replace wb := wb.call hb1
  replace db := db.call hb1
  replace h := h.call hb1
  replace low := gCall low hb1
  clear hb1
  simp only [cfgA] at cb
  have cb_0 := cb.at_ 0 rfl
  have cb_1 := cb.at_ 1 rfl
  have cb_2 := cb.at_ 2 rfl
  have cb_3 := cb.at_ 3 rfl
  have db_0 := db.at_ 0 rfl
  have db_1 := db.at_ 1 rfl
  have db_2 := db.at_ 2 rfl
  have db_3 := db.at_ 3 rfl
  have wr := wb.range
  go_wp2_with (first | ((with_reducible refine wp_loadW (tyWorld) (wr) (wld_size hm) ?_ ?_ ?_); rfl; rfl))
  (with_reducible refine (H.out _ h).mono ?_); rintro e w9 ⟨rfl, hb9⟩
  clear cb_0 cb_1 cb_2 cb_3 db_0 db_1 db_2 db_3
  replace cb := cb.call hb9
  replace wb := wb.call hb9
  replace db := db.call hb9
  replace h := h.call hb9
  replace low := gCall low hb9
  clear hb9 wr H
  have cb_0 := cb.at_ 0 rfl
  have cb_1 := cb.at_ 1 rfl
  have cb_2 := cb.at_ 2 rfl
  have cb_3 := cb.at_ 3 rfl
  have db_0 := db.at_ 0 rfl
  have db_1 := db.at_ 1 rfl
  have db_2 := db.at_ 2 rfl
  have db_3 := db.at_ 3 rfl
  have wr := wb.range
  go_wp2_with (first | ((with_reducible refine wp_loadW (tyWorld) (wr) (wld_size hm) ?_ ?_ ?_); rfl; rfl))
  (with_reducible refine (D.out _ h).mono ?_); rintro e w2 ⟨⟨v', rfl, kf⟩, hb2⟩
  clear cb_0 cb_1 cb_2 cb_3 db_0 db_1 db_2 db_3
  obtain ⟨A, c, rfl⟩ := kf.shape
  replace cb := cb.call hb2
  replace db := db.call hb2
  replace wb := wb.call hb2
  replace h := h.call hb2
  replace low := gCall low hb2
  clear hb2 wr D
  have xs : (wldA (.slice A css'.length c) m').size = (wldA (.slice none 0 0) zeroL).size := wld_size hm'
  have xo : (wldA (.slice A css'.length c) m').all (·.oneCell') = true := wldA_one _
  have ds := done_size u hit f2 f3 f4
  have dn1 := done_one u hit f2 f3 f4
  have KS := Lib.hid kf.ks
  clear kf
  have lz2 := low.size
  have xb := boxNext low 31 nilW
  replace low := gAlloc low (.cells nilW 31)
  try simp only [World.size_alloc] at xb
  have eb := boxNext low 37 done0
  replace low := gAlloc low (.cells done0 37)
  replace xb := xb.alloc (.cells done0 37)
  try simp only [World.size_alloc] at eb
  go_wp2_with (first | (with_reducible refine wp_newW (tyWorld) ?_) | (with_reducible refine wp_newW (tyDone) ?_) | ((with_reducible refine wp_storeW (tyWorld) (xb) (rfl) (xs) (xo) ?_ ?_ ?_); rfl; rfl))
  intro w3 xb3 st3
  have near := st3.low (gAlloc (gAlloc (Below.refl w2.heap.size w2) (.cells nilW 31)) (.cells done0 37)) (by omega)
  replace eb := st3.box eb (by omega)
  replace low := st3.low low (by omega)
  clear st3 xb
  have eb9 : Box w3 (w2.alloc (.cells nilW 31)).heap.size 37 done0 := by simpa using eb
  go_wp2_with ((with_reducible refine wp_storeW (tyDone) (eb9) (rfl) (ds) (dn1) ?_ ?_ ?_); rfl; rfl)
  intro w4 eb4 st4
  simp only [World.size_alloc] at eb4
  replace st4 : Stored w3 (w2.heap.size + 1) w4 := by simpa using st4
  clear eb9
  have xb := st4.box xb3 (by omega)
  replace near := st4.low near (by omega)
  replace low := st4.low low (by omega)
  clear st4 eb xb3
  have eb := eb4
  clear eb4
  have ks := KS.out.call near
  replace cb := cb.call near
  replace db := db.call near
  replace wb := wb.call near
  replace h := h.call near
  clear near KS
  simp only [doneA] at eb
  have eb_1 := eb.at_ 1 rfl
  have eb_4 := eb.at_ 4 rfl
  cases hit
  · clear HH
    go_wp2_with fail
    go_ret
    exact ⟨rfl, low⟩
  · obtain ⟨rfl, rfl, heq⟩ := HH.out rfl
    have HEQ := Lib.hid heq
    clear heq HH
    have h0 := id h
    obtain ⟨A1, c1, rfl, k1, k2, k3⟩ := h0
    have wb0 := wb.at_ 0 (wldA_zero _ _)
    go_wp2_with fail
    obtain ⟨A2, c2, e2, j1, j2, j3⟩ := id ks
    simp only [Value.slice.injEq, true_and] at e2
    obtain ⟨rfl, rfl⟩ := e2
    unfold maxLen at k2 j2
    have K3 := Lib.hid k3
    have J3 := Lib.hid j3
    clear k3 j3 h ks eb_1 eb_4 wb0 eb
    go_loopw [67] (fun a wr => ∃ k : Nat, k ≤ css.length ∧ a = .int .i64 k ∧ Below w4.heap.size w4 wr) (fun a _ => css.length - (intOf a).toNat)
    case atStart => exact ⟨0, Nat.zero_le _, rfl, Below.refl _ _⟩
    case round =>
      obtain ⟨k, hk, rfl, near⟩ := hrel
      replace cb := cb.call near
      replace db := db.call near
      replace wb := wb.call near
      replace xb := xb.call near
      by_cases hlt : k < css.length
      · obtain ⟨b1, o1, rfl, hb1, hc1⟩ := K3.out (by omega)
        have hx : css[k]? = some css[k] := List.getElem?_eq_getElem _
        have hxd : css.getD k [] = css[k] := by simp [List.getD, hx]
        have hx' : css'[k]? = some (css'.getD k []) := by have := HLE.out; simp [List.getD, show k < css'.length by omega]
        obtain ⟨b2, o2, rfl, hb2, hc2⟩ := J3.out (by have := HLE.out; omega)
        obtain ⟨gd1, gd2⟩ := HG.out k hlt
        have heq := HEQ.out k hlt
        rw [hxd] at gd1 heq
        generalize css[k] = ss at hx hxd gd1 heq
        generalize css'.getD k [] = sa at hx' gd2 heq
        obtain ⟨A3, c3, ce, cs⟩ := hc1 k ss hx
        obtain ⟨A4, c4, ce', cs'⟩ := hc2 k sa hx'
        replace ce := (near.cell (p := ⟨b1, o1 + k, none⟩) hb1).trans ce
        replace ce' := (near.cell (p := ⟨b2, o2 + k, none⟩) hb2).trans ce'
        replace cs := cs.call near
        replace cs' := cs'.call near
        have k0 : (0 : Int) ≤ k := by omega
        have kl1 : (k : Int) < css.length := by omega
        have kl2 : (k : Int) < css'.length := by have := HLE.out; omega
        have L1 := Lib.hid fun w hw => cacheLines_ok n s y b (.slice A3 ss.length c3) ss w hw gd1
        have L2 := Lib.hid fun w hw => cacheLines_ok n s y b (.slice A4 sa.length c4) sa w hw gd2
        have HE := Lib.hid heq
        clear hx hx' hxd hc1 hc2 gd1 gd2 heq
        have q0 := cb.at_ 0 rfl
        have q1 := cb.at_ 1 rfl
        have q2 := cb.at_ 2 rfl
        have q3 := cb.at_ 3 rfl
        have v0 := wb.at_ 0 (wldA_zero _ _)
        go_wp2_with fail
        refine wp_region_noPanic ?_
        refine wp_region_held_drew (S := fun w' => w'.cell? ⟨w.heap.size, 0, none⟩ = some (.int .i64 n) ∧ w'.cell? ⟨w.heap.size, 1, none⟩ = some (.int .i64 s) ∧ w'.cell? ⟨w.heap.size, 2, none⟩ = some (.int .i64 y) ∧ w'.cell? ⟨w.heap.size, 3, none⟩ = some (.int .i64 b) ∧ w'.cell? ⟨w.heap.size + 1, 0, none⟩ = some (.slice (some ⟨b1, o1, none⟩) css.length c1) ∧ w'.cell? ⟨b1, o1 + k, none⟩ = some (.slice A3 ss.length c3)) (by kernel_rfl) ⟨drewC q0, drewC q1, drewC q2, drewC q3, drewC v0, drewC ce⟩ (fun hHeld => ?_)
        refine takeFirst (i := 0) (v := ?_) rfl (by kernel_rfl) (by kernel_rfl) (by kernel_rfl) (by rfl) (fun _ _ _ h => h) ?_ (by assumption) ?_
        rotate_left
        · (intro w hSw; go_simp; try (with_reducible rfl))
        try simp only [Act.put, List.setIfInBounds_toArray, List.set_cons_zero, List.set_cons_succ]
        refine takeFirst (i := 1) (v := ?_) rfl (by kernel_rfl) (by kernel_rfl) (by kernel_rfl) (by rfl) (fun _ _ _ h => h) ?_ (by assumption) ?_
        rotate_left
        · (intro w hSw; go_simp; try (with_reducible rfl))
        try simp only [Act.put, List.setIfInBounds_toArray, List.set_cons_zero, List.set_cons_succ]
        refine takeFirst (i := 2) (v := ?_) rfl (by kernel_rfl) (by kernel_rfl) (by kernel_rfl) (by rfl) (fun _ _ _ h => h) ?_ (by assumption) ?_
        rotate_left
        · (intro w hSw; go_simp; try (with_reducible rfl))
        try simp only [Act.put, List.setIfInBounds_toArray, List.set_cons_zero, List.set_cons_succ]
        refine takeFirst (i := 3) (v := ?_) rfl (by kernel_rfl) (by kernel_rfl) (by kernel_rfl) (by rfl) (fun _ _ _ h => h) ?_ (by assumption) ?_
        rotate_left
        · (intro w hSw; go_simp; try (with_reducible rfl))
        try simp only [Act.put, List.setIfInBounds_toArray, List.set_cons_zero, List.set_cons_succ]
        refine takeFirst (i := 4) (v := ?_) rfl (by kernel_rfl) (by kernel_rfl) (by kernel_rfl) (by rfl) (fun _ _ _ h => h) ?_ (by assumption) ?_
        rotate_left
        · (intro w hSw; go_simp; try (with_reducible rfl))
        try simp only [Act.put, List.setIfInBounds_toArray, List.set_cons_zero, List.set_cons_succ]
        refine takeFirst (i := 5) (v := ?_) rfl (by kernel_rfl) (by kernel_rfl) (by kernel_rfl) (by rfl) (fun _ _ _ h => h) ?_ (by assumption) ?_
        rotate_left
        · (intro w hSw; go_simp; try (with_reducible rfl))
        try simp only [Act.put, List.setIfInBounds_toArray, List.set_cons_zero, List.set_cons_succ]
        refine stepNext (i := 6) (by kernel_rfl) rfl (by rfl) (fun K hK => ?_)
        go_simp
        (with_reducible refine (L1.out _ cs.drew).mono ?_); rintro e w5 ⟨⟨A5, c5, rfl, fr5⟩, hb5⟩
        obtain ⟨hh0, hh1, hh2, hh3, hh4, hh5⟩ := hHeld
        have hHeld := (And.intro (callC hb5 hh0) (And.intro (callC hb5 hh1) (And.intro (callC hb5 hh2) (And.intro (callC hb5 hh3) (And.intro (callC hb5 hh4) (callC hb5 hh5))))))
        clear hh0 hh1 hh2 hh3 hh4 hh5
        replace cb := cb.drew.call hb5
        replace db := db.drew.call hb5
        replace xb := xb.drew.call hb5
        replace cs' := cs'.drew.call hb5
        replace ce' := callC hb5 (drewC ce')
        have ws5 := fr5.ws
        replace near := gCall near.drew hb5
        clear hb5 fr5 L1 cs wb
        refine hK.out _ _ hHeld ?_
        clear hK K
        try simp only [Act.put]
        try simp only [List.setIfInBounds_toArray, List.set_cons_zero, List.set_cons_succ]
        refine takeFirst (i := 7) (v := ?_) rfl (by kernel_rfl) (by kernel_rfl) (by kernel_rfl) (by rfl) (fun _ _ _ h => h) ?_ (by assumption) ?_
        rotate_left
        · (intro w hSw; go_simp; try (with_reducible rfl))
        try simp only [Act.put, List.setIfInBounds_toArray, List.set_cons_zero, List.set_cons_succ]
        refine takeFirst (i := 8) (v := ?_) rfl (by kernel_rfl) (by kernel_rfl) (by kernel_rfl) (by rfl) (fun _ _ _ h => h) ?_ (by assumption) ?_
        rotate_left
        · (intro w hSw; go_simp; try (with_reducible rfl))
        try simp only [Act.put, List.setIfInBounds_toArray, List.set_cons_zero, List.set_cons_succ]
        refine takeFirst (i := 9) (v := ?_) rfl (by kernel_rfl) (by kernel_rfl) (by kernel_rfl) (by rfl) (fun _ _ _ h => h) ?_ (by assumption) ?_
        rotate_left
        · (intro w hSw; go_simp; try (with_reducible rfl))
        try simp only [Act.put, List.setIfInBounds_toArray, List.set_cons_zero, List.set_cons_succ]
        refine takeFirst (i := 10) (v := ?_) rfl (by kernel_rfl) (by kernel_rfl) (by kernel_rfl) (by rfl) (fun _ _ _ h => h) ?_ (by assumption) ?_
        rotate_left
        · (intro w hSw; go_simp; try (with_reducible rfl))
        try simp only [Act.put, List.setIfInBounds_toArray, List.set_cons_zero, List.set_cons_succ]
        refine takeFirst (i := 11) (v := ?_) rfl (by kernel_rfl) (by kernel_rfl) (by kernel_rfl) (by rfl) (fun _ _ _ h => h) ?_ (by assumption) ?_
        rotate_left
        · (intro w hSw; go_simp; try (with_reducible rfl))
        try simp only [Act.put, List.setIfInBounds_toArray, List.set_cons_zero, List.set_cons_succ]
        refine wpAnyH_done (by kernel_rfl) ?_ _
        refine NoPanic.normal ?_
        clear hHeld q0 q1 q2 q3 v0 ce
        have q0 := cb.at_ 0 rfl
        have q1 := cb.at_ 1 rfl
        have q2 := cb.at_ 2 rfl
        have q3 := cb.at_ 3 rfl
        have v0 := xb.at_ 0 (wldA_zero _ _)
        go_wp2_with fail
        refine wp_region_noPanic ?_
        refine wp_region_held_drew (S := fun w' => w'.cell? ⟨w.heap.size, 0, none⟩ = some (.int .i64 n) ∧ w'.cell? ⟨w.heap.size, 1, none⟩ = some (.int .i64 s) ∧ w'.cell? ⟨w.heap.size, 2, none⟩ = some (.int .i64 y) ∧ w'.cell? ⟨w.heap.size, 3, none⟩ = some (.int .i64 b) ∧ w'.cell? ⟨w2.heap.size, 0, none⟩ = some (.slice (some ⟨b2, o2, none⟩) css'.length c) ∧ w'.cell? ⟨b2, o2 + k, none⟩ = some (.slice A4 sa.length c4)) (by kernel_rfl) ⟨drewC q0, drewC q1, drewC q2, drewC q3, drewC v0, drewC ce'⟩ (fun hHeld => ?_)
        refine takeFirst (i := 0) (v := ?_) rfl (by kernel_rfl) (by kernel_rfl) (by kernel_rfl) (by rfl) (fun _ _ _ h => h) ?_ (by assumption) ?_
        rotate_left
        · (intro w hSw; go_simp; try (with_reducible rfl))
        try simp only [Act.put, List.setIfInBounds_toArray, List.set_cons_zero, List.set_cons_succ]
        refine takeFirst (i := 1) (v := ?_) rfl (by kernel_rfl) (by kernel_rfl) (by kernel_rfl) (by rfl) (fun _ _ _ h => h) ?_ (by assumption) ?_
        rotate_left
        · (intro w hSw; go_simp; try (with_reducible rfl))
        try simp only [Act.put, List.setIfInBounds_toArray, List.set_cons_zero, List.set_cons_succ]
        refine takeFirst (i := 2) (v := ?_) rfl (by kernel_rfl) (by kernel_rfl) (by kernel_rfl) (by rfl) (fun _ _ _ h => h) ?_ (by assumption) ?_
        rotate_left
        · (intro w hSw; go_simp; try (with_reducible rfl))
        try simp only [Act.put, List.setIfInBounds_toArray, List.set_cons_zero, List.set_cons_succ]
        refine takeFirst (i := 3) (v := ?_) rfl (by kernel_rfl) (by kernel_rfl) (by kernel_rfl) (by rfl) (fun _ _ _ h => h) ?_ (by assumption) ?_
        rotate_left
        · (intro w hSw; go_simp; try (with_reducible rfl))
        try simp only [Act.put, List.setIfInBounds_toArray, List.set_cons_zero, List.set_cons_succ]
        refine takeFirst (i := 4) (v := ?_) rfl (by kernel_rfl) (by kernel_rfl) (by kernel_rfl) (by rfl) (fun _ _ _ h => h) ?_ (by assumption) ?_
        rotate_left
        · (intro w hSw; go_simp; try (with_reducible rfl))
        try simp only [Act.put, List.setIfInBounds_toArray, List.set_cons_zero, List.set_cons_succ]
        refine takeFirst (i := 5) (v := ?_) rfl (by kernel_rfl) (by kernel_rfl) (by kernel_rfl) (by rfl) (fun _ _ _ h => h) ?_ (by assumption) ?_
        rotate_left
        · (intro w hSw; go_simp; try (with_reducible rfl))
        try simp only [Act.put, List.setIfInBounds_toArray, List.set_cons_zero, List.set_cons_succ]
        refine stepNext (i := 6) (by kernel_rfl) rfl (by rfl) (fun K hK => ?_)
        go_simp
        (with_reducible refine (L2.out _ cs'.drew).mono ?_); rintro e w6 ⟨⟨A6, c6, rfl, fr6⟩, hb6⟩
        obtain ⟨hh0, hh1, hh2, hh3, hh4, hh5⟩ := hHeld
        have hHeld := (And.intro (callC hb6 hh0) (And.intro (callC hb6 hh1) (And.intro (callC hb6 hh2) (And.intro (callC hb6 hh3) (And.intro (callC hb6 hh4) (callC hb6 hh5))))))
        clear hh0 hh1 hh2 hh3 hh4 hh5
        replace db := db.drew.call hb6
        replace ws5 := ws5.drew.call hb6
        have ws6 := fr6.ws
        replace near := gCall near.drew hb6
        clear hb6 fr6 L2 cs' xb cb
        refine hK.out _ _ hHeld ?_
        clear hK K
        try simp only [Act.put]
        try simp only [List.setIfInBounds_toArray, List.set_cons_zero, List.set_cons_succ]
        refine takeFirst (i := 7) (v := ?_) rfl (by kernel_rfl) (by kernel_rfl) (by kernel_rfl) (by rfl) (fun _ _ _ h => h) ?_ (by assumption) ?_
        rotate_left
        · (intro w hSw; go_simp; try (with_reducible rfl))
        try simp only [Act.put, List.setIfInBounds_toArray, List.set_cons_zero, List.set_cons_succ]
        refine takeFirst (i := 8) (v := ?_) rfl (by kernel_rfl) (by kernel_rfl) (by kernel_rfl) (by rfl) (fun _ _ _ h => h) ?_ (by assumption) ?_
        rotate_left
        · (intro w hSw; go_simp; try (with_reducible rfl))
        try simp only [Act.put, List.setIfInBounds_toArray, List.set_cons_zero, List.set_cons_succ]
        refine takeFirst (i := 9) (v := ?_) rfl (by kernel_rfl) (by kernel_rfl) (by kernel_rfl) (by rfl) (fun _ _ _ h => h) ?_ (by assumption) ?_
        rotate_left
        · (intro w hSw; go_simp; try (with_reducible rfl))
        try simp only [Act.put, List.setIfInBounds_toArray, List.set_cons_zero, List.set_cons_succ]
        refine takeFirst (i := 10) (v := ?_) rfl (by kernel_rfl) (by kernel_rfl) (by kernel_rfl) (by rfl) (fun _ _ _ h => h) ?_ (by assumption) ?_
        rotate_left
        · (intro w hSw; go_simp; try (with_reducible rfl))
        try simp only [Act.put, List.setIfInBounds_toArray, List.set_cons_zero, List.set_cons_succ]
        refine takeFirst (i := 11) (v := ?_) rfl (by kernel_rfl) (by kernel_rfl) (by kernel_rfl) (by rfl) (fun _ _ _ h => h) ?_ (by assumption) ?_
        rotate_left
        · (intro w hSw; go_simp; try (with_reducible rfl))
        try simp only [Act.put, List.setIfInBounds_toArray, List.set_cons_zero, List.set_cons_succ]
        refine wpAnyH_done (by kernel_rfl) ?_ _
        refine NoPanic.normal ?_
        clear hHeld q0 q1 q2 q3 v0 ce'
        go_wp2_with fail
        with_reducible refine (good_yes _ 2 _ (by omega) ?_).mono ?_
        · intro j hj
          have : j = 0 ∨ j = 1 := by omega
          rcases this with rfl | rfl <;> go_simp
        rintro e w7 ⟨rfl, rfl⟩
        replace db := db.alloc (.cells #[.int .i64 0, .int .i64 0] 38)
        replace ws5 := ws5.alloc (.cells #[.int .i64 0, .int .i64 0] 38)
        replace ws6 := ws6.alloc (.cells #[.int .i64 0, .int .i64 0] 38)
        replace near := near.alloc near.size (.cells #[.int .i64 0, .int .i64 0] 38)
        have db_0 := db.at_ 0 rfl
        by_cases hki : k = i0
        · have e0 : ((k : Int) != (i0 : Int)) = false := by simp [hki]
          clear hki ws5 ws6
          go_wp2_with fail
          go_roundw
          case rel => exact ⟨k + 1, by omega, by go_num, near⟩
          case measure => simp [intOf]; omega
        · have e0 : ((k : Int) != (i0 : Int)) = true := by simp; omega
          obtain rfl := HE.out hki
          have EQ := Lib.hid (equalWays_yes _ _ _ _ ws5 ws6)
          clear hki ws5 ws6
          go_wp2_with fail
          (with_reducible refine EQ.out.mono ?_); rintro e w8 ⟨rfl, hb8⟩
          have near8 := near.trans (hb8.mono near.size)
          clear hb8
          go_wp2_with fail
          go_roundw
          case rel => exact ⟨k + 1, by omega, by go_num, near8⟩
          case measure => simp [intOf]; omega
      · have xm := wld_mem xb
        have wm := wld_mem wb
        have eqM := fun w => eqMem m' m' hm' hm' w
        have em : sameM m' m' = true := decide_eq_true rfl
        rw [em] at eqM
        go_wp2_with (first | ((with_reducible refine wp_loadW (tyMem) (xm) (mem_zsize hm') ?_ ?_ ?_); rfl; rfl) | ((with_reducible refine wp_loadW (tyMem) (wm) (mem_zsize hm') ?_ ?_ ?_); rfl; rfl))
        go_ret
        exact ⟨rfl, gCall low near⟩

theorem walk (v1 v2 v3 : Value) (w : World) (h1 : IsCfg v1) (h2 : IsWorld w v2) (h3 : IsDeed v3) :
    Calls Try.prog 5 #[v1, v2, v3] w fun e w' => e = .returned (.bool true) ∧ Below w.heap.size w w' := by
  obtain ⟨n, s, y, b, rfl, _⟩ := h1
  obtain ⟨v, m, css, rfl, hm, ks⟩ := h2
  obtain ⟨d, rfl⟩ := h3
  by_cases he : findE n s y b css m d = 0
  · obtain ⟨i0, L, pl⟩ := plc_of he
    obtain ⟨hnd, hlt, hL, r, hr, ha⟩ := id pl
    obtain ⟨h1, h2, _⟩ := findE_ok he
    obtain ⟨g1, g2, g3⟩ := (cohE_iff.1 h1).1
    have hkd := (deedE_ok h2).2.1
    have H := fun w (hw : Ks w v css) => hit_is n s y b v m css d w hw hm L _ _ _ 0 (fun _ => hkd) (Lib.hid fun w hw => find_ok n s y b v m css d i0 L r w hw hm he hnd hlt hL hr ha)
    rw [if_pos rfl] at H
    rcases deedDo_is hm he pl with ⟨k4, kn, D⟩ | ⟨_, css', out, did, D⟩
    · rw [kn, k4] at H
      exact walk_bad n s y b v m css d w ks hm _ 0 5 (by decide) (.inr ⟨rfl, rfl, k4⟩) (Lib.hid H) (Lib.hid (D v))
    · have n8 : css.length ≤ 8 := by have := cfgB_iff.1 g1; omega
      have hm' := keepM_length hm out
      have hk := fun hh => hit_keeps did he pl hh
      have gall := (cohE_iff.1 did.ok).1.2.2
      obtain ⟨dn, dk, da, dv⟩ := d
      simp only at hnd
      subst hnd
      refine walk_good n s y b v m css i0 dk da dv w ks hm css' (keepM m out) hm' did.len n8 _ _ _ _ _ (fun hh => ?_) (fun i hi => ⟨g3 _ (by simp [List.getD, hi]), gall _ (by have := did.len; simp [List.getD, show i < css'.length by omega])⟩) (Lib.hid H) (Lib.hid fun w hw => D v w hw)
      obtain ⟨q1, q2⟩ := hk hh
      refine ⟨q1, ?_, q2⟩
      unfold keepM
      rw [q1]
      rfl
  · have H := fun w (hw : Ks w v css) => hit_is n s y b v m css d w hw hm 0 0 false 0 _ (fun h => absurd h he) (Lib.hid fun w hw => find_bad n s y b v m css d w hw hm he)
    rw [if_neg he] at H
    exact walk_bad n s y b v m css d w ks hm false _ _ he (.inl rfl) (Lib.hid H) (Lib.hid fun w hw => do_bad n s y b v m css d w hw hm he)

set_option maxRecDepth 100000 in
theorem lifted (os : Os) (started : os.Started) (H : Type) (enc : TypeId × Value → H) :
    ReturnsInHanded {} Try.checked os 5 .any (Rows.deedHitsSpec.pre6 enc Try.prog Try.f5 Rows.deedHitsRow.domain false) (Rows.deedHitsSpec.post enc Try.prog Try.f5 false true false false) := by
  refine returnsInHanded_of_change (C := Try.checked) own started (by kernel_rfl) Try.func5
    (ChangeSpec.witness6 (enc := enc) (C := Try.checked) false ⟨#[], #[cfg 2 1 1 1, wldV (.slice none 0 0) zeroL, (⟨0, 0, 0, 0⟩ : Dd).val], []⟩ 8 (by kernel_rfl) (by kernel_rfl) (by kernel_rfl) (by kernel_rfl)) ?_
  intro W base args ds gs before hval0 hW hcnd _
  have hval : ∀ (j : Nat) t v, Try.f5.params[j]? = some t → args[j]? = some v → Value.okWide Try.prog W .any base t v := hval0
  have hW' := hW
  obtain ⟨p, q, hA0, hV, rfl, hfz, hnd⟩ := hW
  have hA : DataW.TrodAll enc Try.prog W 0 (fun _ => true) true Try.f5.params.toList args.toList ds p := hA0
  rw [Try.params5] at hA hval
  obtain ⟨v0, vs0, d0, ds0, p0, q0, hargs, rfl, rfl, h0, r0⟩ := trodAll_cons hA
  obtain ⟨v1, vs1, d1, ds1, p1, q1, rfl, rfl, rfl, h1, r1⟩ := trodAll_cons r0
  obtain ⟨v2, vs2, d2, ds2, p2, q2, rfl, rfl, rfl, h2, r2⟩ := trodAll_cons r1
  obtain ⟨rfl, rfl, rfl⟩ := trodAll_nil r2
  obtain rfl : args = #[v0, v1, v2] := by cases args; simp_all
  have k0 := openCfg (hval 0 23 v0 rfl rfl) h0
  have k1 := openWorld (hval 1 31 v1 rfl rfl) h1
  have k2 := openDeed (hval 2 34 v2 rfl rfl) h2
  obtain ⟨rfl, rfl⟩ := trodVars_none hV
  clear hA0 hval0
  refine (walk v0 v1 v2 W k0 k1 k2).mono fun e W' ⟨he, bel⟩ => ⟨_, he, ?_⟩
  exact law_post (by kernel_rfl) (by kernel_rfl) rfl hW' rfl rfl rfl bel

theorem over : Rows.deedHitsRow.holds Try.pinned (OpenSpec.ofChange Rows.deedHitsSpec) :=
  OpenClaim.holds_of_wide 5 Try.f5 rfl rfl rfl rfl rfl rfl rfl ⟨rfl, rfl, rfl, rfl, rfl⟩ rfl rfl rfl rfl rfl (by kernel_rfl) Try.func5 (by kernel_rfl)
    (of_decide_eq_true (by kernel_rfl)) (by unfold Func.isWrapper; first | (rw [if_pos (by decide +kernel)]; kernel_rfl) | (rw [if_neg (by decide +kernel)]; exact ⟨rfl, rfl⟩))
    (fun os started H enc _ => lifted os started H enc)

/-- The statement. -/
theorem deedHits_holds : Rows.DeedHitsSaid := over
end Go.Proofs.Ytahoadfofleacaa.deedHits
namespace Go.Proofs.Ytahoadfofleacaa
theorem deedHits_holds : Rows.DeedHitsSaid := deedHits.deedHits_holds
#print axioms deedHits_holds
end Go.Proofs.Ytahoadfofleacaa
