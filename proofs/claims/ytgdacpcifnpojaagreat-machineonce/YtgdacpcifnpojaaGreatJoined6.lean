/-
Proved: what the texts below say at the head of each. No condition but theirs.
-/
import Derived.Test.YtgdacpcifnpojaaGreatJoined5
import Derived.Test.YtgdacpcifnpojaaGreatJoined3
import Derived.Laws.Tables
import Derived.Test.YtgdacpcifnpojaaGreatJoined2
import Derived.Test.YtgdacpcifnpojaaGreatJoined4
/- DeedFind2: Proved: what find of package deed returns where it finds no error; it changes nothing that was there. Conditions: the world, the operation and the node are right. -/
namespace Go.Proofs.YtgdacpcifnpojaaGreat
open Go.ChangeShapes Go.WideShapes Go.ChangeAt Go.RowKit Go.Joins


/-- A new variable came up. -/
structure NewV (w0 : World) (g : Nat) (w : World) (t : TypeId) (cs : Array Value) : Prop where
  low : Below w0.heap.size w0 w
  new : w0.heap.size ≤ g
  box : Box w g t cs
/-- What follows is shown once, for all orders. -/
theorem shareV {M Φ : Nat → World → Prop} {G : Prop} (tree : (∀ g w, M g w → Φ g w) → G) (last : ∀ g w, M g w → Φ g w) : G := tree last


set_option maxRecDepth 10000 in
set_option maxHeartbeats 4000000 in
theorem find_ok (n s y b : Int) (v : Value) (m : List Int) (css : List (List St)) (d : Dd) (i0 L r : Nat) (w : World) (h : Ks w v css) (hm : m.length = 64) (he : findE n s y b css m d = 0) (hi : d.nd = i0) (hi0 : i0 < css.length) (hL : L < 16) (hr : r < 4) (ha : d.ad = ((L * 4 + r : Nat) : Int)) :
    Calls Tryz.prog 102 #[cfg n s y b, wldV v m, d.val] w fun e w' =>
      e = .returned (.tuple #[plcV L (stO (fnd (css.getD i0 []) L)) (!othB (nodesL (onL L (copN css css.length))) i0) (ownN (onL L (copN css css.length))), .int .i64 0]) ∧ Below w.heap.size w w' := by
  obtain ⟨he1, he2, he3⟩ := findE_ok he
  have F := Lib.hid fun w hw => agreeCheck_any n s y b v m css w hw hm
  rw [he1] at F
  have R := Lib.hid fun w => atomicRight_any d w
  rw [he2] at R
  obtain ⟨⟨g1, g2, g3⟩, g4⟩ := cohE_iff.1 he1
  have h128 : (onL L (copN css css.length)).length ≤ 128 := by
    have h1 := copN_length g3 (Nat.le_refl css.length)
    have h2 : (onL L (copN css css.length)).length ≤ (copN css css.length).length := List.length_filter_le _ _
    have := cfgB_iff.1 g1
    omega
  have HO := Lib.hid fun w hw => holders_ok n s y b v m css L w hw hm he1 hL h128
  have hx : css[i0]? = some css[i0] := List.getElem?_eq_getElem _
  have hxd : css.getD i0 [] = css[i0] := by simp [List.getD, hx]
  have hss := g3 _ (List.mem_of_getElem? hx)
  rw [hxd]
  generalize css[i0] = ss at hx hxd hss
  obtain ⟨z, p, E, hf, FI⟩ := cacheFind_all n s y b ss L
  obtain ⟨rfl, hz0, hfn, _⟩ := fnd_find hss hL hf
  have hzs : stO (fnd ss L) = z.st := by
    rw [hfn]
    cases p
    · rw [hz0 rfl]; rfl
    · rfl
  rw [hzs]
  have AL := Lib.hid fun w => addrLine_at L r w hL hr
  generalize nodesL (onL L (copN css css.length)) = xs at HO ⊢
  generalize ownN (onL L (copN css css.length)) = O at HO ⊢
  generalize cohL n s y b css m = CL at F
  obtain ⟨dn, dk, da, dv⟩ := d
  simp only at hi ha he3 R ⊢
  subst hi
  have FI := Lib.hid FI
  generalize hB : othB xs i0 = B
  have HB := Lib.hid hB
  clear hB
  generalize hda : ((L * 4 + r : Nat) : Int) = D at ha AL
  subst ha
  clear hda he he1 he2 g1 g2 g3 g4 h128 hf hz0 hfn hzs hss hxd
  have H0 := Lib.hid h
  obtain ⟨A, cp, rfl, k1, k2, k3⟩ := id h
  obtain ⟨bb, o, rfl, hbb, hc⟩ := k3 (by omega)
  obtain ⟨A', c', ce, cs⟩ := hc i0 ss hx
  have CE := Lib.hid ce
  have CS := Lib.hid cs
  unfold maxLen at k2
  clear hc k3 hx ce cs
  have d0 : decide (n ≤ (i0 : Int)) = false := decide_eq_false (by omega)
  clear he3
  have low := Below.refl w.heap.size w
  have cb := boxNext low 23 (cfgA n s y b)
  replace low := gAlloc low (.cells (cfgA n s y b) 23)
  replace h := h.alloc (.cells (cfgA n s y b) 23)
  try simp only [World.size_alloc] at cb
  have wb := boxNext low 31 (wldA (.slice (some ⟨bb, o, none⟩) css.length cp) m)
  replace low := gAlloc low (.cells (wldA (.slice (some ⟨bb, o, none⟩) css.length cp) m) 31)
  replace cb := cb.alloc (.cells (wldA (.slice (some ⟨bb, o, none⟩) css.length cp) m) 31)
  replace h := h.alloc (.cells (wldA (.slice (some ⟨bb, o, none⟩) css.length cp) m) 31)
  try simp only [World.size_alloc] at wb
  have db := boxNext low 59 #[.int .i64 (i0), .int .i64 dk, .int .i64 da, .int .u64 dv]
  replace low := gAlloc low (.cells #[.int .i64 (i0), .int .i64 dk, .int .i64 da, .int .u64 dv] 59)
  replace cb := cb.alloc (.cells #[.int .i64 (i0), .int .i64 dk, .int .i64 da, .int .u64 dv] 59)
  replace wb := wb.alloc (.cells #[.int .i64 (i0), .int .i64 dk, .int .i64 da, .int .u64 dv] 59)
  replace h := h.alloc (.cells #[.int .i64 (i0), .int .i64 dk, .int .i64 da, .int .u64 dv] 59)
  try simp only [World.size_alloc] at db
  have ob := boxNext low 179 (plcA 0 0 false 0)
  replace low := gAlloc low (.cells (plcA 0 0 false 0) 179)
  replace cb := cb.alloc (.cells (plcA 0 0 false 0) 179)
  replace wb := wb.alloc (.cells (plcA 0 0 false 0) 179)
  replace db := db.alloc (.cells (plcA 0 0 false 0) 179)
  replace h := h.alloc (.cells (plcA 0 0 false 0) 179)
  try simp only [World.size_alloc] at ob
  have wr := wb.range
  go_enter Tryz.func102, Tryz.ntmps102
  go_wp2_with (first | (with_reducible refine wp_newW (tyPlace) ?_) | ((with_reducible refine wp_loadW (tyWorld) (wr) (wld_size hm) ?_ ?_ ?_); rfl; rfl))
  (with_reducible refine (F.out _ h).mono ?_); rintro e w1 ⟨rfl, hb⟩
  replace ob := ob.call hb
  replace db := db.call hb
  replace cb := cb.call hb
  replace wb := wb.call hb
  replace h := h.call hb
  replace low := gCall low hb
  clear hb wr F
  have db_0 := db.at_ 0 rfl
  have db_1 := db.at_ 1 rfl
  have db_2 := db.at_ 2 rfl
  have db_3 := db.at_ 3 rfl
  go_wp2_with fail
  (with_reducible refine (R.out _).mono ?_); rintro e w2 ⟨rfl, hb⟩
  clear db_0 db_1 db_2 db_3
  replace ob := ob.call hb
  replace db := db.call hb
  replace cb := cb.call hb
  replace wb := wb.call hb
  replace h := h.call hb
  replace low := gCall low hb
  clear hb R
  have db_0 := db.at_ 0 rfl
  have db_2 := db.at_ 2 rfl
  have cb_0 := cb.at_ 0 rfl
  go_wp2_with fail
  (with_reducible refine (AL.out _).mono ?_); rintro e w3 ⟨rfl, rfl⟩
  clear db_0 db_2 cb_0
  clear AL
  have c0 := cb.at_ 0 rfl
  have c1 := cb.at_ 1 rfl
  have c2 := cb.at_ 2 rfl
  have c3 := cb.at_ 3 rfl
  have b0 := wb.at_ 0 (wldA_zero _ _)
  have e0 := db.at_ 0 rfl
  have ce := (low.cell (p := ⟨bb, o + i0, none⟩) hbb).trans CE.out
  have i1 : (i0 : Int) < css.length := by omega
  have i2 : (0 : Int) ≤ i0 := by omega
  go_wp2_with fail
  refine wp_region_noPanic ?_
  refine wp_region_held_drew (S := fun w' => w'.cell? ⟨w.heap.size, 0, none⟩ = some (.int .i64 n) ∧ w'.cell? ⟨w.heap.size, 1, none⟩ = some (.int .i64 s) ∧ w'.cell? ⟨w.heap.size, 2, none⟩ = some (.int .i64 y) ∧ w'.cell? ⟨w.heap.size, 3, none⟩ = some (.int .i64 b) ∧ w'.cell? ⟨w.heap.size + 1, 0, none⟩ = some (.slice (some ⟨bb, o, none⟩) css.length cp) ∧ w'.cell? ⟨w.heap.size + 1 + 1, 0, none⟩ = some (.int .i64 i0) ∧ w'.cell? ⟨bb, o + i0, none⟩ = some (.slice A' ss.length c')) (by kernel_rfl) ⟨drewC c0, drewC c1, drewC c2, drewC c3, drewC b0, drewC e0, drewC ce⟩ (fun hHeld => ?_)
  clear c0 c1 c2 c3 b0 e0 ce
  replace ob := ob.drew
  replace db := db.drew
  replace cb := cb.drew
  replace wb := wb.drew
  replace h := h.drew
  replace low := low.drew
  refine takeFirst (i := 0) (v := ?_) rfl (by kernel_rfl) (by kernel_rfl) (by kernel_rfl) (by rfl) (fun _ _ _ h => h) ?_ (by assumption) ?_
  rotate_left
  · (intro w hSw; go_simp; try (with_reducible rfl))
  try simp only [Act.put, List.setIfInBounds_toArray, List.set_cons_zero, List.set_cons_succ]
  refine takeFirst (i := 1) (v := ?_) rfl (by kernel_rfl) (by kernel_rfl) (by kernel_rfl) (by rfl) (fun _ _ _ h => h) ?_ (by assumption) ?_
  rotate_left
  · (intro w hSw; go_simp; try (with_reducible rfl))
  try simp only [Act.put, List.setIfInBounds_toArray, List.set_cons_zero, List.set_cons_succ]
  refine takeFirst (i := 2) (v := ?_) rfl (by kernel_rfl) (by kernel_rfl) (by kernel_rfl) (by rfl) (fun _ _ _ h => h) ?_ (by assumption) ?_
  rotate_left
  · (intro w hSw; go_simp; try (with_reducible rfl))
  try simp only [Act.put, List.setIfInBounds_toArray, List.set_cons_zero, List.set_cons_succ]
  refine takeFirst (i := 3) (v := ?_) rfl (by kernel_rfl) (by kernel_rfl) (by kernel_rfl) (by rfl) (fun _ _ _ h => h) ?_ (by assumption) ?_
  rotate_left
  · (intro w hSw; go_simp; try (with_reducible rfl))
  try simp only [Act.put, List.setIfInBounds_toArray, List.set_cons_zero, List.set_cons_succ]
  refine takeFirst (i := 4) (v := ?_) rfl (by kernel_rfl) (by kernel_rfl) (by kernel_rfl) (by rfl) (fun _ _ _ h => h) ?_ (by assumption) ?_
  rotate_left
  · (intro w hSw; go_simp; try (with_reducible rfl))
  try simp only [Act.put, List.setIfInBounds_toArray, List.set_cons_zero, List.set_cons_succ]
  refine takeFirst (i := 5) (v := ?_) rfl (by kernel_rfl) (by kernel_rfl) (by kernel_rfl) (by rfl) (fun _ _ _ h => h) ?_ (by assumption) ?_
  rotate_left
  · (intro w hSw; go_simp; try (with_reducible rfl))
  try simp only [Act.put, List.setIfInBounds_toArray, List.set_cons_zero, List.set_cons_succ]
  refine takeFirst (i := 6) (v := ?_) rfl (by kernel_rfl) (by kernel_rfl) (by kernel_rfl) (by rfl) (fun _ _ _ h => h) ?_ (by assumption) ?_
  rotate_left
  · (intro w hSw; go_simp; try (with_reducible rfl))
  try simp only [Act.put, List.setIfInBounds_toArray, List.set_cons_zero, List.set_cons_succ]
  refine takeFirst (i := 7) (v := ?_) rfl (by kernel_rfl) (by kernel_rfl) (by kernel_rfl) (by rfl) (fun _ _ _ h => h) ?_ (by assumption) ?_
  rotate_left
  · (intro w hSw; go_simp; try (with_reducible rfl))
  try simp only [Act.put, List.setIfInBounds_toArray, List.set_cons_zero, List.set_cons_succ]
  generalize w2.drew = wN at *
  have cs := CS.out.call low
  have near := Below.refl wN.heap.size wN
  apply shareV (M := fun g wz => NewV wN g wz 80 zeroA)
  · intro hE
    refine stepTwo (i1 := 8) (i2 := 13) (by kernel_rfl) rfl rfl (by rfl) (by rfl) (fun K hK => ?_) (fun K hK => ?_)
    · go_simp
      (with_reducible refine (FI.out _ _ cs).mono ?_); rintro e wy ⟨rfl, hb⟩
      replace near := gCall near hb
      have hNow := (And.intro (callC near hHeld.1) (And.intro (callC near hHeld.2.1) (And.intro (callC near hHeld.2.2.1) (And.intro (callC near hHeld.2.2.2.1) (And.intro (callC near hHeld.2.2.2.2.1) (And.intro (callC near hHeld.2.2.2.2.2.1) (callC near hHeld.2.2.2.2.2.2)))))))
      refine hK.out _ _ hNow ?_
      clear hK K
      try simp only [Act.put]
      try simp only [List.setIfInBounds_toArray, List.set_cons_zero, List.set_cons_succ]
      clear hNow
      have hNow := (And.intro (callC near hHeld.1) (And.intro (callC near hHeld.2.1) (And.intro (callC near hHeld.2.2.1) (And.intro (callC near hHeld.2.2.2.1) (And.intro (callC near hHeld.2.2.2.2.1) (And.intro (callC near hHeld.2.2.2.2.2.1) (callC near hHeld.2.2.2.2.2.2)))))))
      refine takeFirst (i := 9) (v := ?_) rfl (by kernel_rfl) (by kernel_rfl) (by kernel_rfl) (by rfl) (fun _ _ _ h => h) ?_ (by assumption) ?_
      rotate_left
      · (intro w hSw; go_simp; try (with_reducible rfl))
      try simp only [Act.put, List.setIfInBounds_toArray, List.set_cons_zero, List.set_cons_succ]
      refine takeFirst (i := 10) (v := ?_) rfl (by kernel_rfl) (by kernel_rfl) (by kernel_rfl) (by rfl) (fun _ _ _ h => h) ?_ (by assumption) ?_
      rotate_left
      · (intro w hSw; go_simp; try (with_reducible rfl))
      try simp only [Act.put, List.setIfInBounds_toArray, List.set_cons_zero, List.set_cons_succ]
      refine takeFirst (i := 11) (v := ?_) rfl (by kernel_rfl) (by kernel_rfl) (by kernel_rfl) (by rfl) (fun _ _ _ h => h) ?_ (by assumption) ?_
      rotate_left
      · (intro w hSw; go_simp; try (with_reducible rfl))
      try simp only [Act.put, List.setIfInBounds_toArray, List.set_cons_zero, List.set_cons_succ]
      refine takeFirst (i := 12) (v := ?_) rfl (by kernel_rfl) (by kernel_rfl) (by kernel_rfl) (by rfl) (fun _ _ _ h => h) ?_ (by assumption) ?_
      rotate_left
      · (intro w hSw; go_simp; try (with_reducible rfl))
      try simp only [Act.put, List.setIfInBounds_toArray, List.set_cons_zero, List.set_cons_succ]
      refine stepNext (i := 13) (by kernel_rfl) rfl (by rfl) (fun K hK => ?_)
      refine op_newW tyWay ?_
      have sz := near.size
      have box := Box.new wy 80 zeroA
      replace near := gAlloc near (.cells zeroA 80)
      clear hNow
      have hNow := (And.intro (callC near hHeld.1) (And.intro (callC near hHeld.2.1) (And.intro (callC near hHeld.2.2.1) (And.intro (callC near hHeld.2.2.2.1) (And.intro (callC near hHeld.2.2.2.2.1) (And.intro (callC near hHeld.2.2.2.2.2.1) (callC near hHeld.2.2.2.2.2.2)))))))
      refine hK.out _ _ hNow ?_
      clear hK K
      try simp only [Act.put]
      try simp only [List.setIfInBounds_toArray, List.set_cons_zero, List.set_cons_succ]
      generalize wy.alloc (.cells zeroA 80) = wz at *
      generalize wy.heap.size = ga at *
      refine relist (l2 := #[true, true, true, true, true, true, true, true, true, true, true, true, true, true, false, false, false]) (by kernel_rfl) ?_
      exact hE _ _ ⟨near, sz, box⟩
    · refine op_newW tyWay ?_
      have box := Box.new wN 80 zeroA
      replace near := gAlloc near (.cells zeroA 80)
      have hNow := (And.intro (callC near hHeld.1) (And.intro (callC near hHeld.2.1) (And.intro (callC near hHeld.2.2.1) (And.intro (callC near hHeld.2.2.2.1) (And.intro (callC near hHeld.2.2.2.2.1) (And.intro (callC near hHeld.2.2.2.2.2.1) (callC near hHeld.2.2.2.2.2.2)))))))
      refine hK.out _ _ hNow ?_
      clear hK K
      try simp only [Act.put]
      try simp only [List.setIfInBounds_toArray, List.set_cons_zero, List.set_cons_succ]
      clear hNow
      have cs2 := cs.call near
      generalize wN.alloc (.cells zeroA 80) = wx at *
      generalize hga : wN.heap.size = ga at box ⊢
      have HGA := Lib.hid hga
      clear hga
      refine stepNext (i := 8) (by kernel_rfl) rfl (by rfl) (fun K hK => ?_)
      go_simp
      (with_reducible refine (FI.out _ _ cs2).mono ?_); rintro e wy ⟨rfl, hb⟩
      replace near := gCall near hb
      replace box := box.call hb
      have hNow := (And.intro (callC near hHeld.1) (And.intro (callC near hHeld.2.1) (And.intro (callC near hHeld.2.2.1) (And.intro (callC near hHeld.2.2.2.1) (And.intro (callC near hHeld.2.2.2.2.1) (And.intro (callC near hHeld.2.2.2.2.2.1) (callC near hHeld.2.2.2.2.2.2)))))))
      refine hK.out _ _ hNow ?_
      clear hK K
      try simp only [Act.put]
      try simp only [List.setIfInBounds_toArray, List.set_cons_zero, List.set_cons_succ]
      refine takeFirst (i := 9) (v := ?_) rfl (by kernel_rfl) (by kernel_rfl) (by kernel_rfl) (by rfl) (fun _ _ _ h => h) ?_ (by assumption) ?_
      rotate_left
      · (intro w hSw; go_simp; try (with_reducible rfl))
      try simp only [Act.put, List.setIfInBounds_toArray, List.set_cons_zero, List.set_cons_succ]
      refine takeFirst (i := 10) (v := ?_) rfl (by kernel_rfl) (by kernel_rfl) (by kernel_rfl) (by rfl) (fun _ _ _ h => h) ?_ (by assumption) ?_
      rotate_left
      · (intro w hSw; go_simp; try (with_reducible rfl))
      try simp only [Act.put, List.setIfInBounds_toArray, List.set_cons_zero, List.set_cons_succ]
      refine takeFirst (i := 11) (v := ?_) rfl (by kernel_rfl) (by kernel_rfl) (by kernel_rfl) (by rfl) (fun _ _ _ h => h) ?_ (by assumption) ?_
      rotate_left
      · (intro w hSw; go_simp; try (with_reducible rfl))
      try simp only [Act.put, List.setIfInBounds_toArray, List.set_cons_zero, List.set_cons_succ]
      refine takeFirst (i := 12) (v := ?_) rfl (by kernel_rfl) (by kernel_rfl) (by kernel_rfl) (by rfl) (fun _ _ _ h => h) ?_ (by assumption) ?_
      rotate_left
      · (intro w hSw; go_simp; try (with_reducible rfl))
      try simp only [Act.put, List.setIfInBounds_toArray, List.set_cons_zero, List.set_cons_succ]
      refine relist (l2 := #[true, true, true, true, true, true, true, true, true, true, true, true, true, true, false, false, false]) (by kernel_rfl) ?_
      exact hE _ _ ⟨near, Nat.le_of_eq HGA.out, box⟩
  intro gx wz mid
  have zo := ob.lt
  have zd := db.lt
  obtain ⟨near2, gnew, xb⟩ := mid
  replace ob := ob.call near2
  replace db := db.call near2
  replace cb := cb.call near2
  replace wb := wb.call near2
  replace h := h.call near2
  replace low := gCall low near2
  clear near cs
  refine stepNext (i := 14) (by kernel_rfl) rfl (by rfl) (fun K hK => ?_)
  refine wp_store_box 80 (.tmp 14) (.tmp 62) rfl _ _ rfl rfl xb (tyWay.size.trans rfl) rfl (way_one z) ?_
  intro w4 xb4 st4
  replace ob := st4.box ob (by omega)
  replace db := st4.box db (by omega)
  replace cb := st4.box cb (by omega)
  replace wb := st4.box wb (by omega)
  have low4 := st4.low low (by omega)
  have bbz : bb ≠ gx := by have := low.size; omega
  have ce4 := (low4.cell (p := ⟨bb, o + i0, none⟩) hbb).trans CE.out
  have h4 : Ks w4 (.slice (some ⟨bb, o, none⟩) css.length cp) css := H0.out.call low4
  have hNow := (And.intro (cb.at_ 0 rfl) (And.intro (cb.at_ 1 rfl) (And.intro (cb.at_ 2 rfl) (And.intro (cb.at_ 3 rfl) (And.intro (wb.at_ 0 (wldA_zero _ _)) (And.intro (db.at_ 0 rfl) ce4))))))
  refine hK.out _ _ hNow ?_
  clear hK K st4 xb hNow hHeld near2 h low
  try simp only [Act.put]
  try simp only [List.setIfInBounds_toArray, List.set_cons_zero, List.set_cons_succ]
  have hNow := (And.intro (cb.at_ 0 rfl) (And.intro (cb.at_ 1 rfl) (And.intro (cb.at_ 2 rfl) (And.intro (cb.at_ 3 rfl) (And.intro (wb.at_ 0 (wldA_zero _ _)) (And.intro (db.at_ 0 rfl) ce4))))))
  refine takeFirst (i := 15) (v := ?_) rfl (by kernel_rfl) (by kernel_rfl) (by kernel_rfl) (by rfl) (fun _ _ _ h => h) ?_ (by assumption) ?_
  rotate_left
  · (intro w hSw; go_simp; try (with_reducible rfl))
  try simp only [Act.put, List.setIfInBounds_toArray, List.set_cons_zero, List.set_cons_succ]
  refine takeFirst (i := 16) (v := ?_) rfl (by kernel_rfl) (by kernel_rfl) (by kernel_rfl) (by rfl) (fun _ _ _ h => h) ?_ (by assumption) ?_
  rotate_left
  · (intro w hSw; go_simp; try (with_reducible rfl))
  try simp only [Act.put, List.setIfInBounds_toArray, List.set_cons_zero, List.set_cons_succ]
  refine wpAnyH_done (by kernel_rfl) ?_ _
  refine NoPanic.normal ?_
  clear hNow ce4
  have wr := wb.range
  have cb_0 := cb.at_ 0 rfl
  have cb_1 := cb.at_ 1 rfl
  have cb_2 := cb.at_ 2 rfl
  have cb_3 := cb.at_ 3 rfl
  go_wp2_with ((with_reducible refine wp_loadW (tyWorld) (wr) (wld_size hm) ?_ ?_ ?_); rfl; rfl)
  (with_reducible refine (HO.out _ h4).mono ?_); rintro e w5 ⟨⟨A5, c5, rfl, sl⟩, hb⟩
  clear cb_0 cb_1 cb_2 cb_3
  replace ob := ob.call hb
  replace db := db.call hb
  have xb := xb4.call hb
  have low := gCall low4 hb
  clear hb wr wb cb h4 low4 xb4 HO
  have CO := Lib.hid (containsOther (.slice A5 xs.length c5) xs (w.heap.size + 1 + 1) i0 w5.drew sl (drewC (db.at_ 0 rfl)))
  rw [HB.out] at CO
  have x0 := xb.at_ 0 rfl
  clear sl
  go_wp2_with fail
  refine wp_region_noPanic ?_
  refine wp_region_held_drew (S := fun w' => w'.cell? ⟨gx, 0, none⟩ = some (.int .i64 z.st)) (by kernel_rfl) (drewC x0) (fun hHeld => ?_)
  clear x0
  replace ob := ob.drew
  replace xb := xb.drew
  replace low := low.drew
  refine takeFirst (i := 0) (v := ?_) rfl (by kernel_rfl) (by kernel_rfl) (by kernel_rfl) (by rfl) (fun _ _ _ h => h) ?_ (by assumption) ?_
  rotate_left
  · (intro w hSw; go_simp; try (with_reducible rfl))
  try simp only [Act.put, List.setIfInBounds_toArray, List.set_cons_zero, List.set_cons_succ]
  refine takeFirst (i := 1) (v := ?_) rfl (by kernel_rfl) (by kernel_rfl) (by kernel_rfl) (by rfl) (fun _ _ _ h => h) ?_ (by assumption) ?_
  rotate_left
  · (intro w hSw; go_simp; try (with_reducible rfl))
  try simp only [Act.put, List.setIfInBounds_toArray, List.set_cons_zero, List.set_cons_succ]
  refine takeFirst (i := 2) (v := ?_) rfl (by kernel_rfl) (by kernel_rfl) (by kernel_rfl) (by rfl) (fun _ _ _ h => h) ?_ (by assumption) ?_
  rotate_left
  · (intro w hSw; go_simp; try (with_reducible rfl))
  try simp only [Act.put, List.setIfInBounds_toArray, List.set_cons_zero, List.set_cons_succ]
  refine takeFirst (i := 3) (v := ?_) rfl (by kernel_rfl) (by kernel_rfl) (by kernel_rfl) (by rfl) (fun _ _ _ h => h) ?_ (by assumption) ?_
  rotate_left
  · (intro w hSw; go_simp; try (with_reducible rfl))
  try simp only [Act.put, List.setIfInBounds_toArray, List.set_cons_zero, List.set_cons_succ]
  refine takeFirst (i := 4) (v := ?_) rfl (by kernel_rfl) (by kernel_rfl) (by kernel_rfl) (by rfl) (fun _ _ _ h => h) ?_ (by assumption) ?_
  rotate_left
  · (intro w hSw; go_simp; try (with_reducible rfl))
  try simp only [Act.put, List.setIfInBounds_toArray, List.set_cons_zero, List.set_cons_succ]
  refine takeFirst (i := 7) (v := ?_) rfl (by kernel_rfl) (by kernel_rfl) (by kernel_rfl) (by rfl) (fun _ _ _ h => h) ?_ (by assumption) ?_
  rotate_left
  · (intro w hSw; go_simp; try (with_reducible rfl))
  try simp only [Act.put, List.setIfInBounds_toArray, List.set_cons_zero, List.set_cons_succ]
  refine stepNext (i := 5) (by kernel_rfl) rfl (by rfl) (fun K hK => ?_)
  go_simp
  (with_reducible refine CO.out.mono ?_); rintro e w' ⟨rfl, rfl⟩
  refine hK.out _ _ hHeld ?_
  clear hK K
  try simp only [Act.put]
  try simp only [List.setIfInBounds_toArray, List.set_cons_zero, List.set_cons_succ]
  refine takeFirst (i := 6) (v := ?_) rfl (by kernel_rfl) (by kernel_rfl) (by kernel_rfl) (by rfl) (fun _ _ _ h => h) ?_ (by assumption) ?_
  rotate_left
  · (intro w hSw; go_simp; try (with_reducible rfl))
  try simp only [Act.put, List.setIfInBounds_toArray, List.set_cons_zero, List.set_cons_succ]
  refine takeFirst (i := 8) (v := ?_) rfl (by kernel_rfl) (by kernel_rfl) (by kernel_rfl) (by rfl) (fun _ _ _ h => h) ?_ (by assumption) ?_
  rotate_left
  · (intro w hSw; go_simp; try (with_reducible rfl))
  try simp only [Act.put, List.setIfInBounds_toArray, List.set_cons_zero, List.set_cons_succ]
  refine stepNext (i := 9) (by kernel_rfl) rfl (by rfl) (fun K hK => ?_)
  refine wp_store_box 179 (.tmp 6) (.tmp 90) rfl _ _ rfl rfl ob (tyPlace.size.trans rfl) rfl (plc_one L z.st (!B) O) ?_
  intro w6 ob6 st6
  replace xb := st6.box xb (by omega)
  replace low := st6.low low (by omega)
  have hNow := xb.at_ 0 rfl
  refine hK.out _ _ hNow ?_
  clear hK K st6 ob hHeld
  try simp only [Act.put]
  refine takeFirst (i := 10) (v := ?_) rfl (by kernel_rfl) (by kernel_rfl) (by kernel_rfl) (by rfl) (fun _ _ _ h => h) ?_ (by assumption) ?_
  rotate_left
  · (intro w hSw; go_simp; try (with_reducible rfl))
  try simp only [Act.put, List.setIfInBounds_toArray, List.set_cons_zero, List.set_cons_succ]
  refine wpAnyH_done (by kernel_rfl) ?_ _
  refine NoPanic.normal ?_
  clear hNow
  go_wp2_with fail
  exact bodyPost_ret (v := .tuple #[plcV L z.st (!B) O, .int .i64 0]) (results_first tyPlace Tryz.results102 rfl rfl ob6 rfl) rfl ⟨rfl, low⟩
end Go.Proofs.YtgdacpcifnpojaaGreat

/- DeedOthers: Proved: words for slices of caches that are new; what otherCaches of package deed returns; it changes nothing that was there. Conditions: the caches, the line and the kind are right. -/
namespace Go.Proofs.YtgdacpcifnpojaaGreat
open Go.ChangeShapes Go.WideShapes Go.ChangeAt Go.RowKit Go.Joins

/-- Cache j of the slice in block 'g' is new: it lies in no block below 'B', and in none from 'C' on. -/
def KMade (w : World) (B C g : Nat) (us : List Value) (css : List (List St)) (j : Nat) : Prop :=
  ∀ sa, css[j]? = some sa → ∃ A c, us[j]? = some (.slice A sa.length c) ∧ ∃ B' C', B ≤ B' ∧ C' ≤ C ∧ (C' ≤ g ∨ g < B') ∧ CFr w B' C' (.slice A sa.length c) sa
section
variable {w w' : World} {B C B' C' g : Nat} {us : List Value} {css : List (List St)} {j : Nat}
theorem KMade.call (h : KMade w B C g us css j) (hb : Below w.heap.size w w') : KMade w' B C g us css j := fun sa hs => by
  obtain ⟨A, c, h1, B', C', h2, h3, h4, h5⟩ := h sa hs
  exact ⟨A, c, h1, B', C', h2, h3, h4, h5.call hb⟩
theorem KMade.more (h : KMade w B C g us css j) (hB : B' ≤ B) (hC : C ≤ C') : KMade w B' C' g us css j := fun sa hs => by
  obtain ⟨A, c, h1, B1, C1, h2, h3, h4, h5⟩ := h sa hs
  exact ⟨A, c, h1, B1, C1, by omega, by omega, h4, h5⟩
theorem KMade.out (h : KMade w B C g us css j) {x : Nat} (st : Stored w x w') (hx : x < B ∨ C ≤ x) : KMade w' B C g us css j := fun sa hs => by
  obtain ⟨A, c, h1, B', C', h2, h3, h4, h5⟩ := h sa hs
  exact ⟨A, c, h1, B', C', h2, h3, h4, h5.out st (by omega)⟩
/-- The slice's own block is stored into, at another place. -/
theorem KMade.past (h : KMade w B C g us css j) (st : Stored w g w') {k : Nat} (hk : k ≠ j) (u : Value) : KMade w' B C g (us.set k u) css j := fun sa hs => by
  obtain ⟨A, c, h1, B', C', h2, h3, h4, h5⟩ := h sa hs
  exact ⟨A, c, by rw [List.getElem?_set_ne hk]; exact h1, B', C', h2, h3, h4, h5.out st (by omega)⟩
/-- .. at its own place. -/
theorem KMade.set (st : Stored w g w') (hj : j < us.length) {A : Option Addr} {c : Nat} {sa : List St} (hs : css[j]? = some sa) (hB : B ≤ B') (hC : C' ≤ C) (hg : C' ≤ g ∨ g < B') (cf : CFr w B' C' (.slice A sa.length c) sa) : KMade w' B C g (us.set j (.slice A sa.length c)) css j := fun sa' hs' => by
  rw [hs] at hs'
  cases hs'
  exact ⟨A, c, List.getElem?_set_self hj, B', C', hB, hC, hg, cf.out st (by omega)⟩
end

/-- A slice of caches that is new. -/
structure KFr (w : World) (B C : Nat) (v : Value) (css : List (List St)) : Prop where
  ex : ∃ g us, v = .slice (some ⟨g, 0, none⟩) css.length css.length ∧ us.length = css.length ∧ css.length ≤ maxLen ∧ B ≤ g ∧ g < C ∧ Box w g 72 us.toArray ∧ ∀ j, KMade w B C g us css j
section
variable {w w' : World} {B C B' C' : Nat} {v : Value} {css : List (List St)}
theorem KFr.call (h : KFr w B C v css) (hb : Below w.heap.size w w') : KFr w' B C v css := by
  obtain ⟨g, us, e, h1, h2, h3, h4, h5, h6⟩ := h
  exact ⟨g, us, e, h1, h2, h3, h4, h5.call hb, fun j => (h6 j).call hb⟩
theorem KFr.alloc (h : KFr w B C v css) (o : Obj) : KFr (w.alloc o) B C v css := h.call (gAlloc (Below.refl _ _) o)
theorem KFr.more (h : KFr w B C v css) (hB : B' ≤ B) (hC : C ≤ C') : KFr w B' C' v css := by
  obtain ⟨g, us, e, h1, h2, h3, h4, h5, h6⟩ := h
  exact ⟨g, us, e, h1, h2, by omega, by omega, h5, fun j => (h6 j).more hB hC⟩
theorem KFr.out (h : KFr w B C v css) {x : Nat} (st : Stored w x w') (hx : x < B ∨ C ≤ x) : KFr w' B C v css := by
  obtain ⟨g, us, e, h1, h2, h3, h4, h5, h6⟩ := h
  exact ⟨g, us, e, h1, h2, h3, h4, st.box h5 (by omega), fun j => (h6 j).out st hx⟩
theorem KFr.shape (h : KFr w B C v css) : ∃ A c, v = .slice A css.length c := by
  obtain ⟨g, us, e, _⟩ := h
  exact ⟨_, _, e⟩
theorem KFr.ks (h : KFr w B C v css) : Ks w v css := by
  obtain ⟨g, us, e, h1, h2, h3, h4, h5, h6⟩ := h
  refine ⟨_, _, e, Nat.le_refl _, h2, fun _ => ⟨g, 0, rfl, h5.lt, fun k ss hk => ?_⟩⟩
  obtain ⟨A, c, k1, B', C', _, _, _, k5⟩ := h6 k ss hk
  refine ⟨A, c, ?_, k5.cs⟩
  rw [h5.cell, Nat.zero_add, List.getElem?_toArray]
  exact k1
end

set_option maxRecDepth 10000 in
set_option maxHeartbeats 1000000 in
theorem otherCaches_ok (n s y b : Int) (v : Value) (css css' : List (List St)) (i0 : Nat) (d : Dd) (hd : d.nd = i0) (k : Nat) (w : World) (h : Ks w v css) (n8 : css.length ≤ 8) (hlen : css'.length = css.length)
    (OC : ∀ i, i < css.length → i ≠ i0 → ∀ v w, Cs w v (css.getD i []) → Calls Tryz.prog 138 #[cfg n s y b, v, .int .i64 d.kd, .int .i64 k] w (GaveC w (css.getD i []) (css'.getD i []))) :
    Calls Tryz.prog 105 #[cfg n s y b, v, d.val, .int .i64 k] w fun e w' => (∃ us : List Value, us.length = css.length ∧ e = .returned (.tuple #[.slice (some ⟨w.heap.size + 1 + 1, 0, none⟩) css.length css.length, .int .i64 0]) ∧
      Box w' (w.heap.size + 1 + 1) 72 us.toArray ∧ ∀ j, j ≠ i0 → KMade w' (w.heap.size + 1 + 1) w'.heap.size (w.heap.size + 1 + 1) us css' j) ∧ Below w.heap.size w w' := by
  obtain ⟨dn, dk, da, dv⟩ := d
  simp only at hd OC
  subst hd
  have HC := Lib.hid OC
  have HLE := Lib.hid hlen
  obtain ⟨A, cp, rfl, h1, h2, h3⟩ := h
  have H3 := Lib.hid h3
  have MS := fun w => make_caches css.length n8 w
  unfold maxLen at h2
  clear h3 OC hlen
  have low := Below.refl w.heap.size w
  have cb := boxNext low 23 (cfgA n s y b)
  replace low := gAlloc low (.cells (cfgA n s y b) 23)
  try simp only [World.size_alloc] at cb
  have db := boxNext low 59 #[.int .i64 (i0 : Int), .int .i64 dk, .int .i64 da, .int .u64 dv]
  replace low := gAlloc low (.cells #[.int .i64 (i0 : Int), .int .i64 dk, .int .i64 da, .int .u64 dv] 59)
  replace cb := cb.alloc (.cells #[.int .i64 (i0 : Int), .int .i64 dk, .int .i64 da, .int .u64 dv] 59)
  try simp only [World.size_alloc] at db
  have ab := boxNext low 72 (nilsA css.length)
  replace low := gAlloc low (.cells (nilsA css.length) 72)
  replace cb := cb.alloc (.cells (nilsA css.length) 72)
  replace db := db.alloc (.cells (nilsA css.length) 72)
  try simp only [World.size_alloc] at ab
  go_enter Tryz.func105, Tryz.ntmps105
  go_wp2_with fail
  clear MS
  go_loopw [20] (fun a wr => ∃ j : Nat, j ≤ css.length ∧ a = .int .i64 j ∧ Hid (∃ us : List Value, us.length = css.length ∧ Box wr (w.heap.size + 1 + 1) 72 us.toArray ∧ ∀ q, q < j → q ≠ i0 → KMade wr (w.heap.size + 1 + 1) wr.heap.size (w.heap.size + 1 + 1) us css' q) ∧
    Box wr w.heap.size 23 (cfgA n s y b) ∧ Box wr (w.heap.size + 1) 59 #[.int .i64 (i0 : Int), .int .i64 dk, .int .i64 da, .int .u64 dv] ∧ Below w.heap.size w wr) (fun a _ => css.length - (intOf a).toNat)
  case atStart => exact ⟨0, Nat.zero_le _, rfl, Lib.hid ⟨_, by simp, ab, fun q hq => absurd hq (by omega)⟩, cb, db, low⟩
  case round =>
    clear ab cb db low
    obtain ⟨j, hj, rfl, hus, cb, db, low⟩ := hrel
    simp only [cfgA] at cb
    obtain ⟨us, ulen, ab, hkm⟩ := hus.out
    have HKM := Lib.hid hkm
    have HUL := Lib.hid ulen
    clear hus hkm ulen
    by_cases hlt : j < css.length
    · obtain ⟨bb, o, rfl, hb, hc⟩ := H3.out (by omega)
      have hx : css[j]? = some css[j] := List.getElem?_eq_getElem _
      have hxd : css.getD j [] = css[j] := by simp [List.getD, hx]
      generalize css[j] = ss at hx hxd
      obtain ⟨A', c', ce, cs⟩ := hc j ss hx
      replace ce := (low.cell (p := ⟨bb, o + j, none⟩) hb).trans ce
      replace cs := cs.call low
      have CS := Lib.hid cs
      have HXD := Lib.hid hxd
      clear hx hc hxd cs
      have k0 : (0 : Int) ≤ j := by omega
      have k1 : (j : Int) < css.length := by omega
      have db_0 := db.at_ 0 rfl
      have db_1 := db.at_ 1 rfl
      by_cases hji : j = i0
      · have e0 : ((j : Int) == (i0 : Int)) = true := by simp [hji]
        have HJ := Lib.hid hji
        clear hji
        go_wp2_with fail
        go_roundw
        case rel => exact ⟨j + 1, by omega, by go_num, Lib.hid ⟨us, HUL.out, ab, fun q hq hne => HKM.out q (by have := HJ.out; omega) hne⟩, cb, db, low⟩
        case measure => simp [intOf]; omega
      · have e0 : ((j : Int) == (i0 : Int)) = false := by simp; omega
        have CW := Lib.hid (fun v w hw => HC.out j hlt hji v w hw)
        rw [HXD.out] at CW
        have HJ := Lib.hid hji
        have hs' : css'[j]? = some (css'.getD j []) := by have := HLE.out; simp [List.getD, show j < css'.length by omega]
        generalize css'.getD j [] = sa at CW hs'
        have HS := Lib.hid hs'
        clear hji hs'
        have uj : us.toArray[j]? = some (us[j]'(by have := HUL.out; omega)) := by rw [List.getElem?_toArray]; exact List.getElem?_eq_getElem _
        generalize us[j]'(by have := HUL.out; omega) = u at uj
        have za := ab.lt
        have cb_0 := cb.at_ 0 rfl
        have cb_1 := cb.at_ 1 rfl
        have cb_2 := cb.at_ 2 rfl
        have cb_3 := cb.at_ 3 rfl
        go_wp2_with fail
        (with_reducible refine (CW.out _ _ CS.out).mono ?_); rintro e w3 ⟨⟨A3, c3, rfl, cf⟩, hb3⟩
        clear db_0 db_1 cb_0 cb_1 cb_2 cb_3
        have hl3 : sa.length = ss.length := by obtain ⟨A4, c4, e4⟩ := cf.shape; simp only [Value.slice.injEq] at e4; exact e4.2.1.symm
        have CF := Lib.hid cf
        have HL3 := Lib.hid hl3
        replace ab := ab.call hb3
        replace cb := cb.call hb3
        replace db := db.call hb3
        replace low := gCall low hb3
        have HK3 := Lib.hid (fun q (hq : q < j) (hne : q ≠ i0) => ((HKM.out q hq hne).call hb3).more (Nat.le_refl _) hb3.size)
        clear hb3 HKM cf ce CS hl3
        have ac := ab.at_ j uj
        have af := ab.frozen j
        go_wp2_with fail
        have st : Stored w3 (w.heap.size + 1 + 1) (w3.setCell ⟨w.heap.size + 1 + 1, j, none⟩ (.slice A3 ss.length c3)) := Stored.cell1 w3 ⟨w.heap.size + 1 + 1, j, none⟩ _
        have ab4 := ab.set j (.slice A3 ss.length c3)
        rw [List.setIfInBounds_toArray] at ab4
        have cb4 := st.box cb (by omega)
        have db4 := st.box db (by omega)
        have low4 := st.low low (by omega)
        have HK4 := Lib.hid (show ∀ q, q < j + 1 → q ≠ i0 → KMade (w3.setCell ⟨w.heap.size + 1 + 1, j, none⟩ (.slice A3 ss.length c3)) (w.heap.size + 1 + 1) (w3.setCell ⟨w.heap.size + 1 + 1, j, none⟩ (.slice A3 ss.length c3)).heap.size (w.heap.size + 1 + 1) (us.set j (.slice A3 ss.length c3)) css' q from fun q hq hne => by
          rw [st.size]
          by_cases e : q = j
          · subst e
            have hcf := CF.out
            have e5 := HL3.out
            rw [← e5] at hcf st ⊢
            exact KMade.set st (by have := HUL.out; omega) HS.out (by omega) (Nat.le_refl _) (.inr (by omega)) hcf
          · exact (HK3.out q (by omega) hne).past st (fun h => e h.symm) _)
        go_roundw
        case rel => exact ⟨j + 1, by omega, by go_num, Lib.hid ⟨_, by rw [List.length_set]; exact HUL.out, ab4, HK4.out⟩, cb4, db4, low4⟩
        case measure => simp [intOf]; omega
    · obtain rfl : j = css.length := by omega
      go_wp2_with fail
      go_ret2
      exact ⟨⟨us, HUL.out, rfl, ab, fun q hne => by
        by_cases hq : q < css.length
        · exact HKM.out q hq hne
        · intro sa hs
          have := (List.getElem?_eq_some_iff.1 hs).1
          have := HLE.out
          omega⟩, low⟩
end Go.Proofs.YtgdacpcifnpojaaGreat

/- WorldBuild: Proved: a world is built of any slice and any memory. Condition: the memory has 64 words. -/
namespace Go.Proofs.YtgdacpcifnpojaaGreat
open Go.ChangeShapes Go.WideShapes Go.ChangeAt Go.RowKit Go.Joins

theorem foldl_set : ∀ (l : List Value) (j off : Nat) (cs : Array Value) (i : Nat), off + j + l.length ≤ cs.size →
    ((l.zipIdx j).foldl (fun (cs : Array Value) (p : Value × Nat) => cs.setIfInBounds (off + p.2) p.1) cs)[i]? = if off + j ≤ i ∧ i < off + j + l.length then l[i - (off + j)]? else cs[i]?
  | [], j, off, cs, i, h => by rw [if_neg (by simp)]; rfl
  | c :: r, j, off, cs, i, h => by
    simp only [List.length_cons] at h ⊢
    rw [List.zipIdx_cons, List.foldl_cons, foldl_set r (j + 1) off _ i (by rw [Array.size_setIfInBounds]; omega)]
    by_cases h1 : off + (j + 1) ≤ i ∧ i < off + (j + 1) + r.length
    · rw [if_pos h1, if_pos (by omega), show i - (off + j) = (i - (off + (j + 1))) + 1 by omega, List.getElem?_cons_succ]
    · rw [if_neg h1, Array.getElem?_setIfInBounds]
      by_cases h2 : off + j = i
      · subst h2
        rw [if_pos rfl, if_pos (by dsimp only; omega), if_pos (by omega)]
        simp
      · rw [if_neg h2, if_neg (by omega)]

theorem built_world (parts : List (Nat × Value)) : Tryz.prog.built 31 parts = Instr.fill (#[(0, 1), (1, 64)][·]?) (wldA (.slice none 0 0) zeroL) parts := by kernel_rfl

theorem build_any (A : Option Addr) (n c : Nat) (m : List Int) (hm : m.length = 64) (w : World) : (Instr.build 31 #[(0, .slice A n c), (1, memV m)]).run Tryz.prog w = .ok (wldV (.slice A n c) m) w := by
  refine run_build w _ _ _ ?_
  rw [built_world]
  have e1 : (memV m).cells = memA m := rfl
  have e0 : (Value.slice A n c).cells = #[Value.slice A n c] := rfl
  have z1 : (wldA (.slice none 0 0) zeroL).size = 65 := zero_size
  simp only [Instr.fill, e0, e1, memA_size, hm, z1]
  simp only [List.getElem?_toArray, List.getElem?_cons_zero, List.getElem?_cons_succ]
  rw [if_neg (by simp)]
  have e2 : (#[Value.slice A n c].zipIdx.foldl (fun cs x => match x with | (c, j) => cs.setIfInBounds (0 + j) c) (wldA (.slice none 0 0) zeroL)) = wldA (.slice A n c) zeroL := by kernel_rfl
  rw [e2]
  have z2 : (wldA (.slice A n c) zeroL).size = 65 := by rw [wldA_size, zeroL_length]
  rw [if_neg (by rw [z2]; simp)]
  congr 1
  refine Array.ext_getElem? fun i => ?_
  rw [← Array.foldl_toList, Array.toList_zipIdx]
  refine (foldl_set (memA m).toList 0 1 _ i (by rw [Array.length_toList, memA_size, hm, z2]; omega)).trans ?_
  rw [Array.length_toList, memA_size, hm, memA_list]
  unfold wldA
  rw [List.getElem?_toArray, List.getElem?_toArray]
  by_cases h : 1 + 0 ≤ i ∧ i < 1 + 0 + 64
  · rw [if_pos h]
    obtain ⟨j, rfl⟩ : ∃ j, i = j + 1 := ⟨i - 1, by omega⟩
    rw [List.getElem?_cons_succ]
    rfl
  · rw [if_neg h]
    cases i with
    | zero => rfl
    | succ j =>
      rw [List.getElem?_cons_succ, List.getElem?_cons_succ, List.getElem?_eq_none (by simp [zeroL]; omega), List.getElem?_eq_none (by simp; omega)]

theorem exec_buildM {ρ : Operand → Value} {dst : Option Tmp} {t : TypeId} {pos : String} {after : Array Edge} {gd : Option (Nat × Bool)} {x y : Operand} {A : Option Addr} {n c : Nat} {m : List Int} (hm : m.length = 64) {w : World} (hx : ρ x = .slice A n c) (hy : ρ y = memV m) :
    (execOp ρ ⟨dst, .build 31 #[(0, x), (1, y)], t, pos, after, gd⟩).run Tryz.prog w = .ok (.value (wldV (.slice A n c) m)) w := by
  unfold execOp
  simp only [List.map_toArray, List.map_cons, List.map_nil, hx, hy, Sem.run_bind, build_any A n c m hm, Result.andThen_ok, Sem.run_pure]
end Go.Proofs.YtgdacpcifnpojaaGreat

/- DeedDo: Proved: what Do of package deed returns where it finds an error ahead of the caches, and what Hit returns; they change nothing that was there. No condition. -/
namespace Go.Proofs.YtgdacpcifnpojaaGreat
open Go.ChangeShapes Go.WideShapes Go.ChangeAt Go.RowKit Go.Joins

theorem results_two {fn : Func} {T T' : TypeId} {z z' : Array Value} (ty : Ty T z) (ty' : Ty T' z') {tmps : Array Value} {i j k g g' : Nat} {cs cs' : Array Value} {u : Value} {w : World} (hr : fn.results = #[.cell i T, .cell j T', .tmp k]) (hi : tmps.getD i undef = .pointer (some ⟨g, 0, none⟩)) (hj : tmps.getD j undef = .pointer (some ⟨g', 0, none⟩)) (hk : tmps.getD k undef = u) (hb : Box w g T cs) (hs : cs.size = z.size) (hb' : Box w g' T' cs') (hs' : cs'.size = z'.size) :
    (results fn tmps).run Tryz.prog w = .ok (.tuple #[.agg cs, .agg cs', u]) w := by
  rw [Array.getD_eq_getD_getElem?] at hi hj hk
  simp [results, hr, hi, hj, hk, asAddr, load_whole ty hb.range hs, load_whole ty' hb'.range hs']

theorem nilW_one : nilW.all (·.oneCell') = true := wldA_one _
theorem nilW_size : nilW.size = (wldA (.slice none 0 0) zeroL).size := rfl
abbrev done0 : Array Value := doneA 0 false 0 0 false
theorem done0_size : done0.size = (doneA 0 false 0 0 false).size := rfl
theorem done0_one : done0.all (·.oneCell') = true := done_one _ _ _ _ _


set_option maxRecDepth 10000 in
set_option maxHeartbeats 2000000 in
theorem do_bad (n s y b : Int) (v : Value) (m : List Int) (css : List (List St)) (d : Dd) (w : World) (h : Ks w v css) (hm : m.length = 64) (he : findE n s y b css m d ≠ 0) :
    Calls Tryz.prog 85 #[cfg n s y b, wldV v m, d.val] w fun e w' => e = .returned (.tuple #[.agg nilW, .agg done0, .int .i64 (findE n s y b css m d)]) ∧ Below w.heap.size w w' := by
  have F := Lib.hid fun w hw => find_bad n s y b v m css d w hw hm he
  generalize findE n s y b css m d = E at *
  have e1 : (E != 0) = true := by simpa using he
  obtain ⟨dn, dk, da, dv⟩ := d
  clear he
  have low := Below.refl w.heap.size w
  have cb := boxNext low 23 (cfgA n s y b)
  replace low := gAlloc low (.cells (cfgA n s y b) 23)
  replace h := h.alloc (.cells (cfgA n s y b) 23)
  try simp only [World.size_alloc] at cb
  have wb := boxNext low 31 (wldA v m)
  replace low := gAlloc low (.cells (wldA v m) 31)
  replace cb := cb.alloc (.cells (wldA v m) 31)
  replace h := h.alloc (.cells (wldA v m) 31)
  try simp only [World.size_alloc] at wb
  have db := boxNext low 59 #[.int .i64 dn, .int .i64 dk, .int .i64 da, .int .u64 dv]
  replace low := gAlloc low (.cells #[.int .i64 dn, .int .i64 dk, .int .i64 da, .int .u64 dv] 59)
  replace cb := cb.alloc (.cells #[.int .i64 dn, .int .i64 dk, .int .i64 da, .int .u64 dv] 59)
  replace wb := wb.alloc (.cells #[.int .i64 dn, .int .i64 dk, .int .i64 da, .int .u64 dv] 59)
  replace h := h.alloc (.cells #[.int .i64 dn, .int .i64 dk, .int .i64 da, .int .u64 dv] 59)
  try simp only [World.size_alloc] at db
  have ob := boxNext low 31 nilW
  replace low := gAlloc low (.cells nilW 31)
  replace cb := cb.alloc (.cells nilW 31)
  replace wb := wb.alloc (.cells nilW 31)
  replace db := db.alloc (.cells nilW 31)
  replace h := h.alloc (.cells nilW 31)
  try simp only [World.size_alloc] at ob
  have eb := boxNext low 159 done0
  replace low := gAlloc low (.cells done0 159)
  replace cb := cb.alloc (.cells done0 159)
  replace wb := wb.alloc (.cells done0 159)
  replace db := db.alloc (.cells done0 159)
  replace ob := ob.alloc (.cells done0 159)
  replace h := h.alloc (.cells done0 159)
  try simp only [World.size_alloc] at eb
  have wr := wb.range
  go_enter Tryz.func85, Tryz.ntmps85
  have db_0 := db.at_ 0 rfl
  have db_1 := db.at_ 1 rfl
  have db_2 := db.at_ 2 rfl
  have db_3 := db.at_ 3 rfl
  go_wp2_with (first | (with_reducible refine wp_newW (tyWorld) ?_) | (with_reducible refine wp_newW (tyDone) ?_) | ((with_reducible refine wp_loadW (tyWorld) (wr) (wld_size hm) ?_ ?_ ?_); rfl; rfl))
  (with_reducible refine (F.out _ h).mono ?_); rintro e w1 ⟨rfl, hb⟩
  clear db_0 db_1 db_2 db_3
  replace ob := ob.call hb
  replace eb := eb.call hb
  replace db := db.call hb
  replace cb := cb.call hb
  replace wb := wb.call hb
  replace h := h.call hb
  replace low := gCall low hb
  clear hb wr F
  replace ob := ob.alloc (.cells (plcA 0 0 false 0) 179)
  replace eb := eb.alloc (.cells (plcA 0 0 false 0) 179)
  replace low := gAlloc low (.cells (plcA 0 0 false 0) 179)
  simp only [plcA] at ob eb low
  go_wp2_with (first | (with_reducible refine wp_newW (tyPlace) ?_) | (with_reducible refine wp_zeroW (tyWorld) ?_) | (with_reducible refine wp_zeroW (tyDone) ?_) | ((with_reducible refine wp_storeW (tyWorld) (ob) (rfl) (nilW_size) (nilW_one) ?_ ?_ ?_); rfl; rfl))
  intro w8 ob8 st8
  replace eb := st8.box eb (by omega)
  replace low := st8.low low (by omega)
  clear st8 ob
  go_wp2_with ((with_reducible refine wp_storeW (tyDone) (eb) (rfl) (done0_size) (done0_one) ?_ ?_ ?_); rfl; rfl)
  intro w9 eb9 st9
  replace ob8 := st9.box ob8 (by omega)
  replace low := st9.low low (by omega)
  clear st9 eb
  go_wp2_with fail
  exact bodyPost_ret (v := .tuple #[.agg nilW, .agg done0, .int .i64 (E)]) (results_two tyWorld tyDone Tryz.results85 rfl rfl rfl ob8 rfl eb9 rfl) rfl ⟨rfl, low⟩

set_option maxRecDepth 10000 in
set_option maxHeartbeats 2000000 in
theorem hit_is (n s y b : Int) (v : Value) (m : List Int) (css : List (List St)) (d : Dd) (w : World) (h : Ks w v css) (hm : m.length = 64) (k st : Int) (al : Bool) (o E : Int) (hk : E = 0 → 1 ≤ d.kd ∧ d.kd ≤ 4)
    (F : Hid (∀ w, Ks w v css → Calls Tryz.prog 102 #[cfg n s y b, wldV v m, d.val] w fun e w' => e = .returned (.tuple #[plcV k st al o, .int .i64 E]) ∧ Below w.heap.size w w')) :
    Calls Tryz.prog 87 #[cfg n s y b, wldV v m, d.val] w fun e w' => e = .returned (.tuple #[.bool (if E = 0 then locB st d.kd else false), .int .i64 E]) ∧ Below w.heap.size w w' := by
  obtain ⟨dn, dk, da, dv⟩ := d
  simp only at hk ⊢
  generalize hq : (if E = 0 then locB st dk else false) = q
  have low := Below.refl w.heap.size w
  have cb := boxNext low 23 (cfgA n s y b)
  replace low := gAlloc low (.cells (cfgA n s y b) 23)
  replace h := h.alloc (.cells (cfgA n s y b) 23)
  try simp only [World.size_alloc] at cb
  have wb := boxNext low 31 (wldA v m)
  replace low := gAlloc low (.cells (wldA v m) 31)
  replace cb := cb.alloc (.cells (wldA v m) 31)
  replace h := h.alloc (.cells (wldA v m) 31)
  try simp only [World.size_alloc] at wb
  have db := boxNext low 59 #[.int .i64 dn, .int .i64 dk, .int .i64 da, .int .u64 dv]
  replace low := gAlloc low (.cells #[.int .i64 dn, .int .i64 dk, .int .i64 da, .int .u64 dv] 59)
  replace cb := cb.alloc (.cells #[.int .i64 dn, .int .i64 dk, .int .i64 da, .int .u64 dv] 59)
  replace wb := wb.alloc (.cells #[.int .i64 dn, .int .i64 dk, .int .i64 da, .int .u64 dv] 59)
  replace h := h.alloc (.cells #[.int .i64 dn, .int .i64 dk, .int .i64 da, .int .u64 dv] 59)
  try simp only [World.size_alloc] at db
  have wr := wb.range
  by_cases he : E = 0
  · subst he
    obtain ⟨k1, k2⟩ := hk rfl
    rw [if_pos rfl] at hq
    have LC := Lib.hid fun w => isLocal_any st dk w k1 k2
    rw [hq] at LC
    clear hk hq k1 k2
    go_enter Tryz.func87, Tryz.ntmps87
    have db_0 := db.at_ 0 rfl
    have db_1 := db.at_ 1 rfl
    have db_2 := db.at_ 2 rfl
    have db_3 := db.at_ 3 rfl
    go_wp2_with (first | ((with_reducible refine wp_loadW (tyWorld) (wr) (wld_size hm) ?_ ?_ ?_); rfl; rfl))
    (with_reducible refine (F.out _ h).mono ?_); rintro e w1 ⟨rfl, hb⟩
    clear db_0 db_1 db_2 db_3
    replace db := db.call hb
    replace low := gCall low hb
    clear hb wr F
    have pb := boxNext low 179 (plcA k st al o)
    replace low := gAlloc low (.cells (plcA k st al o) 179)
    replace db := db.alloc (.cells (plcA k st al o) 179)
    try simp only [World.size_alloc] at pb
    have db_1 := db.at_ 1 rfl
    have pb_1 := pb.at_ 1 rfl
    go_wp2_with (first | (with_reducible refine wp_newW (tyPlace) ?_))
    (with_reducible refine (LC.out _).mono ?_); rintro e w' ⟨rfl, rfl⟩
    go_wp2_with fail
    go_ret2
    exact ⟨rfl, low⟩
  · rw [if_neg he] at hq
    subst hq
    have e1 : (E != 0) = true := by simpa using he
    clear hk he
    go_enter Tryz.func87, Tryz.ntmps87
    have db_0 := db.at_ 0 rfl
    have db_1 := db.at_ 1 rfl
    have db_2 := db.at_ 2 rfl
    have db_3 := db.at_ 3 rfl
    go_wp2_with (first | ((with_reducible refine wp_loadW (tyWorld) (wr) (wld_size hm) ?_ ?_ ?_); rfl; rfl))
    (with_reducible refine (F.out _ h).mono ?_); rintro e w1 ⟨rfl, hb⟩
    clear db_0 db_1 db_2 db_3
    replace low := gCall low hb
    clear hb wr F
    replace low := gAlloc low (.cells (plcA k st al o) 179)
    go_wp2_with (first | (with_reducible refine wp_newW (tyPlace) ?_))
    go_ret2
    exact ⟨rfl, low⟩
end Go.Proofs.YtgdacpcifnpojaaGreat

/- DeedDo2: Proved: what Do of package deed returns where its own cache has an error, and where there is none; it changes nothing that was there. Conditions: what the functions that it calls return, as given. -/
namespace Go.Proofs.YtgdacpcifnpojaaGreat
open Go.ChangeShapes Go.WideShapes Go.ChangeAt Go.RowKit Go.Joins



set_option maxRecDepth 10000 in
set_option maxHeartbeats 4000000 in
theorem do_none (n s y b : Int) (m : List Int) (css : List (List St)) (i0 L : Nat) (dk da dv st : Int) (al : Bool) (own qa qq qc qd u : Int) (ss : List St) (w : World) (bb o cp c' : Nat) (A' : Option Addr)
    (h : Ks w (.slice (some ⟨bb, o, none⟩) css.length cp) css) (hm : m.length = 64) (hi0 : i0 < css.length) (hbb : bb < w.heap.size) (_k1 : css.length ≤ cp) (_k2 : cp ≤ maxLen) (CE : Hid (w.cell? ⟨bb, o + i0, none⟩ = some (.slice A' ss.length c'))) (CS : Hid (Cs w (.slice A' ss.length c') ss))
    (F : Hid (∀ w, Ks w (.slice (some ⟨bb, o, none⟩) css.length cp) css → Calls Tryz.prog 102 #[cfg n s y b, wldV (.slice (some ⟨bb, o, none⟩) css.length cp) m, (⟨i0, dk, da, dv⟩ : Dd).val] w fun e w' => e = .returned (.tuple #[plcV L st al own, .int .i64 0]) ∧ Below w.heap.size w w'))
    (P : Hid (∀ w, Ks w (.slice (some ⟨bb, o, none⟩) css.length cp) css → Calls Tryz.prog 103 #[cfg n s y b, wldV (.slice (some ⟨bb, o, none⟩) css.length cp) m, (⟨i0, dk, da, dv⟩ : Dd).val, .int .i64 L] w fun e w' => e = .returned (.tuple #[line qa qq qc qd, .int .u64 u, .int .i64 0]) ∧ Below w.heap.size w w'))
    (O : Hid (∀ v w, Cs w v ss → Calls Tryz.prog 104 #[cfg n s y b, v, .int .i64 dk, plcV L st al own, line qa qq qc qd] w fun e w' => e = .returned (.tuple #[.slice none 0 0, zeroV, .int .i64 5]) ∧ Below w.heap.size w w')) :
    Calls Tryz.prog 85 #[cfg n s y b, wldV (.slice (some ⟨bb, o, none⟩) css.length cp) m, (⟨i0, dk, da, dv⟩ : Dd).val] w fun e w' => e = .returned (.tuple #[.agg nilW, .agg done0, .int .i64 5]) ∧ Below w.heap.size w w' := by
  have i1 : (i0 : Int) < css.length := by omega
  have i2 : (0 : Int) ≤ i0 := by omega
  have low := Below.refl w.heap.size w
  have cb := boxNext low 23 (cfgA n s y b)
  replace low := gAlloc low (.cells (cfgA n s y b) 23)
  replace h := h.alloc (.cells (cfgA n s y b) 23)
  try simp only [World.size_alloc] at cb
  have wb := boxNext low 31 (wldA (.slice (some ⟨bb, o, none⟩) css.length cp) m)
  replace low := gAlloc low (.cells (wldA (.slice (some ⟨bb, o, none⟩) css.length cp) m) 31)
  replace cb := cb.alloc (.cells (wldA (.slice (some ⟨bb, o, none⟩) css.length cp) m) 31)
  replace h := h.alloc (.cells (wldA (.slice (some ⟨bb, o, none⟩) css.length cp) m) 31)
  try simp only [World.size_alloc] at wb
  have db := boxNext low 59 #[.int .i64 i0, .int .i64 dk, .int .i64 da, .int .u64 dv]
  replace low := gAlloc low (.cells #[.int .i64 i0, .int .i64 dk, .int .i64 da, .int .u64 dv] 59)
  replace cb := cb.alloc (.cells #[.int .i64 i0, .int .i64 dk, .int .i64 da, .int .u64 dv] 59)
  replace wb := wb.alloc (.cells #[.int .i64 i0, .int .i64 dk, .int .i64 da, .int .u64 dv] 59)
  replace h := h.alloc (.cells #[.int .i64 i0, .int .i64 dk, .int .i64 da, .int .u64 dv] 59)
  try simp only [World.size_alloc] at db
  have ob := boxNext low 31 nilW
  replace low := gAlloc low (.cells nilW 31)
  replace cb := cb.alloc (.cells nilW 31)
  replace wb := wb.alloc (.cells nilW 31)
  replace db := db.alloc (.cells nilW 31)
  replace h := h.alloc (.cells nilW 31)
  try simp only [World.size_alloc] at ob
  have eb := boxNext low 159 done0
  replace low := gAlloc low (.cells done0 159)
  replace cb := cb.alloc (.cells done0 159)
  replace wb := wb.alloc (.cells done0 159)
  replace db := db.alloc (.cells done0 159)
  replace ob := ob.alloc (.cells done0 159)
  replace h := h.alloc (.cells done0 159)
  try simp only [World.size_alloc] at eb
  have wr := wb.range
  go_enter Tryz.func85, Tryz.ntmps85
  have db_0 := db.at_ 0 rfl
  have db_1 := db.at_ 1 rfl
  have db_2 := db.at_ 2 rfl
  have db_3 := db.at_ 3 rfl
  go_wp2_with (first | (with_reducible refine wp_newW (tyWorld) ?_) | (with_reducible refine wp_newW (tyDone) ?_) | ((with_reducible refine wp_loadW (tyWorld) (wr) (wld_size hm) ?_ ?_ ?_); rfl; rfl))
  (with_reducible refine (F.out _ h).mono ?_); rintro e w1 ⟨rfl, hb⟩
  clear db_0 db_1 db_2 db_3
  replace ob := ob.call hb
  replace eb := eb.call hb
  replace db := db.call hb
  replace cb := cb.call hb
  replace wb := wb.call hb
  replace h := h.call hb
  replace low := gCall low hb
  clear hb wr F
  have z1 := eb.lt
  have pb := boxNext low 179 (plcA L st al own)
  replace low := gAlloc low (.cells (plcA L st al own) 179)
  replace cb := cb.alloc (.cells (plcA L st al own) 179)
  replace wb := wb.alloc (.cells (plcA L st al own) 179)
  replace db := db.alloc (.cells (plcA L st al own) 179)
  replace ob := ob.alloc (.cells (plcA L st al own) 179)
  replace eb := eb.alloc (.cells (plcA L st al own) 179)
  replace h := h.alloc (.cells (plcA L st al own) 179)
  try simp only [World.size_alloc] at pb
  have wr := wb.range
  have db_0 := db.at_ 0 rfl
  have db_1 := db.at_ 1 rfl
  have db_2 := db.at_ 2 rfl
  have db_3 := db.at_ 3 rfl
  have cb_0 := cb.at_ 0 rfl
  have cb_1 := cb.at_ 1 rfl
  have cb_2 := cb.at_ 2 rfl
  have cb_3 := cb.at_ 3 rfl
  have pb_0 := pb.at_ 0 rfl
  go_wp2_with (first | (with_reducible refine wp_newW (tyPlace) ?_) | ((with_reducible refine wp_loadW (tyWorld) (wr) (wld_size hm) ?_ ?_ ?_); rfl; rfl))
  (with_reducible refine (P.out _ h).mono ?_); rintro e w2 ⟨rfl, hb⟩
  clear db_0 db_1 db_2 db_3 cb_0 cb_1 cb_2 cb_3 pb_0
  replace ob := ob.call hb
  replace eb := eb.call hb
  replace db := db.call hb
  replace cb := cb.call hb
  replace wb := wb.call hb
  replace pb := pb.call hb
  replace h := h.call hb
  replace low := gCall low hb
  clear hb wr P
  have z2 := pb.lt
  have qb := boxNext low 27 (lnA ⟨qa, qq, qc, qd⟩)
  replace low := gAlloc low (.cells (lnA ⟨qa, qq, qc, qd⟩) 27)
  replace cb := cb.alloc (.cells (lnA ⟨qa, qq, qc, qd⟩) 27)
  replace wb := wb.alloc (.cells (lnA ⟨qa, qq, qc, qd⟩) 27)
  replace db := db.alloc (.cells (lnA ⟨qa, qq, qc, qd⟩) 27)
  replace ob := ob.alloc (.cells (lnA ⟨qa, qq, qc, qd⟩) 27)
  replace eb := eb.alloc (.cells (lnA ⟨qa, qq, qc, qd⟩) 27)
  replace pb := pb.alloc (.cells (lnA ⟨qa, qq, qc, qd⟩) 27)
  replace h := h.alloc (.cells (lnA ⟨qa, qq, qc, qd⟩) 27)
  try simp only [World.size_alloc] at qb
  have z3 := qb.lt
  have c0 := cb.at_ 0 rfl
  have c1 := cb.at_ 1 rfl
  have c2 := cb.at_ 2 rfl
  have c3 := cb.at_ 3 rfl
  have b0 := wb.at_ 0 (wldA_zero _ _)
  have e0 := db.at_ 0 rfl
  have e1 := db.at_ 1 rfl
  have p0 := pb.at_ 0 rfl
  have p1 := pb.at_ 1 rfl
  have p2 := pb.at_ 2 rfl
  have p3 := pb.at_ 3 rfl
  have q0 := qb.at_ 0 rfl
  have q1 := qb.at_ 1 rfl
  have q2 := qb.at_ 2 rfl
  have q3 := qb.at_ 3 rfl
  have ce := (low.cell (p := ⟨bb, o + i0, none⟩) hbb).trans CE.out
  go_wp2_with (first | (with_reducible refine wp_newW (tyLine) ?_))
  refine wp_region_noPanic ?_
  refine wp_region_held_drew (S := fun w' => w'.cell? ⟨w.heap.size, 0, none⟩ = some (.int .i64 n) ∧ w'.cell? ⟨w.heap.size, 1, none⟩ = some (.int .i64 s) ∧ w'.cell? ⟨w.heap.size, 2, none⟩ = some (.int .i64 y) ∧ w'.cell? ⟨w.heap.size, 3, none⟩ = some (.int .i64 b) ∧ w'.cell? ⟨w.heap.size + 1, 0, none⟩ = some (.slice (some ⟨bb, o, none⟩) css.length cp) ∧ w'.cell? ⟨w.heap.size + 1 + 1, 0, none⟩ = some (.int .i64 i0) ∧ w'.cell? ⟨w.heap.size + 1 + 1, 1, none⟩ = some (.int .i64 dk) ∧
    w'.cell? ⟨w1.heap.size, 0, none⟩ = some (.int .i64 L) ∧ w'.cell? ⟨w1.heap.size, 1, none⟩ = some (.int .i64 st) ∧ w'.cell? ⟨w1.heap.size, 2, none⟩ = some (.bool al) ∧ w'.cell? ⟨w1.heap.size, 3, none⟩ = some (.int .i64 own) ∧
    w'.cell? ⟨w2.heap.size, 0, none⟩ = some (.int .u64 qa) ∧ w'.cell? ⟨w2.heap.size, 1, none⟩ = some (.int .u64 qq) ∧ w'.cell? ⟨w2.heap.size, 2, none⟩ = some (.int .u64 qc) ∧ w'.cell? ⟨w2.heap.size, 3, none⟩ = some (.int .u64 qd) ∧
    w'.cell? ⟨bb, o + i0, none⟩ = some (.slice A' ss.length c')) (by kernel_rfl) ⟨drewC c0, drewC c1, drewC c2, drewC c3, drewC b0, drewC e0, drewC e1, drewC p0, drewC p1, drewC p2, drewC p3, drewC q0, drewC q1, drewC q2, drewC q3, drewC ce⟩ (fun hHeld => ?_)
  clear c0 c1 c2 c3 b0 e0 e1 p0 p1 p2 p3 q0 q1 q2 q3 ce
  replace ob := ob.drew
  replace eb := eb.drew
  replace db := db.drew
  replace cb := cb.drew
  replace wb := wb.drew
  replace pb := pb.drew
  replace qb := qb.drew
  replace h := h.drew
  replace low := low.drew
  refine takeFirst (i := 0) (v := ?_) rfl (by kernel_rfl) (by kernel_rfl) (by kernel_rfl) (by rfl) (fun _ _ _ h => h) ?_ (by assumption) ?_
  rotate_left
  · (intro w hSw; go_simp; try (with_reducible rfl))
  try simp only [Act.put, List.setIfInBounds_toArray, List.set_cons_zero, List.set_cons_succ]
  refine takeFirst (i := 1) (v := ?_) rfl (by kernel_rfl) (by kernel_rfl) (by kernel_rfl) (by rfl) (fun _ _ _ h => h) ?_ (by assumption) ?_
  rotate_left
  · (intro w hSw; go_simp; try (with_reducible rfl))
  try simp only [Act.put, List.setIfInBounds_toArray, List.set_cons_zero, List.set_cons_succ]
  refine takeFirst (i := 2) (v := ?_) rfl (by kernel_rfl) (by kernel_rfl) (by kernel_rfl) (by rfl) (fun _ _ _ h => h) ?_ (by assumption) ?_
  rotate_left
  · (intro w hSw; go_simp; try (with_reducible rfl))
  try simp only [Act.put, List.setIfInBounds_toArray, List.set_cons_zero, List.set_cons_succ]
  refine takeFirst (i := 3) (v := ?_) rfl (by kernel_rfl) (by kernel_rfl) (by kernel_rfl) (by rfl) (fun _ _ _ h => h) ?_ (by assumption) ?_
  rotate_left
  · (intro w hSw; go_simp; try (with_reducible rfl))
  try simp only [Act.put, List.setIfInBounds_toArray, List.set_cons_zero, List.set_cons_succ]
  refine takeFirst (i := 4) (v := ?_) rfl (by kernel_rfl) (by kernel_rfl) (by kernel_rfl) (by rfl) (fun _ _ _ h => h) ?_ (by assumption) ?_
  rotate_left
  · (intro w hSw; go_simp; try (with_reducible rfl))
  try simp only [Act.put, List.setIfInBounds_toArray, List.set_cons_zero, List.set_cons_succ]
  refine takeFirst (i := 5) (v := ?_) rfl (by kernel_rfl) (by kernel_rfl) (by kernel_rfl) (by rfl) (fun _ _ _ h => h) ?_ (by assumption) ?_
  rotate_left
  · (intro w hSw; go_simp; try (with_reducible rfl))
  try simp only [Act.put, List.setIfInBounds_toArray, List.set_cons_zero, List.set_cons_succ]
  refine takeFirst (i := 6) (v := ?_) rfl (by kernel_rfl) (by kernel_rfl) (by kernel_rfl) (by rfl) (fun _ _ _ h => h) ?_ (by assumption) ?_
  rotate_left
  · (intro w hSw; go_simp; try (with_reducible rfl))
  try simp only [Act.put, List.setIfInBounds_toArray, List.set_cons_zero, List.set_cons_succ]
  refine takeFirst (i := 7) (v := ?_) rfl (by kernel_rfl) (by kernel_rfl) (by kernel_rfl) (by rfl) (fun _ _ _ h => h) ?_ (by assumption) ?_
  rotate_left
  · (intro w hSw; go_simp; try (with_reducible rfl))
  try simp only [Act.put, List.setIfInBounds_toArray, List.set_cons_zero, List.set_cons_succ]
  refine takeFirst (i := 8) (v := ?_) rfl (by kernel_rfl) (by kernel_rfl) (by kernel_rfl) (by rfl) (fun _ _ _ h => h) ?_ (by assumption) ?_
  rotate_left
  · (intro w hSw; go_simp; try (with_reducible rfl))
  try simp only [Act.put, List.setIfInBounds_toArray, List.set_cons_zero, List.set_cons_succ]
  refine takeFirst (i := 9) (v := ?_) rfl (by kernel_rfl) (by kernel_rfl) (by kernel_rfl) (by rfl) (fun _ _ _ h => h) ?_ (by assumption) ?_
  rotate_left
  · (intro w hSw; go_simp; try (with_reducible rfl))
  try simp only [Act.put, List.setIfInBounds_toArray, List.set_cons_zero, List.set_cons_succ]
  refine takeFirst (i := 10) (v := ?_) rfl (by kernel_rfl) (by kernel_rfl) (by kernel_rfl) (by rfl) (fun _ _ _ h => h) ?_ (by assumption) ?_
  rotate_left
  · (intro w hSw; go_simp; try (with_reducible rfl))
  try simp only [Act.put, List.setIfInBounds_toArray, List.set_cons_zero, List.set_cons_succ]
  generalize hW : World.drew _ = wN at *
  clear hW
  have cs := CS.out.call low
  have near := Below.refl wN.heap.size wN
  apply shareV (M := fun g wz => NewV wN g wz 80 zeroA)
  · intro hE
    refine stepTwo (i1 := 11) (i2 := 16) (by kernel_rfl) rfl rfl (by rfl) (by rfl) (fun K hK => ?_) (fun K hK => ?_)
    · go_simp
      (with_reducible refine (O.out _ _ cs).mono ?_); rintro e wy ⟨rfl, hb⟩
      replace near := gCall near hb
      try clear hNow
      have hNow := (And.intro (callC near hHeld.1) (And.intro (callC near hHeld.2.1) (And.intro (callC near hHeld.2.2.1) (And.intro (callC near hHeld.2.2.2.1) (And.intro (callC near hHeld.2.2.2.2.1) (And.intro (callC near hHeld.2.2.2.2.2.1) (And.intro (callC near hHeld.2.2.2.2.2.2.1) (And.intro (callC near hHeld.2.2.2.2.2.2.2.1) (And.intro (callC near hHeld.2.2.2.2.2.2.2.2.1) (And.intro (callC near hHeld.2.2.2.2.2.2.2.2.2.1) (And.intro (callC near hHeld.2.2.2.2.2.2.2.2.2.2.1) (And.intro (callC near hHeld.2.2.2.2.2.2.2.2.2.2.2.1) (And.intro (callC near hHeld.2.2.2.2.2.2.2.2.2.2.2.2.1) (And.intro (callC near hHeld.2.2.2.2.2.2.2.2.2.2.2.2.2.1) (And.intro (callC near hHeld.2.2.2.2.2.2.2.2.2.2.2.2.2.2.1) (callC near hHeld.2.2.2.2.2.2.2.2.2.2.2.2.2.2.2))))))))))))))))
      refine hK.out _ _ hNow ?_
      clear hK K
      try simp only [Act.put]
      try simp only [List.setIfInBounds_toArray, List.set_cons_zero, List.set_cons_succ]
      refine takeFirst (i := 12) (v := ?_) rfl (by kernel_rfl) (by kernel_rfl) (by kernel_rfl) (by rfl) (fun _ _ _ h => h) ?_ (by assumption) ?_
      rotate_left
      · (intro w hSw; go_simp; try (with_reducible rfl))
      try simp only [Act.put, List.setIfInBounds_toArray, List.set_cons_zero, List.set_cons_succ]
      refine takeFirst (i := 13) (v := ?_) rfl (by kernel_rfl) (by kernel_rfl) (by kernel_rfl) (by rfl) (fun _ _ _ h => h) ?_ (by assumption) ?_
      rotate_left
      · (intro w hSw; go_simp; try (with_reducible rfl))
      try simp only [Act.put, List.setIfInBounds_toArray, List.set_cons_zero, List.set_cons_succ]
      refine takeFirst (i := 14) (v := ?_) rfl (by kernel_rfl) (by kernel_rfl) (by kernel_rfl) (by rfl) (fun _ _ _ h => h) ?_ (by assumption) ?_
      rotate_left
      · (intro w hSw; go_simp; try (with_reducible rfl))
      try simp only [Act.put, List.setIfInBounds_toArray, List.set_cons_zero, List.set_cons_succ]
      refine takeFirst (i := 15) (v := ?_) rfl (by kernel_rfl) (by kernel_rfl) (by kernel_rfl) (by rfl) (fun _ _ _ h => h) ?_ (by assumption) ?_
      rotate_left
      · (intro w hSw; go_simp; try (with_reducible rfl))
      try simp only [Act.put, List.setIfInBounds_toArray, List.set_cons_zero, List.set_cons_succ]
      refine stepNext (i := 16) (by kernel_rfl) rfl (by rfl) (fun K hK => ?_)
      refine op_newW tyWay ?_
      have sz := near.size
      have box := Box.new wy 80 zeroA
      replace near := gAlloc near (.cells zeroA 80)
      try clear hNow
      have hNow := (And.intro (callC near hHeld.1) (And.intro (callC near hHeld.2.1) (And.intro (callC near hHeld.2.2.1) (And.intro (callC near hHeld.2.2.2.1) (And.intro (callC near hHeld.2.2.2.2.1) (And.intro (callC near hHeld.2.2.2.2.2.1) (And.intro (callC near hHeld.2.2.2.2.2.2.1) (And.intro (callC near hHeld.2.2.2.2.2.2.2.1) (And.intro (callC near hHeld.2.2.2.2.2.2.2.2.1) (And.intro (callC near hHeld.2.2.2.2.2.2.2.2.2.1) (And.intro (callC near hHeld.2.2.2.2.2.2.2.2.2.2.1) (And.intro (callC near hHeld.2.2.2.2.2.2.2.2.2.2.2.1) (And.intro (callC near hHeld.2.2.2.2.2.2.2.2.2.2.2.2.1) (And.intro (callC near hHeld.2.2.2.2.2.2.2.2.2.2.2.2.2.1) (And.intro (callC near hHeld.2.2.2.2.2.2.2.2.2.2.2.2.2.2.1) (callC near hHeld.2.2.2.2.2.2.2.2.2.2.2.2.2.2.2))))))))))))))))
      refine hK.out _ _ hNow ?_
      clear hK K
      try simp only [Act.put]
      try simp only [List.setIfInBounds_toArray, List.set_cons_zero, List.set_cons_succ]
      generalize wy.alloc (.cells zeroA 80) = wz at *
      generalize wy.heap.size = ga at *
      refine relist (l2 := #[true, true, true, true, true, true, true, true, true, true, true, true, true, true, true, true, true, false, false, false]) (by kernel_rfl) ?_
      exact hE _ _ ⟨near, sz, box⟩
    · refine op_newW tyWay ?_
      have box := Box.new wN 80 zeroA
      replace near := gAlloc near (.cells zeroA 80)
      try clear hNow
      have hNow := (And.intro (callC near hHeld.1) (And.intro (callC near hHeld.2.1) (And.intro (callC near hHeld.2.2.1) (And.intro (callC near hHeld.2.2.2.1) (And.intro (callC near hHeld.2.2.2.2.1) (And.intro (callC near hHeld.2.2.2.2.2.1) (And.intro (callC near hHeld.2.2.2.2.2.2.1) (And.intro (callC near hHeld.2.2.2.2.2.2.2.1) (And.intro (callC near hHeld.2.2.2.2.2.2.2.2.1) (And.intro (callC near hHeld.2.2.2.2.2.2.2.2.2.1) (And.intro (callC near hHeld.2.2.2.2.2.2.2.2.2.2.1) (And.intro (callC near hHeld.2.2.2.2.2.2.2.2.2.2.2.1) (And.intro (callC near hHeld.2.2.2.2.2.2.2.2.2.2.2.2.1) (And.intro (callC near hHeld.2.2.2.2.2.2.2.2.2.2.2.2.2.1) (And.intro (callC near hHeld.2.2.2.2.2.2.2.2.2.2.2.2.2.2.1) (callC near hHeld.2.2.2.2.2.2.2.2.2.2.2.2.2.2.2))))))))))))))))
      refine hK.out _ _ hNow ?_
      clear hK K
      try simp only [Act.put]
      try simp only [List.setIfInBounds_toArray, List.set_cons_zero, List.set_cons_succ]
      clear hNow
      have cs2 := cs.call near
      generalize wN.alloc (.cells zeroA 80) = wx at *
      generalize hga : wN.heap.size = ga at box ⊢
      have HGA := Lib.hid hga
      clear hga
      refine stepNext (i := 11) (by kernel_rfl) rfl (by rfl) (fun K hK => ?_)
      go_simp
      (with_reducible refine (O.out _ _ cs2).mono ?_); rintro e wy ⟨rfl, hb⟩
      replace near := gCall near hb
      replace box := box.call hb
      try clear hNow
      have hNow := (And.intro (callC near hHeld.1) (And.intro (callC near hHeld.2.1) (And.intro (callC near hHeld.2.2.1) (And.intro (callC near hHeld.2.2.2.1) (And.intro (callC near hHeld.2.2.2.2.1) (And.intro (callC near hHeld.2.2.2.2.2.1) (And.intro (callC near hHeld.2.2.2.2.2.2.1) (And.intro (callC near hHeld.2.2.2.2.2.2.2.1) (And.intro (callC near hHeld.2.2.2.2.2.2.2.2.1) (And.intro (callC near hHeld.2.2.2.2.2.2.2.2.2.1) (And.intro (callC near hHeld.2.2.2.2.2.2.2.2.2.2.1) (And.intro (callC near hHeld.2.2.2.2.2.2.2.2.2.2.2.1) (And.intro (callC near hHeld.2.2.2.2.2.2.2.2.2.2.2.2.1) (And.intro (callC near hHeld.2.2.2.2.2.2.2.2.2.2.2.2.2.1) (And.intro (callC near hHeld.2.2.2.2.2.2.2.2.2.2.2.2.2.2.1) (callC near hHeld.2.2.2.2.2.2.2.2.2.2.2.2.2.2.2))))))))))))))))
      refine hK.out _ _ hNow ?_
      clear hK K
      try simp only [Act.put]
      try simp only [List.setIfInBounds_toArray, List.set_cons_zero, List.set_cons_succ]
      refine takeFirst (i := 12) (v := ?_) rfl (by kernel_rfl) (by kernel_rfl) (by kernel_rfl) (by rfl) (fun _ _ _ h => h) ?_ (by assumption) ?_
      rotate_left
      · (intro w hSw; go_simp; try (with_reducible rfl))
      try simp only [Act.put, List.setIfInBounds_toArray, List.set_cons_zero, List.set_cons_succ]
      refine takeFirst (i := 13) (v := ?_) rfl (by kernel_rfl) (by kernel_rfl) (by kernel_rfl) (by rfl) (fun _ _ _ h => h) ?_ (by assumption) ?_
      rotate_left
      · (intro w hSw; go_simp; try (with_reducible rfl))
      try simp only [Act.put, List.setIfInBounds_toArray, List.set_cons_zero, List.set_cons_succ]
      refine takeFirst (i := 14) (v := ?_) rfl (by kernel_rfl) (by kernel_rfl) (by kernel_rfl) (by rfl) (fun _ _ _ h => h) ?_ (by assumption) ?_
      rotate_left
      · (intro w hSw; go_simp; try (with_reducible rfl))
      try simp only [Act.put, List.setIfInBounds_toArray, List.set_cons_zero, List.set_cons_succ]
      refine takeFirst (i := 15) (v := ?_) rfl (by kernel_rfl) (by kernel_rfl) (by kernel_rfl) (by rfl) (fun _ _ _ h => h) ?_ (by assumption) ?_
      rotate_left
      · (intro w hSw; go_simp; try (with_reducible rfl))
      try simp only [Act.put, List.setIfInBounds_toArray, List.set_cons_zero, List.set_cons_succ]
      refine relist (l2 := #[true, true, true, true, true, true, true, true, true, true, true, true, true, true, true, true, true, false, false, false]) (by kernel_rfl) ?_
      exact hE _ _ ⟨near, Nat.le_of_eq HGA.out, box⟩
  intro gx wz mid
  have zq := qb.lt
  have zl := low.size
  obtain ⟨near2, gnew, xb⟩ := mid
  replace ob := ob.call near2
  replace eb := eb.call near2
  replace db := db.call near2
  replace cb := cb.call near2
  replace wb := wb.call near2
  replace pb := pb.call near2
  replace h := h.call near2
  replace low := gCall low near2
  obtain ⟨hh0, hh1, hh2, hh3, hh4, hh5, hh6, hh7, hh8, hh9, hh10, hh11, hh12, hh13, hh14, hh15⟩ := hHeld
  have hHeld := (And.intro (callC near2 hh0) (And.intro (callC near2 hh1) (And.intro (callC near2 hh2) (And.intro (callC near2 hh3) (And.intro (callC near2 hh4) (And.intro (callC near2 hh5) (And.intro (callC near2 hh6) (And.intro (callC near2 hh7) (And.intro (callC near2 hh8) (And.intro (callC near2 hh9) (And.intro (callC near2 hh10) (And.intro (callC near2 hh11) (And.intro (callC near2 hh12) (And.intro (callC near2 hh13) (And.intro (callC near2 hh14) (callC near2 hh15))))))))))))))))
  clear hh0 hh1 hh2 hh3 hh4 hh5 hh6 hh7 hh8 hh9 hh10 hh11 hh12 hh13 hh14 hh15
  clear near cs
  refine takeFirst (i := 17) (v := ?_) rfl (by kernel_rfl) (by kernel_rfl) (by kernel_rfl) (by rfl) (fun _ _ _ h => h) ?_ (by assumption) ?_
  rotate_left
  · (intro w hSw; go_simp; try (with_reducible rfl))
  try simp only [Act.put, List.setIfInBounds_toArray, List.set_cons_zero, List.set_cons_succ]
  refine stepNext (i := 18) (by kernel_rfl) rfl (by rfl) (fun K hK => ?_)
  refine wp_store_box 80 (.tmp 14) (.tmp 58) rfl _ _ rfl rfl xb (tyWay.size.trans rfl) rfl (way_one (wy0)) ?_
  intro w4 xb4 st4
  replace ob := st4.box ob (by omega)
  replace eb := st4.box eb (by omega)
  replace db := st4.box db (by omega)
  replace cb := st4.box cb (by omega)
  replace wb := st4.box wb (by omega)
  replace pb := st4.box pb (by omega)
  replace low := st4.low low (by omega)
  obtain ⟨hh0, hh1, hh2, hh3, hh4, hh5, hh6, hh7, hh8, hh9, hh10, hh11, hh12, hh13, hh14, hh15⟩ := hHeld
  have hHeld := (And.intro (st4.cell (by dsimp only; omega) hh0) (And.intro (st4.cell (by dsimp only; omega) hh1) (And.intro (st4.cell (by dsimp only; omega) hh2) (And.intro (st4.cell (by dsimp only; omega) hh3) (And.intro (st4.cell (by dsimp only; omega) hh4) (And.intro (st4.cell (by dsimp only; omega) hh5) (And.intro (st4.cell (by dsimp only; omega) hh6) (And.intro (st4.cell (by dsimp only; omega) hh7) (And.intro (st4.cell (by dsimp only; omega) hh8) (And.intro (st4.cell (by dsimp only; omega) hh9) (And.intro (st4.cell (by dsimp only; omega) hh10) (And.intro (st4.cell (by dsimp only; omega) hh11) (And.intro (st4.cell (by dsimp only; omega) hh12) (And.intro (st4.cell (by dsimp only; omega) hh13) (And.intro (st4.cell (by dsimp only; omega) hh14) (st4.cell (by dsimp only; omega) hh15))))))))))))))))
  clear hh0 hh1 hh2 hh3 hh4 hh5 hh6 hh7 hh8 hh9 hh10 hh11 hh12 hh13 hh14 hh15
  refine hK.out _ _ hHeld ?_
  clear hK K
  try simp only [Act.put]
  try simp only [List.setIfInBounds_toArray, List.set_cons_zero, List.set_cons_succ]
  refine takeFirst (i := 19) (v := ?_) rfl (by kernel_rfl) (by kernel_rfl) (by kernel_rfl) (by rfl) (fun _ _ _ h => h) ?_ (by assumption) ?_
  rotate_left
  · (intro w hSw; go_simp; try (with_reducible rfl))
  try simp only [Act.put, List.setIfInBounds_toArray, List.set_cons_zero, List.set_cons_succ]
  refine wpAnyH_done (by kernel_rfl) ?_ _
  refine NoPanic.normal ?_
  clear hHeld xb qb h
  go_wp2_with (first | (with_reducible refine wp_zeroW (tyWorld) ?_) | (with_reducible refine wp_zeroW (tyDone) ?_) | ((with_reducible refine wp_storeW (tyWorld) (ob) (rfl) (nilW_size) (nilW_one) ?_ ?_ ?_); rfl; rfl))
  intro w8 ob8 st8
  replace eb := st8.box eb (by omega)
  replace low := st8.low low (by omega)
  clear st8 ob
  go_wp2_with ((with_reducible refine wp_storeW (tyDone) (eb) (rfl) (done0_size) (done0_one) ?_ ?_ ?_); rfl; rfl)
  intro w9 eb9 st9
  replace ob8 := st9.box ob8 (by omega)
  replace low := st9.low low (by omega)
  clear st9 eb
  go_wp2_with fail
  exact bodyPost_ret (v := .tuple #[.agg nilW, .agg done0, .int .i64 (5)]) (results_two tyWorld tyDone Tryz.results85 rfl rfl rfl ob8 rfl eb9 rfl) rfl ⟨rfl, low⟩
end Go.Proofs.YtgdacpcifnpojaaGreat

/- DeedDo3: Proved: what Do of package deed returns where there is no error; it changes nothing that was there, and what it returns is new. Conditions: what the functions that it calls return, as given. -/
namespace Go.Proofs.YtgdacpcifnpojaaGreat
open Go.ChangeShapes Go.WideShapes Go.ChangeAt Go.RowKit Go.Joins

/-- One cell is stored into a block that is known whole. -/
theorem run_store1 {w : World} {g : Nat} {T ty : TypeId} {cs : Array Value} (z : (Tryz.prog.info? ty).map (·.size) = some 1) (h : Box w g T cs) (i : Nat) (hi : i < cs.size) (u : Value) (hu : u.cells = #[u]) (h1 : u.oneCell' = true) :
    (storeVar ty ⟨g, i, none⟩ u).run Tryz.prog w = .ok () (w.setCell ⟨g, i, none⟩ u) := by
  have c := h.cell i
  rw [Array.getElem?_eq_getElem hi] at c
  have f := h.frozen i
  have := run_storeCells_cells (P := Tryz.prog) g i [u] 0 w (fun j hj => by obtain rfl : j = 0 := (by simpa using hj); simp [c]) (fun j hj => by obtain rfl : j = 0 := (by simpa using hj); simp [f]) (fun v hv => by simp at hv; subst hv; exact h1)
  cases hq : Tryz.prog.info? ty with
  | none => rw [hq] at z; cases z
  | some y =>
    have hs : y.size = 1 := by rw [hq] at z; simpa using z
    simp only [Nat.add_zero] at this
    simp [storeVar, sizeOf, typeInfo, hq, hu, hs, this, World.setCells]
theorem wp_store1 {ops : Array Oper} {rest : List Oper} {dst : Option Tmp} {t : TypeId} {pos : String} {after : Array Edge} {a : Act} {w : World} {Q : Exit → Act → World → Prop} {ty : TypeId} (z : (Tryz.prog.info? ty).map (·.size) = some 1)
    {x y : Operand} {g : Nat} {T : TypeId} {cs : Array Value} (hb : Box w g T cs) (i : Nat) (hi : i < cs.size) (u : Value) (hu : u.cells = #[u]) (h1 : u.oneCell' = true) (hx : a.eval x = .pointer (some ⟨g, i, none⟩)) (hy : a.eval y = u)
    (h : ∀ w', Box w' g T (cs.setIfInBounds i u) → Stored w g w' → wpList Tryz.prog ops Q rest (a.put dst undef) w') :
    wpList Tryz.prog ops Q (⟨dst, .store ty x y, t, pos, after, none⟩ :: rest) a w := by
  refine wpList_plain rfl fun K hK => ?_
  unfold Oper.wp execOp
  simp only [hx, hy, Instr.storeAt, Instr.sureAddr, Sem.run_bind, Sem.run_pure, Result.andThen_ok, run_store1 z hb i hi u hu h1]
  exact hK _ _ (h _ (hb.set i _) (Stored.cell1 w ⟨g, i, none⟩ _))
theorem size_cache : (Tryz.prog.info? 72).map (·.size) = some 1 := by kernel_rfl

/-- A new variable and a new cache came up. -/
structure NewC (w0 : World) (g : Nat) (A : Option Addr) (c : Nat) (w : World) (t : TypeId) (cs : Array Value) (n : Nat) (sa : List St) : Prop where
  low : Below w0.heap.size w0 w
  new : w0.heap.size ≤ g
  box : Box w g t cs
  cf : ∃ B C, w0.heap.size ≤ B ∧ C ≤ w.heap.size ∧ (g < B ∨ C ≤ g) ∧ CFr w B C (.slice A n c) sa



set_option maxRecDepth 10000 in
set_option maxHeartbeats 8000000 in
theorem do_walk (n s y b : Int) (m : List Int) (css : List (List St)) (i0 L : Nat) (dk da dv st : Int) (al : Bool) (own qa qq qc qd u : Int) (ss sa : List St) (css' : List (List St)) (out : Wy) (w : World) (bb o cp c' : Nat) (A' : Option Addr)
    (h : Ks w (.slice (some ⟨bb, o, none⟩) css.length cp) css) (hm : m.length = 64) (hi0 : i0 < css.length) (hbb : bb < w.heap.size) (_k1 : css.length ≤ cp) (_k2 : cp ≤ maxLen) (CE : Hid (w.cell? ⟨bb, o + i0, none⟩ = some (.slice A' ss.length c'))) (CS : Hid (Cs w (.slice A' ss.length c') ss))
    (F : Hid (∀ w, Ks w (.slice (some ⟨bb, o, none⟩) css.length cp) css → Calls Tryz.prog 102 #[cfg n s y b, wldV (.slice (some ⟨bb, o, none⟩) css.length cp) m, (⟨i0, dk, da, dv⟩ : Dd).val] w fun e w' => e = .returned (.tuple #[plcV L st al own, .int .i64 0]) ∧ Below w.heap.size w w'))
    (P : Hid (∀ w, Ks w (.slice (some ⟨bb, o, none⟩) css.length cp) css → Calls Tryz.prog 103 #[cfg n s y b, wldV (.slice (some ⟨bb, o, none⟩) css.length cp) m, (⟨i0, dk, da, dv⟩ : Dd).val, .int .i64 L] w fun e w' => e = .returned (.tuple #[line qa qq qc qd, .int .u64 u, .int .i64 0]) ∧ Below w.heap.size w w'))
    (O : Hid (∀ v w, Cs w v ss → Calls Tryz.prog 104 #[cfg n s y b, v, .int .i64 dk, plcV L st al own, line qa qq qc qd] w (GaveCW w ss out sa)))
    (hk : 1 ≤ dk ∧ dk ≤ 4) (ho : owB out.st = true → 0 ≤ out.ln ∧ out.ln ≤ 15) (n8 : css.length ≤ 8) (hlen : css'.length = css.length) (hsa : css'[i0]? = some sa)
    (OC : Hid (∀ w, Ks w (.slice (some ⟨bb, o, none⟩) css.length cp) css → Calls Tryz.prog 105 #[cfg n s y b, .slice (some ⟨bb, o, none⟩) css.length cp, (⟨i0, dk, da, dv⟩ : Dd).val, .int .i64 L] w fun e w' => (∃ us : List Value, us.length = css.length ∧ e = .returned (.tuple #[.slice (some ⟨w.heap.size + 1 + 1, 0, none⟩) css.length css.length, .int .i64 0]) ∧
      Box w' (w.heap.size + 1 + 1) 72 us.toArray ∧ ∀ j, j ≠ i0 → KMade w' (w.heap.size + 1 + 1) w'.heap.size (w.heap.size + 1 + 1) us css' j) ∧ Below w.heap.size w w')) :
    Calls Tryz.prog 85 #[cfg n s y b, wldV (.slice (some ⟨bb, o, none⟩) css.length cp) m, (⟨i0, dk, da, dv⟩ : Dd).val] w fun e w' =>
      (∃ v', e = .returned (.tuple #[wldV v' (keepM m out), doneV u (locB st dk) (if st = 0 then own else -1) (if out.st ≠ 0 then out.ln else -1) (owB out.st), .int .i64 0]) ∧ KFr w' w.heap.size w'.heap.size v' css') ∧ Below w.heap.size w w' := by
  have H0 := Lib.hid h
  have KE := Lib.hid fun w => keep_any m hm out ho w
  have RE := Lib.hid fun w => report_any L st al own dk u out w hk.1 hk.2
  have km := keepM_length hm out
  generalize hM : keepM m out = M at *
  generalize hP1 : locB st dk = f1 at *
  generalize hP2 : (if st = 0 then own else -1) = f2 at *
  generalize hP3 : (if out.st ≠ 0 then out.ln else -1) = f3 at *
  generalize hP4 : owB out.st = f4 at *
  have HSA := Lib.hid hsa
  have HLE := Lib.hid hlen
  clear hM hP1 hP2 hP3 hP4 ho hk hsa hlen
  have i1 : (i0 : Int) < css.length := by omega
  have i2 : (0 : Int) ≤ i0 := by omega
  have low := Below.refl w.heap.size w
  have cb := boxNext low 23 (cfgA n s y b)
  replace low := gAlloc low (.cells (cfgA n s y b) 23)
  replace h := h.alloc (.cells (cfgA n s y b) 23)
  try simp only [World.size_alloc] at cb
  have wb := boxNext low 31 (wldA (.slice (some ⟨bb, o, none⟩) css.length cp) m)
  replace low := gAlloc low (.cells (wldA (.slice (some ⟨bb, o, none⟩) css.length cp) m) 31)
  replace cb := cb.alloc (.cells (wldA (.slice (some ⟨bb, o, none⟩) css.length cp) m) 31)
  replace h := h.alloc (.cells (wldA (.slice (some ⟨bb, o, none⟩) css.length cp) m) 31)
  try simp only [World.size_alloc] at wb
  have db := boxNext low 59 #[.int .i64 i0, .int .i64 dk, .int .i64 da, .int .u64 dv]
  replace low := gAlloc low (.cells #[.int .i64 i0, .int .i64 dk, .int .i64 da, .int .u64 dv] 59)
  replace cb := cb.alloc (.cells #[.int .i64 i0, .int .i64 dk, .int .i64 da, .int .u64 dv] 59)
  replace wb := wb.alloc (.cells #[.int .i64 i0, .int .i64 dk, .int .i64 da, .int .u64 dv] 59)
  replace h := h.alloc (.cells #[.int .i64 i0, .int .i64 dk, .int .i64 da, .int .u64 dv] 59)
  try simp only [World.size_alloc] at db
  have ob := boxNext low 31 nilW
  replace low := gAlloc low (.cells nilW 31)
  replace cb := cb.alloc (.cells nilW 31)
  replace wb := wb.alloc (.cells nilW 31)
  replace db := db.alloc (.cells nilW 31)
  replace h := h.alloc (.cells nilW 31)
  try simp only [World.size_alloc] at ob
  have eb := boxNext low 159 done0
  replace low := gAlloc low (.cells done0 159)
  replace cb := cb.alloc (.cells done0 159)
  replace wb := wb.alloc (.cells done0 159)
  replace db := db.alloc (.cells done0 159)
  replace ob := ob.alloc (.cells done0 159)
  replace h := h.alloc (.cells done0 159)
  try simp only [World.size_alloc] at eb
  have wr := wb.range
  go_enter Tryz.func85, Tryz.ntmps85
  have db_0 := db.at_ 0 rfl
  have db_1 := db.at_ 1 rfl
  have db_2 := db.at_ 2 rfl
  have db_3 := db.at_ 3 rfl
  go_wp2_with (first | (with_reducible refine wp_newW (tyWorld) ?_) | (with_reducible refine wp_newW (tyDone) ?_) | ((with_reducible refine wp_loadW (tyWorld) (wr) (wld_size hm) ?_ ?_ ?_); rfl; rfl))
  (with_reducible refine (F.out _ h).mono ?_); rintro e w1 ⟨rfl, hb⟩
  clear db_0 db_1 db_2 db_3
  replace ob := ob.call hb
  replace eb := eb.call hb
  replace db := db.call hb
  replace cb := cb.call hb
  replace wb := wb.call hb
  replace h := h.call hb
  replace low := gCall low hb
  clear hb wr F
  have z1 := eb.lt
  have pb := boxNext low 179 (plcA L st al own)
  replace low := gAlloc low (.cells (plcA L st al own) 179)
  replace cb := cb.alloc (.cells (plcA L st al own) 179)
  replace wb := wb.alloc (.cells (plcA L st al own) 179)
  replace db := db.alloc (.cells (plcA L st al own) 179)
  replace ob := ob.alloc (.cells (plcA L st al own) 179)
  replace eb := eb.alloc (.cells (plcA L st al own) 179)
  replace h := h.alloc (.cells (plcA L st al own) 179)
  try simp only [World.size_alloc] at pb
  have wr := wb.range
  have db_0 := db.at_ 0 rfl
  have db_1 := db.at_ 1 rfl
  have db_2 := db.at_ 2 rfl
  have db_3 := db.at_ 3 rfl
  have cb_0 := cb.at_ 0 rfl
  have cb_1 := cb.at_ 1 rfl
  have cb_2 := cb.at_ 2 rfl
  have cb_3 := cb.at_ 3 rfl
  have pb_0 := pb.at_ 0 rfl
  go_wp2_with (first | (with_reducible refine wp_newW (tyPlace) ?_) | ((with_reducible refine wp_loadW (tyWorld) (wr) (wld_size hm) ?_ ?_ ?_); rfl; rfl))
  (with_reducible refine (P.out _ h).mono ?_); rintro e w2 ⟨rfl, hb⟩
  clear db_0 db_1 db_2 db_3 cb_0 cb_1 cb_2 cb_3 pb_0
  replace ob := ob.call hb
  replace eb := eb.call hb
  replace db := db.call hb
  replace cb := cb.call hb
  replace wb := wb.call hb
  replace pb := pb.call hb
  replace h := h.call hb
  replace low := gCall low hb
  clear hb wr P
  have z2 := pb.lt
  have qb := boxNext low 27 (lnA ⟨qa, qq, qc, qd⟩)
  replace low := gAlloc low (.cells (lnA ⟨qa, qq, qc, qd⟩) 27)
  replace cb := cb.alloc (.cells (lnA ⟨qa, qq, qc, qd⟩) 27)
  replace wb := wb.alloc (.cells (lnA ⟨qa, qq, qc, qd⟩) 27)
  replace db := db.alloc (.cells (lnA ⟨qa, qq, qc, qd⟩) 27)
  replace ob := ob.alloc (.cells (lnA ⟨qa, qq, qc, qd⟩) 27)
  replace eb := eb.alloc (.cells (lnA ⟨qa, qq, qc, qd⟩) 27)
  replace pb := pb.alloc (.cells (lnA ⟨qa, qq, qc, qd⟩) 27)
  replace h := h.alloc (.cells (lnA ⟨qa, qq, qc, qd⟩) 27)
  try simp only [World.size_alloc] at qb
  have z3 := qb.lt
  have c0 := cb.at_ 0 rfl
  have c1 := cb.at_ 1 rfl
  have c2 := cb.at_ 2 rfl
  have c3 := cb.at_ 3 rfl
  have b0 := wb.at_ 0 (wldA_zero _ _)
  have e0 := db.at_ 0 rfl
  have e1 := db.at_ 1 rfl
  have p0 := pb.at_ 0 rfl
  have p1 := pb.at_ 1 rfl
  have p2 := pb.at_ 2 rfl
  have p3 := pb.at_ 3 rfl
  have q0 := qb.at_ 0 rfl
  have q1 := qb.at_ 1 rfl
  have q2 := qb.at_ 2 rfl
  have q3 := qb.at_ 3 rfl
  have ce := (low.cell (p := ⟨bb, o + i0, none⟩) hbb).trans CE.out
  go_wp2_with (first | (with_reducible refine wp_newW (tyLine) ?_))
  refine wp_region_noPanic ?_
  refine wp_region_held_drew (S := fun w' => w'.cell? ⟨w.heap.size, 0, none⟩ = some (.int .i64 n) ∧ w'.cell? ⟨w.heap.size, 1, none⟩ = some (.int .i64 s) ∧ w'.cell? ⟨w.heap.size, 2, none⟩ = some (.int .i64 y) ∧ w'.cell? ⟨w.heap.size, 3, none⟩ = some (.int .i64 b) ∧ w'.cell? ⟨w.heap.size + 1, 0, none⟩ = some (.slice (some ⟨bb, o, none⟩) css.length cp) ∧ w'.cell? ⟨w.heap.size + 1 + 1, 0, none⟩ = some (.int .i64 i0) ∧ w'.cell? ⟨w.heap.size + 1 + 1, 1, none⟩ = some (.int .i64 dk) ∧
    w'.cell? ⟨w1.heap.size, 0, none⟩ = some (.int .i64 L) ∧ w'.cell? ⟨w1.heap.size, 1, none⟩ = some (.int .i64 st) ∧ w'.cell? ⟨w1.heap.size, 2, none⟩ = some (.bool al) ∧ w'.cell? ⟨w1.heap.size, 3, none⟩ = some (.int .i64 own) ∧
    w'.cell? ⟨w2.heap.size, 0, none⟩ = some (.int .u64 qa) ∧ w'.cell? ⟨w2.heap.size, 1, none⟩ = some (.int .u64 qq) ∧ w'.cell? ⟨w2.heap.size, 2, none⟩ = some (.int .u64 qc) ∧ w'.cell? ⟨w2.heap.size, 3, none⟩ = some (.int .u64 qd) ∧
    w'.cell? ⟨bb, o + i0, none⟩ = some (.slice A' ss.length c')) (by kernel_rfl) ⟨drewC c0, drewC c1, drewC c2, drewC c3, drewC b0, drewC e0, drewC e1, drewC p0, drewC p1, drewC p2, drewC p3, drewC q0, drewC q1, drewC q2, drewC q3, drewC ce⟩ (fun hHeld => ?_)
  clear c0 c1 c2 c3 b0 e0 e1 p0 p1 p2 p3 q0 q1 q2 q3 ce
  replace ob := ob.drew
  replace eb := eb.drew
  replace db := db.drew
  replace cb := cb.drew
  replace wb := wb.drew
  replace pb := pb.drew
  replace qb := qb.drew
  replace h := h.drew
  replace low := low.drew
  refine takeFirst (i := 0) (v := ?_) rfl (by kernel_rfl) (by kernel_rfl) (by kernel_rfl) (by rfl) (fun _ _ _ h => h) ?_ (by assumption) ?_
  rotate_left
  · (intro w hSw; go_simp; try (with_reducible rfl))
  try simp only [Act.put, List.setIfInBounds_toArray, List.set_cons_zero, List.set_cons_succ]
  refine takeFirst (i := 1) (v := ?_) rfl (by kernel_rfl) (by kernel_rfl) (by kernel_rfl) (by rfl) (fun _ _ _ h => h) ?_ (by assumption) ?_
  rotate_left
  · (intro w hSw; go_simp; try (with_reducible rfl))
  try simp only [Act.put, List.setIfInBounds_toArray, List.set_cons_zero, List.set_cons_succ]
  refine takeFirst (i := 2) (v := ?_) rfl (by kernel_rfl) (by kernel_rfl) (by kernel_rfl) (by rfl) (fun _ _ _ h => h) ?_ (by assumption) ?_
  rotate_left
  · (intro w hSw; go_simp; try (with_reducible rfl))
  try simp only [Act.put, List.setIfInBounds_toArray, List.set_cons_zero, List.set_cons_succ]
  refine takeFirst (i := 3) (v := ?_) rfl (by kernel_rfl) (by kernel_rfl) (by kernel_rfl) (by rfl) (fun _ _ _ h => h) ?_ (by assumption) ?_
  rotate_left
  · (intro w hSw; go_simp; try (with_reducible rfl))
  try simp only [Act.put, List.setIfInBounds_toArray, List.set_cons_zero, List.set_cons_succ]
  refine takeFirst (i := 4) (v := ?_) rfl (by kernel_rfl) (by kernel_rfl) (by kernel_rfl) (by rfl) (fun _ _ _ h => h) ?_ (by assumption) ?_
  rotate_left
  · (intro w hSw; go_simp; try (with_reducible rfl))
  try simp only [Act.put, List.setIfInBounds_toArray, List.set_cons_zero, List.set_cons_succ]
  refine takeFirst (i := 5) (v := ?_) rfl (by kernel_rfl) (by kernel_rfl) (by kernel_rfl) (by rfl) (fun _ _ _ h => h) ?_ (by assumption) ?_
  rotate_left
  · (intro w hSw; go_simp; try (with_reducible rfl))
  try simp only [Act.put, List.setIfInBounds_toArray, List.set_cons_zero, List.set_cons_succ]
  refine takeFirst (i := 6) (v := ?_) rfl (by kernel_rfl) (by kernel_rfl) (by kernel_rfl) (by rfl) (fun _ _ _ h => h) ?_ (by assumption) ?_
  rotate_left
  · (intro w hSw; go_simp; try (with_reducible rfl))
  try simp only [Act.put, List.setIfInBounds_toArray, List.set_cons_zero, List.set_cons_succ]
  refine takeFirst (i := 7) (v := ?_) rfl (by kernel_rfl) (by kernel_rfl) (by kernel_rfl) (by rfl) (fun _ _ _ h => h) ?_ (by assumption) ?_
  rotate_left
  · (intro w hSw; go_simp; try (with_reducible rfl))
  try simp only [Act.put, List.setIfInBounds_toArray, List.set_cons_zero, List.set_cons_succ]
  refine takeFirst (i := 8) (v := ?_) rfl (by kernel_rfl) (by kernel_rfl) (by kernel_rfl) (by rfl) (fun _ _ _ h => h) ?_ (by assumption) ?_
  rotate_left
  · (intro w hSw; go_simp; try (with_reducible rfl))
  try simp only [Act.put, List.setIfInBounds_toArray, List.set_cons_zero, List.set_cons_succ]
  refine takeFirst (i := 9) (v := ?_) rfl (by kernel_rfl) (by kernel_rfl) (by kernel_rfl) (by rfl) (fun _ _ _ h => h) ?_ (by assumption) ?_
  rotate_left
  · (intro w hSw; go_simp; try (with_reducible rfl))
  try simp only [Act.put, List.setIfInBounds_toArray, List.set_cons_zero, List.set_cons_succ]
  refine takeFirst (i := 10) (v := ?_) rfl (by kernel_rfl) (by kernel_rfl) (by kernel_rfl) (by rfl) (fun _ _ _ h => h) ?_ (by assumption) ?_
  rotate_left
  · (intro w hSw; go_simp; try (with_reducible rfl))
  try simp only [Act.put, List.setIfInBounds_toArray, List.set_cons_zero, List.set_cons_succ]
  generalize hW : World.drew _ = wN at *
  clear hW
  have cs := CS.out.call low
  have near := Below.refl wN.heap.size wN
  apply share1 (M := fun g A2 c2 wz => NewC wN g A2 c2 wz 80 zeroA ss.length sa)
  · intro hE
    refine stepTwo (i1 := 11) (i2 := 16) (by kernel_rfl) rfl rfl (by rfl) (by rfl) (fun K hK => ?_) (fun K hK => ?_)
    · go_simp
      (with_reducible refine (O.out _ _ cs).mono ?_); rintro e wy ⟨⟨A2, c2, rfl, cf⟩, hb⟩
      replace near := gCall near hb
      try clear hNow
      have hNow := (And.intro (callC near hHeld.1) (And.intro (callC near hHeld.2.1) (And.intro (callC near hHeld.2.2.1) (And.intro (callC near hHeld.2.2.2.1) (And.intro (callC near hHeld.2.2.2.2.1) (And.intro (callC near hHeld.2.2.2.2.2.1) (And.intro (callC near hHeld.2.2.2.2.2.2.1) (And.intro (callC near hHeld.2.2.2.2.2.2.2.1) (And.intro (callC near hHeld.2.2.2.2.2.2.2.2.1) (And.intro (callC near hHeld.2.2.2.2.2.2.2.2.2.1) (And.intro (callC near hHeld.2.2.2.2.2.2.2.2.2.2.1) (And.intro (callC near hHeld.2.2.2.2.2.2.2.2.2.2.2.1) (And.intro (callC near hHeld.2.2.2.2.2.2.2.2.2.2.2.2.1) (And.intro (callC near hHeld.2.2.2.2.2.2.2.2.2.2.2.2.2.1) (And.intro (callC near hHeld.2.2.2.2.2.2.2.2.2.2.2.2.2.2.1) (callC near hHeld.2.2.2.2.2.2.2.2.2.2.2.2.2.2.2))))))))))))))))
      refine hK.out _ _ hNow ?_
      clear hK K
      try simp only [Act.put]
      try simp only [List.setIfInBounds_toArray, List.set_cons_zero, List.set_cons_succ]
      refine takeFirst (i := 12) (v := ?_) rfl (by kernel_rfl) (by kernel_rfl) (by kernel_rfl) (by rfl) (fun _ _ _ h => h) ?_ (by assumption) ?_
      rotate_left
      · (intro w hSw; go_simp; try (with_reducible rfl))
      try simp only [Act.put, List.setIfInBounds_toArray, List.set_cons_zero, List.set_cons_succ]
      refine takeFirst (i := 13) (v := ?_) rfl (by kernel_rfl) (by kernel_rfl) (by kernel_rfl) (by rfl) (fun _ _ _ h => h) ?_ (by assumption) ?_
      rotate_left
      · (intro w hSw; go_simp; try (with_reducible rfl))
      try simp only [Act.put, List.setIfInBounds_toArray, List.set_cons_zero, List.set_cons_succ]
      refine takeFirst (i := 14) (v := ?_) rfl (by kernel_rfl) (by kernel_rfl) (by kernel_rfl) (by rfl) (fun _ _ _ h => h) ?_ (by assumption) ?_
      rotate_left
      · (intro w hSw; go_simp; try (with_reducible rfl))
      try simp only [Act.put, List.setIfInBounds_toArray, List.set_cons_zero, List.set_cons_succ]
      refine takeFirst (i := 15) (v := ?_) rfl (by kernel_rfl) (by kernel_rfl) (by kernel_rfl) (by rfl) (fun _ _ _ h => h) ?_ (by assumption) ?_
      rotate_left
      · (intro w hSw; go_simp; try (with_reducible rfl))
      try simp only [Act.put, List.setIfInBounds_toArray, List.set_cons_zero, List.set_cons_succ]
      refine stepNext (i := 16) (by kernel_rfl) rfl (by rfl) (fun K hK => ?_)
      refine op_newW tyWay ?_
      have sz := near.size
      have box := Box.new wy 80 zeroA
      have cf2 := cf.alloc (.cells zeroA 80)
      have sz2 : wy.heap.size ≤ (wy.alloc (.cells zeroA 80)).heap.size := by simp
      replace near := gAlloc near (.cells zeroA 80)
      try clear hNow
      have hNow := (And.intro (callC near hHeld.1) (And.intro (callC near hHeld.2.1) (And.intro (callC near hHeld.2.2.1) (And.intro (callC near hHeld.2.2.2.1) (And.intro (callC near hHeld.2.2.2.2.1) (And.intro (callC near hHeld.2.2.2.2.2.1) (And.intro (callC near hHeld.2.2.2.2.2.2.1) (And.intro (callC near hHeld.2.2.2.2.2.2.2.1) (And.intro (callC near hHeld.2.2.2.2.2.2.2.2.1) (And.intro (callC near hHeld.2.2.2.2.2.2.2.2.2.1) (And.intro (callC near hHeld.2.2.2.2.2.2.2.2.2.2.1) (And.intro (callC near hHeld.2.2.2.2.2.2.2.2.2.2.2.1) (And.intro (callC near hHeld.2.2.2.2.2.2.2.2.2.2.2.2.1) (And.intro (callC near hHeld.2.2.2.2.2.2.2.2.2.2.2.2.2.1) (And.intro (callC near hHeld.2.2.2.2.2.2.2.2.2.2.2.2.2.2.1) (callC near hHeld.2.2.2.2.2.2.2.2.2.2.2.2.2.2.2))))))))))))))))
      refine hK.out _ _ hNow ?_
      clear hK K
      try simp only [Act.put]
      try simp only [List.setIfInBounds_toArray, List.set_cons_zero, List.set_cons_succ]
      generalize wy.alloc (.cells zeroA 80) = wz at *
      generalize wy.heap.size = ga at *
      refine relist (l2 := #[true, true, true, true, true, true, true, true, true, true, true, true, true, true, true, true, true, false, false, false]) (by kernel_rfl) ?_
      exact hE _ _ _ _ ⟨near, sz, box, _, _, Nat.le_refl _, sz2, .inr (Nat.le_refl _), cf2⟩
    · refine op_newW tyWay ?_
      have box := Box.new wN 80 zeroA
      have sz2 : (wN.alloc (.cells zeroA 80)).heap.size = wN.heap.size + 1 := by simp
      replace near := gAlloc near (.cells zeroA 80)
      try clear hNow
      have hNow := (And.intro (callC near hHeld.1) (And.intro (callC near hHeld.2.1) (And.intro (callC near hHeld.2.2.1) (And.intro (callC near hHeld.2.2.2.1) (And.intro (callC near hHeld.2.2.2.2.1) (And.intro (callC near hHeld.2.2.2.2.2.1) (And.intro (callC near hHeld.2.2.2.2.2.2.1) (And.intro (callC near hHeld.2.2.2.2.2.2.2.1) (And.intro (callC near hHeld.2.2.2.2.2.2.2.2.1) (And.intro (callC near hHeld.2.2.2.2.2.2.2.2.2.1) (And.intro (callC near hHeld.2.2.2.2.2.2.2.2.2.2.1) (And.intro (callC near hHeld.2.2.2.2.2.2.2.2.2.2.2.1) (And.intro (callC near hHeld.2.2.2.2.2.2.2.2.2.2.2.2.1) (And.intro (callC near hHeld.2.2.2.2.2.2.2.2.2.2.2.2.2.1) (And.intro (callC near hHeld.2.2.2.2.2.2.2.2.2.2.2.2.2.2.1) (callC near hHeld.2.2.2.2.2.2.2.2.2.2.2.2.2.2.2))))))))))))))))
      refine hK.out _ _ hNow ?_
      clear hK K
      try simp only [Act.put]
      try simp only [List.setIfInBounds_toArray, List.set_cons_zero, List.set_cons_succ]
      clear hNow
      have cs2 := cs.call near
      generalize wN.alloc (.cells zeroA 80) = wx at *
      generalize hga : wN.heap.size = ga at box ⊢
      have HGA := Lib.hid hga
      have SZ := Lib.hid sz2
      clear hga sz2
      refine stepNext (i := 11) (by kernel_rfl) rfl (by rfl) (fun K hK => ?_)
      go_simp
      (with_reducible refine (O.out _ _ cs2).mono ?_); rintro e wy ⟨⟨A2, c2, rfl, cf⟩, hb⟩
      replace near := gCall near hb
      replace box := box.call hb
      try clear hNow
      have hNow := (And.intro (callC near hHeld.1) (And.intro (callC near hHeld.2.1) (And.intro (callC near hHeld.2.2.1) (And.intro (callC near hHeld.2.2.2.1) (And.intro (callC near hHeld.2.2.2.2.1) (And.intro (callC near hHeld.2.2.2.2.2.1) (And.intro (callC near hHeld.2.2.2.2.2.2.1) (And.intro (callC near hHeld.2.2.2.2.2.2.2.1) (And.intro (callC near hHeld.2.2.2.2.2.2.2.2.1) (And.intro (callC near hHeld.2.2.2.2.2.2.2.2.2.1) (And.intro (callC near hHeld.2.2.2.2.2.2.2.2.2.2.1) (And.intro (callC near hHeld.2.2.2.2.2.2.2.2.2.2.2.1) (And.intro (callC near hHeld.2.2.2.2.2.2.2.2.2.2.2.2.1) (And.intro (callC near hHeld.2.2.2.2.2.2.2.2.2.2.2.2.2.1) (And.intro (callC near hHeld.2.2.2.2.2.2.2.2.2.2.2.2.2.2.1) (callC near hHeld.2.2.2.2.2.2.2.2.2.2.2.2.2.2.2))))))))))))))))
      refine hK.out _ _ hNow ?_
      clear hK K
      try simp only [Act.put]
      try simp only [List.setIfInBounds_toArray, List.set_cons_zero, List.set_cons_succ]
      refine takeFirst (i := 12) (v := ?_) rfl (by kernel_rfl) (by kernel_rfl) (by kernel_rfl) (by rfl) (fun _ _ _ h => h) ?_ (by assumption) ?_
      rotate_left
      · (intro w hSw; go_simp; try (with_reducible rfl))
      try simp only [Act.put, List.setIfInBounds_toArray, List.set_cons_zero, List.set_cons_succ]
      refine takeFirst (i := 13) (v := ?_) rfl (by kernel_rfl) (by kernel_rfl) (by kernel_rfl) (by rfl) (fun _ _ _ h => h) ?_ (by assumption) ?_
      rotate_left
      · (intro w hSw; go_simp; try (with_reducible rfl))
      try simp only [Act.put, List.setIfInBounds_toArray, List.set_cons_zero, List.set_cons_succ]
      refine takeFirst (i := 14) (v := ?_) rfl (by kernel_rfl) (by kernel_rfl) (by kernel_rfl) (by rfl) (fun _ _ _ h => h) ?_ (by assumption) ?_
      rotate_left
      · (intro w hSw; go_simp; try (with_reducible rfl))
      try simp only [Act.put, List.setIfInBounds_toArray, List.set_cons_zero, List.set_cons_succ]
      refine takeFirst (i := 15) (v := ?_) rfl (by kernel_rfl) (by kernel_rfl) (by kernel_rfl) (by rfl) (fun _ _ _ h => h) ?_ (by assumption) ?_
      rotate_left
      · (intro w hSw; go_simp; try (with_reducible rfl))
      try simp only [Act.put, List.setIfInBounds_toArray, List.set_cons_zero, List.set_cons_succ]
      refine relist (l2 := #[true, true, true, true, true, true, true, true, true, true, true, true, true, true, true, true, true, false, false, false]) (by kernel_rfl) ?_
      exact hE _ _ _ _ ⟨near, Nat.le_of_eq HGA.out, box, _, _, by have := SZ.out; omega, Nat.le_refl _, .inl (by have := SZ.out; have := HGA.out; omega), cf⟩
  intro gx A2 c2 wz mid
  have zq := qb.lt
  have zl := low.size
  obtain ⟨near2, gnew, xb, B, C, hB, hC, hgx, cf⟩ := mid
  replace ob := ob.call near2
  replace eb := eb.call near2
  replace db := db.call near2
  replace cb := cb.call near2
  replace wb := wb.call near2
  replace pb := pb.call near2
  replace h := h.call near2
  replace low := gCall low near2
  obtain ⟨hh0, hh1, hh2, hh3, hh4, hh5, hh6, hh7, hh8, hh9, hh10, hh11, hh12, hh13, hh14, hh15⟩ := hHeld
  have hHeld := (And.intro (callC near2 hh0) (And.intro (callC near2 hh1) (And.intro (callC near2 hh2) (And.intro (callC near2 hh3) (And.intro (callC near2 hh4) (And.intro (callC near2 hh5) (And.intro (callC near2 hh6) (And.intro (callC near2 hh7) (And.intro (callC near2 hh8) (And.intro (callC near2 hh9) (And.intro (callC near2 hh10) (And.intro (callC near2 hh11) (And.intro (callC near2 hh12) (And.intro (callC near2 hh13) (And.intro (callC near2 hh14) (callC near2 hh15))))))))))))))))
  clear hh0 hh1 hh2 hh3 hh4 hh5 hh6 hh7 hh8 hh9 hh10 hh11 hh12 hh13 hh14 hh15
  clear near cs
  refine takeFirst (i := 17) (v := ?_) rfl (by kernel_rfl) (by kernel_rfl) (by kernel_rfl) (by rfl) (fun _ _ _ h => h) ?_ (by assumption) ?_
  rotate_left
  · (intro w hSw; go_simp; try (with_reducible rfl))
  try simp only [Act.put, List.setIfInBounds_toArray, List.set_cons_zero, List.set_cons_succ]
  refine stepNext (i := 18) (by kernel_rfl) rfl (by rfl) (fun K hK => ?_)
  refine wp_store_box 80 (.tmp 14) (.tmp 58) rfl _ _ rfl rfl xb (tyWay.size.trans rfl) rfl (way_one (out)) ?_
  intro w4 xb4 st4
  replace ob := st4.box ob (by omega)
  replace eb := st4.box eb (by omega)
  replace db := st4.box db (by omega)
  replace cb := st4.box cb (by omega)
  replace wb := st4.box wb (by omega)
  replace pb := st4.box pb (by omega)
  replace low := st4.low low (by omega)
  have CF := Lib.hid (cf.out st4 hgx)
  have HC4 := Lib.hid (show C ≤ w4.heap.size by rw [st4.size]; exact hC)
  obtain ⟨hh0, hh1, hh2, hh3, hh4, hh5, hh6, hh7, hh8, hh9, hh10, hh11, hh12, hh13, hh14, hh15⟩ := hHeld
  have hHeld := (And.intro (st4.cell (by dsimp only; omega) hh0) (And.intro (st4.cell (by dsimp only; omega) hh1) (And.intro (st4.cell (by dsimp only; omega) hh2) (And.intro (st4.cell (by dsimp only; omega) hh3) (And.intro (st4.cell (by dsimp only; omega) hh4) (And.intro (st4.cell (by dsimp only; omega) hh5) (And.intro (st4.cell (by dsimp only; omega) hh6) (And.intro (st4.cell (by dsimp only; omega) hh7) (And.intro (st4.cell (by dsimp only; omega) hh8) (And.intro (st4.cell (by dsimp only; omega) hh9) (And.intro (st4.cell (by dsimp only; omega) hh10) (And.intro (st4.cell (by dsimp only; omega) hh11) (And.intro (st4.cell (by dsimp only; omega) hh12) (And.intro (st4.cell (by dsimp only; omega) hh13) (And.intro (st4.cell (by dsimp only; omega) hh14) (st4.cell (by dsimp only; omega) hh15))))))))))))))))
  clear hh0 hh1 hh2 hh3 hh4 hh5 hh6 hh7 hh8 hh9 hh10 hh11 hh12 hh13 hh14 hh15
  refine hK.out _ _ hHeld ?_
  clear hK K
  try simp only [Act.put]
  try simp only [List.setIfInBounds_toArray, List.set_cons_zero, List.set_cons_succ]
  refine takeFirst (i := 19) (v := ?_) rfl (by kernel_rfl) (by kernel_rfl) (by kernel_rfl) (by rfl) (fun _ _ _ h => h) ?_ (by assumption) ?_
  rotate_left
  · (intro w hSw; go_simp; try (with_reducible rfl))
  try simp only [Act.put, List.setIfInBounds_toArray, List.set_cons_zero, List.set_cons_succ]
  refine wpAnyH_done (by kernel_rfl) ?_ _
  refine NoPanic.normal ?_
  clear hHeld xb qb h cf st4 near2 hgx hC
  have h4 := H0.out.call low
  have b0 := wb.at_ 0 (wldA_zero _ _)
  have cb_0 := cb.at_ 0 rfl
  have cb_1 := cb.at_ 1 rfl
  have cb_2 := cb.at_ 2 rfl
  have cb_3 := cb.at_ 3 rfl
  have db_0 := db.at_ 0 rfl
  have db_1 := db.at_ 1 rfl
  have db_2 := db.at_ 2 rfl
  have db_3 := db.at_ 3 rfl
  have pb_0 := pb.at_ 0 rfl
  go_wp2_with fail
  (with_reducible refine (OC.out _ h4).mono ?_); rintro e w5 ⟨⟨us, ulen, rfl, ab, hkm⟩, hb⟩
  clear cb_0 cb_1 cb_2 cb_3 db_0 db_1 db_2 db_3 pb_0
  have l4z := low.size
  replace ob := ob.call hb
  replace eb := eb.call hb
  replace db := db.call hb
  replace wb := wb.call hb
  replace pb := pb.call hb
  have xz := xb4.lt
  replace xb4 := xb4.call hb
  replace low := gCall low hb
  have CF5 := Lib.hid (CF.out.call hb)
  have HKM := Lib.hid hkm
  have HUL := Lib.hid ulen
  have g2z := ab.lt
  have ui : i0 < us.toArray.size := by rw [List.size_toArray, ulen]; exact hi0
  clear hb h4 b0 CF hkm ulen cb OC
  have db_0 := db.at_ 0 rfl
  go_wp2_with ((with_reducible refine wp_store1 size_cache ab i0 ui (.slice A2 ss.length c2) rfl rfl ?_ ?_ ?_); rfl; rfl)
  intro w6 ab6 st6
  clear db_0
  rw [List.setIfInBounds_toArray] at ab6
  have KF := Lib.hid (show KFr w6 wN.heap.size w6.heap.size (.slice (some ⟨w4.heap.size + 1 + 1, 0, none⟩) css.length css.length) css' from by
    have e8 := HLE.out
    have c4 := HC4.out
    have s6 := st6.size
    refine ⟨w4.heap.size + 1 + 1, us.set i0 (.slice A2 ss.length c2), by rw [e8], by rw [List.length_set, HUL.out, e8], by unfold maxLen; omega, by omega, by omega, ab6, fun j => ?_⟩
    by_cases ej : j = i0
    · subst ej
      have el : ss.length = sa.length := by
        obtain ⟨A4, c4', e4⟩ := CF5.out.shape
        simp only [Value.slice.injEq] at e4
        exact e4.2.1
      have cf5 := CF5.out
      rw [el] at cf5 ⊢
      exact KMade.set st6 (by have := HUL.out; omega) HSA.out (by omega) (by omega) (.inl (by omega)) cf5
    · exact ((HKM.out j ej).past st6 (fun h => ej h.symm) _).more (by omega) (by omega))
  replace ob := st6.box ob (by omega)
  replace eb := st6.box eb (by omega)
  replace db := st6.box db (by omega)
  replace wb := st6.box wb (by omega)
  replace pb := st6.box pb (by omega)
  replace xb4 := st6.box xb4 (by omega)
  replace low := st6.low low (by omega)
  have s6 := st6.size
  clear st6 ab ab6 CF5 HKM
  have wm := wld_mem wb
  have xb4_0 := xb4.at_ 0 rfl
  have xb4_1 := xb4.at_ 1 rfl
  have xb4_2 := xb4.at_ 2 rfl
  have xb4_3 := xb4.at_ 3 rfl
  have xb4_4 := xb4.at_ 4 rfl
  have xb4_5 := xb4.at_ 5 rfl
  go_wp2_with (first | ((with_reducible refine wp_loadW (tyMem) (wm) (mem_zsize hm) ?_ ?_ ?_); rfl; rfl))
  (with_reducible refine (KE.out _).mono ?_); rintro e w7 ⟨rfl, hb⟩
  clear xb4_0 xb4_1 xb4_2 xb4_3 xb4_4 xb4_5
  replace ob := ob.call hb
  replace eb := eb.call hb
  replace db := db.call hb
  replace pb := pb.call hb
  replace xb4 := xb4.call hb
  replace low := gCall low hb
  replace KF := Lib.hid ((KF.out.call hb).more (Nat.le_refl _) hb.size)
  have s7 := hb.size
  clear hb wm wb KE
  have KF7 := Lib.hid (KF.out.alloc (.cells (memA M) 29))
  have mb := boxNext low 29 (memA M)
  replace low := gAlloc low (.cells (memA M) 29)
  replace ob := ob.alloc (.cells (memA M) 29)
  replace eb := eb.alloc (.cells (memA M) 29)
  replace db := db.alloc (.cells (memA M) 29)
  replace pb := pb.alloc (.cells (memA M) 29)
  replace xb4 := xb4.alloc (.cells (memA M) 29)
  try simp only [World.size_alloc] at mb
  have p0 := pb.at_ 0 rfl
  have p1 := pb.at_ 1 rfl
  have p2 := pb.at_ 2 rfl
  have p3 := pb.at_ 3 rfl
  have e1 := db.at_ 1 rfl
  have x0 := xb4.at_ 0 rfl
  have x1 := xb4.at_ 1 rfl
  have x2 := xb4.at_ 2 rfl
  have x3 := xb4.at_ 3 rfl
  have x4 := xb4.at_ 4 rfl
  have x5 := xb4.at_ 5 rfl
  have mm : Mb (w7.alloc (.cells (memA M) 29)) w7.heap.size M := ⟨mb, km⟩
  go_wp2_with (first | (with_reducible refine wp_newMem ?_) | ((with_reducible refine wp_storeNew (zeroL_length) (km) ?_ ?_ ?_); rfl; rfl))
  refine wp_region_noPanic ?_
  refine wp_region_held_drew (S := fun w' => w'.cell? ⟨w1.heap.size, 0, none⟩ = some (.int .i64 L) ∧ w'.cell? ⟨w1.heap.size, 1, none⟩ = some (.int .i64 st) ∧ w'.cell? ⟨w1.heap.size, 2, none⟩ = some (.bool al) ∧ w'.cell? ⟨w1.heap.size, 3, none⟩ = some (.int .i64 own) ∧ w'.cell? ⟨w.heap.size + 1 + 1, 1, none⟩ = some (.int .i64 dk) ∧ w'.cell? ⟨gx, 0, none⟩ = some (.int .i64 out.st) ∧ w'.cell? ⟨gx, 1, none⟩ = some (.int .i64 out.ln) ∧ w'.cell? ⟨gx, 2, none⟩ = some (.int .u64 out.a) ∧ w'.cell? ⟨gx, 3, none⟩ = some (.int .u64 out.b) ∧ w'.cell? ⟨gx, 4, none⟩ = some (.int .u64 out.c) ∧ w'.cell? ⟨gx, 5, none⟩ = some (.int .u64 out.d) ∧ Mb w' w7.heap.size M) (by kernel_rfl) ⟨drewC p0, drewC p1, drewC p2, drewC p3, drewC e1, drewC x0, drewC x1, drewC x2, drewC x3, drewC x4, drewC x5, mm.drew⟩ (fun hHeld => ?_)
  clear p0 p1 p2 p3 e1 x0 x1 x2 x3 x4 x5 mm
  replace ob := ob.drew
  replace eb := eb.drew
  replace db := db.drew
  replace pb := pb.drew
  replace xb4 := xb4.drew
  replace mb := mb.drew
  replace low := low.drew
  replace KF7 := Lib.hid (KF7.out.call (Below.refl _ _).drew)
  refine takeFirst (i := 0) (v := ?_) rfl (by kernel_rfl) (by kernel_rfl) (by kernel_rfl) (by rfl) (fun _ _ _ h => h) ?_ (by assumption) ?_
  rotate_left
  · (intro w hSw; go_simp; try (with_reducible rfl))
  try simp only [Act.put, List.setIfInBounds_toArray, List.set_cons_zero, List.set_cons_succ]
  refine takeFirst (i := 1) (v := memV (M)) rfl (by kernel_rfl) (by kernel_rfl) (by kernel_rfl) (by rfl) (fun _ _ _ h => h) (fun _ hSw => exec_loadMem rfl (hSw.2.2.2.2.2.2.2.2.2.2.2)) (by assumption) ?_
  try simp only [Act.put, List.setIfInBounds_toArray, List.set_cons_zero, List.set_cons_succ]
  refine takeFirst (i := 2) (v := wldV (.slice (some ⟨w4.heap.size + 1 + 1, 0, none⟩) css.length css.length) M) rfl (by kernel_rfl) (by kernel_rfl) (by kernel_rfl) (by rfl) (fun _ _ _ h => h) (fun _ _ => exec_buildM km rfl rfl) (by assumption) ?_
  try simp only [Act.put]
  try simp only [List.setIfInBounds_toArray, List.set_cons_zero, List.set_cons_succ]
  refine takeFirst (i := 3) (v := ?_) rfl (by kernel_rfl) (by kernel_rfl) (by kernel_rfl) (by rfl) (fun _ _ _ h => h) ?_ (by assumption) ?_
  rotate_left
  · (intro w hSw; go_simp; try (with_reducible rfl))
  try simp only [Act.put, List.setIfInBounds_toArray, List.set_cons_zero, List.set_cons_succ]
  refine takeFirst (i := 4) (v := ?_) rfl (by kernel_rfl) (by kernel_rfl) (by kernel_rfl) (by rfl) (fun _ _ _ h => h) ?_ (by assumption) ?_
  rotate_left
  · (intro w hSw; go_simp; try (with_reducible rfl))
  try simp only [Act.put, List.setIfInBounds_toArray, List.set_cons_zero, List.set_cons_succ]
  refine takeFirst (i := 5) (v := ?_) rfl (by kernel_rfl) (by kernel_rfl) (by kernel_rfl) (by rfl) (fun _ _ _ h => h) ?_ (by assumption) ?_
  rotate_left
  · (intro w hSw; go_simp; try (with_reducible rfl))
  try simp only [Act.put, List.setIfInBounds_toArray, List.set_cons_zero, List.set_cons_succ]
  refine takeFirst (i := 6) (v := ?_) rfl (by kernel_rfl) (by kernel_rfl) (by kernel_rfl) (by rfl) (fun _ _ _ h => h) ?_ (by assumption) ?_
  rotate_left
  · (intro w hSw; go_simp; try (with_reducible rfl))
  try simp only [Act.put, List.setIfInBounds_toArray, List.set_cons_zero, List.set_cons_succ]
  refine takeFirst (i := 7) (v := ?_) rfl (by kernel_rfl) (by kernel_rfl) (by kernel_rfl) (by rfl) (fun _ _ _ h => h) ?_ (by assumption) ?_
  rotate_left
  · (intro w hSw; go_simp; try (with_reducible rfl))
  try simp only [Act.put, List.setIfInBounds_toArray, List.set_cons_zero, List.set_cons_succ]
  have wz2 : (w7.alloc (.cells (memA M) 29)).drew.heap.size = w7.heap.size + 1 := by simp
  generalize (w7.alloc (.cells (memA M) 29)).drew = w8 at *
  refine stepNext (i := 8) (by kernel_rfl) rfl (by rfl) (fun K hK => ?_)
  go_simp
  (with_reducible refine (RE.out _).mono ?_); rintro e w9 ⟨rfl, hb⟩
  replace ob := ob.call hb
  replace eb := eb.call hb
  replace db := db.call hb
  replace pb := pb.call hb
  replace xb4 := xb4.call hb
  replace mb := mb.call hb
  replace low := gCall low hb
  replace KF7 := Lib.hid (KF7.out.call hb)
  have s9 := hb.size
  clear hHeld
  have hHeld := (And.intro (pb.at_ 0 rfl) (And.intro (pb.at_ 1 rfl) (And.intro (pb.at_ 2 rfl) (And.intro (pb.at_ 3 rfl) (And.intro (db.at_ 1 rfl) (And.intro (xb4.at_ 0 rfl) (And.intro (xb4.at_ 1 rfl) (And.intro (xb4.at_ 2 rfl) (And.intro (xb4.at_ 3 rfl) (And.intro (xb4.at_ 4 rfl) (And.intro (xb4.at_ 5 rfl) (Mb.mk mb km))))))))))))
  refine hK.out _ _ hHeld ?_
  clear hK K
  try simp only [Act.put]
  try simp only [List.setIfInBounds_toArray, List.set_cons_zero, List.set_cons_succ]
  clear hb
  refine stepNext (i := 9) (by kernel_rfl) rfl (by rfl) (fun K hK => ?_)
  have wone : (wldA (.slice (some ⟨w4.heap.size + 1 + 1, 0, none⟩) css.length css.length) M).all (·.oneCell') = true := wldA_one _
  refine wp_store_box 31 (.tmp 6) (.tmp 99) rfl _ _ rfl rfl ob (tyWorld.size.trans (congrArg some (wld_size km).symm)) (wld_size km).symm wone ?_
  intro w10 ob10 st10
  replace eb := st10.box eb (by omega)
  replace db := st10.box db (by omega)
  replace pb := st10.box pb (by omega)
  replace xb4 := st10.box xb4 (by omega)
  replace mb := st10.box mb (by omega)
  replace low := st10.low low (by omega)
  replace KF7 := Lib.hid (KF7.out.out st10 (.inl (by omega)))
  have s10 := st10.size
  clear hHeld
  have hHeld := (And.intro (pb.at_ 0 rfl) (And.intro (pb.at_ 1 rfl) (And.intro (pb.at_ 2 rfl) (And.intro (pb.at_ 3 rfl) (And.intro (db.at_ 1 rfl) (And.intro (xb4.at_ 0 rfl) (And.intro (xb4.at_ 1 rfl) (And.intro (xb4.at_ 2 rfl) (And.intro (xb4.at_ 3 rfl) (And.intro (xb4.at_ 4 rfl) (And.intro (xb4.at_ 5 rfl) (Mb.mk mb km))))))))))))
  refine hK.out _ _ hHeld ?_
  clear hK K
  try simp only [Act.put]
  try simp only [List.setIfInBounds_toArray, List.set_cons_zero, List.set_cons_succ]
  clear st10 ob
  refine stepNext (i := 10) (by kernel_rfl) rfl (by rfl) (fun K hK => ?_)
  refine wp_store_box 159 (.tmp 7) (.tmp 105) rfl _ _ rfl rfl eb (tyDone.size.trans rfl) rfl (done_one u f1 f2 f3 f4) ?_
  intro w11 eb11 st11
  replace ob10 := st11.box ob10 (by omega)
  replace db := st11.box db (by omega)
  replace pb := st11.box pb (by omega)
  replace xb4 := st11.box xb4 (by omega)
  replace mb := st11.box mb (by omega)
  replace low := st11.low low (by omega)
  replace KF7 := Lib.hid (KF7.out.out st11 (.inl (by omega)))
  have s11 := st11.size
  clear hHeld
  have hHeld := (And.intro (pb.at_ 0 rfl) (And.intro (pb.at_ 1 rfl) (And.intro (pb.at_ 2 rfl) (And.intro (pb.at_ 3 rfl) (And.intro (db.at_ 1 rfl) (And.intro (xb4.at_ 0 rfl) (And.intro (xb4.at_ 1 rfl) (And.intro (xb4.at_ 2 rfl) (And.intro (xb4.at_ 3 rfl) (And.intro (xb4.at_ 4 rfl) (And.intro (xb4.at_ 5 rfl) (Mb.mk mb km))))))))))))
  refine hK.out _ _ hHeld ?_
  clear hK K
  try simp only [Act.put]
  try simp only [List.setIfInBounds_toArray, List.set_cons_zero, List.set_cons_succ]
  clear st11 eb
  refine takeFirst (i := 11) (v := ?_) rfl (by kernel_rfl) (by kernel_rfl) (by kernel_rfl) (by rfl) (fun _ _ _ h => h) ?_ (by assumption) ?_
  rotate_left
  · (intro w hSw; go_simp; try (with_reducible rfl))
  try simp only [Act.put, List.setIfInBounds_toArray, List.set_cons_zero, List.set_cons_succ]
  refine wpAnyH_done (by kernel_rfl) ?_ _
  refine NoPanic.normal ?_
  have KE2 := Lib.hid (KF7.out.more (B' := w.heap.size) (C' := w11.heap.size) (by omega) (by omega))
  clear hHeld KF7 KF
  go_wp2_with fail
  exact bodyPost_ret (v := .tuple #[wldV (.slice (some ⟨w4.heap.size + 1 + 1, 0, none⟩) css.length css.length) M, doneV u f1 f2 f3 f4, .int .i64 0]) (results_two tyWorld tyDone Tryz.results85 rfl rfl rfl ob10 (wld_size km) eb11 rfl) rfl ⟨⟨_, rfl, KE2.out⟩, low⟩
end Go.Proofs.YtgdacpcifnpojaaGreat

/- DeedDoes: Proved: what Do and Hit of package deed return, for every world that can be read and every operation: their errors; the world behind an operation, which is coherent, and what is told. No condition. -/
namespace Go.Proofs.YtgdacpcifnpojaaGreat
open Go.ChangeShapes Go.WideShapes Go.ChangeAt Go.RowKit Go.Joins

/-- Where an operation is done: by node i0, on line L. -/
structure Plc (css : List (List St)) (d : Dd) (i0 L : Nat) : Prop where
  nd : d.nd = i0
  lt : i0 < css.length
  ln : L < 16
  ad : ∃ r, r < 4 ∧ d.ad = ((L * 4 + r : Nat) : Int)
/-- The world behind an operation, and the way that has left the node's cache. -/
structure Did (n s y b : Int) (css : List (List St)) (m : List Int) (d : Dd) (i0 L : Nat) (css' : List (List St)) (out : Wy) : Prop where
  len : css'.length = css.length
  own : ∃ al, (al = true ↔ ∀ i, i < css.length → i ≠ i0 → fnd (css.getD i []) L = none) ∧ OwnIs n s y b (css.getD i0 []) L d.kd al (l4 (doM (flatW css m) d) L) (css'.getD i0 []) out
  oth : ∀ i, i < css.length → i ≠ i0 → OtherIs n s y b (css.getD i []) L d.kd (css'.getD i [])
  ok : cohE n s y b css' (keepM m out) = 0
  flat : flatW css' (keepM m out) = doM (flatW css m) d

theorem plc_of {n s y b : Int} {css : List (List St)} {m : List Int} {d : Dd} (he : findE n s y b css m d = 0) : ∃ i0 L, Plc css d i0 L := by
  obtain ⟨h1, h2, h3⟩ := findE_ok he
  obtain ⟨⟨g1, g2, g3⟩, _⟩ := cohE_iff.1 h1
  obtain ⟨⟨k1, k2⟩, _, i, k3, k4⟩ := deedE_ok h2
  exact ⟨d.nd.toNat, i / 4, by omega, by omega, by omega, i % 4, by omega, by rw [k4]; congr 1; omega⟩

theorem alone_iff {n s y b : Int} {css : List (List St)} (hall : ∀ ss ∈ css, cacheE n s y b ss = 0) {L i0 : Nat} (hL : L < 16) : (!othB (nodesL (onL L (copN css css.length))) i0) = true ↔ ∀ i, i < css.length → i ≠ i0 → fnd (css.getD i []) L = none := by
  rw [onL_copN hall hL (Nat.le_refl _), Bool.not_eq_true']
  unfold othB nodesL
  rw [List.any_eq_false]
  constructor
  · intro h i hi hne
    cases e : fnd (css.getD i []) L with
    | none => rfl
    | some x =>
      have := h (i : Int) (List.mem_map.2 ⟨⟨i, x⟩, mem_onF.2 ⟨i, x, hi, e, rfl⟩, rfl⟩)
      have e2 : (i : Int) = i0 := by simpa using this
      exact absurd (by omega) hne
  · intro h x hx
    obtain ⟨c, hc, rfl⟩ := List.mem_map.1 hx
    obtain ⟨i, z, hi, hz, rfl⟩ := mem_onF.1 hc
    by_cases e : i = i0
    · simp [e]
    · rw [h i hi e] at hz
      cases hz

/-- The owner before an operation, as it is told. -/
abbrev ownW (css : List (List St)) (L : Nat) : Int := ownN (onL L (copN css css.length))
/-- What Do gives where there is no error. -/
def GaveW (_n _s _y _b : Int) (css : List (List St)) (m : List Int) (d : Dd) (i0 L : Nat) (css' : List (List St)) (out : Wy) (w : World) (e : Ending) (w' : World) : Prop :=
  (∃ v', e = .returned (.tuple #[wldV v' (keepM m out), doneV (doV (flatW css m) d) (locB (stO (fnd (css.getD i0 []) L)) d.kd) (if stO (fnd (css.getD i0 []) L) = 0 then ownW css L else -1) (if out.st ≠ 0 then out.ln else -1) (owB out.st), .int .i64 0]) ∧ KFr w' w.heap.size w'.heap.size v' css') ∧ Below w.heap.size w w'

theorem deedDo_is {n s y b : Int} {css : List (List St)} {m : List Int} {d : Dd} {i0 L : Nat} (hm : m.length = 64) (he : findE n s y b css m d = 0) (pl : Plc css d i0 L) :
    (d.kd = 4 ∧ fnd (css.getD i0 []) L = none ∧ ∀ v w, Ks w v css → Calls Tryz.prog 85 #[cfg n s y b, wldV v m, d.val] w fun e w' => e = .returned (.tuple #[.agg nilW, .agg done0, .int .i64 5]) ∧ Below w.heap.size w w') ∨
    (¬ (d.kd = 4 ∧ fnd (css.getD i0 []) L = none) ∧ ∃ css' out, Did n s y b css m d i0 L css' out ∧ ∀ v w, Ks w v css → Calls Tryz.prog 85 #[cfg n s y b, wldV v m, d.val] w (GaveW n s y b css m d i0 L css' out w)) := by
  obtain ⟨h1, h2, h3⟩ := findE_ok he
  obtain ⟨⟨g1, g2, g3⟩, g4⟩ := cohE_iff.1 h1
  obtain ⟨hnd, hlt, hL, r, hr, ha⟩ := pl
  have hkd := (deedE_ok h2).2.1
  have n8 : css.length ≤ 8 := by have := cfgB_iff.1 g1; omega
  have hx : css[i0]? = some css[i0] := List.getElem?_eq_getElem _
  have hxd : css.getD i0 [] = css[i0] := by simp [List.getD, hx]
  have hss := g3 _ (List.mem_of_getElem? hx)
  have hal := alone_iff g3 (i0 := i0) hL
  generalize hA : (!othB (nodesL (onL L (copN css css.length))) i0) = al at hal
  have hF : ∀ v w, Ks w v css → Calls Tryz.prog 102 #[cfg n s y b, wldV v m, d.val] w fun e w' => e = .returned (.tuple #[plcV L (stO (fnd (css.getD i0 []) L)) al (ownW css L), .int .i64 0]) ∧ Below w.heap.size w w' := fun v w h => by
    have := find_ok n s y b v m css d i0 L r w h hm he hnd hlt hL hr ha
    rwa [hA] at this
  have hP : ∀ v w, Ks w v css → _ := fun v w h => plain_ok n s y b v m css d L w h hm h1 h2 hL
  -- how the caches lie
  have open_ : ∀ v w, Ks w v css → ∃ bb o cp A' c', v = .slice (some ⟨bb, o, none⟩) css.length cp ∧ bb < w.heap.size ∧ css.length ≤ cp ∧ cp ≤ maxLen ∧ w.cell? ⟨bb, o + i0, none⟩ = some (.slice A' css[i0].length c') ∧ Cs w (.slice A' css[i0].length c') css[i0] := fun v w h => by
    obtain ⟨A, cp, rfl, k1, k2, k3⟩ := h
    obtain ⟨bb, o, rfl, hbb, hc⟩ := k3 (by omega)
    obtain ⟨A', c', ce, cs⟩ := hc i0 _ hx
    exact ⟨bb, o, cp, A', c', rfl, hbb, k1, k2, ce, cs⟩
  obtain ⟨dn, dk, da, dv⟩ := d
  simp only at hnd ha hkd
  subst hnd
  rcases ownCache_is n s y b css[i0] L dk al (ownW css L) (l4 (doM (flatW css m) ⟨i0, dk, da, dv⟩) L) hss hL hkd with ⟨k4, kn, O⟩ | ⟨hno, sa, out, own, O⟩
  · left
    rw [hxd]
    refine ⟨k4, kn, fun v w h => ?_⟩
    obtain ⟨bb, o, cp, A', c', rfl, hbb, k1, k2, ce, cs⟩ := open_ v w h
    rw [hxd] at hF
    exact do_none n s y b m css i0 L dk da dv _ al (ownW css L) _ _ _ _ _ css[i0] w bb o cp c' A' h hm hlt hbb k1 k2 (Lib.hid ce) (Lib.hid cs) (Lib.hid (hF _)) (Lib.hid (hP _)) (Lib.hid O)
  · right
    have oth := fun i (hi : i < css.length) => otherCache_is n s y b (css.getD i []) L dk (g3 _ (by simp only [List.getD, List.getElem?_eq_getElem hi, Option.getD_some]; exact List.getElem_mem _)) hL hkd
    obtain ⟨css', hcs'⟩ : ∃ css', css' = (List.range css.length).map fun i => if i = i0 then sa else if h : i < css.length then Classical.choose (oth i h) else [] := ⟨_, rfl⟩
    have len : css'.length = css.length := by rw [hcs', List.length_map, List.length_range]
    have get : ∀ i, i < css.length → css'.getD i [] = if i = i0 then sa else if h : i < css.length then Classical.choose (oth i h) else [] := fun i hi => by
      rw [hcs']
      simp [List.getD, hi]
    have g0 : css'.getD i0 [] = sa := by rw [get i0 hlt, if_pos rfl]
    have gi : ∀ i, i < css.length → i ≠ i0 → OtherIs n s y b (css.getD i []) L dk (css'.getD i []) ∧ ∀ v w, Cs w v (css.getD i []) → Calls Tryz.prog 138 #[cfg n s y b, v, .int .i64 dk, .int .i64 L] w (GaveC w (css.getD i []) (css'.getD i [])) := fun i hi hne => by
      rw [get i hi, if_neg hne, dif_pos hi]
      exact Classical.choose_spec (oth i hi)
    have hsa : css'[i0]? = some sa := by
      rw [← g0]
      simp [List.getD, show i0 < css'.length by omega]
    have own' : OwnIs n s y b (css.getD i0 []) L dk al (l4 (doM (flatW css m) ⟨i0, dk, da, dv⟩) L) (css'.getD i0 []) out := by rw [hxd, g0]; exact own
    have st := step_ok (r := r) hm h1 h2 hlt hr hL ha len hal (fun i hi hne => (gi i hi hne).1) own'
    refine ⟨by rw [hxd]; exact hno, css', out, ⟨len, ⟨al, hal, own'⟩, fun i hi hne => (gi i hi hne).1, st.1, st.2⟩, fun v w h => ?_⟩
    obtain ⟨bb, o, cp, A', c', rfl, hbb, k1, k2, ce, cs⟩ := open_ v w h
    unfold GaveW
    have hO : ∀ v w, Cs w v css[i0] → _ := fun v w hw => O v w hw
    rw [hxd] at hF ⊢
    exact do_walk n s y b m css i0 L dk da dv _ al (ownW css L) _ _ _ _ _ css[i0] sa css' out w bb o cp c' A' h hm hlt hbb k1 k2 (Lib.hid ce) (Lib.hid cs) (Lib.hid (hF _)) (Lib.hid (hP _)) (Lib.hid hO) hkd (fun ho => by
      obtain ⟨k, q1, q2, _⟩ := own.left (fun e => by rw [e] at ho; revert ho; decide)
      omega) n8 len hsa (Lib.hid fun w hw => otherCaches_ok n s y b _ css css' i0 ⟨i0, dk, da, dv⟩ rfl L w hw n8 len fun i hi hne => (gi i hi hne).2)
end Go.Proofs.YtgdacpcifnpojaaGreat

/- MachModel: Proved: words for machines: when a machine is right, what a cycle makes of it; a cycle keeps a right machine right, each node does at most one operation. By lists alone, no walk. Condition: an operation keeps coherent caches coherent (handed in). -/
namespace Go.Proofs.YtgdacpcifnpojaaGreat
open Go.ChangeShapes Go.WideShapes Go.ChangeAt Go.RowKit Go.Joins

/-- A machine: configuration, caches, memory, ring, programs, how far each is, waits, how many were used. -/
structure Mc where
  n : Int
  s : Int
  y : Int
  b : Int
  css : List (List St)
  mem : List Int
  ring : List Sw
  pr : List (List Dd)
  at_ : List Int
  wts : List Int
  had : Int
/-- What was done: the operation, what it told, whether the ring brought it. -/
structure Ev where
  d : Dd
  told : Int
  by_ : Bool

def waitsB (l : List Int) : Bool := decide (l.length ≤ 20) && l.all waitB
def atsB (pr : List (List Dd)) (a : List Int) : Bool := (List.range a.length).all fun k => decide (0 ≤ a.getD k 0 ∧ a.getD k 0 ≤ ((pr.getD k []).length : Int))
def stuckB (M : Mc) : Bool := (List.range M.at_.length).any fun k => decide (M.at_.getD k 0 = ((M.pr.getD k []).length : Int)) && filB M.ring k
/-- The first error of a machine. -/
def mcE (M : Mc) : Int :=
  if cohE M.n M.s M.y M.b M.css M.mem ≠ 0 then cohE M.n M.s M.y M.b M.css M.mem
  else if ringE M.n M.s M.y M.b M.ring ≠ 0 then ringE M.n M.s M.y M.b M.ring
  else if progsE M.n M.s M.y M.b M.pr ≠ 0 then progsE M.n M.s M.y M.b M.pr
  else if (M.at_.length : Int) ≠ M.n then 3
  else if atsB M.pr M.at_ = false then 4
  else if waitsB M.wts = false ∨ M.had < 0 ∨ 1000000 < M.had then 4
  else if stuckB M = true then 3 else 0
structure McOk (M : Mc) : Prop where
  coh : cohE M.n M.s M.y M.b M.css M.mem = 0
  rng : ringE M.n M.s M.y M.b M.ring = 0
  prg : progsE M.n M.s M.y M.b M.pr = 0
  len : (M.at_.length : Int) = M.n
  ats : ∀ (k : Nat) x l, M.at_[k]? = some x → M.pr[k]? = some l → 0 ≤ x ∧ x ≤ l.length
  wts : waitsB M.wts = true
  had : 0 ≤ M.had ∧ M.had ≤ 1000000
  run : ∀ (k : Nat) x l, M.at_[k]? = some x → M.pr[k]? = some l → filB M.ring k = true → x < l.length

theorem McOk.prs {M : Mc} (h : McOk M) : M.pr.length = M.at_.length := by
  have := (progsE_zero h.prg).2.1
  have := h.len
  omega
theorem McOk.cfg {M : Mc} (h : McOk M) : cfgB M.n M.s M.y M.b = true := (progsE_zero h.prg).1
theorem McOk.nodes {M : Mc} (h : McOk M) : 2 ≤ M.n ∧ M.n ≤ 8 := by
  have := cfgB_iff.1 h.cfg
  omega
theorem mcE_zero {M : Mc} : mcE M = 0 ↔ McOk M := by
  have gd : ∀ {α : Type} {l : List α} {k : Nat} {x z : α}, l[k]? = some x → l.getD k z = x := fun h => by simp [List.getD, h]
  constructor
  · intro h
    unfold mcE at h
    by_cases h1 : cohE M.n M.s M.y M.b M.css M.mem ≠ 0
    · rw [if_pos h1] at h; exact absurd h h1
    rw [if_neg h1] at h
    by_cases h2 : ringE M.n M.s M.y M.b M.ring ≠ 0
    · rw [if_pos h2] at h; exact absurd h h2
    rw [if_neg h2] at h
    by_cases h3 : progsE M.n M.s M.y M.b M.pr ≠ 0
    · rw [if_pos h3] at h; exact absurd h h3
    rw [if_neg h3] at h
    by_cases h4 : (M.at_.length : Int) ≠ M.n
    · rw [if_pos h4] at h; cases h
    rw [if_neg h4] at h
    by_cases h5 : atsB M.pr M.at_ = false
    · rw [if_pos h5] at h; cases h
    rw [if_neg h5] at h
    by_cases h6 : waitsB M.wts = false ∨ M.had < 0 ∨ 1000000 < M.had
    · rw [if_pos h6] at h; cases h
    rw [if_neg h6] at h
    by_cases h7 : stuckB M = true
    · rw [if_pos h7] at h; cases h
    have h5' : atsB M.pr M.at_ = true := by simpa using h5
    unfold atsB at h5'
    rw [List.all_eq_true] at h5'
    have ats : ∀ (k : Nat) x l, M.at_[k]? = some x → M.pr[k]? = some l → 0 ≤ x ∧ x ≤ (l.length : Int) := fun k x l hx hl => by
      have := h5' k (by have := (List.getElem?_eq_some_iff.1 hx).1; simpa using this)
      rw [decide_eq_true_eq, gd hx, gd hl] at this
      exact this
    refine ⟨by simpa using h1, by simpa using h2, by simpa using h3, by simpa using h4, ats, ?_, by omega, fun k x l hx hl hf => ?_⟩
    · cases e : waitsB M.wts
      · exact absurd (.inl e) h6
      · rfl
    · have := ats k x l hx hl
      by_cases c : x < l.length
      · exact c
      · refine absurd ?_ h7
        unfold stuckB
        rw [List.any_eq_true]
        refine ⟨k, by have := (List.getElem?_eq_some_iff.1 hx).1; simpa using this, ?_⟩
        rw [gd hx, gd hl, hf, Bool.and_true, decide_eq_true_eq]
        omega
  · intro h
    have hp := h.prs
    unfold mcE
    rw [if_neg (by simpa using h.coh), if_neg (by simpa using h.rng), if_neg (by simpa using h.prg), if_neg (by simpa using h.len)]
    have at_some : ∀ k, k < M.at_.length → ∃ x l, M.at_[k]? = some x ∧ M.pr[k]? = some l := fun k hk => ⟨_, _, List.getElem?_eq_getElem hk, List.getElem?_eq_getElem (by omega)⟩
    have h5 : atsB M.pr M.at_ = true := by
      unfold atsB
      rw [List.all_eq_true]
      intro k hk
      obtain ⟨x, l, hx, hl⟩ := at_some k (by simpa using hk)
      rw [decide_eq_true_eq, gd hx, gd hl]
      exact h.ats k x l hx hl
    rw [if_neg (by rw [h5]; simp), if_neg (by have := h.had; have := h.wts; rintro (h | h | h) <;> first | omega | (rw [h] at this; cases this)), if_neg ?_]
    intro hs
    unfold stuckB at hs
    rw [List.any_eq_true] at hs
    obtain ⟨k, hk, e⟩ := hs
    obtain ⟨x, l, hx, hl⟩ := at_some k (by simpa using hk)
    rw [gd hx, gd hl, Bool.and_eq_true, decide_eq_true_eq] at e
    have := h.run k x l hx hl e.2
    omega

/-! A cycle. D: what an operation makes of the caches and the memory. -/
abbrev DidF := Int → Int → Int → Int → List (List St) → List Int → Dd → List (List St) × List Int
def lineN (d : Dd) : Nat := (d.ad / 4).toNat
/-- A removal of what is not there; what is done without the ring. -/
def idleB (css : List (List St)) (d : Dd) : Bool := d.kd == 4 && (fnd (css.getD d.nd.toNat []) (lineN d)).isNone
def hitB (css : List (List St)) (d : Dd) : Bool := locB (stO (fnd (css.getD d.nd.toNat []) (lineN d))) d.kd
def opAt (M : Mc) (k : Nat) : Option Dd := (M.pr[k]?).bind fun l => (M.at_[k]?).bind fun x => l[x.toNat]?
def waitM (M : Mc) : Int := if M.wts.length = 0 then 0 else M.wts.getD (M.had % M.wts.length).toNat 0
def perf (D : DidF) (M : Mc) (k : Nat) (d : Dd) : Mc :=
  if idleB M.css d = true then { M with at_ := M.at_.set k (M.at_.getD k 0 + 1) }
  else { M with at_ := M.at_.set k (M.at_.getD k 0 + 1), css := (D M.n M.s M.y M.b M.css M.mem d).1, mem := (D M.n M.s M.y M.b M.css M.mem d).2 }
def perfE (M : Mc) (bb : Bool) (d : Dd) : Ev := ⟨d, if idleB M.css d = true then 0 else doV (flatW M.css M.mem) d, bb⟩
def backS (D : DidF) (S : Mc × List Ev) (k : Nat) : Mc × List Ev := match opAt S.1 k with
  | some d => (perf D S.1 k d, S.2 ++ [perfE S.1 true d])
  | none => S
def turnS (D : DidF) (was : List Nat) (S : Mc × List Ev) (k : Nat) : Mc × List Ev :=
  if k ∈ was ∨ filB S.1.ring k = true then S else match opAt S.1 k with
    | none => S
    | some d => if idleB S.1.css d = true ∨ hitB S.1.css d = true then (perf D S.1 k d, S.2 ++ [perfE S.1 false d])
      else if S.1.ring.any (freS k) = true then ({ S.1 with ring := putR S.1.ring k (waitM S.1), had := S.1.had + 1 }, S.2) else S
/-- The nodes that come back, in their order; the ring behind the step; the cycle. -/
def backN (M : Mc) : List Nat := (List.range M.n.toNat).filter fun (k : Nat) => decide ((k : Int) ∈ backL M.n M.ring)
def advM (M : Mc) : Mc := { M with ring := M.ring.map (advS M.n) }
def cycM (D : DidF) (M : Mc) : Mc × List Ev := (List.range M.n.toNat).foldl (turnS D (backN M)) ((backN M).foldl (backS D) (advM M, []))
/-- An operation keeps coherent caches coherent, and does in the flat memory what it does. -/
def DidOk (D : DidF) : Prop := ∀ (n s y b : Int) (css : List (List St)) (m : List Int) (d : Dd), m.length = 64 → findE n s y b css m d = 0 → idleB css d = false →
  cohE n s y b (D n s y b css m d).1 (D n s y b css m d).2 = 0 ∧ (D n s y b css m d).2.length = 64 ∧ flatW (D n s y b css m d).1 (D n s y b css m d).2 = doM (flatW css m) d
end Go.Proofs.YtgdacpcifnpojaaGreat

/- RowOpen: Proved: what is known of a way and of a set that can be read. No condition. -/
namespace Go.Proofs.YtgdacpcifnpojaaGreat
open Go.ChangeShapes Go.WideShapes Go.ChangeAt Go.RowKit Go.Joins

def IsWay (v : Value) : Prop := ∃ x : Wy, v = x.val
def IsRow (w : World) (v : Value) : Prop := ∃ s l a b c, v = rowV s a b c ∧ Ws w s l

theorem way_of {cs : List Value} (h : AllOk [.int .i64, .int .i64, .int .u64, .int .u64, .int .u64, .int .u64] cs) : ∃ x : Wy, cs = x.cells := by
  obtain ⟨_, _, rfl, ⟨a, rfl, _⟩, h1⟩ := h.cons_
  obtain ⟨_, _, rfl, ⟨b, rfl, _⟩, h2⟩ := h1.cons_
  obtain ⟨_, _, rfl, ⟨c, rfl, _⟩, h3⟩ := h2.cons_
  obtain ⟨_, _, rfl, ⟨d, rfl, _⟩, h4⟩ := h3.cons_
  obtain ⟨_, _, rfl, ⟨e, rfl, _⟩, h5⟩ := h4.cons_
  obtain ⟨_, _, rfl, ⟨f, rfl, _⟩, h6⟩ := h5.cons_
  obtain rfl := h6.nil_
  exact ⟨⟨a, b, c, d, e, f⟩, rfl⟩

theorem ways_of : ∀ {css : List (List Value)}, (∀ c ∈ css, ∃ x : Wy, c = x.cells) → ∃ l : List Wy, l.length = css.length ∧ css.flatten = waysC l
  | [], _ => ⟨[], rfl, rfl⟩
  | c :: r, h => by
    obtain ⟨x, rfl⟩ := h c (by simp)
    obtain ⟨l, h1, h2⟩ := ways_of (css := r) (fun d hd => h d (by simp [hd]))
    exact ⟨x :: l, by simp [h1], by simp only [List.flatten_cons, waysC, List.flatMap_cons] at *; rw [h2]⟩

section
variable {H : Type} {enc : TypeId × Value → H} {W : World} {base : Nat} {v : Value} {d : DataW H} {p : List MemPlace}
set_option maxRecDepth 10000 in
theorem openWay (hv : Value.okWide Tryz.prog W .any base 80 v) (h : DataW.Trod enc Tryz.prog W 0 (fun _ => true) true 80 v d p) : IsWay v := by
  obtain ⟨cs, rfl, hk⟩ := flat_value (n := 3) (ks := [.int .i64, .int .i64, .int .u64, .int .u64, .int .u64, .int .u64]) (by kernel_rfl) (.inl ⟨_, Tryz.underlying80⟩) hv h
  obtain ⟨x, rfl⟩ := way_of hk
  exact ⟨x, rfl⟩

theorem cells_row : Tryz.prog.cellsOf 77 = 4 := by kernel_rfl
theorem cells_ways : Tryz.prog.cellsOf 73 = 1 := by kernel_rfl
theorem cells_way : Tryz.prog.cellsOf 80 = 6 := by kernel_rfl
theorem cells_tree3 : Tryz.prog.cellsOf 75 = 3 := by kernel_rfl

set_option maxRecDepth 10000 in
theorem row_trod {fuel : Nat} {cs : List Value} {x : DataW H × List MemPlace} (h : DataW.trod enc Tryz.prog W 0 (fun _ => true) true fuel 77 cs = some x) : ∃ s l a b c, cs = [s, .bool a, .bool b, .bool c] ∧ Ws W s l := by
  obtain ⟨xs, m, _, _, hl, hxl, hf⟩ := DataW.trod_struct Tryz.underlying77 h
  rw [cells_row] at hl
  match cs, hl with
  | [c0, c1, c2, c3], _ =>
    have hf' : ∀ (i : Nat) (f : Field), _ → _ := fun i f hi => hf i f (by rw [← Array.getElem?_toList]; exact hi)
    have h0 := hf' 0 _ rfl
    have h1 := hf' 1 _ rfl
    dsimp only at h0 h1
    rw [List.getElem?_eq_getElem (by simp at hxl; omega)] at h0 h1
    obtain ⟨v, css, e, sl, hcs⟩ := slice_open Tryz.underlying73 (by rw [cells_way]; omega) h0
    simp only [cells_ways, List.drop_zero, List.take_succ_cons, List.take_zero, List.cons.injEq, and_true] at e
    subst e
    have h1' := flat_open 2 75 [.bool, .bool, .bool] (by kernel_rfl) _ _ _ h1
    simp only [cells_tree3, List.drop_succ_cons, List.drop_zero, List.take_succ_cons, List.take_zero] at h1'
    obtain ⟨⟨a, rfl⟩, ⟨b, rfl⟩, ⟨c, rfl⟩, _⟩ := h1'
    obtain ⟨l, l1, l2⟩ := ways_of (css := css) (fun c hc => by
      obtain ⟨_, m, y, hy⟩ := hcs c hc
      exact way_of (flat_open 3 80 _ (by kernel_rfl) m c y hy))
    rw [cells_way, l2, ← l1] at sl
    exact ⟨c0, l, a, b, c, rfl, ⟨sl⟩⟩

set_option maxRecDepth 10000 in
theorem openRow (hv : Value.okWide Tryz.prog W .any base 77 v) (h : DataW.Trod enc Tryz.prog W 0 (fun _ => true) true 77 v d p) : IsRow W v := by
  obtain ⟨cs, rfl⟩ := okWide_agg (.inl ⟨_, Tryz.underlying77⟩) hv
  obtain ⟨m, h⟩ := h
  obtain ⟨s, l, a, b, c, rfl, ws⟩ := row_trod (cs := cs) (by simpa [Value.cells] using h)
  exact ⟨s, l, a, b, c, rfl, ws⟩
end
end Go.Proofs.YtgdacpcifnpojaaGreat

/- CacheOpen: Proved: what is known of a cache that can be read. No condition. -/
namespace Go.Proofs.YtgdacpcifnpojaaGreat
open Go.ChangeShapes Go.WideShapes Go.ChangeAt Go.RowKit Go.Joins

def IsCache (w : World) (v : Value) : Prop := ∃ ss, Cs w v ss

theorem flatten_at {α : Type} {n : Nat} : ∀ {css : List (List α)} {k : Nat} {c : List α}, (∀ c ∈ css, c.length = n) → css[k]? = some c → ∀ j, j < n → css.flatten[k * n + j]? = c[j]?
  | [], k, c, _, h, j, hj => by simp at h
  | d :: r, 0, c, hl, h, j, hj => by
    simp only [List.getElem?_cons_zero, Option.some.injEq] at h
    subst h
    have := hl d (by simp)
    rw [List.flatten_cons, Nat.zero_mul, Nat.zero_add, List.getElem?_append_left (by omega)]
  | d :: r, k + 1, c, hl, h, j, hj => by
    have hd := hl d (by simp)
    rw [List.flatten_cons, List.getElem?_append_right (by rw [hd, Nat.succ_mul]; omega), hd, show (k + 1) * n + j - n = k * n + j by rw [Nat.succ_mul]; omega]
    exact flatten_at (fun c hc => hl c (by simp [hc])) (by simpa using h) j hj

theorem rows_of {W : World} : ∀ {css : List (List Value)}, (∀ c ∈ css, ∃ s l a b c', c = [s, .bool a, .bool b, .bool c'] ∧ Ws W s l) →
    ∃ ss : List St, ss.length = css.length ∧ ∀ (k : Nat) t, ss[k]? = some t → ∃ A c, css[k]? = some [.slice A t.l.length c, .bool t.a, .bool t.b, .bool t.c] ∧ Ws W (.slice A t.l.length c) t.l
  | [], _ => ⟨[], rfl, fun k t h => by simp at h⟩
  | c :: r, h => by
    obtain ⟨s, l, a, b, c', rfl, ws⟩ := h c (by simp)
    obtain ⟨ss, h1, h2⟩ := rows_of (css := r) (fun d hd => h d (by simp [hd]))
    obtain ⟨A, cp, rfl⟩ : ∃ A c, s = .slice A l.length c := by obtain ⟨_, A, c, e, _⟩ := ws; exact ⟨A, c, e⟩
    refine ⟨⟨l, a, b, c'⟩ :: ss, by simp [h1], fun k t hk => ?_⟩
    cases k with
    | zero =>
      simp only [List.getElem?_cons_zero, Option.some.injEq] at hk
      subst hk
      exact ⟨A, cp, rfl, ws⟩
    | succ k =>
      obtain ⟨A', c2, h3, h4⟩ := h2 k t (by simpa using hk)
      exact ⟨A', c2, by simpa using h3, h4⟩

section
variable {H : Type} {enc : TypeId × Value → H} {W : World} {base : Nat} {v : Value} {d : DataW H} {p : List MemPlace}
theorem cs_of {css : List (List Value)} (sl : Sl W W.heap.size 4 v css.length css.flatten) (hcs : ∀ c ∈ css, ∃ m y, DataW.trod enc Tryz.prog W 0 (fun _ => true) true m 77 c = some y) : IsCache W v := by
  obtain ⟨ss, h1, h2⟩ := rows_of (W := W) (css := css) (fun c hc => by
    obtain ⟨m, y, hy⟩ := hcs c hc
    exact row_trod hy)
  have hl : ∀ c ∈ css, c.length = 4 := fun c hc => by
    obtain ⟨m, y, hy⟩ := hcs c hc
    obtain ⟨s, l, a, b, c', rfl, _⟩ := row_trod hy
    rfl
  obtain ⟨_, A, cp, rfl, g1, g2, g3⟩ := sl
  refine ⟨ss, A, cp, by rw [h1], by omega, g2, fun h0 => ?_⟩
  obtain ⟨b, o, eA, hb, hc⟩ := g3 (by omega)
  refine ⟨b, o, eA, hb, ⟨fun k t hk => ?_⟩⟩
  obtain ⟨A', c', h3, h4⟩ := h2 k t hk
  have f : ∀ j u, j < 4 → [Value.slice A' t.l.length c', .bool t.a, .bool t.b, .bool t.c][j]? = some u → W.cell? ⟨b, o + k * 4 + j, none⟩ = some u := fun j u hj hu => by
    rw [Nat.add_assoc]
    exact hc _ _ ((flatten_at hl h3 j hj).trans hu)
  exact ⟨A', c', ⟨f 0 _ (by omega) rfl, f 1 _ (by omega) rfl, f 2 _ (by omega) rfl, f 3 _ (by omega) rfl⟩, h4⟩

set_option maxRecDepth 10000 in
theorem openCache (hv : Value.okWide Tryz.prog W .any base 72 v) (h : DataW.Trod enc Tryz.prog W 0 (fun _ => true) true 72 v d p) : IsCache W v := by
  obtain ⟨css, h1, h2⟩ := slice_value Tryz.underlying72 (by rw [cells_row]; omega) hv h
  rw [cells_row] at h1
  exact cs_of h1 (fun c hc => (h2 c hc).2)
end
end Go.Proofs.YtgdacpcifnpojaaGreat

/- AgreeOpen: Proved: what is known of a world that can be read. No condition. -/
namespace Go.Proofs.YtgdacpcifnpojaaGreat
open Go.ChangeShapes Go.WideShapes Go.ChangeAt Go.RowKit Go.Joins

def IsWorld (w : World) (v : Value) : Prop := ∃ u m css, v = wldV u m ∧ m.length = 64 ∧ Ks w u css

theorem caches_of {W : World} : ∀ {css : List (List Value)}, (∀ c ∈ css, ∃ s, c = [s] ∧ IsCache W s) →
    ∃ ks : List (List St), ks.length = css.length ∧ ∀ (k : Nat) ss, ks[k]? = some ss → ∃ A c, css[k]? = some [.slice A ss.length c] ∧ Cs W (.slice A ss.length c) ss
  | [], _ => ⟨[], rfl, fun k t h => by simp at h⟩
  | c :: r, h => by
    obtain ⟨s, rfl, ss, cs⟩ := h c (by simp)
    obtain ⟨ks, h1, h2⟩ := caches_of (css := r) (fun d hd => h d (by simp [hd]))
    obtain ⟨A, cp, rfl⟩ : ∃ A c, s = .slice A ss.length c := by obtain ⟨A, c, e, _⟩ := cs; exact ⟨A, c, e⟩
    refine ⟨ss :: ks, by simp [h1], fun k t hk => ?_⟩
    cases k with
    | zero =>
      simp only [List.getElem?_cons_zero, Option.some.injEq] at hk
      subst hk
      exact ⟨A, cp, rfl, cs⟩
    | succ k =>
      obtain ⟨A', c2, h3, h4⟩ := h2 k t (by simpa using hk)
      exact ⟨A', c2, by simpa using h3, h4⟩

section
variable {H : Type} {enc : TypeId × Value → H} {W : World} {base : Nat} {v : Value} {d : DataW H} {p : List MemPlace}
theorem cells_cache : Tryz.prog.cellsOf 72 = 1 := by kernel_rfl
theorem cells_caches : Tryz.prog.cellsOf 24 = 1 := by kernel_rfl
theorem cells_mem : Tryz.prog.cellsOf 29 = 64 := by kernel_rfl
theorem cells_world : Tryz.prog.cellsOf 31 = 65 := by kernel_rfl

theorem ks_of {css : List (List Value)} (sl : Sl W W.heap.size 1 v css.length css.flatten) (hcs : ∀ c ∈ css, ∃ m y, DataW.trod enc Tryz.prog W 0 (fun _ => true) true m 72 c = some y) : ∃ ks, Ks W v ks := by
  have one : ∀ c ∈ css, ∃ s, c = [s] ∧ IsCache W s := fun c hc => by
    obtain ⟨m, y, hy⟩ := hcs c hc
    obtain ⟨s, css', e, sl', h'⟩ := slice_open Tryz.underlying72 (by rw [cells_row]; omega) hy
    rw [cells_row] at sl'
    exact ⟨s, e, cs_of sl' (fun c hc => (h' c hc).2)⟩
  obtain ⟨ks, h1, h2⟩ := caches_of one
  have hl : ∀ c ∈ css, c.length = 1 := fun c hc => by
    obtain ⟨s, rfl, _⟩ := one c hc
    rfl
  obtain ⟨_, A, cp, rfl, g1, g2, g3⟩ := sl
  refine ⟨ks, A, cp, by rw [h1], by omega, g2, fun h0 => ?_⟩
  obtain ⟨b, o, eA, hb, hc⟩ := g3 (by omega)
  refine ⟨b, o, eA, hb, fun k ss hk => ?_⟩
  obtain ⟨A', c', h3, h4⟩ := h2 k ss hk
  refine ⟨A', c', hc k _ ?_, h4⟩
  have := flatten_at (n := 1) hl h3 0 (by omega)
  simpa using this

set_option maxRecDepth 10000 in
theorem world_trod {fuel : Nat} {cs : List Value} {x : DataW H × List MemPlace} (h : DataW.trod enc Tryz.prog W 0 (fun _ => true) true fuel 31 cs = some x) : ∃ (u : Value) (m : List Int) (css : List (List St)), cs = u :: m.map (Value.int .u64) ∧ m.length = 64 ∧ Ks W u css := by
  obtain ⟨xs, m, _, _, hl, hxl, hf⟩ := DataW.trod_struct Tryz.underlying31 h
  rw [cells_world] at hl
  have hf' : ∀ (i : Nat) (f : Field), _ → _ := fun i f hi => hf i f (by rw [← Array.getElem?_toList]; exact hi)
  have h0 := hf' 0 _ rfl
  have h1 := hf' 1 _ rfl
  dsimp only at h0 h1
  rw [List.getElem?_eq_getElem (by simp at hxl; omega)] at h0 h1
  obtain ⟨u, css, e, sl, hcs⟩ := slice_open Tryz.underlying24 (by rw [cells_cache]; omega) h0
  have h1' := flat_open 3 29 (List.replicate 64 (.int .u64)) (by kernel_rfl) _ _ _ h1
  obtain ⟨l, hl1, hl2⟩ := words_of h1'
  rw [cells_caches] at e
  rw [cells_mem] at hl1
  rw [cells_cache] at sl
  obtain ⟨ks, hks⟩ := ks_of sl (fun c hc => (hcs c hc).2)
  refine ⟨u, l, ks, ?_, hl2, hks⟩
  cases cs with
  | nil => simp at hl
  | cons a r =>
    simp only [List.drop_zero, List.take_succ_cons, List.take_zero, List.cons.injEq, and_true] at e
    subst e
    simp only [List.drop_succ_cons, List.drop_zero] at hl1
    rw [← hl1, List.take_of_length_le (by simp at hl; omega)]

set_option maxRecDepth 10000 in
theorem openWorld (hv : Value.okWide Tryz.prog W .any base 31 v) (h : DataW.Trod enc Tryz.prog W 0 (fun _ => true) true 31 v d p) : IsWorld W v := by
  obtain ⟨cs, rfl⟩ := okWide_agg (.inl ⟨_, Tryz.underlying31⟩) hv
  obtain ⟨m, h⟩ := h
  obtain ⟨u, l, css, rfl, h1, h2⟩ := world_trod (cs := cs) (by simpa [Value.cells] using h)
  exact ⟨u, l, css, rfl, h1, h2⟩
end
end Go.Proofs.YtgdacpcifnpojaaGreat

/- ProgFns: Proved: what Check and Next of package prog return, for all programs that can be read; they change nothing that was there. An argument that is a list of ints. No condition. -/
namespace Go.Proofs.YtgdacpcifnpojaaGreat
open Go.ChangeShapes Go.WideShapes Go.ChangeAt Go.RowKit Go.Joins

/-! Lists of ints. -/
def IsInts (w : World) (v : Value) : Prop := ∃ xs : List Int, Sl w w.heap.size 1 v xs.length (xs.map (Value.int .i64)) ∧ ∀ x ∈ xs, I64 x
theorem ints_of : ∀ {css : List (List Value)}, (∀ c ∈ css, ∃ x : Int, c = [.int .i64 x] ∧ I64 x) → ∃ xs : List Int, xs.length = css.length ∧ css.flatten = xs.map (Value.int .i64) ∧ ∀ x ∈ xs, I64 x
  | [], _ => ⟨[], rfl, rfl, by simp⟩
  | c :: r, h => by
    obtain ⟨x, rfl, hx⟩ := h c (by simp)
    obtain ⟨xs, h1, h2, h3⟩ := ints_of (css := r) (fun d hd => h d (by simp [hd]))
    refine ⟨x :: xs, by simp [h1], by simp [h2], fun y hy => ?_⟩
    rcases List.mem_cons.1 hy with rfl | hy
    · exact hx
    · exact h3 y hy

section
variable {H : Type} {enc : TypeId × Value → H} {W : World} {base : Nat} {v : Value} {d : DataW H} {q : List MemPlace}
theorem cells_int : Tryz.prog.cellsOf 3 = 1 := by kernel_rfl
set_option maxRecDepth 10000 in
theorem openInts (hv : Value.okWide Tryz.prog W .any base 35 v) (h : DataW.Trod enc Tryz.prog W 0 (fun _ => true) true 35 v d q) : IsInts W v := by
  obtain ⟨css, sl, hcs⟩ := slice_value Tryz.underlying35 (by rw [cells_int]; omega) hv h
  obtain ⟨xs, l1, l2, l3⟩ := ints_of (css := css) (fun c hc => by
    obtain ⟨_, m, y, hy⟩ := hcs c hc
    have hk := flat_open 1 3 [.int .i64] (by kernel_rfl) m c y hy
    obtain ⟨_, _, rfl, ⟨a, rfl, wa⟩, h1⟩ := hk.cons_
    obtain rfl := h1.nil_
    exact ⟨a, rfl, bounds_i64 wa⟩)
  rw [cells_int, l2, ← l1] at sl
  exact ⟨xs, sl, l3⟩
end

/-- The cell of an int. -/
theorem int_at {w w' : World} {b o B : Nat} {xs : List Int} {k : Nat} {x : Int} (hc : ∀ j u, (xs.map (Value.int .i64))[j]? = some u → w.cell? ⟨b, o + j, none⟩ = some u) (hb : b < B) (low : Below B w w') (h : xs[k]? = some x) :
    w'.cell? ⟨b, o + k, none⟩ = some (.int .i64 x) := (low.cell (p := ⟨b, o + k, none⟩) hb).trans (hc k _ (by rw [List.getElem?_map, h]; rfl))


set_option maxHeartbeats 1000000 in
theorem checkProgram_any (k : Int) (v : Value) (l : List Dd) (w : World) (h : Ds w v l) :
    Calls Tryz.prog 56 #[.int .i64 k, v] w fun e w' => e = .returned (.int .i64 (progE k l)) ∧ Below w.heap.size w w' := by
  obtain ⟨_, A, c, rfl, g1, g2, g3⟩ := h
  have G3 := Lib.hid g3
  unfold maxLen at g2
  clear g3
  have low := Below.refl w.heap.size w
  by_cases h20 : 20 < l.length
  · have h20' : (20 : Int) < l.length := by omega
    rw [show progE k l = 2 by unfold progE; rw [if_pos h20]]
    clear h20
    go_enter Tryz.func56, Tryz.ntmps56
    go_wp2_with fail
    go_ret
    exact ⟨rfl, low⟩
  · have h20' : ¬ (20 : Int) < l.length := by omega
    have E0 := Lib.hid (show progE k l = ownE k l by unfold progE; rw [if_neg h20])
    rw [E0.out]
    generalize hT : ownE k l = T
    have HT := Lib.hid hT
    clear h20 hT E0
    go_enter Tryz.func56, Tryz.ntmps56
    go_wp2_with fail
    go_loopw [13] (fun i wr => ∃ j : Nat, j ≤ l.length ∧ i = .int .i64 j ∧ Hid (ownE k (l.drop j) = T) ∧ Below w.heap.size w wr) (fun i _ => l.length - (intOf i).toNat)
    case atStart => exact ⟨0, Nat.zero_le _, rfl, Lib.hid (by rw [List.drop_zero]; exact HT.out), low⟩
    case round =>
      clear low
      obtain ⟨j, hj, rfl, hs, low⟩ := hrel
      by_cases hj2 : j < l.length
      · obtain ⟨b2, o2, rfl, hb2, hc2⟩ := G3.out (by omega)
        have hd : l[j]? = some l[j] := List.getElem?_eq_getElem _
        generalize l[j] = d at hd
        obtain ⟨c0, c1, c2, c3⟩ := deedAt_of hc2 hb2 low hd
        have e := hs.out
        rw [ownE_at hd] at e
        have E := Lib.hid e
        have DF := Lib.hid fun w => atomicRight_any d w
        generalize hde : deedE d = de at DF E
        obtain ⟨dn, dk, da, dv⟩ := d
        simp only at c0 c1 c2 c3
        have j0 : (0 : Int) ≤ j := by omega
        have j1 : (j : Int) < l.length := by omega
        clear hd hc2 hs e hde
        have db := boxNext low 59 #[.int .i64 dn, .int .i64 dk, .int .i64 da, .int .u64 dv]
        replace low := gAlloc low (.cells #[.int .i64 dn, .int .i64 dk, .int .i64 da, .int .u64 dv] 59)
        try simp only [World.size_alloc] at db
        go_wp2_with fail
        (with_reducible refine (DF.out _).mono ?_); rintro e w2 ⟨rfl, hb3⟩
        replace db := db.call hb3
        replace low := gCall low hb3
        clear hb3 c0 c1 c2 c3 DF
        by_cases h0 : de = 0
        · subst h0
          by_cases h4 : dn = k
          · have h4' : (dn != k) = false := by simpa using h4
            have NX : Hid (ownE k (l.drop (j + 1)) = T) := Lib.hid (by
              have := E.out
              simpa [h4] using this)
            clear h4 E
            have db_0 := db.at_ 0 rfl
            have db_1 := db.at_ 1 rfl
            have db_2 := db.at_ 2 rfl
            have db_3 := db.at_ 3 rfl
            go_wp2_with fail
            go_roundw
            case rel => exact ⟨j + 1, by omega, by go_num, NX, low⟩
            case measure => simp [intOf]; omega
          · obtain rfl : 3 = T := by
              have := E.out
              simpa [h4] using this
            have h4' : (dn != k) = true := by simpa using h4
            clear h4 E
            have db_0 := db.at_ 0 rfl
            have db_1 := db.at_ 1 rfl
            have db_2 := db.at_ 2 rfl
            have db_3 := db.at_ 3 rfl
            go_wp2_with fail
            go_ret
            exact ⟨rfl, low⟩
        · obtain rfl : de = T := by
            have := E.out
            simpa [h0] using this
          have h0' : (de != 0) = true := by simpa using h0
          clear h0 E
          go_wp2_with fail
          go_ret
          exact ⟨rfl, low⟩
      · obtain rfl : j = l.length := by omega
        obtain rfl : 0 = T := by
          have := hs.out
          rw [List.drop_length] at this
          exact this
        go_wp2_with fail
        go_ret
        exact ⟨rfl, low⟩

set_option maxHeartbeats 2000000 in
theorem progCheck_any (n s y b : Int) (v : Value) (p : List (List Dd)) (w : World) (h : Ps w v p) :
    Calls Tryz.prog 26 #[cfg n s y b, v] w fun e w' => e = .returned (.int .i64 (progsE n s y b p)) ∧ Below w.heap.size w w' := by
  obtain ⟨A, c, rfl, h1, h2, h3⟩ := h.ex
  have H3 := Lib.hid h3
  unfold maxLen at h2
  clear h h3
  have low := Below.refl w.heap.size w
  have cb := boxNext low 23 #[.int .i64 n, .int .i64 s, .int .i64 y, .int .i64 b]
  replace low := gAlloc low (.cells #[.int .i64 n, .int .i64 s, .int .i64 y, .int .i64 b] 23)
  try simp only [World.size_alloc] at cb
  cases hB : cfgB n s y b with
  | false =>
    have C := Lib.hid fun w => check_bad n s y b w hB
    have E := Lib.hid (show progsE n s y b p = 4 by unfold progsE; rw [if_pos hB])
    rw [E.out]
    clear hB E
    go_enter Tryz.func26, Tryz.ntmps26
    go_wp2_with fail
    (with_reducible refine (C.out _).mono ?_); rintro e w1 ⟨rfl, hb⟩
    replace cb := cb.call hb
    replace low := gCall low hb
    clear hb
    go_wp2_with fail
    go_ret
    exact ⟨rfl, low⟩
  | true =>
    have C := Lib.hid fun w => check_ok n s y b w hB
    by_cases hn : (p.length : Int) = n
    · have E := Lib.hid (show progsE n s y b p = listE 0 p by unfold progsE; rw [if_neg (by rw [hB]; simp), if_neg (by simpa using hn)])
      rw [E.out]
      have hn' : ((p.length : Int) != n) = false := by simpa using hn
      generalize hT : listE 0 p = T
      have HT := Lib.hid hT
      clear hB E hT hn
      go_enter Tryz.func26, Tryz.ntmps26
      go_wp2_with fail
      (with_reducible refine (C.out _).mono ?_); rintro e w1 ⟨rfl, hb⟩
      replace cb := cb.call hb
      replace low := gCall low hb
      clear hb
      have cb_0 := cb.at_ 0 rfl
      have cb_1 := cb.at_ 1 rfl
      have cb_2 := cb.at_ 2 rfl
      have cb_3 := cb.at_ 3 rfl
      go_wp2_with fail
      clear cb_0 cb_1 cb_2 cb_3
      go_loopw [21] (fun i wr => ∃ k : Nat, k ≤ p.length ∧ i = .int .i64 k ∧ Hid (listE k (p.drop k) = T) ∧ Below w.heap.size w wr) (fun i _ => p.length - (intOf i).toNat)
      case atStart => exact ⟨0, Nat.zero_le _, rfl, Lib.hid (by rw [List.drop_zero]; exact HT.out), low⟩
      case round =>
        clear cb low C
        obtain ⟨k, hk, rfl, hs, low⟩ := hrel
        by_cases hlt : k < p.length
        · obtain ⟨bb, o, rfl, hb, hc⟩ := H3.out (by omega)
          have hx : p[k]? = some p[k] := List.getElem?_eq_getElem _
          generalize p[k] = l at hx
          obtain ⟨A', c', ce, ds⟩ := hc k l hx
          have e := hs.out
          rw [listE_at hx] at e
          have E := Lib.hid e
          have CP := Lib.hid fun w h => checkProgram_any k (.slice A' l.length c') l w h
          replace ce := (low.cell (p := ⟨bb, o + k, none⟩) hb).trans ce
          replace ds := ds.call low
          generalize progE k l = de at E CP
          have k0 : (0 : Int) ≤ k := by omega
          have k1 : (k : Int) < p.length := by omega
          clear hx hc hs e
          go_wp2_with fail
          (with_reducible refine (CP.out _ ds).mono ?_); rintro e w2 ⟨rfl, hb2⟩
          replace low := gCall low hb2
          clear hb2 ce ds CP
          by_cases h0 : de = 0
          · subst h0
            have NX : Hid (listE ((k + 1 : Nat) : Int) (p.drop (k + 1)) = T) := Lib.hid (by
              have := E.out
              simpa using this)
            clear E
            go_wp2_with fail
            go_roundw
            case rel => exact ⟨k + 1, by omega, by go_num, NX, low⟩
            case measure => simp [intOf]; omega
          · obtain rfl : de = T := by
              have := E.out
              simpa [h0] using this
            have h0' : (de != 0) = true := by simpa using h0
            clear h0 E
            go_wp2_with fail
            go_ret
            exact ⟨rfl, low⟩
        · obtain rfl : k = p.length := by omega
          obtain rfl : 0 = T := by
            have := hs.out
            rw [List.drop_length] at this
            exact this
          go_wp2_with fail
          go_ret
          exact ⟨rfl, low⟩
    · have E := Lib.hid (show progsE n s y b p = 3 by unfold progsE; rw [if_neg (by rw [hB]; simp), if_pos hn])
      have hn' : ((p.length : Int) != n) = true := by simpa using hn
      rw [E.out]
      clear hB E hn
      go_enter Tryz.func26, Tryz.ntmps26
      go_wp2_with fail
      (with_reducible refine (C.out _).mono ?_); rintro e w1 ⟨rfl, hb⟩
      replace cb := cb.call hb
      replace low := gCall low hb
      clear hb
      have cb_0 := cb.at_ 0 rfl
      have cb_1 := cb.at_ 1 rfl
      have cb_2 := cb.at_ 2 rfl
      have cb_3 := cb.at_ 3 rfl
      go_wp2_with fail
      go_ret
      exact ⟨rfl, low⟩

/-! Next. -/
abbrev dd0 : Value := .agg #[.int .i64 0, .int .i64 0, .int .i64 0, .int .u64 0]
/-- Where Next finds no program. -/
def NextBad (p : List (List Dd)) (xs : List Int) (node : Int) : Prop := node < 0 ∨ (p.length : Int) ≤ node ∨ xs.length ≠ p.length ∨ ∃ a, xs[node.toNat]? = some a ∧ a < 0

set_option maxHeartbeats 1000000 in
theorem next_bad (v av : Value) (p : List (List Dd)) (xs : List Int) (node : Int) (w : World) (h : Ps w v p) (ha : Sl w w.heap.size 1 av xs.length (xs.map (Value.int .i64))) (hbad : NextBad p xs node) :
    Calls Tryz.prog 84 #[v, av, .int .i64 node] w fun e w' => e = .returned (.tuple #[dd0, .bool false, .int .i64 4]) ∧ Below w.heap.size w w' := by
  obtain ⟨A, c, rfl, h1, h2, h3⟩ := h.ex
  obtain ⟨_, A2, c2, rfl, g1, g2, g3⟩ := ha
  have G3 := Lib.hid g3
  unfold maxLen at h2 g2
  clear h h3 g3
  have low := Below.refl w.heap.size w
  have db := boxNext low 59 #[.int .i64 0, .int .i64 0, .int .i64 0, .int .u64 0]
  replace low := gAlloc low (.cells #[.int .i64 0, .int .i64 0, .int .i64 0, .int .u64 0] 59)
  try simp only [World.size_alloc] at db
  by_cases r1 : node < 0
  · clear hbad
    go_enter Tryz.func84, Tryz.ntmps84
    have db_0 := db.at_ 0 rfl
    have db_1 := db.at_ 1 rfl
    have db_2 := db.at_ 2 rfl
    have db_3 := db.at_ 3 rfl
    go_wp2_with fail
    refine bodyPost_ret (v := .tuple #[dd0, .bool false, .int .i64 4]) (by simp [results, Tryz.results84, go_sem, db_0, db_1, db_2, db_3]) rfl ⟨rfl, ?_⟩
    repeat (refine gSet ?_ (by dsimp only; omega) _)
    exact low
  · have r1' : (0 : Int) ≤ node := by omega
    by_cases r2 : (p.length : Int) ≤ node
    · have r2' : decide ((p.length : Int) ≤ node) = true := decide_eq_true r2
      clear hbad
      go_enter Tryz.func84, Tryz.ntmps84
      have db_0 := db.at_ 0 rfl
      have db_1 := db.at_ 1 rfl
      have db_2 := db.at_ 2 rfl
      have db_3 := db.at_ 3 rfl
      go_wp2_with fail
      refine bodyPost_ret (v := .tuple #[dd0, .bool false, .int .i64 4]) (by simp [results, Tryz.results84, go_sem, db_0, db_1, db_2, db_3]) rfl ⟨rfl, ?_⟩
      repeat (refine gSet ?_ (by dsimp only; omega) _)
      exact low
    · have r2' : decide ((p.length : Int) ≤ node) = false := decide_eq_false r2
      by_cases r3 : xs.length = p.length
      · have r3' : ((xs.length : Int) != (p.length : Int)) = false := by simp [r3]
        obtain ⟨k, rfl⟩ : ∃ k : Nat, node = k := ⟨node.toNat, by omega⟩
        obtain ⟨a, ha, hneg⟩ : ∃ a, xs[k]? = some a ∧ a < 0 := by
          rcases hbad with h | h | h | ⟨a, h1, h2⟩
          · omega
          · omega
          · exact absurd r3 h
          · exact ⟨a, by simpa using h1, h2⟩
        have r2n : decide (p.length ≤ k) = false := decide_eq_false (by omega)
        obtain ⟨b, o, rfl, hb, hc⟩ := G3.out (by omega)
        have ca := int_at hc hb low ha
        have k1 : (k : Int) < xs.length := by omega
        clear hbad hc r2 r3 ha
        go_enter Tryz.func84, Tryz.ntmps84
        have db_0 := db.at_ 0 rfl
        have db_1 := db.at_ 1 rfl
        have db_2 := db.at_ 2 rfl
        have db_3 := db.at_ 3 rfl
        go_wp2_with fail
        refine bodyPost_ret (v := .tuple #[dd0, .bool false, .int .i64 4]) (by simp [results, Tryz.results84, go_sem, db_0, db_1, db_2, db_3]) rfl ⟨rfl, ?_⟩
        repeat (refine gSet ?_ (by dsimp only; omega) _)
        exact low
      · have r3' : ((xs.length : Int) != (p.length : Int)) = true := by simp; omega
        clear hbad r3
        go_enter Tryz.func84, Tryz.ntmps84
        have db_0 := db.at_ 0 rfl
        have db_1 := db.at_ 1 rfl
        have db_2 := db.at_ 2 rfl
        have db_3 := db.at_ 3 rfl
        go_wp2_with fail
        refine bodyPost_ret (v := .tuple #[dd0, .bool false, .int .i64 4]) (by simp [results, Tryz.results84, go_sem, db_0, db_1, db_2, db_3]) rfl ⟨rfl, ?_⟩
        repeat (refine gSet ?_ (by dsimp only; omega) _)
        exact low

/-- What Next finds at place j of program k. -/
def NextIs (l : List Dd) (a : Int) (e : Ending) : Prop :=
  ((l.length : Int) ≤ a ∧ e = .returned (.tuple #[dd0, .bool false, .int .i64 0])) ∨ ∃ (j : Nat) (d : Dd), a = j ∧ l[j]? = some d ∧ e = .returned (.tuple #[d.val, .bool true, .int .i64 0])
theorem next_good (v av : Value) (p : List (List Dd)) (xs : List Int) (k : Nat) (a : Int) (l : List Dd) (w : World) (h : Ps w v p) (ha : Sl w w.heap.size 1 av xs.length (xs.map (Value.int .i64)))
    (hl : xs.length = p.length) (hp : p[k]? = some l) (hx : xs[k]? = some a) (h0 : 0 ≤ a) :
    Calls Tryz.prog 84 #[v, av, .int .i64 k] w fun e w' => NextIs l a e ∧ Below w.heap.size w w' := by
  obtain ⟨A, c, rfl, h1, h2, h3⟩ := h.ex
  obtain ⟨_, A2, c2, rfl, g1, g2, g3⟩ := ha
  have hk := (List.getElem?_eq_some_iff.1 hp).1
  obtain ⟨b, o, rfl, hb, hc⟩ := g3 (by omega)
  obtain ⟨b2, o2, rfl, hb2, hc2⟩ := h3 (by omega)
  obtain ⟨A3, c3, e3, ds⟩ := hc2 k l hp
  have DS := Lib.hid ds
  unfold maxLen at h2 g2
  have low := Below.refl w.heap.size w
  have db := boxNext low 59 #[.int .i64 0, .int .i64 0, .int .i64 0, .int .u64 0]
  replace low := gAlloc low (.cells #[.int .i64 0, .int .i64 0, .int .i64 0, .int .u64 0] 59)
  try simp only [World.size_alloc] at db
  have ca := int_at hc hb low hx
  have cp := (low.cell (p := ⟨b2, o2 + k, none⟩) hb2).trans e3
  have k0 : (0 : Int) ≤ k := by omega
  have k1 : (k : Int) < p.length := by omega
  have k2 : (k : Int) < xs.length := by omega
  have r2' : decide ((p.length : Int) ≤ k) = false := decide_eq_false (by omega)
  have r2n : decide (p.length ≤ k) = false := decide_eq_false (by omega)
  have r3' : ((xs.length : Int) != (p.length : Int)) = false := by simp [hl]
  clear h h3 g3 hc hc2 e3 ds hl hp hx
  by_cases hE : (l.length : Int) ≤ a
  · have E' : decide ((l.length : Int) ≤ a) = true := decide_eq_true hE
    go_enter Tryz.func84, Tryz.ntmps84
    have db_0 := db.at_ 0 rfl
    have db_1 := db.at_ 1 rfl
    have db_2 := db.at_ 2 rfl
    have db_3 := db.at_ 3 rfl
    go_wp2_with fail
    go_quiet (fail)
    go_wp2_with fail
    refine bodyPost_ret (v := .tuple #[dd0, .bool false, .int .i64 0]) (by simp [results, Tryz.results84, go_sem, db_0, db_1, db_2, db_3]) rfl ⟨.inl ⟨hE, rfl⟩, ?_⟩
    repeat (refine gSet ?_ (by dsimp only; omega) _)
    exact gDrewN low _
  · have E' : decide ((l.length : Int) ≤ a) = false := decide_eq_false hE
    obtain ⟨j, rfl⟩ : ∃ j : Nat, a = j := ⟨a.toNat, by omega⟩
    have hj : j < l.length := by omega
    have En : decide (l.length ≤ j) = false := decide_eq_false (by omega)
    have hd : l[j]? = some l[j] := List.getElem?_eq_getElem _
    generalize l[j] = d at hd
    obtain ⟨_, A4, c4, e4, g1, g2, g3⟩ := DS.out
    obtain ⟨rfl, rfl⟩ : A3 = A4 ∧ c3 = c4 := by injection e4 with e5 _ e6; exact ⟨e5, e6⟩
    obtain ⟨b3, o3, rfl, hb3, hc3⟩ := g3 (by omega)
    obtain ⟨c0, c1, c2, c3⟩ := deedAt_of hc3 hb3 low hd
    have HD := Lib.hid hd
    unfold maxLen at g2
    have j1 : (j : Int) < l.length := by omega
    clear g3 hc3 hd e4
    go_enter Tryz.func84, Tryz.ntmps84
    have db_f0 := db.frozen 0
    have db_f1 := db.frozen 1
    have db_f2 := db.frozen 2
    have db_f3 := db.frozen 3
    have db_0 := db.at_ 0 rfl
    have db_1 := db.at_ 1 rfl
    have db_2 := db.at_ 2 rfl
    have db_3 := db.at_ 3 rfl
    go_wp2_with fail
    go_quiet (fail)
    go_wp2_with fail
    go_region
    all_goals go_wp2_with fail
    refine bodyPost_ret (v := .tuple #[d.val, .bool true, .int .i64 0]) (by simp [results, Tryz.results84, go_sem, db_0, db_1, db_2, db_3]) rfl ⟨.inr ⟨j, d, rfl, HD.out, rfl⟩, ?_⟩
    repeat (refine gSet ?_ (by dsimp only; omega) _)
    exact gDrewN low _
end Go.Proofs.YtgdacpcifnpojaaGreat

/- Machs: Proved: words for machines as they lie in memory: what is known of a machine that can be read. No condition. -/
namespace Go.Proofs.YtgdacpcifnpojaaGreat
open Go.ChangeShapes Go.WideShapes Go.ChangeAt Go.RowKit Go.Joins

/-- The cells of a machine: configuration, caches, memory, ring, programs, how far, waits, how many. -/
def mcL (n s y b : Int) (u : Value) (m : List Int) (rv pv av tv : Value) (h : Int) : List Value :=
  [.int .i64 n, .int .i64 s, .int .i64 y, .int .i64 b] ++ (u :: m.map (Value.int .u64)) ++ [rv, pv, av, tv, .int .i64 h]
def mcA (n s y b : Int) (u : Value) (m : List Int) (rv pv av tv : Value) (h : Int) : Array Value := (mcL n s y b u m rv pv av tv h).toArray
theorem mcL_length {n s y b : Int} {u : Value} {m : List Int} {rv pv av tv : Value} {h : Int} (hm : m.length = 64) : (mcL n s y b u m rv pv av tv h).length = 74 := by simp [mcL, hm]
theorem mcA_size {n s y b : Int} {u : Value} {m : List Int} {rv pv av tv : Value} {h : Int} (hm : m.length = 64) : (mcA n s y b u m rv pv av tv h).size = 74 := by simp [mcA, mcL_length hm]
theorem mcA_tail {n s y b : Int} {u : Value} {m : List Int} {rv pv av tv : Value} {h : Int} (hm : m.length = 64) (j : Nat) : (mcA n s y b u m rv pv av tv h)[69 + j]? = [rv, pv, av, tv, Value.int .i64 h][j]? := by
  unfold mcA mcL
  rw [List.getElem?_toArray, List.getElem?_append_right (by simp [hm])]
  congr 1
  simp [hm]
theorem mcA_head {n s y b : Int} {u : Value} {m : List Int} {rv pv av tv : Value} {h : Int} (j : Nat) (hj : j < 4) : (mcA n s y b u m rv pv av tv h)[j]? = [Value.int .i64 n, .int .i64 s, .int .i64 y, .int .i64 b][j]? := by
  unfold mcA mcL
  rw [List.getElem?_toArray, List.append_assoc, List.getElem?_append_left (by simpa using hj)]
theorem mcA_one {n s y b : Int} {A0 A1 A2 A3 A4 : Option Addr} {n0 n1 n2 n3 n4 c0 c1 c2 c3 c4 : Nat} {m : List Int} {h : Int} : (mcA n s y b (.slice A0 n0 c0) m (.slice A1 n1 c1) (.slice A2 n2 c2) (.slice A3 n3 c3) (.slice A4 n4 c4) h).all (·.oneCell') = true := by
  refine all_oneCell_toArray fun v hv => ?_
  unfold mcL at hv
  rcases List.mem_append.1 hv with hv | hv
  · rcases List.mem_append.1 hv with hv | hv
    · simp at hv
      rcases hv with rfl | rfl | rfl | rfl <;> rfl
    · rcases List.mem_cons.1 hv with rfl | hv
      · rfl
      · obtain ⟨x, _, rfl⟩ := List.mem_map.1 hv
        rfl
  · simp at hv
    rcases hv with rfl | rfl | rfl | rfl | rfl <;> rfl
/-- The value reads as this machine. -/
structure MRead (w : World) (v : Value) (M : Mc) : Prop where
  m64 : M.mem.length = 64
  ex : ∃ u rv pv av tv, v = .agg (mcA M.n M.s M.y M.b u M.mem rv pv av tv M.had) ∧ Ks w u M.css ∧ Rs w rv M.ring ∧ Ps w pv M.pr ∧ Sl w w.heap.size 1 av M.at_.length (M.at_.map (Value.int .i64)) ∧ Sl w w.heap.size 1 tv M.wts.length (M.wts.map (Value.int .i64))
theorem MRead.call {w w' : World} {v : Value} {M : Mc} (h : MRead w v M) (hb : Below w.heap.size w w') : MRead w' v M := by
  obtain ⟨h1, u, rv, pv, av, tv, e, k1, k2, k3, k4, k5⟩ := h
  exact ⟨h1, u, rv, pv, av, tv, e, k1.call hb, k2.call hb, k3.call hb, k4.call hb, k5.call hb⟩

/-- The slices of a machine that is read. -/
theorem MRead.shape {w : World} {v : Value} {M : Mc} (h : MRead w v M) : ∃ A0 c0 A1 c1 A2 c2 A3 c3 A4 c4, v = .agg (mcA M.n M.s M.y M.b (.slice A0 M.css.length c0) M.mem (.slice A1 M.ring.length c1) (.slice A2 M.pr.length c2) (.slice A3 M.at_.length c3) (.slice A4 M.wts.length c4) M.had) ∧
    Ks w (.slice A0 M.css.length c0) M.css ∧ Rs w (.slice A1 M.ring.length c1) M.ring ∧ Ps w (.slice A2 M.pr.length c2) M.pr ∧ Sl w w.heap.size 1 (.slice A3 M.at_.length c3) M.at_.length (M.at_.map (Value.int .i64)) ∧ Sl w w.heap.size 1 (.slice A4 M.wts.length c4) M.wts.length (M.wts.map (Value.int .i64)) := by
  obtain ⟨_, u, rv, pv, av, tv, rfl, k1, k2, k3, k4, k5⟩ := h
  obtain ⟨A0, c0, rfl⟩ : ∃ A c, u = .slice A M.css.length c := by obtain ⟨A, c, e, _⟩ := k1; exact ⟨A, c, e⟩
  obtain ⟨A1, c1, rfl⟩ := k2.shape
  obtain ⟨A2, c2, rfl⟩ := k3.shape
  obtain ⟨A3, c3, rfl⟩ : ∃ A c, av = .slice A M.at_.length c := by obtain ⟨_, A, c, e, _⟩ := k4; exact ⟨A, c, e⟩
  obtain ⟨A4, c4, rfl⟩ : ∃ A c, tv = .slice A M.wts.length c := by obtain ⟨_, A, c, e, _⟩ := k5; exact ⟨A, c, e⟩
  exact ⟨A0, c0, A1, c1, A2, c2, A3, c3, A4, c4, rfl, k1, k2, k3, k4, k5⟩

def IsMach (w : World) (v : Value) : Prop := ∃ M, MRead w v M ∧ (∀ x ∈ M.at_, I64 x) ∧ (∀ x ∈ M.wts, I64 x) ∧ I64 M.had ∧ I64 M.n
section
variable {H : Type} {enc : TypeId × Value → H} {W : World} {base : Nat} {v : Value} {d : DataW H} {p : List MemPlace}
theorem cells_cfg4 : Tryz.prog.cellsOf 23 = 4 := by kernel_rfl
theorem cells_ringv : Tryz.prog.cellsOf 33 = 1 := by kernel_rfl
theorem cells_progsv : Tryz.prog.cellsOf 34 = 1 := by kernel_rfl
theorem cells_intsv : Tryz.prog.cellsOf 35 = 1 := by kernel_rfl
theorem cells_mach : Tryz.prog.cellsOf 37 = 74 := by kernel_rfl
set_option maxRecDepth 10000 in
theorem ring_trod {fuel : Nat} {cs : List Value} {x : DataW H × List MemPlace} (h : DataW.trod enc Tryz.prog W 0 (fun _ => true) true fuel 33 cs = some x) : ∃ rv l, cs = [rv] ∧ Rs W rv l := by
  obtain ⟨rv, css, e, sl, hcs⟩ := slice_open Tryz.underlying33 (by rw [cells_slot]; omega) h
  obtain ⟨l, l1, l2⟩ := slots_of (css := css) (fun c hc => by
    obtain ⟨_, m, y, hy⟩ := hcs c hc
    exact slot_of (flat_open 3 67 _ (by kernel_rfl) m c y hy))
  rw [cells_slot, l2, ← l1] at sl
  exact ⟨rv, l, e, ⟨sl⟩⟩
set_option maxRecDepth 10000 in
theorem ints_trod {fuel : Nat} {cs : List Value} {x : DataW H × List MemPlace} (h : DataW.trod enc Tryz.prog W 0 (fun _ => true) true fuel 35 cs = some x) : ∃ u, cs = [u] ∧ IsInts W u := by
  obtain ⟨u, css, e, sl, hcs⟩ := slice_open Tryz.underlying35 (by rw [cells_int]; omega) h
  obtain ⟨xs, l1, l2, l3⟩ := ints_of (css := css) (fun c hc => by
    obtain ⟨_, m, y, hy⟩ := hcs c hc
    have hk := flat_open 1 3 [.int .i64] (by kernel_rfl) m c y hy
    obtain ⟨_, _, rfl, ⟨a, rfl, wa⟩, h1⟩ := hk.cons_
    obtain rfl := h1.nil_
    exact ⟨a, rfl, bounds_i64 wa⟩)
  rw [cells_int, l2, ← l1] at sl
  exact ⟨u, e, xs, sl, l3⟩
set_option maxRecDepth 10000 in
theorem progs_trod {fuel : Nat} {cs : List Value} {x : DataW H × List MemPlace} (h : DataW.trod enc Tryz.prog W 0 (fun _ => true) true fuel 34 cs = some x) : ∃ u q, cs = [u] ∧ Ps W u q := by
  obtain ⟨u, css, e, sl, hcs⟩ := slice_open Tryz.underlying34 (by rw [cells_list]; omega) h
  have one : ∀ c ∈ css, ∃ s, c = [s] ∧ IsDeeds W s := fun c hc => by
    obtain ⟨_, m, y, hy⟩ := hcs c hc
    obtain ⟨s, css', e, sl', h'⟩ := slice_open Tryz.underlying52 (by rw [cells_deed]; omega) hy
    obtain ⟨l, l1, l2⟩ := deeds_of (css := css') (fun c hc => by
      obtain ⟨_, m, y, hy⟩ := h' c hc
      exact deed_of (flat_open 3 59 _ (by kernel_rfl) m c y hy))
    rw [cells_deed, l2, ← l1] at sl'
    exact ⟨s, e, l, ⟨sl'⟩⟩
  obtain ⟨q, h1, h2⟩ := lists_of one
  have hl : ∀ c ∈ css, c.length = 1 := fun c hc => by
    obtain ⟨s, rfl, _⟩ := one c hc
    rfl
  rw [cells_list] at sl
  obtain ⟨_, A, cp, rfl, g1, g2, g3⟩ := sl
  refine ⟨_, q, e, A, cp, by rw [h1], by omega, g2, fun h0 => ?_⟩
  obtain ⟨b, o, eA, hb, hc⟩ := g3 (by omega)
  refine ⟨b, o, eA, hb, fun k l hk => ?_⟩
  obtain ⟨A', c', h3, h4⟩ := h2 k l hk
  exact ⟨A', c', hc k _ (single_at hl h3), h4⟩
theorem part_next {α : Type} (l : List α) (i n : Nat) : l.drop i = (l.drop i).take n ++ l.drop (i + n) := by
  rw [← List.drop_drop, List.take_append_drop]
set_option maxRecDepth 10000 in
theorem openMach (hv : Value.okWide Tryz.prog W .any base 37 v) (h : DataW.Trod enc Tryz.prog W 0 (fun _ => true) true 37 v d p) : IsMach W v := by
  obtain ⟨cs, rfl⟩ := okWide_agg (.inl ⟨_, Tryz.underlying37⟩) hv
  obtain ⟨m0, h⟩ := h
  have h : DataW.trod enc Tryz.prog W 0 (fun _ => true) true m0 37 cs = some (d, p) := by simpa [Value.cells] using h
  obtain ⟨xs, m, _, _, hl, hxl, hf⟩ := DataW.trod_struct Tryz.underlying37 h
  rw [cells_mach] at hl
  have hf' : ∀ (i : Nat) (f : Field), _ → _ := fun i f hi => hf i f (by rw [← Array.getElem?_toList]; exact hi)
  have h0 := hf' 0 _ rfl
  have h1 := hf' 1 _ rfl
  have h2 := hf' 2 _ rfl
  have h3 := hf' 3 _ rfl
  have h4 := hf' 4 _ rfl
  have h5 := hf' 5 _ rfl
  have h6 := hf' 6 _ rfl
  dsimp only at h0 h1 h2 h3 h4 h5 h6
  rw [List.getElem?_eq_getElem (by simp at hxl; omega)] at h0 h1 h2 h3 h4 h5 h6
  rw [cells_cfg4] at h0
  rw [cells_world] at h1
  rw [cells_ringv] at h2
  rw [cells_progsv] at h3
  rw [cells_intsv] at h4 h5
  rw [cells_int] at h6
  have k0 := flat_open 3 23 [.int .i64, .int .i64, .int .i64, .int .i64] (by kernel_rfl) _ _ _ h0
  obtain ⟨_, _, e0, ⟨n, rfl, wn⟩, k01⟩ := k0.cons_
  obtain ⟨_, _, rfl, ⟨s, rfl, _⟩, k02⟩ := k01.cons_
  obtain ⟨_, _, rfl, ⟨y, rfl, _⟩, k03⟩ := k02.cons_
  obtain ⟨_, _, rfl, ⟨b, rfl, _⟩, k04⟩ := k03.cons_
  obtain rfl := k04.nil_
  obtain ⟨u, mem, css, e1, m64, ks⟩ := world_trod h1
  obtain ⟨rv, ring, e2, rs⟩ := ring_trod h2
  obtain ⟨pv, pr, e3, ps⟩ := progs_trod h3
  obtain ⟨av, e4, ats, sa, oa⟩ := ints_trod h4
  obtain ⟨tv, e5, wts, st, ot⟩ := ints_trod h5
  have k6 := flat_open 1 3 [.int .i64] (by kernel_rfl) _ _ _ h6
  obtain ⟨_, _, e6, ⟨hd, rfl, whd⟩, k61⟩ := k6.cons_
  obtain rfl := k61.nil_
  refine ⟨⟨n, s, y, b, css, mem, ring, pr, ats, wts, hd⟩, ⟨m64, u, rv, pv, av, tv, ?_, ks, rs, ps, sa, st⟩, oa, ot, bounds_i64 whd, bounds_i64 wn⟩
  unfold mcA mcL
  congr 1
  have c0 := part_next cs 0 4
  have c1 := part_next cs 4 65
  have c2 := part_next cs 69 1
  have c3 := part_next cs 70 1
  have c4 := part_next cs 71 1
  have c5 := part_next cs 72 1
  have c6 := part_next cs 73 1
  have c7 : cs.drop 74 = [] := List.drop_eq_nil_of_le (by omega)
  rw [List.drop_zero] at c0
  simp only [Nat.zero_add] at c0 c1 c2 c3 c4 c5 c6
  rw [List.drop_zero] at e0
  rw [c0, e0, c1, e1, c2, e2, c3, e3, c4, e4, c5, e5, c6, e6, c7]
  simp
end
end Go.Proofs.YtgdacpcifnpojaaGreat

/- MachKeep: Proved: a cycle of a right machine: the machine behind it is right, each node does at most one operation, in the order of its program; what becomes of each slot. By lists alone, no walk. Condition: an operation keeps coherent caches coherent (handed in). -/
namespace Go.Proofs.YtgdacpcifnpojaaGreat
open Go.ChangeShapes Go.WideShapes Go.ChangeAt Go.RowKit Go.Joins

def evN (es : List Ev) : List Int := es.map fun e => e.d.nd
/-- Within a cycle: M1 is the machine behind the ring's step, 'was' came back, P have had their turn. -/
structure Cyc (M1 : Mc) (was P : List Nat) (M : Mc) (es : List Ev) : Prop where
  ok : McOk M
  m64 : M.mem.length = 64
  same : M.n = M1.n ∧ M.s = M1.s ∧ M.y = M1.y ∧ M.b = M1.b ∧ M.pr = M1.pr ∧ M.wts = M1.wts
  alen : M.at_.length = M1.at_.length
  ats : ∀ k : Nat, M.at_.getD k 0 = M1.at_.getD k 0 + if (k : Int) ∈ evN es then 1 else 0
  evs : ∀ e ∈ es, ∃ k : Nat, k ∈ P ∧ e.d.nd = (k : Int)
  nod : (evN es).Nodup
  rlen : M.ring.length = M1.ring.length
  slots : ∀ (i : Nat) x', M.ring[i]? = some x' → ∃ x, M1.ring[i]? = some x ∧ (x' = x ∨ (x.fu = false ∧ ∃ k : Nat, k ∈ P ∧ k ∉ was ∧ x.pl = (k : Int) ∧ ∃ w, 0 ≤ w ∧ w ≤ 9 ∧ x' = ⟨k, true, k, w⟩))
  had : M1.had ≤ M.had ∧ M.had ≤ M1.had + (P.filter fun k => !decide (k ∈ was)).length
  /-- Who had a turn did an operation, or is under way, or there was no room, or there is nothing to do. -/
  turn : ∀ k : Nat, k ∈ P → (k : Int) ∈ evN es ∨ filB M.ring k = true ∨ opAt M1 k = none ∨ (k ∉ was ∧ ∀ x ∈ M1.ring, freS k x = false)

theorem opAt_some {M : Mc} (h : McOk M) {k : Nat} {d : Dd} (e : opAt M k = some d) : ∃ x l, M.at_[k]? = some x ∧ M.pr[k]? = some l ∧ 0 ≤ x ∧ x < l.length ∧ l[x.toNat]? = some d ∧ d.nd = (k : Int) ∧ deedE d = 0 ∧ (k : Int) < M.n := by
  unfold opAt at e
  cases hl : M.pr[k]? with
  | none => rw [hl] at e; cases e
  | some l =>
    cases hx : M.at_[k]? with
    | none => rw [hl, hx] at e; cases e
    | some x =>
      rw [hl, hx] at e
      simp only [Option.bind_some] at e
      obtain ⟨h0, h1⟩ := h.ats k x l hx hl
      have hi := (List.getElem?_eq_some_iff.1 e).1
      have hk := (List.getElem?_eq_some_iff.1 hl).1
      obtain ⟨p1, p2, p3⟩ := progsE_zero h.prg
      obtain ⟨_, q⟩ := listE_zero.1 p3 k l hl
      obtain ⟨q1, q2⟩ := q d (List.mem_of_getElem? e)
      exact ⟨x, l, rfl, rfl, h0, by omega, e, by omega, q1, by omega⟩
theorem opAt_none {M : Mc} (h : McOk M) {k : Nat} (hk : (k : Int) < M.n) (e : opAt M k = none) : ∃ x l, M.at_[k]? = some x ∧ M.pr[k]? = some l ∧ x = l.length := by
  have hp := h.prs
  have hl := h.len
  have e1 : M.pr[k]? = some (M.pr[k]'(by omega)) := List.getElem?_eq_getElem _
  have e2 : M.at_[k]? = some (M.at_[k]'(by omega)) := List.getElem?_eq_getElem _
  generalize M.pr[k]'(by omega) = l at e1
  generalize M.at_[k]'(by omega) = x at e2
  refine ⟨x, l, e2, e1, ?_⟩
  obtain ⟨h0, h1⟩ := h.ats k x l e2 e1
  unfold opAt at e
  rw [e1, e2] at e
  simp only [Option.bind_some, List.getElem?_eq_none_iff] at e
  omega
theorem getD_set {a : List Int} {k j : Nat} {x : Int} (hk : k < a.length) : (a.set k x).getD j 0 = if j = k then x else a.getD j 0 := by
  by_cases e : j = k
  · subst e
    rw [if_pos rfl]
    simp [List.getD, hk]
  · rw [if_neg e]
    simp [List.getD, List.getElem?_set_ne (fun h => e h.symm)]

/-- An operation is done. -/
theorem Cyc.perf {D : DidF} (hD : DidOk D) {M1 M : Mc} {was P : List Nat} {es : List Ev} (h : Cyc M1 was P M es) {k : Nat} {d : Dd} {bb : Bool} (hk : k ∉ P) (hf : filB M.ring k = false) (e : opAt M k = some d) :
    Cyc M1 was (P ++ [k]) (perf D M k d) (es ++ [perfE M bb d]) := by
  obtain ⟨x, l, hx, hl, x0, x1, hd, hnd, hde, hkn⟩ := opAt_some h.ok e
  have ka := (List.getElem?_eq_some_iff.1 hx).1
  have gx : M.at_.getD k 0 = x := by simp [List.getD, hx]
  have ne : (k : Int) ∉ evN es := by
    intro hm
    obtain ⟨e', he', e2⟩ := List.mem_map.1 hm
    obtain ⟨j, hj, e3⟩ := h.evs e' he'
    have : j = k := by omega
    subst this
    exact hk hj
  have en : evN (es ++ [perfE M bb d]) = evN es ++ [(k : Int)] := by
    unfold evN
    rw [List.map_append]
    show _ ++ [d.nd] = _
    rw [hnd]
  have fields : (Go.Proofs.YtgdacpcifnpojaaGreat.perf D M k d).at_ = M.at_.set k (x + 1) ∧ (Go.Proofs.YtgdacpcifnpojaaGreat.perf D M k d).ring = M.ring ∧ (Go.Proofs.YtgdacpcifnpojaaGreat.perf D M k d).pr = M.pr ∧ (Go.Proofs.YtgdacpcifnpojaaGreat.perf D M k d).wts = M.wts ∧ (Go.Proofs.YtgdacpcifnpojaaGreat.perf D M k d).had = M.had ∧
      (Go.Proofs.YtgdacpcifnpojaaGreat.perf D M k d).n = M.n ∧ (Go.Proofs.YtgdacpcifnpojaaGreat.perf D M k d).s = M.s ∧ (Go.Proofs.YtgdacpcifnpojaaGreat.perf D M k d).y = M.y ∧ (Go.Proofs.YtgdacpcifnpojaaGreat.perf D M k d).b = M.b ∧
      cohE M.n M.s M.y M.b (Go.Proofs.YtgdacpcifnpojaaGreat.perf D M k d).css (Go.Proofs.YtgdacpcifnpojaaGreat.perf D M k d).mem = 0 ∧ (Go.Proofs.YtgdacpcifnpojaaGreat.perf D M k d).mem.length = 64 := by
    unfold Go.Proofs.YtgdacpcifnpojaaGreat.perf
    cases hi : idleB M.css d with
    | true => rw [if_pos rfl, gx]; exact ⟨rfl, rfl, rfl, rfl, rfl, rfl, rfl, rfl, rfl, h.ok.coh, h.m64⟩
    | false =>
      rw [if_neg (by simp), gx]
      have := hD M.n M.s M.y M.b M.css M.mem d h.m64 (by unfold findE; rw [if_neg (by simpa using h.ok.coh), if_neg (by simpa using hde), if_neg (by omega)]) hi
      exact ⟨rfl, rfl, rfl, rfl, rfl, rfl, rfl, rfl, rfl, this.1, this.2.1⟩
  obtain ⟨f1, f2, f3, f4, f5, f6, f7, f8, f9, f10, f11⟩ := fields
  generalize Go.Proofs.YtgdacpcifnpojaaGreat.perf D M k d = M' at *
  obtain ⟨s1, s2, s3, s4, s5, s6⟩ := h.same
  refine ⟨⟨by rw [f6, f7, f8, f9]; exact f10, by rw [f6, f7, f8, f9, f2]; exact h.ok.rng, by rw [f6, f7, f8, f9, f3]; exact h.ok.prg, by rw [f1, f6, List.length_set]; exact h.ok.len, ?_, by rw [f4]; exact h.ok.wts, by rw [f5]; exact h.ok.had, ?_⟩, f11,
    ⟨f6.trans s1, f7.trans s2, f8.trans s3, f9.trans s4, f3.trans s5, f4.trans s6⟩, by rw [f1, List.length_set]; exact h.alen, ?_, ?_, ?_, by rw [f2]; exact h.rlen, ?_, ?_, ?_⟩
  · intro j z l' hz hl'
    rw [f1] at hz
    rw [f3] at hl'
    by_cases ej : k = j
    · subst ej
      rw [List.getElem?_set_self ka] at hz
      cases hz
      rw [hl] at hl'
      cases hl'
      omega
    · rw [List.getElem?_set_ne ej] at hz
      exact h.ok.ats j z l' hz hl'
  · intro j z l' hz hl' hfj
    rw [f1] at hz
    rw [f3] at hl'
    rw [f2] at hfj
    by_cases ej : k = j
    · subst ej
      rw [hf] at hfj
      cases hfj
    · rw [List.getElem?_set_ne ej] at hz
      exact h.ok.run j z l' hz hl' hfj
  · intro j
    rw [f1, getD_set ka, en]
    have ih := h.ats j
    by_cases ej : j = k
    · subst ej
      rw [if_pos rfl, if_pos (by simp)]
      rw [if_neg ne, gx] at ih
      omega
    · rw [if_neg ej, ih]
      congr 1
      have : (j : Int) ∈ evN es ++ [(k : Int)] ↔ (j : Int) ∈ evN es := by
        rw [List.mem_append, List.mem_singleton]
        constructor
        · rintro (h | h)
          · exact h
          · omega
        · exact .inl
      simp only [this]
  · intro e' he'
    rcases List.mem_append.1 he' with he' | he'
    · obtain ⟨j, hj, e2⟩ := h.evs e' he'
      exact ⟨j, by simp [hj], e2⟩
    · obtain rfl := List.mem_singleton.1 he'
      exact ⟨k, by simp, hnd⟩
  · rw [en, List.nodup_append]
    refine ⟨h.nod, by simp, ?_⟩
    intro a ha c hc
    rw [List.mem_singleton] at hc
    subst hc
    rintro rfl
    exact ne ha
  · intro i x' hx'
    rw [f2] at hx'
    obtain ⟨z, hz, r⟩ := h.slots i x' hx'
    refine ⟨z, hz, ?_⟩
    rcases r with r | ⟨r1, j, r2, r3⟩
    · exact .inl r
    · exact .inr ⟨r1, j, by simp [r2], r3⟩
  · rw [f5, List.filter_append, List.length_append]
    have := h.had
    omega
  · intro j hj
    rw [f2, en]
    rcases List.mem_append.1 hj with hj | hj
    · rcases h.turn j hj with r | r | r | r
      · exact .inl (by simp [r])
      · exact .inr (.inl r)
      · exact .inr (.inr (.inl r))
      · exact .inr (.inr (.inr r))
    · obtain rfl := List.mem_singleton.1 hj
      exact .inl (by simp)

/-- A node has nothing to do, or cannot. -/
theorem Cyc.skip {M1 M : Mc} {was P : List Nat} {es : List Ev} (h : Cyc M1 was P M es) {k : Nat} (ht : (k : Int) ∈ evN es ∨ filB M.ring k = true ∨ opAt M1 k = none ∨ (k ∉ was ∧ ∀ x ∈ M1.ring, freS k x = false)) : Cyc M1 was (P ++ [k]) M es := by
  refine ⟨h.ok, h.m64, h.same, h.alen, h.ats, fun e he => ?_, h.nod, h.rlen, fun i x' hx' => ?_, ?_, fun j hj => ?_⟩
  · obtain ⟨j, hj, e2⟩ := h.evs e he
    exact ⟨j, by simp [hj], e2⟩
  · obtain ⟨z, hz, r⟩ := h.slots i x' hx'
    refine ⟨z, hz, ?_⟩
    rcases r with r | ⟨r1, j, r2, r3⟩
    · exact .inl r
    · exact .inr ⟨r1, j, by simp [r2], r3⟩
  · rw [List.filter_append, List.length_append]
    have := h.had
    omega
  · rcases List.mem_append.1 hj with hj | hj
    · exact h.turn j hj
    · obtain rfl := List.mem_singleton.1 hj
      exact ht

/-- A slot is filled. -/
theorem waitM_ok {M : Mc} (h : McOk M) : 0 ≤ waitM M ∧ waitM M ≤ 9 := by
  unfold waitM
  by_cases e : M.wts.length = 0
  · rw [if_pos e]; omega
  · rw [if_neg e]
    have h0 : 0 ≤ M.had % (M.wts.length : Int) := Int.emod_nonneg _ (by omega)
    have h1 : M.had % (M.wts.length : Int) < M.wts.length := Int.emod_lt_of_pos _ (by omega)
    have hw := h.wts
    unfold waitsB at hw
    rw [Bool.and_eq_true, List.all_eq_true] at hw
    have hm : M.wts.getD (M.had % (M.wts.length : Int)).toNat 0 ∈ M.wts := by
      have : (M.had % (M.wts.length : Int)).toNat < M.wts.length := by omega
      rw [List.getD, List.getElem?_eq_getElem this]
      exact List.getElem_mem _
    exact waitB_iff.1 (hw.2 _ hm)
theorem Cyc.put {M1 M : Mc} {was P : List Nat} {es : List Ev} (h : Cyc M1 was P M es) {k : Nat} {d : Dd} (hk : k ∉ P) (hw : k ∉ was) (hf : filB M.ring k = false) (e : opAt M k = some d) (hr : M.ring.any (freS k) = true) (hh : M.had < 1000000) :
    Cyc M1 was (P ++ [k]) { M with ring := putR M.ring k (waitM M), had := M.had + 1 } es := by
  obtain ⟨x, l, hx, hl, x0, x1, hd, hnd, hde, hkn⟩ := opAt_some h.ok e
  obtain ⟨w0, w9⟩ := waitM_ok h.ok
  obtain ⟨c1, c2, c3, c4⟩ := ringE_zero.1 h.ok.rng
  have hnode : nodB M.n k = true := nodB_iff.2 ⟨by omega, hkn⟩
  rw [← idxS_any] at hr
  have hi := of_decide_eq_true hr
  obtain ⟨i, z, ei, hz, hfr, _⟩ : ∃ (i : Nat) (z : Sw), idxS (freS k) M.ring = i ∧ M.ring[i]? = some z ∧ freS k z = true ∧ True := by
    rcases idxS_cases (freS k) M.ring with ⟨e, _⟩ | ⟨i, z, e, hz, hp, _⟩
    · omega
    · exact ⟨i, z, e, hz, hp, trivial⟩
  have ep : putR M.ring k (waitM M) = M.ring.set i ⟨k, true, k, waitM M⟩ := by unfold putR; rw [ei, if_neg (by omega), Int.toNat_natCast]
  have hil := (List.getElem?_eq_some_iff.1 hz).1
  have zf : z.fu = false ∧ z.pl = (k : Int) := by
    unfold freS at hfr
    simpa using hfr
  rw [ep]
  refine ⟨⟨h.ok.coh, ?_, h.ok.prg, h.ok.len, h.ok.ats, h.ok.wts, ?_, ?_⟩, h.m64, h.same, h.alen, h.ats, ?_, h.nod, ?_, ?_, ?_, ?_⟩
  · exact ringE_zero.2 ⟨c1, by simp only [List.length_set]; exact c2, by simp only [List.length_set]; exact c3, c4.put hnode (waitB_iff.2 ⟨w0, w9⟩) hf i⟩
  · have := h.ok.had
    simp only
    omega
  · intro j z' l' hz' hl' hfj
    simp only at hz' hl' hfj
    by_cases ej : j = k
    · subst ej
      rw [hx] at hz'
      rw [hl] at hl'
      cases hz'
      cases hl'
      exact x1
    · refine h.ok.run j z' l' hz' hl' ?_
      obtain ⟨u, hu, u1, u2⟩ := filB_iff.1 hfj
      rcases List.mem_or_eq_of_mem_set hu with hu | rfl
      · exact filB_iff.2 ⟨u, hu, u1, u2⟩
      · simp only at u2
        omega
  · intro e' he'
    obtain ⟨j, hj, e2⟩ := h.evs e' he'
    exact ⟨j, by simp [hj], e2⟩
  · simp only [List.length_set]
    exact h.rlen
  · intro q x' hx'
    simp only at hx'
    by_cases eq : i = q
    · subst eq
      rw [List.getElem?_set_self hil] at hx'
      cases hx'
      obtain ⟨z1, hz1, r⟩ := h.slots i z hz
      refine ⟨z1, hz1, ?_⟩
      rcases r with rfl | ⟨r1, j, r2, r3, r4, w', _, _, r5⟩
      · exact .inr ⟨zf.1, k, by simp, hw, zf.2, waitM M, w0, w9, rfl⟩
      · rw [r5] at zf
        simp at zf
    · rw [List.getElem?_set_ne eq] at hx'
      obtain ⟨z1, hz1, r⟩ := h.slots q x' hx'
      refine ⟨z1, hz1, ?_⟩
      rcases r with r | ⟨r1, j, r2, r3⟩
      · exact .inl r
      · exact .inr ⟨r1, j, by simp [r2], r3⟩
  · simp only
    rw [List.filter_append, List.length_append, show ([k].filter fun k => !decide (k ∈ was)) = [k] by simp [hw], List.length_singleton]
    have := h.had
    omega
  · intro j hj
    have grow : ∀ j : Nat, filB M.ring j = true → filB (M.ring.set i ⟨k, true, k, waitM M⟩) j = true := fun j hj => by
      obtain ⟨u, hu, u1, u2⟩ := filB_iff.1 hj
      obtain ⟨q, hq, eu⟩ := List.getElem_of_mem hu
      have : i ≠ q := by
        rintro rfl
        have : M.ring[i]? = some u := by rw [List.getElem?_eq_getElem hq, eu]
        rw [hz] at this
        cases this
        rw [zf.1] at u1
        cases u1
      refine filB_iff.2 ⟨u, ?_, u1, u2⟩
      refine List.mem_of_getElem? (i := q) ?_
      rw [List.getElem?_set_ne this, List.getElem?_eq_getElem hq, eu]
    rcases List.mem_append.1 hj with hj | hj
    · rcases h.turn j hj with r | r | r | r
      · exact .inl r
      · exact .inr (.inl (grow j r))
      · exact .inr (.inr (.inl r))
      · exact .inr (.inr (.inr r))
    · obtain rfl := List.mem_singleton.1 hj
      exact .inr (.inl (filB_iff.2 ⟨_, List.mem_set hil _, rfl, rfl⟩))

/-! The cycle. -/
theorem opAt_same {M M1 : Mc} {k : Nat} (hp : M.pr = M1.pr) (hl : M.at_.length = M1.at_.length) (ha : M.at_.getD k 0 = M1.at_.getD k 0) : opAt M k = opAt M1 k := by
  unfold opAt
  rw [hp]
  have : M.at_[k]? = M1.at_[k]? := by
    by_cases h : k < M.at_.length
    · have h' : k < M1.at_.length := by omega
      simp only [List.getD, List.getElem?_eq_getElem h, List.getElem?_eq_getElem h', Option.getD_some] at ha ⊢
      rw [ha]
    · rw [List.getElem?_eq_none (by omega), List.getElem?_eq_none (by omega)]
  rw [this]
theorem Cyc.op {M1 M : Mc} {was P : List Nat} {es : List Ev} (h : Cyc M1 was P M es) {k : Nat} (hk : k ∉ P) : opAt M k = opAt M1 k := by
  refine opAt_same h.same.2.2.2.2.1 h.alen ?_
  rw [h.ats k, if_neg, Int.add_zero]
  intro hm
  obtain ⟨e', he', e2⟩ := List.mem_map.1 hm
  obtain ⟨j, hj, e3⟩ := h.evs e' he'
  have : j = k := by omega
  subst this
  exact hk hj
theorem perf_ring (D : DidF) (M : Mc) (k : Nat) (d : Dd) : (perf D M k d).ring = M.ring := by
  unfold perf
  split <;> rfl
theorem back_fold {D : DidF} (hD : DidOk D) {M1 : Mc} {was : List Nat} : ∀ (ks P : List Nat) (M : Mc) (es : List Ev), Cyc M1 was P M es → M.ring = M1.ring → ks.Nodup → (∀ k ∈ ks, k ∉ P ∧ filB M1.ring k = false) →
    Cyc M1 was (P ++ ks) (ks.foldl (backS D) (M, es)).1 (ks.foldl (backS D) (M, es)).2 ∧ (ks.foldl (backS D) (M, es)).1.ring = M1.ring
  | [], P, M, es, h, hr, _, _ => by rw [List.append_nil]; exact ⟨h, hr⟩
  | k :: ks, P, M, es, h, hr, hn, ha => by
    obtain ⟨h1, h2⟩ := ha k (by simp)
    obtain ⟨n1, n2⟩ := List.nodup_cons.1 hn
    have next : ∀ j ∈ ks, j ∉ P ++ [k] ∧ filB M1.ring j = false := fun j hj => by
      obtain ⟨a1, a2⟩ := ha j (by simp [hj])
      refine ⟨?_, a2⟩
      rw [List.mem_append, List.mem_singleton]
      rintro (h | rfl)
      · exact a1 h
      · exact n1 hj
    rw [List.foldl_cons]
    have e := h.op h1
    rw [show P ++ k :: ks = (P ++ [k]) ++ ks by simp]
    cases ho : opAt M k with
    | none =>
      rw [show backS D (M, es) k = (M, es) by unfold backS; rw [ho]]
      exact back_fold hD ks _ M es (h.skip (.inr (.inr (.inl (e.symm.trans ho))))) hr n2 next
    | some d =>
      rw [show backS D (M, es) k = (perf D M k d, es ++ [perfE M true d]) by unfold backS; rw [ho]]
      exact back_fold hD ks _ _ _ (h.perf hD h1 (by rw [hr]; exact h2) ho) (by rw [perf_ring]; exact hr) n2 next
theorem turn_fold {D : DidF} (hD : DidOk D) {M1 : Mc} {was : List Nat} (hh : M1.had ≤ 999991) : ∀ (j : Nat) (M : Mc) (es : List Ev), j ≤ 8 → Cyc M1 was was M es →
    Cyc M1 was (was ++ List.range j) ((List.range j).foldl (turnS D was) (M, es)).1 ((List.range j).foldl (turnS D was) (M, es)).2
  | 0, M, es, _, h => by rw [List.range_zero, List.append_nil]; exact h
  | j + 1, M, es, h8, h => by
    have ih := turn_fold hD hh j M es (by omega) h
    rw [List.range_succ, List.foldl_append, ← List.append_assoc]
    generalize (List.range j).foldl (turnS D was) (M, es) = S at *
    obtain ⟨M', es'⟩ := S
    simp only at ih
    simp only [List.foldl_cons, List.foldl_nil]
    unfold turnS
    by_cases hw : j ∈ was
    · rw [if_pos (.inl hw)]
      exact ih.skip (ih.turn j (by simp [hw]))
    · have hP : j ∉ was ++ List.range j := by simp [hw]
      by_cases hf : filB M'.ring j = true
      · rw [if_pos (.inr hf)]
        exact ih.skip (.inr (.inl hf))
      · rw [if_neg (by simp [hw, hf])]
        have hf' : filB M'.ring j = false := by simpa using hf
        have e := ih.op hP
        simp only
        cases ho : opAt M' j with
        | none => exact ih.skip (.inr (.inr (.inl (e.symm.trans ho))))
        | some d =>
          simp only
          by_cases hd : idleB M'.css d = true ∨ hitB M'.css d = true
          · rw [if_pos hd]
            exact ih.perf hD hP hf' ho
          · rw [if_neg hd]
            by_cases hr : M'.ring.any (freS j) = true
            · rw [if_pos hr]
              refine ih.put hP hw hf' ho hr ?_
              have h1 := ih.had.2
              have h2 : ((was ++ List.range j).filter fun k => !decide (k ∈ was)).length ≤ j := by
                rw [List.filter_append, List.length_append]
                have e1 : (was.filter fun k => !decide (k ∈ was)) = [] := by
                  rw [List.filter_eq_nil_iff]
                  intro a ha
                  simp [ha]
                rw [e1, List.length_nil, Nat.zero_add]
                have := List.length_filter_le (fun k => !decide (k ∈ was)) (List.range j)
                rwa [List.length_range] at this
              omega
            · rw [if_neg hr]
              refine ih.skip (.inr (.inr (.inr ⟨hw, fun x hx => ?_⟩)))
              -- a slot that is free at j stays so until j's turn
              obtain ⟨i, hi, rfl⟩ := List.getElem_of_mem hx
              cases hfr : freS j M1.ring[i] with
              | false => rfl
              | true =>
                exfalso
                have hi' : i < M'.ring.length := by rw [ih.rlen]; exact hi
                obtain ⟨x, hx1, r⟩ := ih.slots i _ (List.getElem?_eq_getElem hi')
                have ex : x = M1.ring[i] := by rw [List.getElem?_eq_getElem hi] at hx1; cases hx1; rfl
                rcases r with r | ⟨r1, q, r2, r3, r4, _⟩
                · refine hr (List.any_eq_true.2 ⟨_, List.getElem_mem hi', ?_⟩)
                  rw [r, ex]
                  exact hfr
                · have : x.pl = (j : Int) := by
                    rw [ex]
                    unfold freS at hfr
                    simp at hfr
                    exact hfr.2
                  have hq : q ∈ was ∨ q < j := by simpa using r2
                  rcases hq with hq | hq
                  · exact r3 hq
                  · omega

/-- What a cycle makes of a right machine. -/
theorem adv_ok {M : Mc} (h : McOk M) : McOk (advM M) := by
  obtain ⟨c1, c2, c3, c4⟩ := ringE_zero.1 h.rng
  refine ⟨h.coh, ringE_zero.2 ⟨c1, by simp only [advM, List.length_map]; exact c2, by simp only [advM, List.length_map]; exact c3, c4.step h.nodes.1⟩, h.prg, h.len, h.ats, h.wts, h.had, fun k x l hx hl hf => h.run k x l hx hl ?_⟩
  obtain ⟨u, hu, u1, u2⟩ := filB_iff.1 hf
  obtain ⟨z, hz, rfl⟩ := List.mem_map.1 hu
  obtain ⟨a1, a2⟩ := advS_full u1
  exact filB_iff.2 ⟨z, hz, a1, a2.symm.trans u2⟩
theorem mem_backN {M : Mc} {k : Nat} (h : McOk M) : k ∈ backN M ↔ (k : Int) ∈ backL M.n M.ring := by
  unfold backN
  rw [List.mem_filter, List.mem_range, decide_eq_true_eq]
  constructor
  · exact fun h => h.2
  · intro hb
    refine ⟨?_, hb⟩
    obtain ⟨x, hx, _, hd⟩ := mem_backL.1 hb
    obtain ⟨_, _, _, ok⟩ := ringE_zero.1 h.rng
    have := (nodB_iff.1 (ok.each x hx).2.1).2
    omega
/-- Who came back has no slot. -/
theorem back_gone {M : Mc} (h : McOk M) {k : Nat} (hk : k ∈ backN M) : filB (advM M).ring k = false := by
  rw [filB_no]
  intro u hu u1 u2
  obtain ⟨z, hz, rfl⟩ := List.mem_map.1 hu
  obtain ⟨a1, a2⟩ := advS_full u1
  obtain ⟨_, _, _, ok⟩ := ringE_zero.1 h.rng
  have hb := (mem_backN h).1 hk
  rw [← u2, a2] at hb
  have := (ok.told (n := M.n) hz a1).1 hb
  unfold retS at this
  rw [a1, u1] at this
  cases this
theorem cyc_mid {D : DidF} (hD : DidOk D) {M : Mc} (h : McOk M) (hm : M.mem.length = 64) (hh : M.had ≤ 999991) : Cyc (advM M) (backN M) (backN M ++ List.range M.n.toNat) (cycM D M).1 (cycM D M).2 := by
  have ok1 := adv_ok h
  have st : Cyc (advM M) (backN M) [] (advM M) [] := ⟨ok1, hm, ⟨rfl, rfl, rfl, rfl, rfl, rfl⟩, rfl, fun k => by simp [evN], by simp, by simp [evN], rfl, fun i x' hx' => ⟨x', hx', .inl rfl⟩, by simp, by simp⟩
  have nd : (backN M).Nodup := by
    unfold backN
    exact (List.nodup_range).filter _
  have b := back_fold hD (backN M) [] (advM M) [] st rfl nd (fun k hk => ⟨by simp, back_gone h hk⟩)
  rw [List.nil_append] at b
  exact turn_fold (M1 := advM M) hD (show (advM M).had ≤ 999991 from hh) M.n.toNat _ _ (by have := h.nodes; omega) b.1
end Go.Proofs.YtgdacpcifnpojaaGreat
