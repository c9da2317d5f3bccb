/-
Proved: what OwnMachine of the reference gives: a machine that reads the same, in new memory. Condition: at most a million of everything.
-/
import Derived.Test.YtgdacpcifnpojaaGreatOwnWorld
import Derived.Test.YtgdacpcifnpojaaGreatJoined6
namespace Go.Proofs.YtgdacpcifnpojaaGreat
open Go.ChangeShapes Go.WideShapes Go.ChangeAt Go.RowKit Go.Joins
structure FitM (M : Mc) : Prop where
 css : Fit M.css
 ring : M.ring.length ≤ 1048576
 ats : M.at_.length ≤ 1048576
 wts : M.wts.length ≤ 1048576
 prs : M.pr.length ≤ 1048576
 each : ∀ (k : Nat) l, M.pr[k]? = some l → l.length ≤ 1048576
theorem ints_one (l : List Int) : ∀ u ∈ l.map (Value.int .i64), u.oneCell' = true := fun u hu => by
 obtain ⟨_, _, rfl⟩ := List.mem_map.1 hu
 rfl
theorem deedsC_one (l : List Dd) : ∀ u ∈ deedsC l, u.oneCell' = true := fun u hu => by
 simp only [deedsC, List.mem_flatMap] at hu
 obtain ⟨x, _, hx⟩ := hu
 simp [Dd.cells] at hx
 rcases hx with rfl | rfl | rfl | rfl <;> rfl
structure OwnP (w : World) (base : Nat) (s : Value) (pr : List (List Dd)) : Prop where
 ex : ∃ us : List Value, us.length = pr.length ∧ w.ownsRow base 52 1 s pr.length us ∧ ∀ (k : Nat) u l, us[k]? = some u → pr[k]? = some l → w.ownsRow base 59 4 u l.length (deedsC l)
section
variable {w w' : World} {base : Nat} {s : Value} {pr : List (List Dd)}
theorem OwnP.nil (w : World) (base : Nat) : OwnP w base (.slice none 0 0) [] := ⟨[], rfl, World.ownsRow_nil _ _ _ _, fun k u ss h => by simp at h⟩
theorem OwnP.call (h : OwnP w base s pr) (hb : Below w.heap.size w w') : OwnP w' base s pr := by
 obtain ⟨us, h1, h2, h3⟩ := h
 exact ⟨us, h1, own_below h2 hb, fun k u ss hu hs => own_below (h3 k u ss hu hs) hb⟩
theorem OwnP.kept {x : Nat} {T : TypeId} {cs : Array Value} (h : OwnP w base s pr) (st : Stored w x w') (bx : Box w x T cs) (k1 : T ≠ 52) (k2 : T ≠ 59) : OwnP w' base s pr := by
 obtain ⟨us, h1, h2, h3⟩ := h
 exact ⟨us, h1, row_kept h2 st bx k1, fun k u ss hu hs => row_kept (h3 k u ss hu hs) st bx k2⟩
theorem OwnP.shape (h : OwnP w base s pr) : ∃ A c, s = .slice A pr.length c := by
 obtain ⟨us, h1, h2, h3⟩ := h
 exact own_shape h2
theorem OwnP.ps (h : OwnP w base s pr) : Ps w s pr := by
 obtain ⟨us, h1, h2, h3⟩ := h
 obtain ⟨_, A, c, rfl, k1, k2, k3⟩ := Sl.ofOwn h2
 refine ⟨A, c, rfl, k1, k2, fun h0 => ?_⟩
 obtain ⟨b, o, eA, hb, hc⟩ := k3 h0
 refine ⟨b, o, eA, hb, fun k ss hk => ?_⟩
 have hu : us[k]? = some (us[k]'(by have := (List.getElem?_eq_some_iff.1 hk).1; omega)) := List.getElem?_eq_getElem _
 generalize us[k]'(by have := (List.getElem?_eq_some_iff.1 hk).1; omega) = u at hu
 have own := h3 k u ss hu hk
 obtain ⟨A', c', rfl⟩ := own_shape own
 exact ⟨A', c', hc k _ hu, ⟨Sl.ofOwn own⟩⟩
theorem OwnP.push {s' u : Value} {l : List Dd} {us : List Value} (h1 : us.length = pr.length) (own : w.ownsRow base 52 1 s pr.length us) (h3 : ∀ (k : Nat) u l, us[k]? = some u → pr[k]? = some l → w.ownsRow base 59 4 u l.length (deedsC l))
  (hu : w.ownsRow base 59 4 u l.length (deedsC l)) (own' : w'.ownsRow base 52 1 s' (pr.length + 1) (us ++ [u])) (g : w.grownBy w' s.ownBlock) : OwnP w' base s' (pr ++ [l]) := by
 refine ⟨us ++ [u], by simp [h1], by rw [List.length_append]; exact own', fun k v z hv hz => ?_⟩
 by_cases hk : k < us.length
 ·rw [List.getElem?_append_left hk] at hv
  rw [List.getElem?_append_left (by omega)] at hz
  exact row_grown (h3 k v z hv hz) g own (by decide)
 ·have hk2 : k = us.length := by
   have := (List.getElem?_eq_some_iff.1 hv).1
   simp at this
   omega
  subst hk2
  rw [List.getElem?_append_right (Nat.le_refl _), Nat.sub_self] at hv
  rw [h1, List.getElem?_append_right (Nat.le_refl _), Nat.sub_self] at hz
  simp at hv hz
  subst hv hz
  exact row_grown hu g own (by decide)
end
theorem share5 {M Φ : Option Addr → Nat → Option Addr → Nat → Option Addr → Nat → World → Prop} {G : Prop} (tree : (∀ A1 c1 A2 c2 A3 c3 w, M A1 c1 A2 c2 A3 c3 w → Φ A1 c1 A2 c2 A3 c3 w) → G) (last : ∀ A1 c1 A2 c2 A3 c3 w, M A1 c1 A2 c2 A3 c3 w → Φ A1 c1 A2 c2 A3 c3 w) : G := tree last
set_option maxRecDepth 10000 in
set_option maxHeartbeats 8000000 in
theorem ownMach_any (v : Value) (M : Mc) (w : World) (h : MRead w v M) (fit : FitM M) :
  Calls Tryz.prog 22 #[v] w fun e w' => (∃ v', e = .returned v' ∧ MRead w' v' M) ∧ Below w.heap.size w w' := by
 have m64 := h.m64
 obtain ⟨A0, c0, A1, c1, A2, c2, A3, c3, A4, c4, rfl, k0, k1, k2, k3, k4⟩ := h.shape
 obtain ⟨i1, hi1, hz0, hz1, hz2⟩ := info_parts info_slot
 have HI1 := Lib.hid hi1
 have HZ1 := Lib.hid (And.intro hz0 (And.intro hz1 hz2))
 obtain ⟨i2, hi2, hy0, hy1, hy2⟩ := info_parts info_int1
 have HI2 := Lib.hid hi2
 have HZ2 := Lib.hid (And.intro hy0 (And.intro hy1 hy2))
 obtain ⟨i4, hi4, hv0, hv1, hv2⟩ := info_parts info_deed
 have HI4 := Lib.hid hi4
 have HZ4 := Lib.hid (And.intro hv0 (And.intro hv1 hv2))
 obtain ⟨i5, hi5, hu0, hu1, hu2⟩ := info_parts info_dlist
 have HI5 := Lib.hid hi5
 have HZ5 := Lib.hid (And.intro hu0 (And.intro hu1 hu2))
 clear hi4 hv0 hv1 hv2 hi5 hu0 hu1 hu2
 obtain ⟨f0, f1, f2, f3, f4, f5⟩ := fit
 have F5 := Lib.hid f5
 have OW := Lib.hid fun W (hb : Below w.heap.size w W) => ownWorld_any _ M.mem M.css W (k0.call hb) m64 f0
 have RS := Lib.hid fun W (hb : Below w.heap.size w W) => k1.call hb
 have AT := Lib.hid fun W (hb : Below w.heap.size w W) => Sl.call k3 hb
 have WT := Lib.hid fun W (hb : Below w.heap.size w W) => Sl.call k4 hb
 have PS := Lib.hid k2
 have WLD := Lib.hid (fun (W : World) (g : Nat) (hb : Box W g 37 (mcA M.n M.s M.y M.b (.slice A0 M.css.length c0) M.mem (.slice A1 M.ring.length c1) (.slice A2 M.pr.length c2) (.slice A3 M.at_.length c3) (.slice A4 M.wts.length c4) M.had)) => mach_wld hb)
 generalize hX : mcA M.n M.s M.y M.b (.slice A0 M.css.length c0) M.mem (.slice A1 M.ring.length c1) (.slice A2 M.pr.length c2) (.slice A3 M.at_.length c3) (.slice A4 M.wts.length c4) M.had = XA at *
 have HX := Lib.hid hX
 clear h k0 k1 k2 k3 k4 hX hi1 hz0 hz1 hz2 hi2 hy0 hy1 hy2 f0 f5
 have low := Below.refl w.heap.size w
 have xb := boxNext low 37 XA
 replace low := gAlloc low (.cells XA 37)
 try simp only [World.size_alloc] at xb
 have rb := boxNext low 37 (mcA 0 0 0 0 (.slice none 0 0) zeroL (.slice none 0 0) (.slice none 0 0) (.slice none 0 0) (.slice none 0 0) 0)
 replace low := gAlloc low (.cells (mcA 0 0 0 0 (.slice none 0 0) zeroL (.slice none 0 0) (.slice none 0 0) (.slice none 0 0) (.slice none 0 0) 0) 37)
 replace xb := xb.alloc (.cells (mcA 0 0 0 0 (.slice none 0 0) zeroL (.slice none 0 0) (.slice none 0 0) (.slice none 0 0) (.slice none 0 0) 0) 37)
 try simp only [World.size_alloc] at rb
 have xw := WLD.out _ _ xb
 go_enter Tryz.func22, Tryz.ntmps22
 go_wp2_with (first | (with_reducible refine wp_newW (tyMach) ?_) | ((with_reducible refine wp_loadW (tyWorld) (xw) (wld_size m64) ?_ ?_ ?_); rfl; rfl))
 (with_reducible refine (OW.out _ low).mono ?_); rintro e w1 ⟨⟨Aw, cw, rfl, ok⟩, hb⟩
 replace xb := xb.call hb
 replace rb := rb.call hb
 replace low := gCall low hb
 have w01 := hb.size
 simp only [World.size_alloc] at w01 ok
 have OK := Lib.hid ok
 clear hb xw ok OW
 rw [← HX.out] at xb
 have one : (wldA (.slice Aw M.css.length cw) M.mem).all (·.oneCell') = true := wldA_one _
 have x69 : 69 ≤ (mcA M.n M.s M.y M.b (.slice A0 M.css.length c0) M.mem (.slice A1 M.ring.length c1) (.slice A2 M.pr.length c2) (.slice A3 M.at_.length c3) (.slice A4 M.wts.length c4) M.had).size := by rw [mcA_size m64]; omega
 go_wp2_with ((with_reducible refine wpList_storeW4 xb x69 m64 one ?_ ?_ ?_); rfl; rfl)
 intro w2 e2
 have st2 : Stored w1 w.heap.size w2 := by rw [e2]; exact setCells_stored _ _ _ _
 have xb2 := mach_setW xb (.slice Aw M.css.length cw)
 rw [← e2] at xb2
 have OK2 := Lib.hid (OK.out.kept st2 xb (by decide) (by decide) (by decide))
 replace rb := st2.box rb (by omega)
 replace low := st2.low low (Nat.le_refl _)
 clear xb e2 x69 OK
 have xb := xb2
 have OK := OK2
 have w12 : w1.heap.size ≤ w2.heap.size := Nat.le_of_eq st2.size.symm
 clear xb2 OK2 st2
 go_wp2_with fail
 refine wp_region_noPanic ?_
 refine wp_region_held_drew (S := fun _ => True) (by kernel_rfl) trivial (fun hHeld => ?_)
 replace low := low.drew
 replace xb := xb.drew
 replace rb := rb.drew
 have OK2 := Lib.hid (OK.out.call (Below.refl _ _).drew)
 have w12' : w1.heap.size ≤ w2.drew.heap.size := w12
 clear OK w12
 have OK := OK2
 clear OK2
 generalize w2.drew = wN at *
 refine takeA 0 ?_ rfl ?_ ?_; rotate_left
 ·(intro w hSw; go_simp; try (with_reducible rfl))
 try simp only [Act.put, List.setIfInBounds_toArray, List.set_cons_zero, List.set_cons_succ]
 refine takeA 3 ?_ rfl ?_ ?_; rotate_left
 ·(intro w hSw; go_simp; try (with_reducible rfl))
 try simp only [Act.put, List.setIfInBounds_toArray, List.set_cons_zero, List.set_cons_succ]
 refine takeA 6 ?_ rfl ?_ ?_; rotate_left
 ·(intro w hSw; go_simp; try (with_reducible rfl))
 try simp only [Act.put, List.setIfInBounds_toArray, List.set_cons_zero, List.set_cons_succ]
 apply share5 (M := fun Ar cr Aa ca At ct wz => Below wN.heap.size wN wz ∧ wz.ownsRow wN.heap.size 67 4 (.slice Ar M.ring.length cr) M.ring.length (ringC M.ring) ∧ wz.ownsRow wN.heap.size 3 1 (.slice Aa M.at_.length ca) M.at_.length (M.at_.map (Value.int .i64)) ∧ wz.ownsRow wN.heap.size 3 1 (.slice At M.wts.length ct) M.wts.length (M.wts.map (Value.int .i64)))
 ·intro hE
  have near := Below.refl wN.heap.size wN
  refine stepThree (i1 := 1) (i2 := 4) (i3 := 7) (by kernel_rfl) rfl rfl rfl (by rfl) (by rfl) (by rfl) (fun K hK => ?_) (fun K hK => ?_) (fun K hK => ?_)
  ·obtain ⟨⟨x0, x1, x2, x3⟩, x69, x70, x71, x72, x73⟩ := mach_cells (xb.call near) m64
   go_simp
   clear x0 x1 x2 x3 x69 x70 x71 x72 x73
   refine hK.out _ _ trivial ?_
   clear hK K
   try simp only [Act.put]
   try simp only [List.setIfInBounds_toArray, List.set_cons_zero, List.set_cons_succ]
   refine stepThree (i1 := 2) (i2 := 4) (i3 := 7) (by kernel_rfl) rfl rfl rfl (by rfl) (by rfl) (by rfl) (fun K hK => ?_) (fun K hK => ?_) (fun K hK => ?_)
   ·refine wp_append_copy (.const (.slice none 0 0)) (.tmp 11) 33 rfl 67 i1 (.agg slot0) 4 32 Tryz.underlying33 HI1.out HZ1.out.1 HZ1.out.2.1 HZ1.out.2.2 rfl (by decide) rfl (.slice A1 M.ring.length c1) M.ring.length (ringC M.ring) rfl (RS.out _ (gCall low near)).sl (ringC_one _) f1 (by omega) ?_
    intro vr wa R1 hb
    obtain ⟨Ar, cr, rfl⟩ := own_shape R1
    replace R1 := own_wider R1 near.size
    replace near := gCall near hb
    clear hb
    refine hK.out _ _ trivial ?_
    clear hK K
    try simp only [Act.put]
    try simp only [List.setIfInBounds_toArray, List.set_cons_zero, List.set_cons_succ]
    refine stepTwo (i1 := 4) (i2 := 7) (by kernel_rfl) rfl rfl (by rfl) (by rfl) (fun K hK => ?_) (fun K hK => ?_)
    ·obtain ⟨⟨x0, x1, x2, x3⟩, x69, x70, x71, x72, x73⟩ := mach_cells (xb.call near) m64
     go_simp
     clear x0 x1 x2 x3 x69 x70 x71 x72 x73
     refine hK.out _ _ trivial ?_
     clear hK K
     try simp only [Act.put]
     try simp only [List.setIfInBounds_toArray, List.set_cons_zero, List.set_cons_succ]
     refine stepTwo (i1 := 5) (i2 := 7) (by kernel_rfl) rfl rfl (by rfl) (by rfl) (fun K hK => ?_) (fun K hK => ?_)
     ·refine wp_append_copy (.const (.slice none 0 0)) (.tmp 14) 35 rfl 3 i2 (.int .i64 0) 1 8 Tryz.underlying35 HI2.out HZ2.out.1 HZ2.out.2.1 HZ2.out.2.2 rfl (by decide) rfl (.slice A3 M.at_.length c3) M.at_.length (M.at_.map (Value.int .i64)) rfl (AT.out _ (gCall low near)) (ints_one _) f2 (by omega) ?_
      intro va wb1 R2 hb
      obtain ⟨Aa, ca, rfl⟩ := own_shape R2
      replace R2 := own_wider R2 near.size
      replace R1 := own_below R1 hb
      replace near := gCall near hb
      clear hb
      refine hK.out _ _ trivial ?_
      clear hK K
      try simp only [Act.put]
      try simp only [List.setIfInBounds_toArray, List.set_cons_zero, List.set_cons_succ]
      refine stepNext (i := 7) (by kernel_rfl) rfl (by rfl) (fun K hK => ?_)
      obtain ⟨⟨x0, x1, x2, x3⟩, x69, x70, x71, x72, x73⟩ := mach_cells (xb.call near) m64
      go_simp
      clear x0 x1 x2 x3 x69 x70 x71 x72 x73
      refine hK.out _ _ trivial ?_
      clear hK K
      try simp only [Act.put]
      try simp only [List.setIfInBounds_toArray, List.set_cons_zero, List.set_cons_succ]
      refine takeA 9 ?_ rfl ?_ ?_; rotate_left
      ·(intro w hSw; go_simp; try (with_reducible rfl))
      try simp only [Act.put, List.setIfInBounds_toArray, List.set_cons_zero, List.set_cons_succ]
      refine stepNext (i := 8) (by kernel_rfl) rfl (by rfl) (fun K hK => ?_)
      refine wp_append_copy (.const (.slice none 0 0)) (.tmp 17) 35 rfl 3 i2 (.int .i64 0) 1 8 Tryz.underlying35 HI2.out HZ2.out.1 HZ2.out.2.1 HZ2.out.2.2 rfl (by decide) rfl (.slice A4 M.wts.length c4) M.wts.length (M.wts.map (Value.int .i64)) rfl (WT.out _ (gCall low near)) (ints_one _) f3 (by omega) ?_
      intro vt wc R3 hb
      obtain ⟨At, ct, rfl⟩ := own_shape R3
      replace R3 := own_wider R3 near.size
      replace R2 := own_below R2 hb
      replace R1 := own_below R1 hb
      replace near := gCall near hb
      clear hb
      refine hK.out _ _ trivial ?_
      clear hK K
      try simp only [Act.put]
      try simp only [List.setIfInBounds_toArray, List.set_cons_zero, List.set_cons_succ]
      refine relist (l2 := #[true, true, true, true, true, true, true, true, true, true, false, false, false, false, false]) (by kernel_rfl) ?_
      exact hE _ _ _ _ _ _ _ ⟨near, R1, R2, R3⟩
     ·obtain ⟨⟨x0, x1, x2, x3⟩, x69, x70, x71, x72, x73⟩ := mach_cells (xb.call near) m64
      go_simp
      clear x0 x1 x2 x3 x69 x70 x71 x72 x73
      refine hK.out _ _ trivial ?_
      clear hK K
      try simp only [Act.put]
      try simp only [List.setIfInBounds_toArray, List.set_cons_zero, List.set_cons_succ]
      refine takeA 9 ?_ rfl ?_ ?_; rotate_left
      ·(intro w hSw; go_simp; try (with_reducible rfl))
      try simp only [Act.put, List.setIfInBounds_toArray, List.set_cons_zero, List.set_cons_succ]
      refine stepNext (i := 5) (by kernel_rfl) rfl (by rfl) (fun K hK => ?_)
      refine wp_append_copy (.const (.slice none 0 0)) (.tmp 14) 35 rfl 3 i2 (.int .i64 0) 1 8 Tryz.underlying35 HI2.out HZ2.out.1 HZ2.out.2.1 HZ2.out.2.2 rfl (by decide) rfl (.slice A3 M.at_.length c3) M.at_.length (M.at_.map (Value.int .i64)) rfl (AT.out _ (gCall low near)) (ints_one _) f2 (by omega) ?_
      intro va wb1 R2 hb
      obtain ⟨Aa, ca, rfl⟩ := own_shape R2
      replace R2 := own_wider R2 near.size
      replace R1 := own_below R1 hb
      replace near := gCall near hb
      clear hb
      refine hK.out _ _ trivial ?_
      clear hK K
      try simp only [Act.put]
      try simp only [List.setIfInBounds_toArray, List.set_cons_zero, List.set_cons_succ]
      refine stepNext (i := 8) (by kernel_rfl) rfl (by rfl) (fun K hK => ?_)
      refine wp_append_copy (.const (.slice none 0 0)) (.tmp 17) 35 rfl 3 i2 (.int .i64 0) 1 8 Tryz.underlying35 HI2.out HZ2.out.1 HZ2.out.2.1 HZ2.out.2.2 rfl (by decide) rfl (.slice A4 M.wts.length c4) M.wts.length (M.wts.map (Value.int .i64)) rfl (WT.out _ (gCall low near)) (ints_one _) f3 (by omega) ?_
      intro vt wc R3 hb
      obtain ⟨At, ct, rfl⟩ := own_shape R3
      replace R3 := own_wider R3 near.size
      replace R2 := own_below R2 hb
      replace R1 := own_below R1 hb
      replace near := gCall near hb
      clear hb
      refine hK.out _ _ trivial ?_
      clear hK K
      try simp only [Act.put]
      try simp only [List.setIfInBounds_toArray, List.set_cons_zero, List.set_cons_succ]
      refine relist (l2 := #[true, true, true, true, true, true, true, true, true, true, false, false, false, false, false]) (by kernel_rfl) ?_
      exact hE _ _ _ _ _ _ _ ⟨near, R1, R2, R3⟩
    ·obtain ⟨⟨x0, x1, x2, x3⟩, x69, x70, x71, x72, x73⟩ := mach_cells (xb.call near) m64
     go_simp
     clear x0 x1 x2 x3 x69 x70 x71 x72 x73
     refine hK.out _ _ trivial ?_
     clear hK K
     try simp only [Act.put]
     try simp only [List.setIfInBounds_toArray, List.set_cons_zero, List.set_cons_succ]
     refine stepNext (i := 4) (by kernel_rfl) rfl (by rfl) (fun K hK => ?_)
     obtain ⟨⟨x0, x1, x2, x3⟩, x69, x70, x71, x72, x73⟩ := mach_cells (xb.call near) m64
     go_simp
     clear x0 x1 x2 x3 x69 x70 x71 x72 x73
     refine hK.out _ _ trivial ?_
     clear hK K
     try simp only [Act.put]
     try simp only [List.setIfInBounds_toArray, List.set_cons_zero, List.set_cons_succ]
     refine takeA 9 ?_ rfl ?_ ?_; rotate_left
     ·(intro w hSw; go_simp; try (with_reducible rfl))
     try simp only [Act.put, List.setIfInBounds_toArray, List.set_cons_zero, List.set_cons_succ]
     refine stepNext (i := 5) (by kernel_rfl) rfl (by rfl) (fun K hK => ?_)
     refine wp_append_copy (.const (.slice none 0 0)) (.tmp 14) 35 rfl 3 i2 (.int .i64 0) 1 8 Tryz.underlying35 HI2.out HZ2.out.1 HZ2.out.2.1 HZ2.out.2.2 rfl (by decide) rfl (.slice A3 M.at_.length c3) M.at_.length (M.at_.map (Value.int .i64)) rfl (AT.out _ (gCall low near)) (ints_one _) f2 (by omega) ?_
     intro va wb1 R2 hb
     obtain ⟨Aa, ca, rfl⟩ := own_shape R2
     replace R2 := own_wider R2 near.size
     replace R1 := own_below R1 hb
     replace near := gCall near hb
     clear hb
     refine hK.out _ _ trivial ?_
     clear hK K
     try simp only [Act.put]
     try simp only [List.setIfInBounds_toArray, List.set_cons_zero, List.set_cons_succ]
     refine stepNext (i := 8) (by kernel_rfl) rfl (by rfl) (fun K hK => ?_)
     refine wp_append_copy (.const (.slice none 0 0)) (.tmp 17) 35 rfl 3 i2 (.int .i64 0) 1 8 Tryz.underlying35 HI2.out HZ2.out.1 HZ2.out.2.1 HZ2.out.2.2 rfl (by decide) rfl (.slice A4 M.wts.length c4) M.wts.length (M.wts.map (Value.int .i64)) rfl (WT.out _ (gCall low near)) (ints_one _) f3 (by omega) ?_
     intro vt wc R3 hb
     obtain ⟨At, ct, rfl⟩ := own_shape R3
     replace R3 := own_wider R3 near.size
     replace R2 := own_below R2 hb
     replace R1 := own_below R1 hb
     replace near := gCall near hb
     clear hb
     refine hK.out _ _ trivial ?_
     clear hK K
     try simp only [Act.put]
     try simp only [List.setIfInBounds_toArray, List.set_cons_zero, List.set_cons_succ]
     refine relist (l2 := #[true, true, true, true, true, true, true, true, true, true, false, false, false, false, false]) (by kernel_rfl) ?_
     exact hE _ _ _ _ _ _ _ ⟨near, R1, R2, R3⟩
   ·obtain ⟨⟨x0, x1, x2, x3⟩, x69, x70, x71, x72, x73⟩ := mach_cells (xb.call near) m64
    go_simp
    clear x0 x1 x2 x3 x69 x70 x71 x72 x73
    refine hK.out _ _ trivial ?_
    clear hK K
    try simp only [Act.put]
    try simp only [List.setIfInBounds_toArray, List.set_cons_zero, List.set_cons_succ]
    refine stepTwo (i1 := 2) (i2 := 7) (by kernel_rfl) rfl rfl (by rfl) (by rfl) (fun K hK => ?_) (fun K hK => ?_)
    ·refine wp_append_copy (.const (.slice none 0 0)) (.tmp 11) 33 rfl 67 i1 (.agg slot0) 4 32 Tryz.underlying33 HI1.out HZ1.out.1 HZ1.out.2.1 HZ1.out.2.2 rfl (by decide) rfl (.slice A1 M.ring.length c1) M.ring.length (ringC M.ring) rfl (RS.out _ (gCall low near)).sl (ringC_one _) f1 (by omega) ?_
     intro vr wa R1 hb
     obtain ⟨Ar, cr, rfl⟩ := own_shape R1
     replace R1 := own_wider R1 near.size
     replace near := gCall near hb
     clear hb
     refine hK.out _ _ trivial ?_
     clear hK K
     try simp only [Act.put]
     try simp only [List.setIfInBounds_toArray, List.set_cons_zero, List.set_cons_succ]
     refine stepTwo (i1 := 5) (i2 := 7) (by kernel_rfl) rfl rfl (by rfl) (by rfl) (fun K hK => ?_) (fun K hK => ?_)
     ·refine wp_append_copy (.const (.slice none 0 0)) (.tmp 14) 35 rfl 3 i2 (.int .i64 0) 1 8 Tryz.underlying35 HI2.out HZ2.out.1 HZ2.out.2.1 HZ2.out.2.2 rfl (by decide) rfl (.slice A3 M.at_.length c3) M.at_.length (M.at_.map (Value.int .i64)) rfl (AT.out _ (gCall low near)) (ints_one _) f2 (by omega) ?_
      intro va wb1 R2 hb
      obtain ⟨Aa, ca, rfl⟩ := own_shape R2
      replace R2 := own_wider R2 near.size
      replace R1 := own_below R1 hb
      replace near := gCall near hb
      clear hb
      refine hK.out _ _ trivial ?_
      clear hK K
      try simp only [Act.put]
      try simp only [List.setIfInBounds_toArray, List.set_cons_zero, List.set_cons_succ]
      refine stepNext (i := 7) (by kernel_rfl) rfl (by rfl) (fun K hK => ?_)
      obtain ⟨⟨x0, x1, x2, x3⟩, x69, x70, x71, x72, x73⟩ := mach_cells (xb.call near) m64
      go_simp
      clear x0 x1 x2 x3 x69 x70 x71 x72 x73
      refine hK.out _ _ trivial ?_
      clear hK K
      try simp only [Act.put]
      try simp only [List.setIfInBounds_toArray, List.set_cons_zero, List.set_cons_succ]
      refine takeA 9 ?_ rfl ?_ ?_; rotate_left
      ·(intro w hSw; go_simp; try (with_reducible rfl))
      try simp only [Act.put, List.setIfInBounds_toArray, List.set_cons_zero, List.set_cons_succ]
      refine stepNext (i := 8) (by kernel_rfl) rfl (by rfl) (fun K hK => ?_)
      refine wp_append_copy (.const (.slice none 0 0)) (.tmp 17) 35 rfl 3 i2 (.int .i64 0) 1 8 Tryz.underlying35 HI2.out HZ2.out.1 HZ2.out.2.1 HZ2.out.2.2 rfl (by decide) rfl (.slice A4 M.wts.length c4) M.wts.length (M.wts.map (Value.int .i64)) rfl (WT.out _ (gCall low near)) (ints_one _) f3 (by omega) ?_
      intro vt wc R3 hb
      obtain ⟨At, ct, rfl⟩ := own_shape R3
      replace R3 := own_wider R3 near.size
      replace R2 := own_below R2 hb
      replace R1 := own_below R1 hb
      replace near := gCall near hb
      clear hb
      refine hK.out _ _ trivial ?_
      clear hK K
      try simp only [Act.put]
      try simp only [List.setIfInBounds_toArray, List.set_cons_zero, List.set_cons_succ]
      refine relist (l2 := #[true, true, true, true, true, true, true, true, true, true, false, false, false, false, false]) (by kernel_rfl) ?_
      exact hE _ _ _ _ _ _ _ ⟨near, R1, R2, R3⟩
     ·obtain ⟨⟨x0, x1, x2, x3⟩, x69, x70, x71, x72, x73⟩ := mach_cells (xb.call near) m64
      go_simp
      clear x0 x1 x2 x3 x69 x70 x71 x72 x73
      refine hK.out _ _ trivial ?_
      clear hK K
      try simp only [Act.put]
      try simp only [List.setIfInBounds_toArray, List.set_cons_zero, List.set_cons_succ]
      refine takeA 9 ?_ rfl ?_ ?_; rotate_left
      ·(intro w hSw; go_simp; try (with_reducible rfl))
      try simp only [Act.put, List.setIfInBounds_toArray, List.set_cons_zero, List.set_cons_succ]
      refine stepNext (i := 5) (by kernel_rfl) rfl (by rfl) (fun K hK => ?_)
      refine wp_append_copy (.const (.slice none 0 0)) (.tmp 14) 35 rfl 3 i2 (.int .i64 0) 1 8 Tryz.underlying35 HI2.out HZ2.out.1 HZ2.out.2.1 HZ2.out.2.2 rfl (by decide) rfl (.slice A3 M.at_.length c3) M.at_.length (M.at_.map (Value.int .i64)) rfl (AT.out _ (gCall low near)) (ints_one _) f2 (by omega) ?_
      intro va wb1 R2 hb
      obtain ⟨Aa, ca, rfl⟩ := own_shape R2
      replace R2 := own_wider R2 near.size
      replace R1 := own_below R1 hb
      replace near := gCall near hb
      clear hb
      refine hK.out _ _ trivial ?_
      clear hK K
      try simp only [Act.put]
      try simp only [List.setIfInBounds_toArray, List.set_cons_zero, List.set_cons_succ]
      refine stepNext (i := 8) (by kernel_rfl) rfl (by rfl) (fun K hK => ?_)
      refine wp_append_copy (.const (.slice none 0 0)) (.tmp 17) 35 rfl 3 i2 (.int .i64 0) 1 8 Tryz.underlying35 HI2.out HZ2.out.1 HZ2.out.2.1 HZ2.out.2.2 rfl (by decide) rfl (.slice A4 M.wts.length c4) M.wts.length (M.wts.map (Value.int .i64)) rfl (WT.out _ (gCall low near)) (ints_one _) f3 (by omega) ?_
      intro vt wc R3 hb
      obtain ⟨At, ct, rfl⟩ := own_shape R3
      replace R3 := own_wider R3 near.size
      replace R2 := own_below R2 hb
      replace R1 := own_below R1 hb
      replace near := gCall near hb
      clear hb
      refine hK.out _ _ trivial ?_
      clear hK K
      try simp only [Act.put]
      try simp only [List.setIfInBounds_toArray, List.set_cons_zero, List.set_cons_succ]
      refine relist (l2 := #[true, true, true, true, true, true, true, true, true, true, false, false, false, false, false]) (by kernel_rfl) ?_
      exact hE _ _ _ _ _ _ _ ⟨near, R1, R2, R3⟩
    ·obtain ⟨⟨x0, x1, x2, x3⟩, x69, x70, x71, x72, x73⟩ := mach_cells (xb.call near) m64
     go_simp
     clear x0 x1 x2 x3 x69 x70 x71 x72 x73
     refine hK.out _ _ trivial ?_
     clear hK K
     try simp only [Act.put]
     try simp only [List.setIfInBounds_toArray, List.set_cons_zero, List.set_cons_succ]
     refine stepNext (i := 2) (by kernel_rfl) rfl (by rfl) (fun K hK => ?_)
     refine wp_append_copy (.const (.slice none 0 0)) (.tmp 11) 33 rfl 67 i1 (.agg slot0) 4 32 Tryz.underlying33 HI1.out HZ1.out.1 HZ1.out.2.1 HZ1.out.2.2 rfl (by decide) rfl (.slice A1 M.ring.length c1) M.ring.length (ringC M.ring) rfl (RS.out _ (gCall low near)).sl (ringC_one _) f1 (by omega) ?_
     intro vr wa R1 hb
     obtain ⟨Ar, cr, rfl⟩ := own_shape R1
     replace R1 := own_wider R1 near.size
     replace near := gCall near hb
     clear hb
     refine hK.out _ _ trivial ?_
     clear hK K
     try simp only [Act.put]
     try simp only [List.setIfInBounds_toArray, List.set_cons_zero, List.set_cons_succ]
     refine takeA 9 ?_ rfl ?_ ?_; rotate_left
     ·(intro w hSw; go_simp; try (with_reducible rfl))
     try simp only [Act.put, List.setIfInBounds_toArray, List.set_cons_zero, List.set_cons_succ]
     refine stepNext (i := 5) (by kernel_rfl) rfl (by rfl) (fun K hK => ?_)
     refine wp_append_copy (.const (.slice none 0 0)) (.tmp 14) 35 rfl 3 i2 (.int .i64 0) 1 8 Tryz.underlying35 HI2.out HZ2.out.1 HZ2.out.2.1 HZ2.out.2.2 rfl (by decide) rfl (.slice A3 M.at_.length c3) M.at_.length (M.at_.map (Value.int .i64)) rfl (AT.out _ (gCall low near)) (ints_one _) f2 (by omega) ?_
     intro va wb1 R2 hb
     obtain ⟨Aa, ca, rfl⟩ := own_shape R2
     replace R2 := own_wider R2 near.size
     replace R1 := own_below R1 hb
     replace near := gCall near hb
     clear hb
     refine hK.out _ _ trivial ?_
     clear hK K
     try simp only [Act.put]
     try simp only [List.setIfInBounds_toArray, List.set_cons_zero, List.set_cons_succ]
     refine stepNext (i := 8) (by kernel_rfl) rfl (by rfl) (fun K hK => ?_)
     refine wp_append_copy (.const (.slice none 0 0)) (.tmp 17) 35 rfl 3 i2 (.int .i64 0) 1 8 Tryz.underlying35 HI2.out HZ2.out.1 HZ2.out.2.1 HZ2.out.2.2 rfl (by decide) rfl (.slice A4 M.wts.length c4) M.wts.length (M.wts.map (Value.int .i64)) rfl (WT.out _ (gCall low near)) (ints_one _) f3 (by omega) ?_
     intro vt wc R3 hb
     obtain ⟨At, ct, rfl⟩ := own_shape R3
     replace R3 := own_wider R3 near.size
     replace R2 := own_below R2 hb
     replace R1 := own_below R1 hb
     replace near := gCall near hb
     clear hb
     refine hK.out _ _ trivial ?_
     clear hK K
     try simp only [Act.put]
     try simp only [List.setIfInBounds_toArray, List.set_cons_zero, List.set_cons_succ]
     refine relist (l2 := #[true, true, true, true, true, true, true, true, true, true, false, false, false, false, false]) (by kernel_rfl) ?_
     exact hE _ _ _ _ _ _ _ ⟨near, R1, R2, R3⟩
   ·obtain ⟨⟨x0, x1, x2, x3⟩, x69, x70, x71, x72, x73⟩ := mach_cells (xb.call near) m64
    go_simp
    clear x0 x1 x2 x3 x69 x70 x71 x72 x73
    refine hK.out _ _ trivial ?_
    clear hK K
    try simp only [Act.put]
    try simp only [List.setIfInBounds_toArray, List.set_cons_zero, List.set_cons_succ]
    refine stepTwo (i1 := 2) (i2 := 4) (by kernel_rfl) rfl rfl (by rfl) (by rfl) (fun K hK => ?_) (fun K hK => ?_)
    ·refine wp_append_copy (.const (.slice none 0 0)) (.tmp 11) 33 rfl 67 i1 (.agg slot0) 4 32 Tryz.underlying33 HI1.out HZ1.out.1 HZ1.out.2.1 HZ1.out.2.2 rfl (by decide) rfl (.slice A1 M.ring.length c1) M.ring.length (ringC M.ring) rfl (RS.out _ (gCall low near)).sl (ringC_one _) f1 (by omega) ?_
     intro vr wa R1 hb
     obtain ⟨Ar, cr, rfl⟩ := own_shape R1
     replace R1 := own_wider R1 near.size
     replace near := gCall near hb
     clear hb
     refine hK.out _ _ trivial ?_
     clear hK K
     try simp only [Act.put]
     try simp only [List.setIfInBounds_toArray, List.set_cons_zero, List.set_cons_succ]
     refine stepNext (i := 4) (by kernel_rfl) rfl (by rfl) (fun K hK => ?_)
     obtain ⟨⟨x0, x1, x2, x3⟩, x69, x70, x71, x72, x73⟩ := mach_cells (xb.call near) m64
     go_simp
     clear x0 x1 x2 x3 x69 x70 x71 x72 x73
     refine hK.out _ _ trivial ?_
     clear hK K
     try simp only [Act.put]
     try simp only [List.setIfInBounds_toArray, List.set_cons_zero, List.set_cons_succ]
     refine takeA 9 ?_ rfl ?_ ?_; rotate_left
     ·(intro w hSw; go_simp; try (with_reducible rfl))
     try simp only [Act.put, List.setIfInBounds_toArray, List.set_cons_zero, List.set_cons_succ]
     refine stepNext (i := 5) (by kernel_rfl) rfl (by rfl) (fun K hK => ?_)
     refine wp_append_copy (.const (.slice none 0 0)) (.tmp 14) 35 rfl 3 i2 (.int .i64 0) 1 8 Tryz.underlying35 HI2.out HZ2.out.1 HZ2.out.2.1 HZ2.out.2.2 rfl (by decide) rfl (.slice A3 M.at_.length c3) M.at_.length (M.at_.map (Value.int .i64)) rfl (AT.out _ (gCall low near)) (ints_one _) f2 (by omega) ?_
     intro va wb1 R2 hb
     obtain ⟨Aa, ca, rfl⟩ := own_shape R2
     replace R2 := own_wider R2 near.size
     replace R1 := own_below R1 hb
     replace near := gCall near hb
     clear hb
     refine hK.out _ _ trivial ?_
     clear hK K
     try simp only [Act.put]
     try simp only [List.setIfInBounds_toArray, List.set_cons_zero, List.set_cons_succ]
     refine stepNext (i := 8) (by kernel_rfl) rfl (by rfl) (fun K hK => ?_)
     refine wp_append_copy (.const (.slice none 0 0)) (.tmp 17) 35 rfl 3 i2 (.int .i64 0) 1 8 Tryz.underlying35 HI2.out HZ2.out.1 HZ2.out.2.1 HZ2.out.2.2 rfl (by decide) rfl (.slice A4 M.wts.length c4) M.wts.length (M.wts.map (Value.int .i64)) rfl (WT.out _ (gCall low near)) (ints_one _) f3 (by omega) ?_
     intro vt wc R3 hb
     obtain ⟨At, ct, rfl⟩ := own_shape R3
     replace R3 := own_wider R3 near.size
     replace R2 := own_below R2 hb
     replace R1 := own_below R1 hb
     replace near := gCall near hb
     clear hb
     refine hK.out _ _ trivial ?_
     clear hK K
     try simp only [Act.put]
     try simp only [List.setIfInBounds_toArray, List.set_cons_zero, List.set_cons_succ]
     refine relist (l2 := #[true, true, true, true, true, true, true, true, true, true, false, false, false, false, false]) (by kernel_rfl) ?_
     exact hE _ _ _ _ _ _ _ ⟨near, R1, R2, R3⟩
    ·obtain ⟨⟨x0, x1, x2, x3⟩, x69, x70, x71, x72, x73⟩ := mach_cells (xb.call near) m64
     go_simp
     clear x0 x1 x2 x3 x69 x70 x71 x72 x73
     refine hK.out _ _ trivial ?_
     clear hK K
     try simp only [Act.put]
     try simp only [List.setIfInBounds_toArray, List.set_cons_zero, List.set_cons_succ]
     refine stepNext (i := 2) (by kernel_rfl) rfl (by rfl) (fun K hK => ?_)
     refine wp_append_copy (.const (.slice none 0 0)) (.tmp 11) 33 rfl 67 i1 (.agg slot0) 4 32 Tryz.underlying33 HI1.out HZ1.out.1 HZ1.out.2.1 HZ1.out.2.2 rfl (by decide) rfl (.slice A1 M.ring.length c1) M.ring.length (ringC M.ring) rfl (RS.out _ (gCall low near)).sl (ringC_one _) f1 (by omega) ?_
     intro vr wa R1 hb
     obtain ⟨Ar, cr, rfl⟩ := own_shape R1
     replace R1 := own_wider R1 near.size
     replace near := gCall near hb
     clear hb
     refine hK.out _ _ trivial ?_
     clear hK K
     try simp only [Act.put]
     try simp only [List.setIfInBounds_toArray, List.set_cons_zero, List.set_cons_succ]
     refine takeA 9 ?_ rfl ?_ ?_; rotate_left
     ·(intro w hSw; go_simp; try (with_reducible rfl))
     try simp only [Act.put, List.setIfInBounds_toArray, List.set_cons_zero, List.set_cons_succ]
     refine stepNext (i := 5) (by kernel_rfl) rfl (by rfl) (fun K hK => ?_)
     refine wp_append_copy (.const (.slice none 0 0)) (.tmp 14) 35 rfl 3 i2 (.int .i64 0) 1 8 Tryz.underlying35 HI2.out HZ2.out.1 HZ2.out.2.1 HZ2.out.2.2 rfl (by decide) rfl (.slice A3 M.at_.length c3) M.at_.length (M.at_.map (Value.int .i64)) rfl (AT.out _ (gCall low near)) (ints_one _) f2 (by omega) ?_
     intro va wb1 R2 hb
     obtain ⟨Aa, ca, rfl⟩ := own_shape R2
     replace R2 := own_wider R2 near.size
     replace R1 := own_below R1 hb
     replace near := gCall near hb
     clear hb
     refine hK.out _ _ trivial ?_
     clear hK K
     try simp only [Act.put]
     try simp only [List.setIfInBounds_toArray, List.set_cons_zero, List.set_cons_succ]
     refine stepNext (i := 8) (by kernel_rfl) rfl (by rfl) (fun K hK => ?_)
     refine wp_append_copy (.const (.slice none 0 0)) (.tmp 17) 35 rfl 3 i2 (.int .i64 0) 1 8 Tryz.underlying35 HI2.out HZ2.out.1 HZ2.out.2.1 HZ2.out.2.2 rfl (by decide) rfl (.slice A4 M.wts.length c4) M.wts.length (M.wts.map (Value.int .i64)) rfl (WT.out _ (gCall low near)) (ints_one _) f3 (by omega) ?_
     intro vt wc R3 hb
     obtain ⟨At, ct, rfl⟩ := own_shape R3
     replace R3 := own_wider R3 near.size
     replace R2 := own_below R2 hb
     replace R1 := own_below R1 hb
     replace near := gCall near hb
     clear hb
     refine hK.out _ _ trivial ?_
     clear hK K
     try simp only [Act.put]
     try simp only [List.setIfInBounds_toArray, List.set_cons_zero, List.set_cons_succ]
     refine relist (l2 := #[true, true, true, true, true, true, true, true, true, true, false, false, false, false, false]) (by kernel_rfl) ?_
     exact hE _ _ _ _ _ _ _ ⟨near, R1, R2, R3⟩
  ·obtain ⟨⟨x0, x1, x2, x3⟩, x69, x70, x71, x72, x73⟩ := mach_cells (xb.call near) m64
   go_simp
   clear x0 x1 x2 x3 x69 x70 x71 x72 x73
   refine hK.out _ _ trivial ?_
   clear hK K
   try simp only [Act.put]
   try simp only [List.setIfInBounds_toArray, List.set_cons_zero, List.set_cons_succ]
   refine stepTwo (i1 := 1) (i2 := 7) (by kernel_rfl) rfl rfl (by rfl) (by rfl) (fun K hK => ?_) (fun K hK => ?_)
   ·obtain ⟨⟨x0, x1, x2, x3⟩, x69, x70, x71, x72, x73⟩ := mach_cells (xb.call near) m64
    go_simp
    clear x0 x1 x2 x3 x69 x70 x71 x72 x73
    refine hK.out _ _ trivial ?_
    clear hK K
    try simp only [Act.put]
    try simp only [List.setIfInBounds_toArray, List.set_cons_zero, List.set_cons_succ]
    refine stepTwo (i1 := 2) (i2 := 7) (by kernel_rfl) rfl rfl (by rfl) (by rfl) (fun K hK => ?_) (fun K hK => ?_)
    ·refine wp_append_copy (.const (.slice none 0 0)) (.tmp 11) 33 rfl 67 i1 (.agg slot0) 4 32 Tryz.underlying33 HI1.out HZ1.out.1 HZ1.out.2.1 HZ1.out.2.2 rfl (by decide) rfl (.slice A1 M.ring.length c1) M.ring.length (ringC M.ring) rfl (RS.out _ (gCall low near)).sl (ringC_one _) f1 (by omega) ?_
     intro vr wa R1 hb
     obtain ⟨Ar, cr, rfl⟩ := own_shape R1
     replace R1 := own_wider R1 near.size
     replace near := gCall near hb
     clear hb
     refine hK.out _ _ trivial ?_
     clear hK K
     try simp only [Act.put]
     try simp only [List.setIfInBounds_toArray, List.set_cons_zero, List.set_cons_succ]
     refine stepTwo (i1 := 5) (i2 := 7) (by kernel_rfl) rfl rfl (by rfl) (by rfl) (fun K hK => ?_) (fun K hK => ?_)
     ·refine wp_append_copy (.const (.slice none 0 0)) (.tmp 14) 35 rfl 3 i2 (.int .i64 0) 1 8 Tryz.underlying35 HI2.out HZ2.out.1 HZ2.out.2.1 HZ2.out.2.2 rfl (by decide) rfl (.slice A3 M.at_.length c3) M.at_.length (M.at_.map (Value.int .i64)) rfl (AT.out _ (gCall low near)) (ints_one _) f2 (by omega) ?_
      intro va wb1 R2 hb
      obtain ⟨Aa, ca, rfl⟩ := own_shape R2
      replace R2 := own_wider R2 near.size
      replace R1 := own_below R1 hb
      replace near := gCall near hb
      clear hb
      refine hK.out _ _ trivial ?_
      clear hK K
      try simp only [Act.put]
      try simp only [List.setIfInBounds_toArray, List.set_cons_zero, List.set_cons_succ]
      refine stepNext (i := 7) (by kernel_rfl) rfl (by rfl) (fun K hK => ?_)
      obtain ⟨⟨x0, x1, x2, x3⟩, x69, x70, x71, x72, x73⟩ := mach_cells (xb.call near) m64
      go_simp
      clear x0 x1 x2 x3 x69 x70 x71 x72 x73
      refine hK.out _ _ trivial ?_
      clear hK K
      try simp only [Act.put]
      try simp only [List.setIfInBounds_toArray, List.set_cons_zero, List.set_cons_succ]
      refine takeA 9 ?_ rfl ?_ ?_; rotate_left
      ·(intro w hSw; go_simp; try (with_reducible rfl))
      try simp only [Act.put, List.setIfInBounds_toArray, List.set_cons_zero, List.set_cons_succ]
      refine stepNext (i := 8) (by kernel_rfl) rfl (by rfl) (fun K hK => ?_)
      refine wp_append_copy (.const (.slice none 0 0)) (.tmp 17) 35 rfl 3 i2 (.int .i64 0) 1 8 Tryz.underlying35 HI2.out HZ2.out.1 HZ2.out.2.1 HZ2.out.2.2 rfl (by decide) rfl (.slice A4 M.wts.length c4) M.wts.length (M.wts.map (Value.int .i64)) rfl (WT.out _ (gCall low near)) (ints_one _) f3 (by omega) ?_
      intro vt wc R3 hb
      obtain ⟨At, ct, rfl⟩ := own_shape R3
      replace R3 := own_wider R3 near.size
      replace R2 := own_below R2 hb
      replace R1 := own_below R1 hb
      replace near := gCall near hb
      clear hb
      refine hK.out _ _ trivial ?_
      clear hK K
      try simp only [Act.put]
      try simp only [List.setIfInBounds_toArray, List.set_cons_zero, List.set_cons_succ]
      refine relist (l2 := #[true, true, true, true, true, true, true, true, true, true, false, false, false, false, false]) (by kernel_rfl) ?_
      exact hE _ _ _ _ _ _ _ ⟨near, R1, R2, R3⟩
     ·obtain ⟨⟨x0, x1, x2, x3⟩, x69, x70, x71, x72, x73⟩ := mach_cells (xb.call near) m64
      go_simp
      clear x0 x1 x2 x3 x69 x70 x71 x72 x73
      refine hK.out _ _ trivial ?_
      clear hK K
      try simp only [Act.put]
      try simp only [List.setIfInBounds_toArray, List.set_cons_zero, List.set_cons_succ]
      refine takeA 9 ?_ rfl ?_ ?_; rotate_left
      ·(intro w hSw; go_simp; try (with_reducible rfl))
      try simp only [Act.put, List.setIfInBounds_toArray, List.set_cons_zero, List.set_cons_succ]
      refine stepNext (i := 5) (by kernel_rfl) rfl (by rfl) (fun K hK => ?_)
      refine wp_append_copy (.const (.slice none 0 0)) (.tmp 14) 35 rfl 3 i2 (.int .i64 0) 1 8 Tryz.underlying35 HI2.out HZ2.out.1 HZ2.out.2.1 HZ2.out.2.2 rfl (by decide) rfl (.slice A3 M.at_.length c3) M.at_.length (M.at_.map (Value.int .i64)) rfl (AT.out _ (gCall low near)) (ints_one _) f2 (by omega) ?_
      intro va wb1 R2 hb
      obtain ⟨Aa, ca, rfl⟩ := own_shape R2
      replace R2 := own_wider R2 near.size
      replace R1 := own_below R1 hb
      replace near := gCall near hb
      clear hb
      refine hK.out _ _ trivial ?_
      clear hK K
      try simp only [Act.put]
      try simp only [List.setIfInBounds_toArray, List.set_cons_zero, List.set_cons_succ]
      refine stepNext (i := 8) (by kernel_rfl) rfl (by rfl) (fun K hK => ?_)
      refine wp_append_copy (.const (.slice none 0 0)) (.tmp 17) 35 rfl 3 i2 (.int .i64 0) 1 8 Tryz.underlying35 HI2.out HZ2.out.1 HZ2.out.2.1 HZ2.out.2.2 rfl (by decide) rfl (.slice A4 M.wts.length c4) M.wts.length (M.wts.map (Value.int .i64)) rfl (WT.out _ (gCall low near)) (ints_one _) f3 (by omega) ?_
      intro vt wc R3 hb
      obtain ⟨At, ct, rfl⟩ := own_shape R3
      replace R3 := own_wider R3 near.size
      replace R2 := own_below R2 hb
      replace R1 := own_below R1 hb
      replace near := gCall near hb
      clear hb
      refine hK.out _ _ trivial ?_
      clear hK K
      try simp only [Act.put]
      try simp only [List.setIfInBounds_toArray, List.set_cons_zero, List.set_cons_succ]
      refine relist (l2 := #[true, true, true, true, true, true, true, true, true, true, false, false, false, false, false]) (by kernel_rfl) ?_
      exact hE _ _ _ _ _ _ _ ⟨near, R1, R2, R3⟩
    ·obtain ⟨⟨x0, x1, x2, x3⟩, x69, x70, x71, x72, x73⟩ := mach_cells (xb.call near) m64
     go_simp
     clear x0 x1 x2 x3 x69 x70 x71 x72 x73
     refine hK.out _ _ trivial ?_
     clear hK K
     try simp only [Act.put]
     try simp only [List.setIfInBounds_toArray, List.set_cons_zero, List.set_cons_succ]
     refine stepNext (i := 2) (by kernel_rfl) rfl (by rfl) (fun K hK => ?_)
     refine wp_append_copy (.const (.slice none 0 0)) (.tmp 11) 33 rfl 67 i1 (.agg slot0) 4 32 Tryz.underlying33 HI1.out HZ1.out.1 HZ1.out.2.1 HZ1.out.2.2 rfl (by decide) rfl (.slice A1 M.ring.length c1) M.ring.length (ringC M.ring) rfl (RS.out _ (gCall low near)).sl (ringC_one _) f1 (by omega) ?_
     intro vr wa R1 hb
     obtain ⟨Ar, cr, rfl⟩ := own_shape R1
     replace R1 := own_wider R1 near.size
     replace near := gCall near hb
     clear hb
     refine hK.out _ _ trivial ?_
     clear hK K
     try simp only [Act.put]
     try simp only [List.setIfInBounds_toArray, List.set_cons_zero, List.set_cons_succ]
     refine takeA 9 ?_ rfl ?_ ?_; rotate_left
     ·(intro w hSw; go_simp; try (with_reducible rfl))
     try simp only [Act.put, List.setIfInBounds_toArray, List.set_cons_zero, List.set_cons_succ]
     refine stepNext (i := 5) (by kernel_rfl) rfl (by rfl) (fun K hK => ?_)
     refine wp_append_copy (.const (.slice none 0 0)) (.tmp 14) 35 rfl 3 i2 (.int .i64 0) 1 8 Tryz.underlying35 HI2.out HZ2.out.1 HZ2.out.2.1 HZ2.out.2.2 rfl (by decide) rfl (.slice A3 M.at_.length c3) M.at_.length (M.at_.map (Value.int .i64)) rfl (AT.out _ (gCall low near)) (ints_one _) f2 (by omega) ?_
     intro va wb1 R2 hb
     obtain ⟨Aa, ca, rfl⟩ := own_shape R2
     replace R2 := own_wider R2 near.size
     replace R1 := own_below R1 hb
     replace near := gCall near hb
     clear hb
     refine hK.out _ _ trivial ?_
     clear hK K
     try simp only [Act.put]
     try simp only [List.setIfInBounds_toArray, List.set_cons_zero, List.set_cons_succ]
     refine stepNext (i := 8) (by kernel_rfl) rfl (by rfl) (fun K hK => ?_)
     refine wp_append_copy (.const (.slice none 0 0)) (.tmp 17) 35 rfl 3 i2 (.int .i64 0) 1 8 Tryz.underlying35 HI2.out HZ2.out.1 HZ2.out.2.1 HZ2.out.2.2 rfl (by decide) rfl (.slice A4 M.wts.length c4) M.wts.length (M.wts.map (Value.int .i64)) rfl (WT.out _ (gCall low near)) (ints_one _) f3 (by omega) ?_
     intro vt wc R3 hb
     obtain ⟨At, ct, rfl⟩ := own_shape R3
     replace R3 := own_wider R3 near.size
     replace R2 := own_below R2 hb
     replace R1 := own_below R1 hb
     replace near := gCall near hb
     clear hb
     refine hK.out _ _ trivial ?_
     clear hK K
     try simp only [Act.put]
     try simp only [List.setIfInBounds_toArray, List.set_cons_zero, List.set_cons_succ]
     refine relist (l2 := #[true, true, true, true, true, true, true, true, true, true, false, false, false, false, false]) (by kernel_rfl) ?_
     exact hE _ _ _ _ _ _ _ ⟨near, R1, R2, R3⟩
   ·obtain ⟨⟨x0, x1, x2, x3⟩, x69, x70, x71, x72, x73⟩ := mach_cells (xb.call near) m64
    go_simp
    clear x0 x1 x2 x3 x69 x70 x71 x72 x73
    refine hK.out _ _ trivial ?_
    clear hK K
    try simp only [Act.put]
    try simp only [List.setIfInBounds_toArray, List.set_cons_zero, List.set_cons_succ]
    refine stepNext (i := 1) (by kernel_rfl) rfl (by rfl) (fun K hK => ?_)
    obtain ⟨⟨x0, x1, x2, x3⟩, x69, x70, x71, x72, x73⟩ := mach_cells (xb.call near) m64
    go_simp
    clear x0 x1 x2 x3 x69 x70 x71 x72 x73
    refine hK.out _ _ trivial ?_
    clear hK K
    try simp only [Act.put]
    try simp only [List.setIfInBounds_toArray, List.set_cons_zero, List.set_cons_succ]
    refine stepNext (i := 2) (by kernel_rfl) rfl (by rfl) (fun K hK => ?_)
    refine wp_append_copy (.const (.slice none 0 0)) (.tmp 11) 33 rfl 67 i1 (.agg slot0) 4 32 Tryz.underlying33 HI1.out HZ1.out.1 HZ1.out.2.1 HZ1.out.2.2 rfl (by decide) rfl (.slice A1 M.ring.length c1) M.ring.length (ringC M.ring) rfl (RS.out _ (gCall low near)).sl (ringC_one _) f1 (by omega) ?_
    intro vr wa R1 hb
    obtain ⟨Ar, cr, rfl⟩ := own_shape R1
    replace R1 := own_wider R1 near.size
    replace near := gCall near hb
    clear hb
    refine hK.out _ _ trivial ?_
    clear hK K
    try simp only [Act.put]
    try simp only [List.setIfInBounds_toArray, List.set_cons_zero, List.set_cons_succ]
    refine takeA 9 ?_ rfl ?_ ?_; rotate_left
    ·(intro w hSw; go_simp; try (with_reducible rfl))
    try simp only [Act.put, List.setIfInBounds_toArray, List.set_cons_zero, List.set_cons_succ]
    refine stepNext (i := 5) (by kernel_rfl) rfl (by rfl) (fun K hK => ?_)
    refine wp_append_copy (.const (.slice none 0 0)) (.tmp 14) 35 rfl 3 i2 (.int .i64 0) 1 8 Tryz.underlying35 HI2.out HZ2.out.1 HZ2.out.2.1 HZ2.out.2.2 rfl (by decide) rfl (.slice A3 M.at_.length c3) M.at_.length (M.at_.map (Value.int .i64)) rfl (AT.out _ (gCall low near)) (ints_one _) f2 (by omega) ?_
    intro va wb1 R2 hb
    obtain ⟨Aa, ca, rfl⟩ := own_shape R2
    replace R2 := own_wider R2 near.size
    replace R1 := own_below R1 hb
    replace near := gCall near hb
    clear hb
    refine hK.out _ _ trivial ?_
    clear hK K
    try simp only [Act.put]
    try simp only [List.setIfInBounds_toArray, List.set_cons_zero, List.set_cons_succ]
    refine stepNext (i := 8) (by kernel_rfl) rfl (by rfl) (fun K hK => ?_)
    refine wp_append_copy (.const (.slice none 0 0)) (.tmp 17) 35 rfl 3 i2 (.int .i64 0) 1 8 Tryz.underlying35 HI2.out HZ2.out.1 HZ2.out.2.1 HZ2.out.2.2 rfl (by decide) rfl (.slice A4 M.wts.length c4) M.wts.length (M.wts.map (Value.int .i64)) rfl (WT.out _ (gCall low near)) (ints_one _) f3 (by omega) ?_
    intro vt wc R3 hb
    obtain ⟨At, ct, rfl⟩ := own_shape R3
    replace R3 := own_wider R3 near.size
    replace R2 := own_below R2 hb
    replace R1 := own_below R1 hb
    replace near := gCall near hb
    clear hb
    refine hK.out _ _ trivial ?_
    clear hK K
    try simp only [Act.put]
    try simp only [List.setIfInBounds_toArray, List.set_cons_zero, List.set_cons_succ]
    refine relist (l2 := #[true, true, true, true, true, true, true, true, true, true, false, false, false, false, false]) (by kernel_rfl) ?_
    exact hE _ _ _ _ _ _ _ ⟨near, R1, R2, R3⟩
  ·obtain ⟨⟨x0, x1, x2, x3⟩, x69, x70, x71, x72, x73⟩ := mach_cells (xb.call near) m64
   go_simp
   clear x0 x1 x2 x3 x69 x70 x71 x72 x73
   refine hK.out _ _ trivial ?_
   clear hK K
   try simp only [Act.put]
   try simp only [List.setIfInBounds_toArray, List.set_cons_zero, List.set_cons_succ]
   refine stepTwo (i1 := 1) (i2 := 4) (by kernel_rfl) rfl rfl (by rfl) (by rfl) (fun K hK => ?_) (fun K hK => ?_)
   ·obtain ⟨⟨x0, x1, x2, x3⟩, x69, x70, x71, x72, x73⟩ := mach_cells (xb.call near) m64
    go_simp
    clear x0 x1 x2 x3 x69 x70 x71 x72 x73
    refine hK.out _ _ trivial ?_
    clear hK K
    try simp only [Act.put]
    try simp only [List.setIfInBounds_toArray, List.set_cons_zero, List.set_cons_succ]
    refine stepTwo (i1 := 2) (i2 := 4) (by kernel_rfl) rfl rfl (by rfl) (by rfl) (fun K hK => ?_) (fun K hK => ?_)
    ·refine wp_append_copy (.const (.slice none 0 0)) (.tmp 11) 33 rfl 67 i1 (.agg slot0) 4 32 Tryz.underlying33 HI1.out HZ1.out.1 HZ1.out.2.1 HZ1.out.2.2 rfl (by decide) rfl (.slice A1 M.ring.length c1) M.ring.length (ringC M.ring) rfl (RS.out _ (gCall low near)).sl (ringC_one _) f1 (by omega) ?_
     intro vr wa R1 hb
     obtain ⟨Ar, cr, rfl⟩ := own_shape R1
     replace R1 := own_wider R1 near.size
     replace near := gCall near hb
     clear hb
     refine hK.out _ _ trivial ?_
     clear hK K
     try simp only [Act.put]
     try simp only [List.setIfInBounds_toArray, List.set_cons_zero, List.set_cons_succ]
     refine stepNext (i := 4) (by kernel_rfl) rfl (by rfl) (fun K hK => ?_)
     obtain ⟨⟨x0, x1, x2, x3⟩, x69, x70, x71, x72, x73⟩ := mach_cells (xb.call near) m64
     go_simp
     clear x0 x1 x2 x3 x69 x70 x71 x72 x73
     refine hK.out _ _ trivial ?_
     clear hK K
     try simp only [Act.put]
     try simp only [List.setIfInBounds_toArray, List.set_cons_zero, List.set_cons_succ]
     refine takeA 9 ?_ rfl ?_ ?_; rotate_left
     ·(intro w hSw; go_simp; try (with_reducible rfl))
     try simp only [Act.put, List.setIfInBounds_toArray, List.set_cons_zero, List.set_cons_succ]
     refine stepNext (i := 5) (by kernel_rfl) rfl (by rfl) (fun K hK => ?_)
     refine wp_append_copy (.const (.slice none 0 0)) (.tmp 14) 35 rfl 3 i2 (.int .i64 0) 1 8 Tryz.underlying35 HI2.out HZ2.out.1 HZ2.out.2.1 HZ2.out.2.2 rfl (by decide) rfl (.slice A3 M.at_.length c3) M.at_.length (M.at_.map (Value.int .i64)) rfl (AT.out _ (gCall low near)) (ints_one _) f2 (by omega) ?_
     intro va wb1 R2 hb
     obtain ⟨Aa, ca, rfl⟩ := own_shape R2
     replace R2 := own_wider R2 near.size
     replace R1 := own_below R1 hb
     replace near := gCall near hb
     clear hb
     refine hK.out _ _ trivial ?_
     clear hK K
     try simp only [Act.put]
     try simp only [List.setIfInBounds_toArray, List.set_cons_zero, List.set_cons_succ]
     refine stepNext (i := 8) (by kernel_rfl) rfl (by rfl) (fun K hK => ?_)
     refine wp_append_copy (.const (.slice none 0 0)) (.tmp 17) 35 rfl 3 i2 (.int .i64 0) 1 8 Tryz.underlying35 HI2.out HZ2.out.1 HZ2.out.2.1 HZ2.out.2.2 rfl (by decide) rfl (.slice A4 M.wts.length c4) M.wts.length (M.wts.map (Value.int .i64)) rfl (WT.out _ (gCall low near)) (ints_one _) f3 (by omega) ?_
     intro vt wc R3 hb
     obtain ⟨At, ct, rfl⟩ := own_shape R3
     replace R3 := own_wider R3 near.size
     replace R2 := own_below R2 hb
     replace R1 := own_below R1 hb
     replace near := gCall near hb
     clear hb
     refine hK.out _ _ trivial ?_
     clear hK K
     try simp only [Act.put]
     try simp only [List.setIfInBounds_toArray, List.set_cons_zero, List.set_cons_succ]
     refine relist (l2 := #[true, true, true, true, true, true, true, true, true, true, false, false, false, false, false]) (by kernel_rfl) ?_
     exact hE _ _ _ _ _ _ _ ⟨near, R1, R2, R3⟩
    ·obtain ⟨⟨x0, x1, x2, x3⟩, x69, x70, x71, x72, x73⟩ := mach_cells (xb.call near) m64
     go_simp
     clear x0 x1 x2 x3 x69 x70 x71 x72 x73
     refine hK.out _ _ trivial ?_
     clear hK K
     try simp only [Act.put]
     try simp only [List.setIfInBounds_toArray, List.set_cons_zero, List.set_cons_succ]
     refine stepNext (i := 2) (by kernel_rfl) rfl (by rfl) (fun K hK => ?_)
     refine wp_append_copy (.const (.slice none 0 0)) (.tmp 11) 33 rfl 67 i1 (.agg slot0) 4 32 Tryz.underlying33 HI1.out HZ1.out.1 HZ1.out.2.1 HZ1.out.2.2 rfl (by decide) rfl (.slice A1 M.ring.length c1) M.ring.length (ringC M.ring) rfl (RS.out _ (gCall low near)).sl (ringC_one _) f1 (by omega) ?_
     intro vr wa R1 hb
     obtain ⟨Ar, cr, rfl⟩ := own_shape R1
     replace R1 := own_wider R1 near.size
     replace near := gCall near hb
     clear hb
     refine hK.out _ _ trivial ?_
     clear hK K
     try simp only [Act.put]
     try simp only [List.setIfInBounds_toArray, List.set_cons_zero, List.set_cons_succ]
     refine takeA 9 ?_ rfl ?_ ?_; rotate_left
     ·(intro w hSw; go_simp; try (with_reducible rfl))
     try simp only [Act.put, List.setIfInBounds_toArray, List.set_cons_zero, List.set_cons_succ]
     refine stepNext (i := 5) (by kernel_rfl) rfl (by rfl) (fun K hK => ?_)
     refine wp_append_copy (.const (.slice none 0 0)) (.tmp 14) 35 rfl 3 i2 (.int .i64 0) 1 8 Tryz.underlying35 HI2.out HZ2.out.1 HZ2.out.2.1 HZ2.out.2.2 rfl (by decide) rfl (.slice A3 M.at_.length c3) M.at_.length (M.at_.map (Value.int .i64)) rfl (AT.out _ (gCall low near)) (ints_one _) f2 (by omega) ?_
     intro va wb1 R2 hb
     obtain ⟨Aa, ca, rfl⟩ := own_shape R2
     replace R2 := own_wider R2 near.size
     replace R1 := own_below R1 hb
     replace near := gCall near hb
     clear hb
     refine hK.out _ _ trivial ?_
     clear hK K
     try simp only [Act.put]
     try simp only [List.setIfInBounds_toArray, List.set_cons_zero, List.set_cons_succ]
     refine stepNext (i := 8) (by kernel_rfl) rfl (by rfl) (fun K hK => ?_)
     refine wp_append_copy (.const (.slice none 0 0)) (.tmp 17) 35 rfl 3 i2 (.int .i64 0) 1 8 Tryz.underlying35 HI2.out HZ2.out.1 HZ2.out.2.1 HZ2.out.2.2 rfl (by decide) rfl (.slice A4 M.wts.length c4) M.wts.length (M.wts.map (Value.int .i64)) rfl (WT.out _ (gCall low near)) (ints_one _) f3 (by omega) ?_
     intro vt wc R3 hb
     obtain ⟨At, ct, rfl⟩ := own_shape R3
     replace R3 := own_wider R3 near.size
     replace R2 := own_below R2 hb
     replace R1 := own_below R1 hb
     replace near := gCall near hb
     clear hb
     refine hK.out _ _ trivial ?_
     clear hK K
     try simp only [Act.put]
     try simp only [List.setIfInBounds_toArray, List.set_cons_zero, List.set_cons_succ]
     refine relist (l2 := #[true, true, true, true, true, true, true, true, true, true, false, false, false, false, false]) (by kernel_rfl) ?_
     exact hE _ _ _ _ _ _ _ ⟨near, R1, R2, R3⟩
   ·obtain ⟨⟨x0, x1, x2, x3⟩, x69, x70, x71, x72, x73⟩ := mach_cells (xb.call near) m64
    go_simp
    clear x0 x1 x2 x3 x69 x70 x71 x72 x73
    refine hK.out _ _ trivial ?_
    clear hK K
    try simp only [Act.put]
    try simp only [List.setIfInBounds_toArray, List.set_cons_zero, List.set_cons_succ]
    refine stepNext (i := 1) (by kernel_rfl) rfl (by rfl) (fun K hK => ?_)
    obtain ⟨⟨x0, x1, x2, x3⟩, x69, x70, x71, x72, x73⟩ := mach_cells (xb.call near) m64
    go_simp
    clear x0 x1 x2 x3 x69 x70 x71 x72 x73
    refine hK.out _ _ trivial ?_
    clear hK K
    try simp only [Act.put]
    try simp only [List.setIfInBounds_toArray, List.set_cons_zero, List.set_cons_succ]
    refine stepNext (i := 2) (by kernel_rfl) rfl (by rfl) (fun K hK => ?_)
    refine wp_append_copy (.const (.slice none 0 0)) (.tmp 11) 33 rfl 67 i1 (.agg slot0) 4 32 Tryz.underlying33 HI1.out HZ1.out.1 HZ1.out.2.1 HZ1.out.2.2 rfl (by decide) rfl (.slice A1 M.ring.length c1) M.ring.length (ringC M.ring) rfl (RS.out _ (gCall low near)).sl (ringC_one _) f1 (by omega) ?_
    intro vr wa R1 hb
    obtain ⟨Ar, cr, rfl⟩ := own_shape R1
    replace R1 := own_wider R1 near.size
    replace near := gCall near hb
    clear hb
    refine hK.out _ _ trivial ?_
    clear hK K
    try simp only [Act.put]
    try simp only [List.setIfInBounds_toArray, List.set_cons_zero, List.set_cons_succ]
    refine takeA 9 ?_ rfl ?_ ?_; rotate_left
    ·(intro w hSw; go_simp; try (with_reducible rfl))
    try simp only [Act.put, List.setIfInBounds_toArray, List.set_cons_zero, List.set_cons_succ]
    refine stepNext (i := 5) (by kernel_rfl) rfl (by rfl) (fun K hK => ?_)
    refine wp_append_copy (.const (.slice none 0 0)) (.tmp 14) 35 rfl 3 i2 (.int .i64 0) 1 8 Tryz.underlying35 HI2.out HZ2.out.1 HZ2.out.2.1 HZ2.out.2.2 rfl (by decide) rfl (.slice A3 M.at_.length c3) M.at_.length (M.at_.map (Value.int .i64)) rfl (AT.out _ (gCall low near)) (ints_one _) f2 (by omega) ?_
    intro va wb1 R2 hb
    obtain ⟨Aa, ca, rfl⟩ := own_shape R2
    replace R2 := own_wider R2 near.size
    replace R1 := own_below R1 hb
    replace near := gCall near hb
    clear hb
    refine hK.out _ _ trivial ?_
    clear hK K
    try simp only [Act.put]
    try simp only [List.setIfInBounds_toArray, List.set_cons_zero, List.set_cons_succ]
    refine stepNext (i := 8) (by kernel_rfl) rfl (by rfl) (fun K hK => ?_)
    refine wp_append_copy (.const (.slice none 0 0)) (.tmp 17) 35 rfl 3 i2 (.int .i64 0) 1 8 Tryz.underlying35 HI2.out HZ2.out.1 HZ2.out.2.1 HZ2.out.2.2 rfl (by decide) rfl (.slice A4 M.wts.length c4) M.wts.length (M.wts.map (Value.int .i64)) rfl (WT.out _ (gCall low near)) (ints_one _) f3 (by omega) ?_
    intro vt wc R3 hb
    obtain ⟨At, ct, rfl⟩ := own_shape R3
    replace R3 := own_wider R3 near.size
    replace R2 := own_below R2 hb
    replace R1 := own_below R1 hb
    replace near := gCall near hb
    clear hb
    refine hK.out _ _ trivial ?_
    clear hK K
    try simp only [Act.put]
    try simp only [List.setIfInBounds_toArray, List.set_cons_zero, List.set_cons_succ]
    refine relist (l2 := #[true, true, true, true, true, true, true, true, true, true, false, false, false, false, false]) (by kernel_rfl) ?_
    exact hE _ _ _ _ _ _ _ ⟨near, R1, R2, R3⟩
 intro Ar cr Aa ca At ct wz hmid
 obtain ⟨near, R1, R2, R3⟩ := hmid
 replace xb := xb.call near
 replace rb := rb.call near
 replace low := gCall low near
 have OK2 := Lib.hid (OK.out.call near)
 have nz := near.size
 clear OK near
 have OK := OK2
 clear OK2
 refine stepNext (i := 10) (by kernel_rfl) rfl (by rfl) (fun K hK => ?_)
 obtain ⟨⟨x0, x1, x2, x3⟩, x69, x70, x71, x72, x73⟩ := mach_cells xb m64
 have xf := xb.frozen 69
 go_simp
 have st : Stored wz w.heap.size (wz.setCell ⟨w.heap.size, 69, none⟩ (.slice Ar M.ring.length cr)) := Stored.cell1 wz ⟨w.heap.size, 69, none⟩ _
 have xb9 := xb.set 69 (.slice Ar M.ring.length cr)
 rw [mcA_ring m64] at xb9
 replace rb := st.box rb (by omega)
 replace low := st.low low (Nat.le_refl _)
 have OK9 := Lib.hid (OK.out.kept st xb (by decide) (by decide) (by decide))
 have R19 := row_kept R1 st xb (by decide)
 have R29 := row_kept R2 st xb (by decide)
 have R39 := row_kept R3 st xb (by decide)
 clear OK R1 R2 R3 xb st x0 x1 x2 x3 x69 x70 x71 x72 x73 xf
 have xb := xb9
 have OK := OK9
 have R1 := R19
 have R2 := R29
 have R3 := R39
 clear xb9 OK9 R19 R29 R39
 refine hK.out _ _ trivial ?_
 clear hK K
 try simp only [Act.put]
 try simp only [List.setIfInBounds_toArray, List.set_cons_zero, List.set_cons_succ]
 generalize wz.setCell ⟨w.heap.size, 69, none⟩ (.slice Ar M.ring.length cr) = wz1 at *
 refine takeA 11 ?_ rfl ?_ ?_; rotate_left
 ·(intro w hSw; go_simp; try (with_reducible rfl))
 try simp only [Act.put, List.setIfInBounds_toArray, List.set_cons_zero, List.set_cons_succ]
 refine stepNext (i := 12) (by kernel_rfl) rfl (by rfl) (fun K hK => ?_)
 obtain ⟨⟨x0, x1, x2, x3⟩, x69, x70, x71, x72, x73⟩ := mach_cells xb m64
 have xf := xb.frozen 71
 go_simp
 have st : Stored wz1 w.heap.size (wz1.setCell ⟨w.heap.size, 71, none⟩ (.slice Aa M.at_.length ca)) := Stored.cell1 wz1 ⟨w.heap.size, 71, none⟩ _
 have xb9 := xb.set 71 (.slice Aa M.at_.length ca)
 rw [mcA_ats m64] at xb9
 replace rb := st.box rb (by omega)
 replace low := st.low low (Nat.le_refl _)
 have OK9 := Lib.hid (OK.out.kept st xb (by decide) (by decide) (by decide))
 have R19 := row_kept R1 st xb (by decide)
 have R29 := row_kept R2 st xb (by decide)
 have R39 := row_kept R3 st xb (by decide)
 clear OK R1 R2 R3 xb st x0 x1 x2 x3 x69 x70 x71 x72 x73 xf
 have xb := xb9
 have OK := OK9
 have R1 := R19
 have R2 := R29
 have R3 := R39
 clear xb9 OK9 R19 R29 R39
 refine hK.out _ _ trivial ?_
 clear hK K
 try simp only [Act.put]
 try simp only [List.setIfInBounds_toArray, List.set_cons_zero, List.set_cons_succ]
 generalize wz1.setCell ⟨w.heap.size, 71, none⟩ (.slice Aa M.at_.length ca) = wz2 at *
 refine takeA 13 ?_ rfl ?_ ?_; rotate_left
 ·(intro w hSw; go_simp; try (with_reducible rfl))
 try simp only [Act.put, List.setIfInBounds_toArray, List.set_cons_zero, List.set_cons_succ]
 refine stepNext (i := 14) (by kernel_rfl) rfl (by rfl) (fun K hK => ?_)
 obtain ⟨⟨x0, x1, x2, x3⟩, x69, x70, x71, x72, x73⟩ := mach_cells xb m64
 have xf := xb.frozen 72
 go_simp
 have st : Stored wz2 w.heap.size (wz2.setCell ⟨w.heap.size, 72, none⟩ (.slice At M.wts.length ct)) := Stored.cell1 wz2 ⟨w.heap.size, 72, none⟩ _
 have xb9 := xb.set 72 (.slice At M.wts.length ct)
 rw [mcA_waits m64] at xb9
 replace rb := st.box rb (by omega)
 replace low := st.low low (Nat.le_refl _)
 have OK9 := Lib.hid (OK.out.kept st xb (by decide) (by decide) (by decide))
 have R19 := row_kept R1 st xb (by decide)
 have R29 := row_kept R2 st xb (by decide)
 have R39 := row_kept R3 st xb (by decide)
 clear OK R1 R2 R3 xb st x0 x1 x2 x3 x69 x70 x71 x72 x73 xf
 have xb := xb9
 have OK := OK9
 have R1 := R19
 have R2 := R29
 have R3 := R39
 clear xb9 OK9 R19 R29 R39
 refine hK.out _ _ trivial ?_
 clear hK K
 try simp only [Act.put]
 try simp only [List.setIfInBounds_toArray, List.set_cons_zero, List.set_cons_succ]
 generalize wz2.setCell ⟨w.heap.size, 72, none⟩ (.slice At M.wts.length ct) = wz3 at *
 refine wpAnyH_done (by kernel_rfl) ?_ _
 refine NoPanic.normal ?_
 clear hHeld RS AT WT
 obtain ⟨⟨x0, x1, x2, x3⟩, x69, x70, x71, x72, x73⟩ := mach_cells xb m64
 obtain ⟨Ap, cp, ep, q1, q2, q3⟩ := PS.out.ex
 injection ep with ep1 _ ep3
 subst ep1 ep3
 have Q3 := Lib.hid q3
 unfold maxLen at q2
 clear q3 PS
 go_wp2_with fail
 clear x0 x1 x2 x3 x69 x70 x71 x72 x73
 have nz3 := xb.lt
 have XB := Lib.hid xb
 have RB := Lib.hid rb
 have LW := Lib.hid low
 have B3 : w.heap.size + 1 ≤ wz3.heap.size := Nat.le_of_lt rb.lt
 clear xb rb low
 go_loopw [3, 25] (fun s i wr => ∃ j : Nat, j ≤ M.pr.length ∧ i = .int .i64 j ∧ Hid (OwnP wr wz3.heap.size s (M.pr.take j)) ∧ Below wz3.heap.size wz3 wr) (fun _ i _ => M.pr.length - (intOf i).toNat)
 case atStart => exact ⟨0, Nat.zero_le _, rfl, Lib.hid (OwnP.nil _ _), Below.refl _ _⟩
 case round =>
  obtain ⟨j, hj, rfl, OP, near⟩ := hrel
  obtain ⟨As, cs, rfl⟩ := OP.out.shape
  have lj : (M.pr.take j).length = j := by rw [List.length_take]; omega
  by_cases hlt : j < M.pr.length
  ·obtain ⟨b, o, rfl, hb, hc⟩ := Q3.out (by omega)
   have hx : M.pr[j]? = some M.pr[j] := List.getElem?_eq_getElem _
   generalize M.pr[j] = l at hx
   obtain ⟨A', c', cl, ds⟩ := hc j l hx
   have low := gCall LW.out near
   have cx := (low.cell (p := ⟨b, o + j, none⟩) hb).trans cl
   have DS := Lib.hid (ds.call low)
   have l20 := F5.out j l hx
   have HXl := Lib.hid hx
   have OP2 := Lib.hid OP.out
   rw [lj] at OP2
   have k0 : (0 : Int) ≤ j := by omega
   have k1 : (j : Int) < M.pr.length := by omega
   clear hx hc cl ds OP low
   go_wp2_with (at_builtin; refine wpList_append_copy rfl _ _ 52 rfl 59 i4 (.agg #[.int .i64 0, .int .i64 0, .int .i64 0, .int .u64 0]) 4 32 Tryz.underlying52 HI4.out HZ4.out.1 HZ4.out.2.1 HZ4.out.2.2 rfl (by decide) rfl (.slice A' l.length c') l.length (deedsC l) rfl DS.out.sl (deedsC_one _) l20 (by omega) ?_)
   intro vd w4 own4 hb4
   obtain ⟨A4', c4', rfl⟩ := own_shape own4
   have OP4 := Lib.hid (OP2.out.call hb4)
   have near4 := near.trans (hb4.mono near.size)
   have own4' := Lib.hid (own_wider own4 near.size)
   clear own4 OP2 hb4 cx
   have alc := gAlloc (Below.refl w4.heap.size w4) (.cells #[.slice A4' l.length c4'] 52)
   have nb := Box.new w4 52 #[.slice A4' l.length c4']
   have NB := Lib.hid nb
   obtain ⟨us, u1, u2, u3⟩ := OP4.out.call alc
   rw [lj] at u2
   have U1 := Lib.hid u1
   have U2 := Lib.hid u2
   have U3 := Lib.hid u3
   have OW5 := Lib.hid (own_below own4'.out alc)
   have near5 := gAlloc near4 (.cells #[.slice A4' l.length c4'] 52)
   have n5 := near5.size
   clear nb u1 u2 u3 alc OP4 own4' near near4
   go_wp2_with (at_builtin; refine wpList_append_own _ rfl _ _ 34 rfl wz3.heap.size 52 i5 (.slice none 0 0) 1 24 Tryz.underlying34 HI5.out HZ5.out.1 HZ5.out.2.1 HZ5.out.2.2 rfl (by decide) _ j _ rfl U2.out ⟨w4.heap.size, 0, none⟩ 1 1 [.slice A4' l.length c4'] rfl rfl ?f1 (by simp [Value.oneCell']) ?f3 ?f4 ?f5 ?_)
   case f1 =>
    intro i u hu
    match i, hu with
    | 0, hu =>
     simp only [List.getElem?_cons_zero, Option.some.injEq] at hu
     subst hu
     exact NB.out.at_ 0 rfl
   case f3 => unfold maxLen; omega
   case f4 => omega
   case f5 => exact n5
   intro v6 w6 own6 grow6 _
   have OP7 := OwnP.push U1.out (by rw [lj]; exact U2.out) U3.out OW5.out (by rw [lj]; exact own6) grow6
   rw [← take_snoc' HXl.out] at OP7
   have near6 := near5.grown grow6 n5 (fun g e => by have := U2.out.lt _ e; omega)
   have OP8 := Lib.hid OP7
   clear own6 grow6 NB U1 U2 U3 OW5 near5 OP7 n5
   go_wp2_with fail
   go_roundw
   case rel => exact ⟨j + 1, by omega, by go_num, OP8, near6⟩
   case measure => simp [intOf]; omega
  ·obtain rfl : j = M.pr.length := by omega
   rename World => wr2
   have xb := XB.out.call near
   have rb := RB.out.call near
   have low := gCall LW.out near
   have OP2 := Lib.hid OP.out
   rw [List.take_length] at OP2
   have OK2 := Lib.hid (OK.out.call near)
   have R12 := Lib.hid (own_below R1 near)
   have R22 := Lib.hid (own_below R2 near)
   have R32 := Lib.hid (own_below R3 near)
   clear OP OK R1 R2 R3 XB RB LW
   obtain ⟨⟨x0, x1, x2, x3⟩, x69, x70, x71, x72, x73⟩ := mach_cells xb m64
   have xf := xb.frozen 70
   have xb9 := xb.set 70 (.slice As M.pr.length cs)
   rw [mcA_progs m64] at xb9
   have st : Stored wr2 w.heap.size (wr2.setCell ⟨w.heap.size, 70, none⟩ (.slice As M.pr.length cs)) := Stored.cell1 wr2 ⟨w.heap.size, 70, none⟩ _
   have rb9 := st.box rb (by omega)
   have low9 := st.low low (Nat.le_refl _)
   have OP9 := Lib.hid (OP2.out.kept st xb (by decide) (by decide))
   have OK9 := Lib.hid (OK2.out.kept st xb (by decide) (by decide) (by decide))
   have R19 := Lib.hid (row_kept R12.out st xb (by decide))
   have R29 := Lib.hid (row_kept R22.out st xb (by decide))
   have R39 := Lib.hid (row_kept R32.out st xb (by decide))
   have rx := xb9.range
   have XS : (mcA M.n M.s M.y M.b (.slice Aw M.css.length cw) M.mem (.slice Ar M.ring.length cr) (.slice As M.pr.length cs) (.slice Aa M.at_.length ca) (.slice At M.wts.length ct) M.had).size = (mcA 0 0 0 0 (.slice none 0 0) zeroL (.slice none 0 0) (.slice none 0 0) (.slice none 0 0) (.slice none 0 0) 0).size := by rw [mcA_size m64, mcA_size zeroL_length]
   have XO : (mcA M.n M.s M.y M.b (.slice Aw M.css.length cw) M.mem (.slice Ar M.ring.length cr) (.slice As M.pr.length cs) (.slice Aa M.at_.length ca) (.slice At M.wts.length ct) M.had).all (·.oneCell') = true := mcA_one
   have MK := Lib.hid (fun (W : World) (h0 : Ks W (.slice Aw M.css.length cw) M.css) (h1 : Rs W (.slice Ar M.ring.length cr) M.ring) (h2 : Ps W (.slice As M.pr.length cs) M.pr) (h3 : Sl W W.heap.size 1 (.slice Aa M.at_.length ca) M.at_.length (M.at_.map (Value.int .i64))) (h4 : Sl W W.heap.size 1 (.slice At M.wts.length ct) M.wts.length (M.wts.map (Value.int .i64))) =>
    show MRead W (.agg (mcA M.n M.s M.y M.b (.slice Aw M.css.length cw) M.mem (.slice Ar M.ring.length cr) (.slice As M.pr.length cs) (.slice Aa M.at_.length ca) (.slice At M.wts.length ct) M.had)) M from ⟨m64, _, _, _, _, _, rfl, h0, h1, h2, h3, h4⟩)
   clear st rb low OP2 OK2 R12 R22 R32 xb
   generalize mcA M.n M.s M.y M.b (.slice Aw M.css.length cw) M.mem (.slice Ar M.ring.length cr) (.slice As M.pr.length cs) (.slice Aa M.at_.length ca) (.slice At M.wts.length ct) M.had = XB at *
   go_wp2_with (first | ((with_reducible refine wp_loadW (tyMach) (rx) (XS) ?_ ?_ ?_); rfl; rfl) | ((with_reducible refine wp_storeW (tyMach) (rb9) (rfl) (XS) (XO) ?_ ?_ ?_); rfl; rfl))
   intro w5 rb5 st5
   have M5 := Lib.hid (MK.out w5 (OK9.out.kept st5 rb9 (by decide) (by decide) (by decide)).ks ⟨Sl.ofOwn (row_kept R19.out st5 rb9 (by decide))⟩ (OP9.out.kept st5 rb9 (by decide) (by decide)).ps (Sl.ofOwn (row_kept R29.out st5 rb9 (by decide))) (Sl.ofOwn (row_kept R39.out st5 rb9 (by decide))))
   have low5 := st5.low low9 (by omega)
   clear st5 rb9 rx low9 MK OP9 OK9 R19 R29 R39 x0 x1 x2 x3 x69 x70 x71 x72 x73 xf
   go_wp2_with fail
   exact bodyPost_ret (v := .agg XB) (results_one tyMach Tryz.results22 rfl rb5 XS) rfl ⟨⟨_, rfl, M5.out⟩, low5⟩
end Go.Proofs.YtgdacpcifnpojaaGreat
