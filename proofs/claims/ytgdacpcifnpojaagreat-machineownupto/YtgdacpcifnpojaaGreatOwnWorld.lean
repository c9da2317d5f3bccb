/-
Proved: what OwnWorld of the reference gives: a world that reads the same, its caches in new memory. Condition: at most a million caches, sets of each, ways of each.
-/
import Derived.Test.YtgdacpcifnpojaaGreatOwnCopy
import Derived.Test.YtgdacpcifnpojaaGreatJoined7
namespace Go.Proofs.YtgdacpcifnpojaaGreat
open Go.ChangeShapes Go.WideShapes Go.ChangeAt Go.RowKit Go.Joins
def Fit (css : List (List St)) : Prop := css.length ≤ 1048576 ∧ ∀ (k : Nat) ss, css[k]? = some ss → ss.length ≤ 1048576 ∧ ∀ (q : Nat) z, ss[q]? = some z → z.l.length ≤ 1048576
theorem OwnR.map {w w' : World} {base : Nat} {s : Value} {ss : List St} (h : OwnR w base s ss) (hk : Keeps w w' 80) (hr : Keeps w w' 77) (hs : w.heap.size ≤ w'.heap.size) : OwnR w' base s ss := by
 obtain ⟨L, h1, h2, h3⟩ := h
 refine ⟨L, h1, ?_, fun p hp => (Fr.map (h3 p hp) hk).more (Nat.le_refl _) hs⟩
 refine ⟨h2.1, ?_⟩
 rcases h2.2 with k | ⟨g', cap, cur, e, hb, hgg, rest⟩
 ·exact .inl k
 ·exact .inr ⟨g', cap, cur, e, hb, hr g' cur hgg, rest⟩
structure OwnK (w : World) (base : Nat) (s : Value) (css : List (List St)) : Prop where
 ex : ∃ us : List Value, us.length = css.length ∧ w.ownsRow base 72 1 s css.length us ∧ ∀ (k : Nat) u ss, us[k]? = some u → css[k]? = some ss → OwnR w base u ss
section
variable {w w' : World} {base : Nat} {s : Value} {css : List (List St)}
theorem OwnK.nil (w : World) (base : Nat) : OwnK w base (.slice none 0 0) [] := ⟨[], rfl, World.ownsRow_nil _ _ _ _, fun k u ss h => by simp at h⟩
theorem OwnK.call (h : OwnK w base s css) (hb : Below w.heap.size w w') : OwnK w' base s css := by
 obtain ⟨us, h1, h2, h3⟩ := h
 exact ⟨us, h1, own_below h2 hb, fun k u ss hu hs => (h3 k u ss hu hs).call hb⟩
theorem OwnK.kept {x : Nat} {T : TypeId} {cs : Array Value} (h : OwnK w base s css) (st : Stored w x w') (bx : Box w x T cs) (k1 : 80 ≠ T) (k2 : 77 ≠ T) (k3 : T ≠ 72) : OwnK w' base s css := by
 obtain ⟨us, h1, h2, h3⟩ := h
 exact ⟨us, h1, row_kept h2 st bx k3, fun k u ss hu hs => (h3 k u ss hu hs).map (fun _ _ b => st.box b (boxNe b bx k1)) (fun _ _ b => st.box b (boxNe b bx k2)) (Nat.le_of_eq st.size.symm)⟩
theorem OwnK.shape (h : OwnK w base s css) : ∃ A c, s = .slice A css.length c := by
 obtain ⟨us, h1, h2, h3⟩ := h
 exact own_shape h2
theorem OwnK.ks (h : OwnK w base s css) : Ks w s css := by
 obtain ⟨us, h1, h2, h3⟩ := h
 obtain ⟨_, A, c, rfl, k1, k2, k3⟩ := Sl.ofOwn h2
 refine ⟨A, c, rfl, k1, k2, fun h0 => ?_⟩
 obtain ⟨b, o, eA, hb, hc⟩ := k3 h0
 refine ⟨b, o, eA, hb, fun k ss hk => ?_⟩
 have hu : us[k]? = some (us[k]'(by have := (List.getElem?_eq_some_iff.1 hk).1; omega)) := List.getElem?_eq_getElem _
 generalize us[k]'(by have := (List.getElem?_eq_some_iff.1 hk).1; omega) = u at hu
 have own := h3 k u ss hu hk
 obtain ⟨A', c', rfl⟩ := own.shape
 exact ⟨A', c', hc k _ hu, own.cs⟩
end
theorem OwnK.push {s' : Value} {w w' : World} {base : Nat} {s : Value} {css : List (List St)} {u : Value} {ss : List St} {us : List Value} (h1 : us.length = css.length) (own : w.ownsRow base 72 1 s css.length us) (h3 : ∀ (k : Nat) u ss, us[k]? = some u → css[k]? = some ss → OwnR w base u ss)
  (hu : OwnR w base u ss) (own' : w'.ownsRow base 72 1 s' (css.length + 1) (us ++ [u])) (g : w.grownBy w' s.ownBlock) : OwnK w' base s' (css ++ [ss]) := by
 have up : ∀ u ss, OwnR w base u ss → OwnR w' base u ss := fun u ss h => h.map (fun _ _ b => b.grown g (own_ne own b (by decide))) (fun _ _ b => b.grown g (own_ne own b (by decide))) g.size
 refine ⟨us ++ [u], by simp [h1], by rw [List.length_append]; exact own', fun k v z hv hz => ?_⟩
 by_cases hk : k < us.length
 ·rw [List.getElem?_append_left hk] at hv
  rw [List.getElem?_append_left (by omega)] at hz
  exact up _ _ (h3 k v z hv hz)
 ·have hk2 : k = us.length := by
   have := (List.getElem?_eq_some_iff.1 hv).1
   simp at this
   omega
  subst hk2
  rw [List.getElem?_append_right (Nat.le_refl _), Nat.sub_self] at hv
  rw [h1, List.getElem?_append_right (Nat.le_refl _), Nat.sub_self] at hz
  simp at hv hz
  subst hv hz
  exact up _ _ hu
theorem build_memW (m : List Int) (hm : m.length = 64) (w : World) : (Instr.build 31 #[(1, memV m)]).run Tryz.prog w = .ok (wldV (.slice none 0 0) m) w := by
 refine run_build w _ _ _ ?_
 rw [built_world]
 have e : wldA (.slice none 0 0) zeroL = (([.slice none 0 0] : List Value) ++ (zeroL.map (Value.int .u64) ++ ([] : List Value))).toArray := by unfold wldA; simp
 rw [e]
 have em : (memV m).cells = memA m := rfl
 refine (fill_mid (a := [.slice none 0 0]) (b := zeroL.map (Value.int .u64)) (c := []) (off := 1) (v := memV m) ?_ ?_ ?_).trans ?_
 ·rw [List.length_map, zeroL_length]; rfl
 ·rfl
 ·rw [em, memA_size, hm, List.length_map, zeroL_length]
 rw [fill_end, em, memA_list]
 congr 1
 unfold wldA
 simp
theorem wpList_buildMemW {ops : Array Oper} {rest : List Oper} {dst : Option Tmp} {t : TypeId} {pos : String} {after : Array Edge} {a : Act} {w : World} {Q : Exit → Act → World → Prop} {x : Operand} {m : List Int} (hm : m.length = 64) (hx : a.eval x = memV m)
  (k : wpList Tryz.prog ops Q rest (a.put dst (wldV (.slice none 0 0) m)) w) : wpList Tryz.prog ops Q (⟨dst, .build 31 #[(1, x)], t, pos, after, none⟩ :: rest) a w := by
 refine wpList_plain rfl fun K hK => ?_
 unfold Oper.wp execOp
 simp only [List.map_toArray, List.map_cons, List.map_nil, hx, Sem.run_bind, build_memW m hm, Result.andThen_ok, Sem.run_pure]
 exact hK _ _ k
theorem take_snoc' {α : Type} {l : List α} {k : Nat} {x : α} (h : l[k]? = some x) : l.take (k + 1) = l.take k ++ [x] := by
 obtain ⟨hk, rfl⟩ := List.getElem?_eq_some_iff.1 h
 exact List.take_succ_eq_append_getElem hk
theorem shareW {M Φ : Option Addr → Nat → Nat → World → Prop} {G : Prop} (tree : (∀ A c g w, M A c g w → Φ A c g w) → G) (last : ∀ A c g w, M A c g w → Φ A c g w) : G := tree last
theorem wldA_set {u v : Value} {m : List Int} : (wldA u m).setIfInBounds 0 v = wldA v m := by unfold wldA; simp
set_option maxRecDepth 10000 in
set_option maxHeartbeats 4000000 in
theorem ownWorld_any (v : Value) (m : List Int) (css : List (List St)) (w : World) (h : Ks w v css) (hm : m.length = 64) (fit : Fit css) :
  Calls Tryz.prog 51 #[wldV v m] w fun e w' => (∃ A c, e = .returned (wldV (.slice A css.length c) m) ∧ OwnK w' w.heap.size (.slice A css.length c) css) ∧ Below w.heap.size w w' := by
 obtain ⟨i0, hi, hz0, hz1, hz2⟩ := info_parts info_cache
 have HI := Lib.hid hi
 have HZ := Lib.hid (And.intro hz0 (And.intro hz1 hz2))
 obtain ⟨A, cp, rfl, h1, h2, h3⟩ := h
 have H3 := Lib.hid h3
 have FT := Lib.hid fit
 have f0 := fit.1
 unfold maxLen at h2
 clear hi hz0 hz1 hz2 h3 fit
 have low := Below.refl w.heap.size w
 have xb := boxNext low 31 (wldA (.slice A css.length cp) m)
 replace low := gAlloc low (.cells (wldA (.slice A css.length cp) m) 31)
 try simp only [World.size_alloc] at xb
 have rb := boxNext low 31 nilW
 replace low := gAlloc low (.cells nilW 31)
 replace xb := xb.alloc (.cells nilW 31)
 try simp only [World.size_alloc] at rb
 have xm := wld_mem xb
 have s0 : (wldA (.slice none 0 0) m).size = nilW.size := wld_size hm
 have o0 : (wldA (.slice none 0 0) m).all (·.oneCell') = true := wldA_one _
 have tb := boxNext low 31 (wldA (.slice none 0 0) m)
 replace low := gAlloc low (.cells (wldA (.slice none 0 0) m) 31)
 replace xb := xb.alloc (.cells (wldA (.slice none 0 0) m) 31)
 replace rb := rb.alloc (.cells (wldA (.slice none 0 0) m) 31)
 try simp only [World.size_alloc] at tb
 have x0 := xb.at_ 0 (wldA_zero _ _)
 have x0' : ((w.alloc (.cells (wldA (.slice A css.length cp) m) 31)).alloc (.cells nilW 31)).cell? ⟨w.heap.size, 0, none⟩ = some (.slice A css.length cp) := ((Box.new w 31 (wldA (.slice A css.length cp) m)).alloc _).at_ 0 (wldA_zero _ _)
 go_enter Tryz.func51, Tryz.ntmps51
 go_wp2_with (first | (with_reducible refine wp_newW (tyWorld) ?_) | ((with_reducible refine wp_loadW (tyMem) (xm) (mem_zsize hm) ?_ ?_ ?_); rfl; rfl) | ((with_reducible apply wpList_buildMemW hm); rfl) | ((with_reducible refine wp_freshW (tyWorld) (rfl) (s0) (o0) ?_ ?_ ?_); rfl; rfl))
 clear x0 x0' xm
 go_loopw [12] (fun i wr => ∃ (j : Nat) (s : Value), j ≤ css.length ∧ i = .int .i64 j ∧ Hid (OwnK wr (w.heap.size + 1 + 1 + 1) s (css.take j)) ∧ Box wr (w.heap.size + 1 + 1) 31 (wldA s m) ∧ Box wr (w.heap.size + 1) 31 nilW ∧ Below w.heap.size w wr) (fun i _ => css.length - (intOf i).toNat)
 case atStart => exact ⟨0, _, Nat.zero_le _, rfl, Lib.hid (OwnK.nil _ _), tb, rb, low⟩
 case round =>
  clear tb rb low
  obtain ⟨j, s, hj, rfl, OK, tb, rb, low⟩ := hrel
  by_cases hlt : j < css.length
  ·obtain ⟨bb, o, rfl, hb, hc⟩ := H3.out (by omega)
   have hx : css[j]? = some css[j] := List.getElem?_eq_getElem _
   generalize css[j] = ss at hx
   obtain ⟨A', c', ce, cs⟩ := hc j ss hx
   have cx := (low.cell (p := ⟨bb, o + j, none⟩) hb).trans ce
   have CW := Lib.hid fun W (hb : Below w.heap.size w W) => cacheCopy_any _ ss W (cs.call hb) (FT.out.2 j ss hx).1 (FT.out.2 j ss hx).2
   have HX := Lib.hid hx
   have k0 : (0 : Int) ≤ j := by omega
   have k1 : (j : Int) < css.length := by omega
   have lj : (css.take j).length = j := by rw [List.length_take]; omega
   obtain ⟨As, cs', rfl⟩ := OK.out.shape
   have OK2 := Lib.hid OK.out
   rw [lj] at OK2 tb
   clear hx hc ce cs OK
   go_wp2_with fail
   refine wp_region_noPanic ?_
   refine wp_region_held_drew (S := fun _ => True) (by kernel_rfl) trivial (fun hHeld => ?_)
   replace low := low.drew
   replace tb := tb.drew
   replace rb := rb.drew
   have OK3 := Lib.hid (OK2.out.call (Below.refl _ _).drew)
   clear OK2 cx
   generalize wr.drew = wN at *
   refine takeA 0 ?_ rfl ?_ ?_; rotate_left
   ·(intro w hSw; go_simp; try (with_reducible rfl))
   try simp only [Act.put, List.setIfInBounds_toArray, List.set_cons_zero, List.set_cons_succ]
   refine takeA 2 ?_ rfl ?_ ?_; rotate_left
   ·(intro w hSw; go_simp; try (with_reducible rfl))
   try simp only [Act.put, List.setIfInBounds_toArray, List.set_cons_zero, List.set_cons_succ]
   refine takeA 3 ?_ rfl ?_ ?_; rotate_left
   ·(intro w hSw; go_simp; try (with_reducible rfl))
   try simp only [Act.put, List.setIfInBounds_toArray, List.set_cons_zero, List.set_cons_succ]
   apply shareW (M := fun A9 c9 gb wz => Below wN.heap.size wN wz ∧ OwnR wz wN.heap.size (.slice A9 ss.length c9) ss ∧ Box wz gb 72 #[.slice A9 ss.length c9])
   ·intro hE
    have near := Below.refl wN.heap.size wN
    refine stepTwo (i1 := 1) (i2 := 4) (by kernel_rfl) rfl rfl (by rfl) (by rfl) (fun K hK => ?_) (fun K hK => ?_)
    ·have tc := (tb.call near).at_ 0 (wldA_zero _ _)
     go_simp
     clear tc
     refine hK.out _ _ trivial ?_
     clear hK K
     try simp only [Act.put]
     try simp only [List.setIfInBounds_toArray, List.set_cons_zero, List.set_cons_succ]
     refine stepNext (i := 4) (by kernel_rfl) rfl (by rfl) (fun K hK => ?_)
     go_simp
     (with_reducible refine (CW.out _ (gCall low near)).mono ?_); rintro e wa ⟨⟨A9, c9, rfl, ow⟩, hbz⟩
     have ow1 := ow.more (base' := wN.heap.size) near.size
     replace near := gCall near hbz
     clear hbz ow
     refine hK.out _ _ trivial ?_
     clear hK K
     try simp only [Act.put]
     try simp only [List.setIfInBounds_toArray, List.set_cons_zero, List.set_cons_succ]
     refine stepNext (i := 5) (by kernel_rfl) rfl (by rfl) (fun K hK => ?_)
     go_simp
     replace near := gAlloc near (.cells #[.slice A9 ss.length c9] 72)
     have ow2 := ow1.alloc (.cells #[.slice A9 ss.length c9] 72)
     have nb := Box.new wa 72 #[.slice A9 ss.length c9]
     refine hK.out _ _ trivial ?_
     clear hK K
     try simp only [Act.put]
     try simp only [List.setIfInBounds_toArray, List.set_cons_zero, List.set_cons_succ]
     generalize wa.heap.size = gb at nb ⊢
     generalize wa.alloc (.cells #[.slice A9 ss.length c9] 72) = wb1 at near nb ow2 ⊢
     refine relist (l2 := #[true, true, true, true, true, true, false, false, false]) (by kernel_rfl) ?_
     exact hE _ _ _ _ ⟨near, ow2, nb⟩
    ·go_simp
     (with_reducible refine (CW.out _ (gCall low near)).mono ?_); rintro e wa ⟨⟨A9, c9, rfl, ow⟩, hbz⟩
     have ow1 := ow.more (base' := wN.heap.size) near.size
     replace near := gCall near hbz
     clear hbz ow
     refine hK.out _ _ trivial ?_
     clear hK K
     try simp only [Act.put]
     try simp only [List.setIfInBounds_toArray, List.set_cons_zero, List.set_cons_succ]
     refine stepTwo (i1 := 1) (i2 := 5) (by kernel_rfl) rfl rfl (by rfl) (by rfl) (fun K hK => ?_) (fun K hK => ?_)
     ·have tc := (tb.call near).at_ 0 (wldA_zero _ _)
      go_simp
      clear tc
      refine hK.out _ _ trivial ?_
      clear hK K
      try simp only [Act.put]
      try simp only [List.setIfInBounds_toArray, List.set_cons_zero, List.set_cons_succ]
      refine stepNext (i := 5) (by kernel_rfl) rfl (by rfl) (fun K hK => ?_)
      go_simp
      replace near := gAlloc near (.cells #[.slice A9 ss.length c9] 72)
      have ow2 := ow1.alloc (.cells #[.slice A9 ss.length c9] 72)
      have nb := Box.new wa 72 #[.slice A9 ss.length c9]
      refine hK.out _ _ trivial ?_
      clear hK K
      try simp only [Act.put]
      try simp only [List.setIfInBounds_toArray, List.set_cons_zero, List.set_cons_succ]
      generalize wa.heap.size = gb at nb ⊢
      generalize wa.alloc (.cells #[.slice A9 ss.length c9] 72) = wb1 at near nb ow2 ⊢
      refine relist (l2 := #[true, true, true, true, true, true, false, false, false]) (by kernel_rfl) ?_
      exact hE _ _ _ _ ⟨near, ow2, nb⟩
     ·go_simp
      replace near := gAlloc near (.cells #[.slice A9 ss.length c9] 72)
      have ow2 := ow1.alloc (.cells #[.slice A9 ss.length c9] 72)
      have nb := Box.new wa 72 #[.slice A9 ss.length c9]
      refine hK.out _ _ trivial ?_
      clear hK K
      try simp only [Act.put]
      try simp only [List.setIfInBounds_toArray, List.set_cons_zero, List.set_cons_succ]
      generalize wa.heap.size = gb at nb ⊢
      generalize wa.alloc (.cells #[.slice A9 ss.length c9] 72) = wb1 at near nb ow2 ⊢
      refine stepNext (i := 1) (by kernel_rfl) rfl (by rfl) (fun K hK => ?_)
      have tc := (tb.call near).at_ 0 (wldA_zero _ _)
      go_simp
      clear tc
      refine hK.out _ _ trivial ?_
      clear hK K
      try simp only [Act.put]
      try simp only [List.setIfInBounds_toArray, List.set_cons_zero, List.set_cons_succ]
      refine relist (l2 := #[true, true, true, true, true, true, false, false, false]) (by kernel_rfl) ?_
      exact hE _ _ _ _ ⟨near, ow2, nb⟩
   intro A9 c9 gb wz hmid
   obtain ⟨near, ow, nb⟩ := hmid
   have tl := tb.lt
   replace tb := tb.call near
   replace rb := rb.call near
   replace low := gCall low near
   have OK4 := Lib.hid (OK3.out.call near)
   obtain ⟨us, u1, u2, u3⟩ := OK4.out
   rw [lj] at u2
   have nl := near.size
   have ow3 := ow.more (base' := w.heap.size + 1 + 1 + 1) (by omega)
   refine stepNext (i := 6) (by kernel_rfl) rfl (by rfl) (fun K hK => ?_)
   refine wp_append_own _ (.tmp 17) (.tmp 21) 24 rfl (w.heap.size + 1 + 1 + 1) 72 i0 (.slice none 0 0) 1 24 Tryz.underlying24 HI.out HZ.out.1 HZ.out.2.1 HZ.out.2.2 rfl (by decide) _ _ _ rfl u2 ⟨gb, 0, none⟩ 1 1 [.slice A9 ss.length c9] rfl rfl ?f1 (by simp [Value.oneCell']) ?f3 ?f4 ?f5 ?_
   case f1 =>
    intro i u hu
    match i, hu with
    | 0, hu =>
     simp only [List.getElem?_cons_zero, Option.some.injEq] at hu
     subst hu
     exact nb.at_ 0 rfl
   case f3 => unfold maxLen; omega
   case f4 => omega
   case f5 => omega
   intro v6 w6 own6 grow6 _
   have OK7 := OwnK.push u1 (by rw [lj]; exact u2) u3 ow3 (by rw [lj]; exact own6) grow6
   rw [← take_snoc' HX.out] at OK7
   have tb6 := tb.grown grow6 (own_ne u2 tb (by decide))
   have rb6 := rb.grown grow6 (own_ne u2 rb (by decide))
   have low6 : Below w.heap.size w w6 := low.grown grow6 (by omega) (fun g e => by have := u2.lt _ e; omega)
   obtain ⟨A6, c6, rfl⟩ := own_shape own6
   clear OK4 u1 u2 u3 own6 grow6 nb ow ow3 near tb rb low
   refine hK.out _ _ trivial ?_
   clear hK K
   try simp only [Act.put]
   try simp only [List.setIfInBounds_toArray, List.set_cons_zero, List.set_cons_succ]
   refine takeA 7 ?_ rfl ?_ ?_; rotate_left
   ·(intro w hSw; go_simp; try (with_reducible rfl))
   try simp only [Act.put, List.setIfInBounds_toArray, List.set_cons_zero, List.set_cons_succ]
   refine stepNext (i := 8) (by kernel_rfl) rfl (by rfl) (fun K hK => ?_)
   have tc := tb6.at_ 0 (wldA_zero _ _)
   have tf := tb6.frozen 0
   go_simp
   have st : Stored w6 (w.heap.size + 1 + 1) (w6.setCell ⟨w.heap.size + 1 + 1, 0, none⟩ (.slice A6 (j + 1) c6)) := Stored.cell1 w6 ⟨w.heap.size + 1 + 1, 0, none⟩ _
   have tb8 := tb6.set 0 (.slice A6 (j + 1) c6)
   rw [wldA_set] at tb8
   have OK8 := Lib.hid (OK7.kept st tb6 (by decide) (by decide) (by decide))
   have rb8 := st.box rb6 (by omega)
   have low8 := st.low low6 (by omega)
   clear st tb6 rb6 low6 OK7 tc tf
   generalize w6.setCell ⟨w.heap.size + 1 + 1, 0, none⟩ (.slice A6 (j + 1) c6) = w8 at *
   refine hK.out _ _ trivial ?_
   clear hK K
   try simp only [Act.put]
   try simp only [List.setIfInBounds_toArray, List.set_cons_zero, List.set_cons_succ]
   refine wpAnyH_done (by kernel_rfl) ?_ _
   refine NoPanic.normal ?_
   go_wp2_with fail
   go_roundw
   case rel => exact ⟨j + 1, _, by omega, by go_num, OK8, tb8, rb8, low8⟩
   case measure => simp [intOf]; omega
  ·obtain rfl : j = css.length := by omega
   obtain ⟨As, cs', rfl⟩ := OK.out.shape
   have OK2 := Lib.hid OK.out
   rw [List.take_length] at OK2 tb
   have tr := tb.range
   have s1 : (wldA (.slice As css.length cs') m).size = nilW.size := wld_size hm
   have o1 : (wldA (.slice As css.length cs') m).all (·.oneCell') = true := wldA_one _
   clear OK
   go_wp2_with (first | ((with_reducible refine wp_loadW (tyWorld) (tr) (s1) ?_ ?_ ?_); rfl; rfl) | ((with_reducible refine wp_storeW (tyWorld) (rb) (rfl) (s1) (o1) ?_ ?_ ?_); rfl; rfl))
   intro w5 rb5 st
   have OK5 := Lib.hid (OK2.out.kept st rb (by decide) (by decide) (by decide))
   replace low := st.low low (by omega)
   have OK6 := Lib.hid (show OwnK w5 w.heap.size (.slice As css.length cs') css by
    obtain ⟨us, u1, u2, u3⟩ := OK5.out
    exact ⟨us, u1, own_wider u2 (by omega), fun k u ss hu hs => (u3 k u ss hu hs).more (by omega)⟩)
   clear st tb rb tr OK2 OK5
   go_wp2_with fail
   exact bodyPost_ret (v := wldV (.slice As css.length cs') m) (results_one tyWorld Tryz.results51 rfl rb5 s1) rfl ⟨⟨_, _, rfl, OK6.out⟩, low⟩
end Go.Proofs.YtgdacpcifnpojaaGreat
