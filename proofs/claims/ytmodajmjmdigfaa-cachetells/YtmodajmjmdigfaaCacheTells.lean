/-
Proved: the law 'CacheTells' returns true for every argument, and changes nothing that was there. No condition.
-/
import Derived.Test.YtmodajmjmdigfaaCacheLaw
namespace Go.Proofs.Ytmodajmjmdigfaa.cacheTells
open Go.ChangeShapes Go.WideShapes Go.ChangeAt Go.RowKit Go.Joins

/-- An error's way and cache. -/
theorem gave_nil {w : World} {E : Int} {e : Ending} {w' : World} (h : e = .returned (.tuple #[.slice none 0 0, zeroV, .int .i64 E]) ∧ Below w.heap.size w w') : GaveP w [] wy0 E e w' :=
  ⟨⟨none, 0, h.1, Cs.nil _⟩, h.2⟩
theorem gave_nilS {w : World} {E : Int} {e : Ending} {w' : World} (h : e = .returned (.tuple #[.slice none 0 0, .int .i64 E]) ∧ Below w.heap.size w w') : GaveS w [] E e w' :=
  ⟨⟨none, 0, h.1, Cs.nil _⟩, h.2⟩
theorem gave_cw {w : World} {ss sa : List St} {z : Wy} {e : Ending} {w' : World} (hl : sa.length = ss.length) (h : GaveCW w ss z sa e w') : GaveP w sa z 0 e w' := by
  obtain ⟨⟨A, c, rfl, cf⟩, hb⟩ := h
  exact ⟨⟨A, c, by rw [hl], by rw [hl]; exact cf.cs⟩, hb⟩

theorem putE_cases {y : Int} {x : Wy} {t : St} (hx : hlB x = true) (hr : rowE t.l t.a t.b t.c y = 0) :
    (0 ≤ idxP (hasW x.ln) t.l → putE t.l t.a t.b t.c y x = 6 ∧ setE t.l t.a t.b t.c y x = 0) ∧ (idxP (hasW x.ln) t.l < 0 → putE t.l t.a t.b t.c y x = 0 ∧ setE t.l t.a t.b t.c y x = 5) := by
  have p : putE t.l t.a t.b t.c y x = if 0 ≤ idxP (hasW x.ln) t.l then 6 else 0 := by unfold putE; rw [if_neg (by simp [hr]), if_neg (by simp [hx])]
  have q : setE t.l t.a t.b t.c y x = if idxP (hasW x.ln) t.l < 0 then 5 else 0 := by unfold setE; rw [if_neg (by simp [hr]), if_neg (by simp [hx])]
  rw [p, q]
  refine ⟨fun h => ?_, fun h => ?_⟩
  · rw [if_pos h, if_neg (by omega)]; exact ⟨rfl, rfl⟩
  · rw [if_neg (by omega), if_pos h]; exact ⟨rfl, rfl⟩

theorem walk (v0 v1 v2 v3 : Value) (w : World) (h0 : IsCfg v0) (h1 : IsCache w v1) (h2 : IsInt v2) (h3 : IsWay v3) :
    Calls Try.prog 4 #[v0, v1, v2, v3] w fun e w' => e = .returned (.bool true) ∧ Below w.heap.size w w' := by
  obtain ⟨n, s, y, b, rfl, _⟩ := h0
  obtain ⟨ss, cs⟩ := h1
  obtain ⟨m, rfl, _⟩ := h2
  obtain ⟨x, rfl⟩ := h3
  -- what New gives
  obtain ⟨sf, e1, N, hcfg⟩ : ∃ sf e1, (∀ w, Calls Try.prog 14 #[cfg n s y b] w (GaveS w sf e1)) ∧
      ((cfgB n s y b = false ∧ sf = [] ∧ e1 = 4 ∧ cacheE n s y b ss = 4) ∨ (cfgB n s y b = true ∧ e1 = 0 ∧ ∀ w, Calls Try.prog 22 #[cfg n s y b] w (fun e w' => (∃ A c, e = .returned (.slice A sf.length c) ∧ Cs w' (.slice A sf.length c) sf) ∧ Below w.heap.size w w'))) := by
    cases hc : cfgB n s y b
    · refine ⟨[], 4, fun w => (cacheNew_bad n s y b w hc).mono fun e w' h => gave_nilS h, .inl ⟨rfl, rfl, rfl, ?_⟩⟩
      unfold cacheE
      rw [if_pos hc]
    · have hs := cfgB_iff.1 hc
      obtain ⟨p, rfl⟩ : ∃ p : Nat, s = p := ⟨s.toNat, by omega⟩
      obtain ⟨q, rfl⟩ : ∃ q : Nat, y = q := ⟨y.toNat, by omega⟩
      have hl : (emptyC p q).length = p := by unfold emptyC; rw [List.length_replicate]
      refine ⟨emptyC p q, 0, fun w => (cacheNew_ok n b p q w hc).mono ?_, .inr ⟨rfl, rfl, fun w => (emptyCache_ok n b p q w (by omega)).mono ?_⟩⟩
      · rintro e w' ⟨⟨A, c, rfl, cf⟩, hb⟩
        exact ⟨⟨A, c, by rw [hl], by rw [hl]; exact cf.cs⟩, hb⟩
      · rintro e w' ⟨⟨A, c, rfl, cf⟩, hb⟩
        exact ⟨⟨A, c, by rw [hl], by rw [hl]; exact cf.cs⟩, hb⟩
  by_cases hE : cacheE n s y b ss = 0
  rotate_left
  · -- a cache that is not right
    have hl : lineE n s y b ss m = cacheE n s y b ss := by unfold lineE; rw [if_pos hE]
    have hw : wayCE n s y b ss x = cacheE n s y b ss := by unfold wayCE; rw [if_pos hE]
    have F : ∀ w, Cs w v1 ss → _ := fun w h => cacheFind_bad n s y b v1 ss m w h (by rw [hl]; exact hE)
    have P : ∀ w, Cs w v1 ss → _ := fun w h => cachePut_bad n s y b v1 ss x w h (by rw [hw]; exact hE)
    have T : ∀ w, Cs w v1 ss → _ := fun w h => cacheTake_bad n s y b v1 ss m w h (by rw [hl]; exact hE)
    have S : ∀ w, Cs w v1 ss → _ := fun w h => cacheSet_bad n s y b v1 ss x w h (by rw [hw]; exact hE)
    have L : ∀ w, Cs w v1 ss → _ := fun w h => cacheLines_bad n s y b v1 ss w h hE
    rw [hl] at F T
    rw [hw] at P S
    refine walk_all n s y b v1 ss m x w cs sf e1 wy0 false (cacheE n s y b ss) [] wy0 (cacheE n s y b ss) [] wy0 (cacheE n s y b ss) [] (cacheE n s y b ss) [] (cacheE n s y b ss) N F (fun w h => (P w h).mono fun e w' h => gave_nil h) (fun w h => (T w h).mono fun e w' h => gave_nil h)
      (fun w h => (S w h).mono fun e w' h => gave_nilS h) (fun w h => (L w h).mono ?_) _ rfl hcfg (.inl ⟨hE, rfl, rfl, rfl, rfl, rfl, rfl, rfl, rfl, rfl, rfl, rfl, rfl, rfl⟩)
    rintro e w' ⟨rfl, hb⟩
    exact ⟨⟨none, 0, rfl, Ws.nil _⟩, hb⟩
  have good := goodC_iff.1 hE
  have L : ∀ w, Cs w v1 ss → Calls Try.prog 19 #[cfg n s y b, v1] w (GaveL w (allW ss) 0) := fun w h => (cacheLines_ok n s y b v1 ss w h hE).mono (by
    rintro e w' ⟨⟨A, c, rfl, fr⟩, hb⟩
    exact ⟨⟨A, c, rfl, fr.ws⟩, hb⟩)
  -- what the line gives
  obtain ⟨zf, pf, Ef, fi, F⟩ := cacheFind_is n s y b v1 ss m
  obtain ⟨zt, pt, ati, AT⟩ := cacheAt_is v1 ss m
  have hpt : lnB m = true → pt = pf ∧ zt = zf := fun hm => by
    have hl : lineE n s y b ss m = 0 := by rw [lineE_zero hE, if_neg (by rw [hm]; decide)]
    obtain ⟨h1, h2, _⟩ := fi.only (ati.find hl)
    exact ⟨h2, h1⟩
  obtain ⟨sb, took, ET, T, LC⟩ : ∃ sb took ET, (∀ w, Cs w v1 ss → Calls Try.prog 17 #[cfg n s y b, v1, .int .i64 m] w (GaveP w sb took ET)) ∧ LineCase n s y b v1 ss m zf pf Ef sb took ET := by
    cases hm : lnB m
    · have hl : lineE n s y b ss m = 4 := by rw [lineE_zero hE, if_pos hm]
      have T : ∀ w, Cs w v1 ss → _ := fun w h => cacheTake_bad n s y b v1 ss m w h (by rw [hl]; decide)
      rw [hl] at T
      refine ⟨[], wy0, 4, fun w h => (T w h).mono fun e w' h => gave_nil h, .inl ⟨hm, ?_⟩⟩
      obtain ⟨f1, ⟨f2, f3, f4⟩ | ⟨f2, _⟩⟩ := fi
      · exact ⟨f3, f4, f1.trans hl, rfl, rfl, rfl⟩
      · rw [f2, hl] at f1; omega
    · have hl : lineE n s y b ss m = 0 := by rw [lineE_zero hE, if_neg (by rw [hm]; decide)]
      obtain ⟨k, t, hk, ht⟩ := good.set_ m
      have hr := (good.2.2 k t ht).1
      obtain ⟨rfl, fi2⟩ := fi.ok hl hk ht
      rcases fi2 with ⟨hneg, rfl, rfl⟩ | ⟨j, hj, hz, rfl⟩
      · have he : takeE t.l t.a t.b t.c y m = 5 := by unfold takeE; rw [if_neg (by simp [hr]), if_pos hneg]
        have T : ∀ w, Cs w v1 ss → _ := fun w h => cacheTake_err n s y b v1 ss m k t w h hl hk ht (by rw [he]; decide)
        rw [he] at T
        exact ⟨[], wy0, 5, fun w h => (T w h).mono fun e w' h => gave_nil h, .inr (.inl ⟨hm, rfl, rfl, rfl, rfl, rfl, rfl⟩)⟩
      · have he : takeE t.l t.a t.b t.c y m = 0 := by unfold takeE; rw [if_neg (by simp [hr]), if_neg (by omega)]
        refine ⟨ss.set k ⟨t.l.set j wy0, t.a, t.b, t.c⟩, zf, 0, fun w h => (cacheTake_ok n s y b v1 ss m k t j zf w h hl hk ht he hj hz).mono fun e w' h => gave_cw (by rw [List.length_set]) h, .inr (.inr ⟨hm, rfl, rfl, rfl, fun w h => (refTake_ok n s y b v1 ss m k t j zf w h good (lnB_iff.1 hm) hk ht hj hz).mono ?_⟩)⟩
        rintro e w' ⟨⟨A, c, rfl, cf⟩, hb⟩
        exact ⟨⟨A, c, by rw [List.length_set], by rw [List.length_set]; exact cf.cs⟩, hb⟩
  -- what the way gives
  obtain ⟨zr, pr, ari, AR⟩ := cacheAt_is v1 ss x.ln
  obtain ⟨sa, old, EP, sd, ES, P, S, WC⟩ : ∃ sa old EP sd ES, (∀ w, Cs w v1 ss → Calls Try.prog 16 #[cfg n s y b, v1, x.val] w (GaveP w sa old EP)) ∧ (∀ w, Cs w v1 ss → Calls Try.prog 18 #[cfg n s y b, v1, x.val] w (GaveS w sd ES)) ∧ WayCase n s y b v1 ss x pr sa old EP sd ES := by
    cases hx : hlB x
    · have hw : wayCE n s y b ss x = 4 := by unfold wayCE; rw [if_neg (by simp [hE]), if_pos hx]
      have P : ∀ w, Cs w v1 ss → _ := fun w h => cachePut_bad n s y b v1 ss x w h (by rw [hw]; decide)
      have S : ∀ w, Cs w v1 ss → _ := fun w h => cacheSet_bad n s y b v1 ss x w h (by rw [hw]; decide)
      rw [hw] at P S
      exact ⟨[], wy0, 4, [], 4, fun w h => (P w h).mono fun e w' h => gave_nil h, fun w h => (S w h).mono fun e w' h => gave_nilS h, .inl ⟨hx, rfl, rfl, rfl, rfl, rfl⟩⟩
    · have hw : wayCE n s y b ss x = 0 := by unfold wayCE; rw [if_neg (by simp [hE]), if_neg (by simp [hx])]
      have hx15 := hlB_line hx
      have hl : lineE n s y b ss x.ln = 0 := by rw [lineE_zero hE, if_neg (by rw [lnB_iff.2 hx15]; decide)]
      obtain ⟨k, t, hk, ht⟩ := good.set_ x.ln
      have hr := (good.2.2 k t ht).1
      obtain ⟨c1, c2⟩ := putE_cases hx hr
      obtain ⟨_, fi⟩ := (ari.find hl).ok hl hk ht
      rcases fi with ⟨hneg, rfl, rfl⟩ | ⟨j, hj, hz, rfl⟩
      · obtain ⟨hp, hs⟩ := c2 hneg
        obtain ⟨j, old, hrm, hj⟩ := room_in (putE_ok hp).1
        have S : ∀ w, Cs w v1 ss → _ := fun w h => cacheSet_err n s y b v1 ss x k t w h hw hk ht (by rw [hs]; decide)
        rw [hs] at S
        refine ⟨ss.set k ⟨t.l.set j x, (touchT t.a t.b t.c y j).1, (touchT t.a t.b t.c y j).2.1, (touchT t.a t.b t.c y j).2.2⟩, old, 0, [], 5, fun w h => (cachePut_ok n s y b v1 ss x k t j old w h hw hk ht hp hrm hj).mono fun e w' h => gave_cw (by rw [List.length_set]) h,
          fun w h => (S w h).mono fun e w' h => gave_nilS h, .inr (.inr ⟨hx, rfl, rfl, rfl, rfl, fun w h => (refPut_ok n s y b v1 ss x k t j old w h good hx15 hk ht hrm hj).mono ?_⟩)⟩
        rintro e w' ⟨⟨A, c, rfl, cf⟩, hb⟩
        exact ⟨⟨A, c, by rw [List.length_set], by rw [List.length_set]; exact cf.cs⟩, hb⟩
      · obtain ⟨hp, hs⟩ := c1 (by omega)
        have P : ∀ w, Cs w v1 ss → _ := fun w h => cachePut_err n s y b v1 ss x k t w h hw hk ht (by rw [hp]; decide)
        rw [hp] at P
        refine ⟨[], wy0, 6, ss.set k ⟨t.l.set j x, (touchT t.a t.b t.c y j).1, (touchT t.a t.b t.c y j).2.1, (touchT t.a t.b t.c y j).2.2⟩, 0, fun w h => (P w h).mono fun e w' h => gave_nil h,
          fun w h => (cacheSet_ok n s y b v1 ss x k t j w h hw hk ht hs hj).mono ?_, .inr (.inl ⟨hx, rfl, rfl, rfl, rfl, rfl, fun w h => (cacheTouch_ok n s y b v1 ss x true k t j w h good hx15 hk ht hj (set_lt hz) _ rfl).mono ?_⟩)⟩
        · rintro e w' ⟨⟨A, c, rfl, cf⟩, hb⟩
          exact ⟨⟨A, c, by rw [List.length_set], by rw [List.length_set]; exact cf.cs⟩, hb⟩
        · rintro e w' ⟨⟨A, c, rfl, cf⟩, hb⟩
          exact ⟨⟨A, c, by rw [List.length_set], by rw [List.length_set]; exact cf.cs⟩, hb⟩
  exact walk_all n s y b v1 ss m x w cs sf e1 zf pf Ef sa old EP sb took ET sd ES (allW ss) 0 N F P T S L _ rfl hcfg (.inr ⟨hE, rfl, rfl, good, ⟨pt, zt, hpt, AT⟩, LC, pr, zr, AR, WC⟩)

set_option maxRecDepth 100000 in
theorem lifted (os : Os) (started : os.Started) (H : Type) (enc : TypeId × Value → H) :
    ReturnsInHanded {} Try.checked os 4 .any (Rows.cacheTellsSpec.pre6 enc Try.prog Try.f4 Rows.cacheTellsRow.domain false) (Rows.cacheTellsSpec.post enc Try.prog Try.f4 false true false false) := by
  refine returnsInHanded_of_change (C := Try.checked) own started (by kernel_rfl) Try.func4
    (ChangeSpec.witness6 (enc := enc) (C := Try.checked) false ⟨#[], #[cfg 2 1 1 1, .slice none 0 0, .int .i64 3, zeroV], []⟩ 8 (by kernel_rfl) (by kernel_rfl) (by kernel_rfl) (by kernel_rfl)) ?_
  intro W base args ds gs before hval0 hW hcnd _
  have hval : ∀ (j : Nat) t v, Try.f4.params[j]? = some t → args[j]? = some v → Value.okWide Try.prog W .any base t v := hval0
  have hW' := hW
  obtain ⟨p, q, hA0, hV, rfl, hfz, hnd⟩ := hW
  have hA : DataW.TrodAll enc Try.prog W 0 (fun _ => true) true Try.f4.params.toList args.toList ds p := hA0
  rw [Try.params4] at hA hval
  obtain ⟨v0, vs0, d0, ds0, p0, q0, hargs, rfl, rfl, h0, r0⟩ := trodAll_cons hA
  obtain ⟨v1, vs1, d1, ds1, p1, q1, rfl, rfl, rfl, h1, r1⟩ := trodAll_cons r0
  obtain ⟨v2, vs2, d2, ds2, p2, q2, rfl, rfl, rfl, h2, r2⟩ := trodAll_cons r1
  obtain ⟨v3, vs3, d3, ds3, p3, q3, rfl, rfl, rfl, h3, r3⟩ := trodAll_cons r2
  obtain ⟨rfl, rfl, rfl⟩ := trodAll_nil r3
  obtain rfl : args = #[v0, v1, v2, v3] := by cases args; simp_all
  have k0 := openCfg (hval 0 44 v0 rfl rfl) h0
  have k1 := openCache (hval 1 46 v1 rfl rfl) h1
  have k2 := openInt (hval 2 3 v2 rfl rfl) h2
  have k3 := openWay (hval 3 32 v3 rfl rfl) h3
  obtain ⟨rfl, rfl⟩ := trodVars_none hV
  clear hA0 hval0
  refine (walk v0 v1 v2 v3 W k0 k1 k2 k3).mono fun e W' ⟨he, bel⟩ => ⟨_, he, ?_⟩
  exact law_post (by kernel_rfl) (by kernel_rfl) rfl hW' rfl rfl rfl bel

theorem over : Rows.cacheTellsRow.holds Try.pinned (OpenSpec.ofChange Rows.cacheTellsSpec) :=
  OpenClaim.holds_of_wide 4 Try.f4 rfl rfl rfl rfl rfl rfl rfl ⟨rfl, rfl, rfl, rfl, rfl⟩ rfl rfl rfl rfl rfl (by kernel_rfl) Try.func4 (by kernel_rfl)
    (of_decide_eq_true (by kernel_rfl)) (by unfold Func.isWrapper; first | (rw [if_pos (by decide +kernel)]; kernel_rfl) | (rw [if_neg (by decide +kernel)]; exact ⟨rfl, rfl⟩))
    (fun os started H enc _ => lifted os started H enc)

/-- The statement. -/
theorem cacheTells_holds : Rows.CacheTellsSaid := over
end Go.Proofs.Ytmodajmjmdigfaa.cacheTells
namespace Go.Proofs.Ytmodajmjmdigfaa
theorem cacheTells_holds : Rows.CacheTellsSaid := cacheTells.cacheTells_holds
#print axioms cacheTells_holds
end Go.Proofs.Ytmodajmjmdigfaa
