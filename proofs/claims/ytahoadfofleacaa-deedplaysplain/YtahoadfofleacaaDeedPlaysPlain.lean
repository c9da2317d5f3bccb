/-
Proved: the given statement DeedPlaysPlain: operations one after the other, from empty caches on, tell what they tell without caches, for every configuration. No condition.
-/
import Derived.Test.YtahoadfofleacaaDeedPlay2
import Derived.Test.YtahoadfofleacaaAtomic3
import Derived.Test.YtahoadfofleacaaGood
namespace Go.Proofs.Ytahoadfofleacaa.deedPlaysPlain
open Go.ChangeShapes Go.WideShapes Go.ChangeAt Go.RowKit Go.Joins Go.Proofs.Ytahoadfofleacaa

set_option maxHeartbeats 1000000 in
theorem new_bad (n s y b : Int) (w : World) (he : cfgB n s y b = false) : Calls Try.prog 19 #[cfg n s y b] w fun e w' => e = .returned (.tuple #[.agg nilW, .int .i64 4]) ∧ Below w.heap.size w w' := by
  have C := Lib.hid fun w => check_bad n s y b w he
  clear he
  have low := Below.refl w.heap.size w
  have cb := boxNext low 23 (cfgA n s y b)
  replace low := gAlloc low (.cells (cfgA n s y b) 23)
  try simp only [World.size_alloc] at cb
  have ob := boxNext low 31 nilW
  replace low := gAlloc low (.cells nilW 31)
  replace cb := cb.alloc (.cells nilW 31)
  try simp only [World.size_alloc] at ob
  go_enter Try.func19, Try.ntmps19
  go_wp2_with (first | (with_reducible refine wp_newW (tyWorld) ?_))
  (with_reducible refine (C.out _).mono ?_); rintro e w1 ⟨rfl, hb⟩
  replace ob := ob.call hb
  replace low := gCall low hb
  clear hb C cb
  go_wp2_with (first | (with_reducible refine wp_zeroW (tyWorld) ?_) | ((with_reducible refine wp_storeW (tyWorld) (ob) (rfl) (nilW_size) (nilW_one) ?_ ?_ ?_); rfl; rfl))
  intro w8 ob8 st8
  replace low := st8.low low (by omega)
  clear st8 ob
  go_wp2_with fail
  exact bodyPost_ret (v := .tuple #[.agg nilW, .int .i64 4]) (results_first tyWorld Try.results19 rfl rfl ob8 rfl) rfl ⟨rfl, low⟩

/-- A world of empty caches is its memory. -/
theorem copN_empty (N p q : Nat) : ∀ j, copN (List.replicate N (emptyC p q)) j = []
  | 0 => rfl
  | j + 1 => by
    have ha : allW (emptyC p q) = [] := by
      unfold allW emptyC
      rw [List.flatMap_eq_nil_iff]
      intro t ht
      rw [List.eq_of_mem_replicate ht, List.filter_eq_nil_iff]
      intro x hx
      rw [List.eq_of_mem_replicate hx]
      decide
    rw [copN, copN_empty N p q j, List.nil_append]
    by_cases h : j < N
    · have : (List.replicate N (emptyC p q)).getD j [] = emptyC p q := by simp [List.getD, h]
      rw [this, cpsOf, ha]
      rfl
    · have : (List.replicate N (emptyC p q)).getD j [] = [] := by simp [List.getD, h]
      rw [this]
      rfl
theorem flat_empty (N p q : Nat) : flatW (List.replicate N (emptyC p q)) zeroL = zeroL := by
  unfold flatW
  rw [copN_empty]
  decide +kernel


set_option maxRecDepth 100000 in
set_option maxHeartbeats 2000000 in
theorem walk_bad (n s y b : Int) (lv : Value) (l : List Dd) (w : World) (hd : Ds w lv l) (he : cfgB n s y b = false) :
    Calls Try.prog 6 #[cfg n s y b, lv] w fun e w' => e = .returned (.bool true) ∧ Below w.heap.size w w' := by
  have N := Lib.hid fun w => new_bad n s y b w he
  clear he
  have low := Below.refl w.heap.size w
  have cb := boxNext low 23 (cfgA n s y b)
  replace low := gAlloc low (.cells (cfgA n s y b) 23)
  replace hd := hd.alloc (.cells (cfgA n s y b) 23)
  try simp only [World.size_alloc] at cb
  go_enter Try.func6, Try.ntmps6
  go_wp2_with fail
  (with_reducible refine (deeds_yes _).mono ?_); rintro e w1 ⟨rfl, hb1⟩
  replace cb := cb.call hb1
  replace hd := hd.call hb1
  replace low := gCall low hb1
  clear hb1
  simp only [cfgA] at cb
  have cb_0 := cb.at_ 0 rfl
  have cb_1 := cb.at_ 1 rfl
  have cb_2 := cb.at_ 2 rfl
  have cb_3 := cb.at_ 3 rfl
  go_wp2_with fail
  (with_reducible refine (N.out _).mono ?_); rintro e w2 ⟨rfl, hb⟩
  clear cb_0 cb_1 cb_2 cb_3
  replace low := gCall low hb
  clear hb cb hd
  have xb := boxNext low 31 nilW
  replace low := gAlloc low (.cells nilW 31)
  try simp only [World.size_alloc] at xb
  have x0 := xb.at_ 0 (wldA_zero _ _)
  go_wp2_with (first | (with_reducible refine wp_newW (tyWorld) ?_) | ((with_reducible refine wp_freshW (tyWorld) (rfl) (nilW_size) (nilW_one) ?_ ?_ ?_); rfl; rfl))
  go_ret
  exact ⟨rfl, low⟩

set_option maxRecDepth 100000 in
set_option maxHeartbeats 4000000 in
theorem walk_good (N p q : Nat) (b : Int) (lv : Value) (l : List Dd) (w : World) (hd : Ds w lv l) (he : cfgB N p q b = true) :
    Calls Try.prog 6 #[cfg N p q b, lv] w fun e w' => e = .returned (.bool true) ∧ Below w.heap.size w w' := by
  have NW := Lib.hid fun w => new_ok N p q b w he
  have PL := Lib.hid fun v w hw hd => deedPlay_is N p q b v lv zeroL (List.replicate N (emptyC p q)) l w hw hd zeroL_length
  rw [flat_empty] at PL
  obtain ⟨A, c, rfl⟩ : ∃ A c, lv = .slice A l.length c := by obtain ⟨_, A, c, e, _⟩ := hd; exact ⟨A, c, e⟩
  generalize hn : (N : Int) = n at *
  generalize hs : (p : Int) = s at *
  generalize hy : (q : Int) = y at *
  have AP := Lib.hid fun w hw => play_is zeroL zeroL_length (.slice A l.length c) l w hw
  have FL := Lib.hid fun css m v w (hw : Ks w v css) (hm : m.length = 64) (hE : cohE n s y b css m = 0) => flat_ok n s y b v m css w hw hm hE
  clear he hn hs hy
  have low := Below.refl w.heap.size w
  have cb := boxNext low 23 (cfgA n s y b)
  replace low := gAlloc low (.cells (cfgA n s y b) 23)
  replace hd := hd.alloc (.cells (cfgA n s y b) 23)
  try simp only [World.size_alloc] at cb
  go_enter Try.func6, Try.ntmps6
  go_wp2_with fail
  (with_reducible refine (deeds_yes _).mono ?_); rintro e w1 ⟨rfl, hb1⟩
  replace cb := cb.call hb1
  replace hd := hd.call hb1
  replace low := gCall low hb1
  clear hb1
  simp only [cfgA] at cb
  have cb_0 := cb.at_ 0 rfl
  have cb_1 := cb.at_ 1 rfl
  have cb_2 := cb.at_ 2 rfl
  have cb_3 := cb.at_ 3 rfl
  go_wp2_with fail
  (with_reducible refine (NW.out _).mono ?_); rintro e w2 ⟨⟨Aw, cw, rfl, ks⟩, hb⟩
  clear cb_0 cb_1 cb_2 cb_3
  replace cb := cb.call hb
  replace hd := hd.call hb
  replace low := gCall low hb
  clear hb NW
  have s1 : (wldA (.slice Aw N cw) zeroL).size = nilW.size := wld_size zeroL_length
  have one : (wldA (.slice Aw N cw) zeroL).all (·.oneCell') = true := wldA_one _
  have xb := boxNext low 31 (wldA (.slice Aw N cw) zeroL)
  replace low := gAlloc low (.cells (wldA (.slice Aw N cw) zeroL) 31)
  replace cb := cb.alloc (.cells (wldA (.slice Aw N cw) zeroL) 31)
  replace hd := hd.alloc (.cells (wldA (.slice Aw N cw) zeroL) 31)
  replace ks := ks.alloc (.cells (wldA (.slice Aw N cw) zeroL) 31)
  try simp only [World.size_alloc] at xb
  by_cases h60 : 60 < l.length
  · have g1 : decide (60 < l.length) = true := decide_eq_true h60
    have g2 : decide ((60 : Int) < l.length) = true := decide_eq_true (by omega)
    clear h60
    go_wp2_with (first | (with_reducible refine wp_newW (tyWorld) ?_) | ((with_reducible refine wp_freshW (tyWorld) (rfl) (s1) (one) ?_ ?_ ?_); rfl; rfl))
    go_ret
    exact ⟨rfl, low⟩
  have g1 : decide (60 < l.length) = false := decide_eq_false h60
  have g2 : decide ((60 : Int) < l.length) = false := decide_eq_false (by omega)
  have xr := xb.range
  have cb_0 := cb.at_ 0 rfl
  have cb_1 := cb.at_ 1 rfl
  have cb_2 := cb.at_ 2 rfl
  have cb_3 := cb.at_ 3 rfl
  go_wp2_with (first | (with_reducible refine wp_newW (tyWorld) ?_) | ((with_reducible refine wp_freshW (tyWorld) (rfl) (s1) (one) ?_ ?_ ?_); rfl; rfl) | ((with_reducible refine wp_loadW (tyWorld) (xr) (s1) ?_ ?_ ?_); rfl; rfl))
  (with_reducible refine (PL.out _ _ ks hd).mono ?_); rintro e w3 ⟨hp, hb⟩
  clear cb_0 cb_1 cb_2 cb_3
  replace cb := cb.call hb
  replace hd := hd.call hb
  replace low := gCall low hb
  clear hb PL xr xb ks
  rcases hp with ⟨E, hE, rfl⟩ | ⟨v', css', m', g, cur, rfl, run, kf, fb, csz, told⟩
  · have g0 : (E != 0) = true := by simpa using hE
    clear hE cb hd
    have zb := boxNext low 31 nilW
    replace low := gAlloc low (.cells nilW 31)
    try simp only [World.size_alloc] at zb
    have z0 := zb.at_ 0 (wldA_zero _ _)
    go_wp2_with (first | (with_reducible refine wp_newW (tyWorld) ?_) | ((with_reducible refine wp_freshW (tyWorld) (rfl) (nilW_size) (nilW_one) ?_ ?_ ?_); rfl; rfl))
    go_ret
    exact ⟨rfl, low⟩
  obtain ⟨Av, cv, rfl⟩ := kf.shape
  have ks := kf.ks
  have hm' := run.len
  have F2 := Lib.hid fun v w hw => FL.out css' m' v w hw hm' run.ok
  have e5 : flatN (copN css' css'.length) m' 16 = runM zeroL l := by have := run.flat; rwa [List.take_length] at this
  have e6 : runE l = 0 := by have := run.err; rwa [List.take_length] at this
  have e7 : allE l = 0 := by unfold allE; rw [if_neg (by omega)]; exact e6
  rw [e5] at F2
  have hM := runM_length zeroL_length l
  have HV := Lib.hid (runV_length zeroL l)
  have AP2 := Lib.hid (show ∀ w, Ds w (.slice A l.length c) l → Calls Try.prog 21 #[memV zeroL, .slice A l.length c] w fun e w' => (∃ s, e = .returned (.tuple #[memV (runM zeroL l), s, .int .i64 0]) ∧ Told w' s l.length (runV zeroL l)) ∧ Below w.heap.size w w' from fun w hw => by
    refine (AP.out w hw).mono ?_
    rintro e w' ⟨⟨y, s, f, rfl, _, h⟩, hb⟩
    rcases h with ⟨h, _⟩ | ⟨_, rfl, rfl, ht⟩
    · exact absurd e7 h
    · exact ⟨⟨s, rfl, ht⟩, hb⟩)
  have TOLD := Lib.hid told
  have L60 := Lib.hid h60
  generalize runM zeroL l = M at *
  generalize runV zeroL l = V at *
  clear AP FL e5 e6 e7 run kf told
  have s3 : (wldA (.slice Av css'.length cv) m').size = nilW.size := wld_size hm'
  have one3 : (wldA (.slice Av css'.length cv) m').all (·.oneCell') = true := wldA_one _
  have zb := boxNext low 31 (wldA (.slice Av css'.length cv) m')
  replace low := gAlloc low (.cells (wldA (.slice Av css'.length cv) m') 31)
  replace cb := cb.alloc (.cells (wldA (.slice Av css'.length cv) m') 31)
  replace hd := hd.alloc (.cells (wldA (.slice Av css'.length cv) m') 31)
  replace ks := ks.alloc (.cells (wldA (.slice Av css'.length cv) m') 31)
  replace fb := fb.alloc (.cells (wldA (.slice Av css'.length cv) m') 31)
  try simp only [World.size_alloc] at zb
  go_wp2_with (first | (with_reducible refine wp_newW (tyWorld) ?_) | ((with_reducible refine wp_freshW (tyWorld) (rfl) (s3) (one3) ?_ ?_ ?_); rfl; rfl))
  (with_reducible refine (bankNew_any _).mono ?_); rintro e w4 ⟨rfl, hb⟩
  replace cb := cb.call hb
  replace hd := hd.call hb
  replace zb := zb.call hb
  replace ks := ks.call hb
  replace fb := fb.call hb
  replace low := gCall low hb
  clear hb
  go_wp2_with fail
  (with_reducible refine (AP2.out _ hd).mono ?_); rintro e w5 ⟨⟨sv, rfl, tv⟩, hb⟩
  replace cb := cb.call hb
  replace zb := zb.call hb
  replace ks := ks.call hb
  replace fb := fb.call hb
  replace low := gCall low hb
  clear hb AP2 hd
  obtain ⟨_, _, gt, rfl, tb⟩ := tv
  have mb := boxNext low 29 (memA M)
  replace low := gAlloc low (.cells (memA M) 29)
  replace cb := cb.alloc (.cells (memA M) 29)
  replace zb := zb.alloc (.cells (memA M) 29)
  replace ks := ks.alloc (.cells (memA M) 29)
  replace fb := fb.alloc (.cells (memA M) 29)
  replace tb := tb.alloc (.cells (memA M) 29)
  try simp only [World.size_alloc] at mb
  have zr := zb.range
  have cb_0 := cb.at_ 0 rfl
  have cb_1 := cb.at_ 1 rfl
  have cb_2 := cb.at_ 2 rfl
  have cb_3 := cb.at_ 3 rfl
  go_wp2_with (first | (with_reducible refine wp_newMem ?_) | ((with_reducible refine wp_storeNew (zeroL_length) (hM) ?_ ?_ ?_); rfl; rfl) | ((with_reducible refine wp_loadW (tyWorld) (zr) (s3) ?_ ?_ ?_); rfl; rfl))
  (with_reducible refine (F2.out _ _ ks).mono ?_); rintro e w6 ⟨rfl, hb⟩
  clear cb_0 cb_1 cb_2 cb_3
  replace fb := fb.call hb
  replace tb := tb.call hb
  replace mb := mb.call hb
  replace low := gCall low hb
  clear hb F2 zr zb ks cb
  have kb := boxNext low 29 (memA M)
  replace low := gAlloc low (.cells (memA M) 29)
  replace fb := fb.alloc (.cells (memA M) 29)
  replace tb := tb.alloc (.cells (memA M) 29)
  replace mb := mb.alloc (.cells (memA M) 29)
  try simp only [World.size_alloc] at kb
  go_wp2_with (first | (with_reducible refine wp_newMem ?_) | ((with_reducible refine wp_storeNew (zeroL_length) (hM) ?_ ?_ ?_); rfl; rfl))
  with_reducible refine (good_yes _ 2 _ (by omega) ?_).mono ?_
  · intro j hj
    have : j = 0 ∨ j = 1 := by omega
    rcases this with rfl | rfl <;> go_simp
  rintro e w7 ⟨rfl, rfl⟩
  have eqM := fun w => eqMem M M hM hM w
  have em : sameM M M = true := decide_eq_true rfl
  rw [em] at eqM
  replace fb := fb.alloc (.cells #[.int .i64 0, .int .i64 0] 38)
  replace tb := tb.alloc (.cells #[.int .i64 0, .int .i64 0] 38)
  replace mb := mb.alloc (.cells #[.int .i64 0, .int .i64 0] 38)
  replace kb := kb.alloc (.cells #[.int .i64 0, .int .i64 0] 38)
  replace low := gAlloc low (.cells #[.int .i64 0, .int .i64 0] 38)
  go_wp2_with (first | ((with_reducible refine wp_loadMem (⟨mb, hM⟩) ?_ ?_ ?_); rfl; rfl) | ((with_reducible refine wp_loadMem (⟨kb, hM⟩) ?_ ?_ ?_); rfl; rfl))
  generalize hW : (World.alloc _ (Obj.cells #[Value.int IntKind.i64 0, Value.int IntKind.i64 0] 38)) = wL at *
  clear hW mb kb eqM em
  go_loopw [87] (fun a wr => ∃ k : Nat, k ≤ l.length ∧ a = .int .i64 k ∧ Below wL.heap.size wL wr) (fun a _ => l.length - (intOf a).toNat)
  case atStart => exact ⟨0, Nat.zero_le _, rfl, Below.refl _ _⟩
  case round =>
    obtain ⟨k, hk, rfl, near⟩ := hrel
    by_cases hlt : k < l.length
    · have hx : V[k]? = some (V[k]'(by have := HV.out; omega)) := List.getElem?_eq_getElem _
      generalize V[k]'(by have := HV.out; omega) = x at hx
      have t1 := (fb.call near).at_ (k * 5) (TOLD.out k x hx)
      have t2 := (tb.call near).at_ k (v := .int .u64 x) (by rw [memA, List.getElem?_toArray, List.getElem?_map, hx]; rfl)
      have k0 : (0 : Int) ≤ k := by omega
      have k1 : (k : Int) < l.length := by omega
      clear hx
      go_wp2_with fail
      refine wp_region_noPanic ?_
      refine wp_region_held_drew (S := fun w' => w'.cell? ⟨g, k * 5, none⟩ = some (.int .u64 x) ∧ w'.cell? ⟨gt, k, none⟩ = some (.int .u64 x)) (by kernel_rfl) ⟨drewC t1, drewC t2⟩ (fun hHeld => ?_)
      clear t1 t2
      replace near := near.drew
      refine takeFirst (i := 0) (v := ?_) rfl (by kernel_rfl) (by kernel_rfl) (by kernel_rfl) (by rfl) (fun _ _ _ h => h) ?_ (by assumption) ?_
      rotate_left
      · (intro w hSw; go_simp; try (with_reducible rfl))
      try simp only [Act.put, List.setIfInBounds_toArray, List.set_cons_zero, List.set_cons_succ]
      refine takeFirst (i := 1) (v := ?_) rfl (by kernel_rfl) (by kernel_rfl) (by kernel_rfl) (by rfl) (fun _ _ _ h => h) ?_ (by assumption) ?_
      rotate_left
      · (intro w hSw; go_simp; try (with_reducible rfl))
      try simp only [Act.put, List.setIfInBounds_toArray, List.set_cons_zero, List.set_cons_succ]
      refine takeFirst (i := 2) (v := ?_) rfl (by kernel_rfl) (by kernel_rfl) (by kernel_rfl) (by rfl) (fun _ _ _ h => h) ?_ (by assumption) ?_
      rotate_left
      · (intro w hSw; go_simp; try (with_reducible rfl))
      try simp only [Act.put, List.setIfInBounds_toArray, List.set_cons_zero, List.set_cons_succ]
      refine takeFirst (i := 3) (v := ?_) rfl (by kernel_rfl) (by kernel_rfl) (by kernel_rfl) (by rfl) (fun _ _ _ h => h) ?_ (by assumption) ?_
      rotate_left
      · (intro w hSw; go_simp; try (with_reducible rfl))
      try simp only [Act.put, List.setIfInBounds_toArray, List.set_cons_zero, List.set_cons_succ]
      refine takeFirst (i := 4) (v := ?_) rfl (by kernel_rfl) (by kernel_rfl) (by kernel_rfl) (by rfl) (fun _ _ _ h => h) ?_ (by assumption) ?_
      rotate_left
      · (intro w hSw; go_simp; try (with_reducible rfl))
      try simp only [Act.put, List.setIfInBounds_toArray, List.set_cons_zero, List.set_cons_succ]
      refine takeFirst (i := 5) (v := ?_) rfl (by kernel_rfl) (by kernel_rfl) (by kernel_rfl) (by rfl) (fun _ _ _ h => h) ?_ (by assumption) ?_
      rotate_left
      · (intro w hSw; go_simp; try (with_reducible rfl))
      try simp only [Act.put, List.setIfInBounds_toArray, List.set_cons_zero, List.set_cons_succ]
      refine takeFirst (i := 6) (v := ?_) rfl (by kernel_rfl) (by kernel_rfl) (by kernel_rfl) (by rfl) (fun _ _ _ h => h) ?_ (by assumption) ?_
      rotate_left
      · (intro w hSw; go_simp; try (with_reducible rfl))
      try simp only [Act.put, List.setIfInBounds_toArray, List.set_cons_zero, List.set_cons_succ]
      refine takeFirst (i := 7) (v := ?_) rfl (by kernel_rfl) (by kernel_rfl) (by kernel_rfl) (by rfl) (fun _ _ _ h => h) ?_ (by assumption) ?_
      rotate_left
      · (intro w hSw; go_simp; try (with_reducible rfl))
      try simp only [Act.put, List.setIfInBounds_toArray, List.set_cons_zero, List.set_cons_succ]
      refine takeFirst (i := 8) (v := ?_) rfl (by kernel_rfl) (by kernel_rfl) (by kernel_rfl) (by rfl) (fun _ _ _ h => h) ?_ (by assumption) ?_
      rotate_left
      · (intro w hSw; go_simp; try (with_reducible rfl))
      try simp only [Act.put, List.setIfInBounds_toArray, List.set_cons_zero, List.set_cons_succ]
      refine takeFirst (i := 9) (v := ?_) rfl (by kernel_rfl) (by kernel_rfl) (by kernel_rfl) (by rfl) (fun _ _ _ h => h) ?_ (by assumption) ?_
      rotate_left
      · (intro w hSw; go_simp; try (with_reducible rfl))
      try simp only [Act.put, List.setIfInBounds_toArray, List.set_cons_zero, List.set_cons_succ]
      refine wpAnyH_done (by kernel_rfl) ?_ _
      refine NoPanic.normal ?_
      clear hHeld
      go_wp2_with fail
      go_roundw
      case rel => exact ⟨k + 1, by omega, by go_num, near⟩
      case measure => simp [intOf]; omega
    · go_wp2_with fail
      go_ret
      exact ⟨rfl, gCall low near⟩

theorem walk (v1 v2 : Value) (w : World) (h1 : IsCfg v1) (h2 : IsDeeds w v2) :
    Calls Try.prog 6 #[v1, v2] w fun e w' => e = .returned (.bool true) ∧ Below w.heap.size w w' := by
  obtain ⟨n, s, y, b, rfl, _⟩ := h1
  obtain ⟨l, hd⟩ := h2
  cases he : cfgB n s y b
  · exact walk_bad n s y b v2 l w hd he
  · have hc := cfgB_iff.1 he
    obtain ⟨N, rfl⟩ : ∃ N : Nat, n = N := ⟨n.toNat, by omega⟩
    obtain ⟨p, rfl⟩ : ∃ p : Nat, s = p := ⟨s.toNat, by omega⟩
    obtain ⟨q, rfl⟩ : ∃ q : Nat, y = q := ⟨y.toNat, by omega⟩
    exact walk_good N p q b v2 l w hd he

set_option maxRecDepth 100000 in
theorem lifted (os : Os) (started : os.Started) (H : Type) (enc : TypeId × Value → H) :
    ReturnsInHanded {} Try.checked os 6 .any (Rows.deedPlaysPlainSpec.pre6 enc Try.prog Try.f6 Rows.deedPlaysPlainRow.domain false) (Rows.deedPlaysPlainSpec.post enc Try.prog Try.f6 false true false false) := by
  refine returnsInHanded_of_change (C := Try.checked) own started (by kernel_rfl) Try.func6
    (ChangeSpec.witness6 (enc := enc) (C := Try.checked) false ⟨#[], #[cfg 2 1 1 1, .slice none 0 0], []⟩ 8 (by kernel_rfl) (by kernel_rfl) (by kernel_rfl) (by kernel_rfl)) ?_
  intro W base args ds gs before hval0 hW hcnd _
  have hval : ∀ (j : Nat) t v, Try.f6.params[j]? = some t → args[j]? = some v → Value.okWide Try.prog W .any base t v := hval0
  have hW' := hW
  obtain ⟨p, q, hA0, hV, rfl, hfz, hnd⟩ := hW
  have hA : DataW.TrodAll enc Try.prog W 0 (fun _ => true) true Try.f6.params.toList args.toList ds p := hA0
  rw [Try.params6] at hA hval
  obtain ⟨v0, vs0, d0, ds0, p0, q0, hargs, rfl, rfl, h0, r0⟩ := trodAll_cons hA
  obtain ⟨v1, vs1, d1, ds1, p1, q1, rfl, rfl, rfl, h1, r1⟩ := trodAll_cons r0
  obtain ⟨rfl, rfl, rfl⟩ := trodAll_nil r1
  obtain rfl : args = #[v0, v1] := by cases args; simp_all
  have k0 := openCfg (hval 0 23 v0 rfl rfl) h0
  have k1 := openDeeds (hval 1 63 v1 rfl rfl) h1
  obtain ⟨rfl, rfl⟩ := trodVars_none hV
  clear hA0 hval0
  refine (walk v0 v1 W k0 k1).mono fun e W' ⟨he, bel⟩ => ⟨_, he, ?_⟩
  exact law_post (by kernel_rfl) (by kernel_rfl) rfl hW' rfl rfl rfl bel

theorem over : Rows.deedPlaysPlainRow.holds Try.pinned (OpenSpec.ofChange Rows.deedPlaysPlainSpec) :=
  OpenClaim.holds_of_wide 6 Try.f6 rfl rfl rfl rfl rfl rfl rfl ⟨rfl, rfl, rfl, rfl, rfl⟩ rfl rfl rfl rfl rfl (by kernel_rfl) Try.func6 (by kernel_rfl)
    (of_decide_eq_true (by kernel_rfl)) (by unfold Func.isWrapper; first | (rw [if_pos (by decide +kernel)]; kernel_rfl) | (rw [if_neg (by decide +kernel)]; exact ⟨rfl, rfl⟩))
    (fun os started H enc _ => lifted os started H enc)

/-- The statement. -/
theorem deedPlaysPlain_holds : Rows.DeedPlaysPlainSaid := over
end Go.Proofs.Ytahoadfofleacaa.deedPlaysPlain
namespace Go.Proofs.Ytahoadfofleacaa
theorem deedPlaysPlain_holds : Rows.DeedPlaysPlainSaid := deedPlaysPlain.deedPlaysPlain_holds
#print axioms deedPlaysPlain_holds
end Go.Proofs.Ytahoadfofleacaa
