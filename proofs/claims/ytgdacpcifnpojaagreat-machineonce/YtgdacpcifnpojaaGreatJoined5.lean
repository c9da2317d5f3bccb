/-
Proved: what the texts below say at the head of each. No condition but theirs.
-/
import Derived.Test.YtgdacpcifnpojaaGreatJoined3
import Derived.Test.YtgdacpcifnpojaaGreatJoined4
import Derived.Test.YtgdacpcifnpojaaGreatJoined1
import Derived.Laws.MakeOwn
/- Cache4: Proved: what Put, Take and Set of package cache return, for every cache that can be read; they change nothing that was there. No condition. -/
namespace Go.Proofs.YtgdacpcifnpojaaGreat
open Go.ChangeShapes Go.WideShapes Go.ChangeAt Go.RowKit Go.Joins

theorem cacheReplace_l (v : Value) (ss : List St) (k : Nat) (A : Option Addr) (c : Nat) (l : List Wy) (p q r : Bool) (w : World) (B : Nat) (h : Cs w v ss) (hk : k < ss.length) (hn : ss.length ≤ 4 ∧ ∀ (q : Nat) t, ss[q]? = some t → 0 < t.l.length ∧ t.l.length ≤ 4)
    (fr : Fr w B w.heap.size (.slice A l.length c) l) (hB : B ≤ w.heap.size) :
    Calls Tryz.prog 159 #[v, .int .i64 k, rowV (.slice A l.length c) p q r] w fun e w' => (∃ A' c', e = .returned (.slice A' ss.length c') ∧ CFr w' B w'.heap.size (.slice A' ss.length c') (ss.set k ⟨l, p, q, r⟩)) ∧ Below w.heap.size w w' := by
  refine (cacheReplace_any v ss k A c ⟨l, p, q, r⟩ w B h hk hn.1 hn.2 fr hB).mono ?_
  rintro e w' ⟨⟨v', rfl, fr⟩, hb⟩
  obtain ⟨A', c', e⟩ := fr.shape
  rw [List.length_set] at e
  subst e
  exact ⟨⟨A', c', rfl, fr⟩, hb⟩




theorem cachePut_bad (n s y b : Int) (v : Value) (ss : List St) (x : Wy) (w : World) (h : Cs w v ss) (he : wayCE n s y b ss x ≠ 0) :
    Calls Tryz.prog 136 #[cfg n s y b, v, x.val] w fun e w' => e = .returned (.tuple #[.slice none 0 0, zeroV, .int .i64 (wayCE n s y b ss x)]) ∧ Below w.heap.size w w' := by
  have low := Below.refl w.heap.size w
  have cb := boxNext low 23 (cfgA n s y b)
  replace low := gAlloc low (.cells (cfgA n s y b) 23)
  replace h := h.alloc (.cells (cfgA n s y b) 23)
  try simp only [World.size_alloc] at cb
  have xb := boxNext low 80 x.arr
  replace low := gAlloc low (.cells x.arr 80)
  replace h := h.alloc (.cells x.arr 80)
  replace cb := cb.alloc (.cells x.arr 80)
  try simp only [World.size_alloc] at xb
  simp only [Wy.arr] at xb
  have ob := boxNext low 80 zeroA
  replace low := gAlloc low (.cells zeroA 80)
  replace h := h.alloc (.cells zeroA 80)
  replace cb := cb.alloc (.cells zeroA 80)
  replace xb := xb.alloc (.cells zeroA 80)
  try simp only [World.size_alloc] at ob
  simp only [zeroA] at ob
  have C := Lib.hid fun w hw => setOfWay_bad n s y b v ss x w hw he
  generalize wayCE n s y b ss x = E at C he ⊢
  have he' : (E != 0) = true := by simpa using he
  clear he
  go_enter Tryz.func136, Tryz.ntmps136
  go_wp2_with fail
  (with_reducible refine (C.out _ h).mono ?_); rintro e w1 ⟨rfl, hb⟩
  replace ob := ob.call hb
  replace low := gCall low hb
  clear hb
  have ob_0 := ob.at_ 0 rfl
  have ob_1 := ob.at_ 1 rfl
  have ob_2 := ob.at_ 2 rfl
  have ob_3 := ob.at_ 3 rfl
  have ob_4 := ob.at_ 4 rfl
  have ob_5 := ob.at_ 5 rfl
  have ob_f0 := ob.frozen 0
  have ob_f1 := ob.frozen 1
  have ob_f2 := ob.frozen 2
  have ob_f3 := ob.frozen 3
  have ob_f4 := ob.frozen 4
  have ob_f5 := ob.frozen 5
  have z1 : w.heap.size + 1 + 1 < w1.heap.size := ob.lt
  go_wp2_with fail
  refine bodyPost_ret (v := .tuple #[.slice none 0 0, zeroV, .int .i64 E]) (by simp [results, Tryz.results136, go_sem, ob_0, ob_1, ob_2, ob_3, ob_4, ob_5]) rfl ⟨rfl, ?_⟩
  repeat (refine gSet ?_ (by dsimp only; omega) _)
  exact low

set_option maxRecDepth 10000 in
set_option maxHeartbeats 2000000 in
theorem cachePut_in (n s y b : Int) (v : Value) (ss : List St) (x : Wy) (k : Nat) (t : St) (w : World) (h : Cs w v ss) (he : wayCE n s y b ss x = 0) (hk : x.ln % s = k) (ht : ss[k]? = some t) :
    ∃ la tt z E, PutIs t.l t.a t.b t.c y x la tt z E ∧ Calls Tryz.prog 136 #[cfg n s y b, v, x.val] w fun e w' =>
      ((E ≠ 0 ∧ e = .returned (.tuple #[.slice none 0 0, zeroV, .int .i64 E])) ∨ (E = 0 ∧ ∃ A c, e = .returned (.tuple #[.slice A ss.length c, z.val, .int .i64 0]) ∧ CFr w' w.heap.size w'.heap.size (.slice A ss.length c) (ss.set k ⟨la, tt.1, tt.2.1, tt.2.2⟩))) ∧ Below w.heap.size w w' := by
  obtain ⟨g1, g2⟩ := wayCE_ok he
  have good := goodC_iff.1 g1
  have SM := Lib.hid good.small
  have kl := st_lt ht
  obtain ⟨A, cp, rfl, h1, h2, h3⟩ := h.ex
  obtain ⟨bb, o, rfl, hb, hc⟩ := h3 (by omega)
  obtain ⟨A', c', ra, ws⟩ := hc.at_ k t ht
  obtain ⟨la, tt, z, E, PI, P⟩ := put_fr (.slice A' t.l.length c') t.l t.a t.b t.c y x
  refine ⟨la, tt, z, E, PI, ?_⟩
  unfold GivesF at P
  have CT := Lib.hid P
  have C := Lib.hid fun w hw => setOfWay_ok n s y b (.slice (some ⟨bb, o, none⟩) ss.length cp) ss x w hw he
  rw [hk] at C
  have kc : (k : Int) < ss.length := by omega
  have k0 : (0 : Int) ≤ k := by omega
  clear P PI h1 h2 h3 hc good g1 g2 he hk ht
  have low := Below.refl w.heap.size w
  have cb := boxNext low 23 (cfgA n s y b)
  replace low := gAlloc low (.cells (cfgA n s y b) 23)
  replace h := h.alloc (.cells (cfgA n s y b) 23)
  try simp only [World.size_alloc] at cb
  have xb := boxNext low 80 x.arr
  replace low := gAlloc low (.cells x.arr 80)
  replace h := h.alloc (.cells x.arr 80)
  replace cb := cb.alloc (.cells x.arr 80)
  try simp only [World.size_alloc] at xb
  simp only [Wy.arr] at xb
  have ob := boxNext low 80 zeroA
  replace low := gAlloc low (.cells zeroA 80)
  replace h := h.alloc (.cells zeroA 80)
  replace cb := cb.alloc (.cells zeroA 80)
  replace xb := xb.alloc (.cells zeroA 80)
  try simp only [World.size_alloc] at ob
  simp only [zeroA] at ob
  go_enter Tryz.func136, Tryz.ntmps136
  go_wp2_with fail
  (with_reducible refine (C.out _ h).mono ?_); rintro e w1 ⟨rfl, hb⟩
  replace ob := ob.call hb
  replace cb := cb.call hb
  replace xb := xb.call hb
  replace h := h.call hb
  replace low := gCall low hb
  clear hb
  clear C
  obtain ⟨r0, r1, r2, r3⟩ := rowAt_of ra hb low
  obtain ⟨x0, x1, x2, x3, x4, x5⟩ := xb.wayC
  have q2 := cb.at_ 2 rfl
  replace ws := ws.call low
  have z1 : w.heap.size + 1 + 1 < w1.heap.size := ob.lt
  clear ra
  go_wp2_with fail
  refine wp_region_noPanic ?_
  refine wp_region_held_drew (S := fun w' => w'.cell? ⟨bb, o + k * 4, none⟩ = some (.slice A' t.l.length c') ∧ w'.cell? ⟨bb, o + k * 4 + 1, none⟩ = some (.bool t.a) ∧ w'.cell? ⟨bb, o + k * 4 + 2, none⟩ = some (.bool t.b) ∧ w'.cell? ⟨bb, o + k * 4 + 3, none⟩ = some (.bool t.c) ∧ w'.cell? ⟨w.heap.size, 2, none⟩ = some (.int .i64 y) ∧ w'.cell? ⟨w.heap.size + 1, 0, none⟩ = some (.int .i64 x.st) ∧ w'.cell? ⟨w.heap.size + 1, 1, none⟩ = some (.int .i64 x.ln) ∧ w'.cell? ⟨w.heap.size + 1, 2, none⟩ = some (.int .u64 x.a) ∧ w'.cell? ⟨w.heap.size + 1, 3, none⟩ = some (.int .u64 x.b) ∧ w'.cell? ⟨w.heap.size + 1, 4, none⟩ = some (.int .u64 x.c) ∧ w'.cell? ⟨w.heap.size + 1, 5, none⟩ = some (.int .u64 x.d)) (by kernel_rfl) ⟨drewC r0, drewC r1, drewC r2, drewC r3, drewC q2, drewC x0, drewC x1, drewC x2, drewC x3, drewC x4, drewC x5⟩ (fun hHeld => ?_)
  clear r0 r1 r2 r3 x0 x1 x2 x3 x4 x5 q2 cb xb
  have z1 : w.heap.size + 1 + 1 < w1.drew.heap.size := z1
  replace ws := ws.drew
  replace ob := ob.drew
  replace h := h.drew
  replace low := low.drew
  generalize w1.drew = wN at *
  have WS := Lib.hid ws
  clear ws
  refine takeFirst (i := 0) (v := ?_) rfl (by kernel_rfl) (by kernel_rfl) (by kernel_rfl) (by rfl) (fun _ _ _ h => h) ?_ (by assumption) ?_
  rotate_left
  · (intro w hSw; go_simp; try (with_reducible rfl))
  try simp only [Act.put, List.setIfInBounds_toArray, List.set_cons_zero, List.set_cons_succ]
  refine takeFirst (i := 1) (v := ?_) rfl (by kernel_rfl) (by kernel_rfl) (by kernel_rfl) (by rfl) (fun _ _ _ h => h) ?_ (by assumption) ?_
  rotate_left
  · (intro w hSw; go_simp; try (with_reducible rfl))
  try simp only [Act.put, List.setIfInBounds_toArray, List.set_cons_zero, List.set_cons_succ]
  refine takeFirst (i := 2) (v := ?_) rfl (by kernel_rfl) (by kernel_rfl) (by kernel_rfl) (by rfl) (fun _ _ _ h => h) ?_ (by assumption) ?_
  rotate_left
  · (intro w hSw; go_simp; try (with_reducible rfl))
  try simp only [Act.put, List.setIfInBounds_toArray, List.set_cons_zero, List.set_cons_succ]
  refine takeFirst (i := 3) (v := ?_) rfl (by kernel_rfl) (by kernel_rfl) (by kernel_rfl) (by rfl) (fun _ _ _ h => h) ?_ (by assumption) ?_
  rotate_left
  · (intro w hSw; go_simp; try (with_reducible rfl))
  try simp only [Act.put, List.setIfInBounds_toArray, List.set_cons_zero, List.set_cons_succ]
  refine takeFirst (i := 4) (v := ?_) rfl (by kernel_rfl) (by kernel_rfl) (by kernel_rfl) (by rfl) (fun _ _ _ h => h) ?_ (by assumption) ?_
  rotate_left
  · (intro w hSw; go_simp; try (with_reducible rfl))
  try simp only [Act.put, List.setIfInBounds_toArray, List.set_cons_zero, List.set_cons_succ]
  refine takeFirst (i := 5) (v := ?_) rfl (by kernel_rfl) (by kernel_rfl) (by kernel_rfl) (by rfl) (fun _ _ _ h => h) ?_ (by assumption) ?_
  rotate_left
  · (intro w hSw; go_simp; try (with_reducible rfl))
  try simp only [Act.put, List.setIfInBounds_toArray, List.set_cons_zero, List.set_cons_succ]
  refine takeFirst (i := 6) (v := ?_) rfl (by kernel_rfl) (by kernel_rfl) (by kernel_rfl) (by rfl) (fun _ _ _ h => h) ?_ (by assumption) ?_
  rotate_left
  · (intro w hSw; go_simp; try (with_reducible rfl))
  try simp only [Act.put, List.setIfInBounds_toArray, List.set_cons_zero, List.set_cons_succ]
  apply share (M := fun ga gb A c wz => Mid wN 77 (rowA (.slice none 0 0) false false false) 80 zeroA wz (some ga) (some gb) (some (.slice A la.length c, la)))
  · intro hE
    have mid := Mid.start wN 77 (rowA (.slice none 0 0) false false false) 80 zeroA
    refine stepThree (i1 := 7) (i2 := 12) (i3 := 13) (by kernel_rfl) rfl rfl rfl (by rfl) (by rfl) (by rfl) (fun K hK => ?_) (fun K hK => ?_) (fun K hK => ?_)
    · go_simp
      (with_reducible refine (Calls.mono (CT.out _ (WS.out.call mid.low)) ?_)); rintro e wx ⟨⟨Az, cz, rfl, frz⟩, hbz⟩
      replace mid := mid.call hbz frz
      clear hbz frz
      try clear hNow
      have hNow := (And.intro (callC mid.low hHeld.1) (And.intro (callC mid.low hHeld.2.1) (And.intro (callC mid.low hHeld.2.2.1) (And.intro (callC mid.low hHeld.2.2.2.1) (And.intro (callC mid.low hHeld.2.2.2.2.1) (And.intro (callC mid.low hHeld.2.2.2.2.2.1) (And.intro (callC mid.low hHeld.2.2.2.2.2.2.1) (And.intro (callC mid.low hHeld.2.2.2.2.2.2.2.1) (And.intro (callC mid.low hHeld.2.2.2.2.2.2.2.2.1) (And.intro (callC mid.low hHeld.2.2.2.2.2.2.2.2.2.1) (callC mid.low hHeld.2.2.2.2.2.2.2.2.2.2)))))))))))
      refine hK.out _ _ hNow ?_
      clear hK K
      try simp only [Act.put]
      try simp only [List.setIfInBounds_toArray, List.set_cons_zero, List.set_cons_succ]
      refine takeFirst (i := 8) (v := ?_) rfl (by kernel_rfl) (by kernel_rfl) (by kernel_rfl) (by rfl) (fun _ _ _ h => h) ?_ (by assumption) ?_
      rotate_left
      · (intro w hSw; go_simp; try (with_reducible rfl))
      try simp only [Act.put, List.setIfInBounds_toArray, List.set_cons_zero, List.set_cons_succ]
      refine takeFirst (i := 9) (v := ?_) rfl (by kernel_rfl) (by kernel_rfl) (by kernel_rfl) (by rfl) (fun _ _ _ h => h) ?_ (by assumption) ?_
      rotate_left
      · (intro w hSw; go_simp; try (with_reducible rfl))
      try simp only [Act.put, List.setIfInBounds_toArray, List.set_cons_zero, List.set_cons_succ]
      refine takeFirst (i := 10) (v := ?_) rfl (by kernel_rfl) (by kernel_rfl) (by kernel_rfl) (by rfl) (fun _ _ _ h => h) ?_ (by assumption) ?_
      rotate_left
      · (intro w hSw; go_simp; try (with_reducible rfl))
      try simp only [Act.put, List.setIfInBounds_toArray, List.set_cons_zero, List.set_cons_succ]
      refine takeFirst (i := 11) (v := ?_) rfl (by kernel_rfl) (by kernel_rfl) (by kernel_rfl) (by rfl) (fun _ _ _ h => h) ?_ (by assumption) ?_
      rotate_left
      · (intro w hSw; go_simp; try (with_reducible rfl))
      try simp only [Act.put, List.setIfInBounds_toArray, List.set_cons_zero, List.set_cons_succ]
      refine stepTwo (i1 := 12) (i2 := 13) (by kernel_rfl) rfl rfl (by rfl) (by rfl) (fun K hK => ?_) (fun K hK => ?_)
      · go_simp
        replace mid := mid.allocA
        try clear hNow
        have hNow := (And.intro (callC mid.low hHeld.1) (And.intro (callC mid.low hHeld.2.1) (And.intro (callC mid.low hHeld.2.2.1) (And.intro (callC mid.low hHeld.2.2.2.1) (And.intro (callC mid.low hHeld.2.2.2.2.1) (And.intro (callC mid.low hHeld.2.2.2.2.2.1) (And.intro (callC mid.low hHeld.2.2.2.2.2.2.1) (And.intro (callC mid.low hHeld.2.2.2.2.2.2.2.1) (And.intro (callC mid.low hHeld.2.2.2.2.2.2.2.2.1) (And.intro (callC mid.low hHeld.2.2.2.2.2.2.2.2.2.1) (callC mid.low hHeld.2.2.2.2.2.2.2.2.2.2)))))))))))
        refine hK.out _ _ hNow ?_
        clear hK K
        try simp only [Act.put]
        try simp only [List.setIfInBounds_toArray, List.set_cons_zero, List.set_cons_succ]
        generalize wx.heap.size = ga at mid ⊢
        generalize wx.alloc (.cells (rowA (.slice none 0 0) false false false) 77) = wy at mid ⊢
        refine stepNext (i := 13) (by kernel_rfl) rfl (by rfl) (fun K hK => ?_)
        go_simp
        replace mid := mid.allocB
        try clear hNow
        have hNow := (And.intro (callC mid.low hHeld.1) (And.intro (callC mid.low hHeld.2.1) (And.intro (callC mid.low hHeld.2.2.1) (And.intro (callC mid.low hHeld.2.2.2.1) (And.intro (callC mid.low hHeld.2.2.2.2.1) (And.intro (callC mid.low hHeld.2.2.2.2.2.1) (And.intro (callC mid.low hHeld.2.2.2.2.2.2.1) (And.intro (callC mid.low hHeld.2.2.2.2.2.2.2.1) (And.intro (callC mid.low hHeld.2.2.2.2.2.2.2.2.1) (And.intro (callC mid.low hHeld.2.2.2.2.2.2.2.2.2.1) (callC mid.low hHeld.2.2.2.2.2.2.2.2.2.2)))))))))))
        refine hK.out _ _ hNow ?_
        clear hK K
        try simp only [Act.put]
        try simp only [List.setIfInBounds_toArray, List.set_cons_zero, List.set_cons_succ]
        generalize wy.heap.size = gb at mid ⊢
        generalize wy.alloc (.cells zeroA 80) = wz at mid ⊢
        refine relist (l2 := #[true, true, true, true, true, true, true, true, true, true, true, true, true, true, false, false, false]) (by kernel_rfl) ?_
        exact hE _ _ _ _ _ mid
      · go_simp
        replace mid := mid.allocB
        try clear hNow
        have hNow := (And.intro (callC mid.low hHeld.1) (And.intro (callC mid.low hHeld.2.1) (And.intro (callC mid.low hHeld.2.2.1) (And.intro (callC mid.low hHeld.2.2.2.1) (And.intro (callC mid.low hHeld.2.2.2.2.1) (And.intro (callC mid.low hHeld.2.2.2.2.2.1) (And.intro (callC mid.low hHeld.2.2.2.2.2.2.1) (And.intro (callC mid.low hHeld.2.2.2.2.2.2.2.1) (And.intro (callC mid.low hHeld.2.2.2.2.2.2.2.2.1) (And.intro (callC mid.low hHeld.2.2.2.2.2.2.2.2.2.1) (callC mid.low hHeld.2.2.2.2.2.2.2.2.2.2)))))))))))
        refine hK.out _ _ hNow ?_
        clear hK K
        try simp only [Act.put]
        try simp only [List.setIfInBounds_toArray, List.set_cons_zero, List.set_cons_succ]
        generalize wx.heap.size = gb at mid ⊢
        generalize wx.alloc (.cells zeroA 80) = wy at mid ⊢
        refine stepNext (i := 12) (by kernel_rfl) rfl (by rfl) (fun K hK => ?_)
        go_simp
        replace mid := mid.allocA
        try clear hNow
        have hNow := (And.intro (callC mid.low hHeld.1) (And.intro (callC mid.low hHeld.2.1) (And.intro (callC mid.low hHeld.2.2.1) (And.intro (callC mid.low hHeld.2.2.2.1) (And.intro (callC mid.low hHeld.2.2.2.2.1) (And.intro (callC mid.low hHeld.2.2.2.2.2.1) (And.intro (callC mid.low hHeld.2.2.2.2.2.2.1) (And.intro (callC mid.low hHeld.2.2.2.2.2.2.2.1) (And.intro (callC mid.low hHeld.2.2.2.2.2.2.2.2.1) (And.intro (callC mid.low hHeld.2.2.2.2.2.2.2.2.2.1) (callC mid.low hHeld.2.2.2.2.2.2.2.2.2.2)))))))))))
        refine hK.out _ _ hNow ?_
        clear hK K
        try simp only [Act.put]
        try simp only [List.setIfInBounds_toArray, List.set_cons_zero, List.set_cons_succ]
        generalize wy.heap.size = ga at mid ⊢
        generalize wy.alloc (.cells (rowA (.slice none 0 0) false false false) 77) = wz at mid ⊢
        refine relist (l2 := #[true, true, true, true, true, true, true, true, true, true, true, true, true, true, false, false, false]) (by kernel_rfl) ?_
        exact hE _ _ _ _ _ mid
    · go_simp
      replace mid := mid.allocA
      try clear hNow
      have hNow := (And.intro (callC mid.low hHeld.1) (And.intro (callC mid.low hHeld.2.1) (And.intro (callC mid.low hHeld.2.2.1) (And.intro (callC mid.low hHeld.2.2.2.1) (And.intro (callC mid.low hHeld.2.2.2.2.1) (And.intro (callC mid.low hHeld.2.2.2.2.2.1) (And.intro (callC mid.low hHeld.2.2.2.2.2.2.1) (And.intro (callC mid.low hHeld.2.2.2.2.2.2.2.1) (And.intro (callC mid.low hHeld.2.2.2.2.2.2.2.2.1) (And.intro (callC mid.low hHeld.2.2.2.2.2.2.2.2.2.1) (callC mid.low hHeld.2.2.2.2.2.2.2.2.2.2)))))))))))
      refine hK.out _ _ hNow ?_
      clear hK K
      try simp only [Act.put]
      try simp only [List.setIfInBounds_toArray, List.set_cons_zero, List.set_cons_succ]
      generalize wN.heap.size = ga at mid ⊢
      generalize wN.alloc (.cells (rowA (.slice none 0 0) false false false) 77) = wx at mid ⊢
      refine stepTwo (i1 := 7) (i2 := 13) (by kernel_rfl) rfl rfl (by rfl) (by rfl) (fun K hK => ?_) (fun K hK => ?_)
      · go_simp
        (with_reducible refine (Calls.mono (CT.out _ (WS.out.call mid.low)) ?_)); rintro e wy ⟨⟨Az, cz, rfl, frz⟩, hbz⟩
        replace mid := mid.call hbz frz
        clear hbz frz
        try clear hNow
        have hNow := (And.intro (callC mid.low hHeld.1) (And.intro (callC mid.low hHeld.2.1) (And.intro (callC mid.low hHeld.2.2.1) (And.intro (callC mid.low hHeld.2.2.2.1) (And.intro (callC mid.low hHeld.2.2.2.2.1) (And.intro (callC mid.low hHeld.2.2.2.2.2.1) (And.intro (callC mid.low hHeld.2.2.2.2.2.2.1) (And.intro (callC mid.low hHeld.2.2.2.2.2.2.2.1) (And.intro (callC mid.low hHeld.2.2.2.2.2.2.2.2.1) (And.intro (callC mid.low hHeld.2.2.2.2.2.2.2.2.2.1) (callC mid.low hHeld.2.2.2.2.2.2.2.2.2.2)))))))))))
        refine hK.out _ _ hNow ?_
        clear hK K
        try simp only [Act.put]
        try simp only [List.setIfInBounds_toArray, List.set_cons_zero, List.set_cons_succ]
        refine takeFirst (i := 8) (v := ?_) rfl (by kernel_rfl) (by kernel_rfl) (by kernel_rfl) (by rfl) (fun _ _ _ h => h) ?_ (by assumption) ?_
        rotate_left
        · (intro w hSw; go_simp; try (with_reducible rfl))
        try simp only [Act.put, List.setIfInBounds_toArray, List.set_cons_zero, List.set_cons_succ]
        refine takeFirst (i := 9) (v := ?_) rfl (by kernel_rfl) (by kernel_rfl) (by kernel_rfl) (by rfl) (fun _ _ _ h => h) ?_ (by assumption) ?_
        rotate_left
        · (intro w hSw; go_simp; try (with_reducible rfl))
        try simp only [Act.put, List.setIfInBounds_toArray, List.set_cons_zero, List.set_cons_succ]
        refine takeFirst (i := 10) (v := ?_) rfl (by kernel_rfl) (by kernel_rfl) (by kernel_rfl) (by rfl) (fun _ _ _ h => h) ?_ (by assumption) ?_
        rotate_left
        · (intro w hSw; go_simp; try (with_reducible rfl))
        try simp only [Act.put, List.setIfInBounds_toArray, List.set_cons_zero, List.set_cons_succ]
        refine takeFirst (i := 11) (v := ?_) rfl (by kernel_rfl) (by kernel_rfl) (by kernel_rfl) (by rfl) (fun _ _ _ h => h) ?_ (by assumption) ?_
        rotate_left
        · (intro w hSw; go_simp; try (with_reducible rfl))
        try simp only [Act.put, List.setIfInBounds_toArray, List.set_cons_zero, List.set_cons_succ]
        refine stepNext (i := 13) (by kernel_rfl) rfl (by rfl) (fun K hK => ?_)
        go_simp
        replace mid := mid.allocB
        try clear hNow
        have hNow := (And.intro (callC mid.low hHeld.1) (And.intro (callC mid.low hHeld.2.1) (And.intro (callC mid.low hHeld.2.2.1) (And.intro (callC mid.low hHeld.2.2.2.1) (And.intro (callC mid.low hHeld.2.2.2.2.1) (And.intro (callC mid.low hHeld.2.2.2.2.2.1) (And.intro (callC mid.low hHeld.2.2.2.2.2.2.1) (And.intro (callC mid.low hHeld.2.2.2.2.2.2.2.1) (And.intro (callC mid.low hHeld.2.2.2.2.2.2.2.2.1) (And.intro (callC mid.low hHeld.2.2.2.2.2.2.2.2.2.1) (callC mid.low hHeld.2.2.2.2.2.2.2.2.2.2)))))))))))
        refine hK.out _ _ hNow ?_
        clear hK K
        try simp only [Act.put]
        try simp only [List.setIfInBounds_toArray, List.set_cons_zero, List.set_cons_succ]
        generalize wy.heap.size = gb at mid ⊢
        generalize wy.alloc (.cells zeroA 80) = wz at mid ⊢
        refine relist (l2 := #[true, true, true, true, true, true, true, true, true, true, true, true, true, true, false, false, false]) (by kernel_rfl) ?_
        exact hE _ _ _ _ _ mid
      · go_simp
        replace mid := mid.allocB
        try clear hNow
        have hNow := (And.intro (callC mid.low hHeld.1) (And.intro (callC mid.low hHeld.2.1) (And.intro (callC mid.low hHeld.2.2.1) (And.intro (callC mid.low hHeld.2.2.2.1) (And.intro (callC mid.low hHeld.2.2.2.2.1) (And.intro (callC mid.low hHeld.2.2.2.2.2.1) (And.intro (callC mid.low hHeld.2.2.2.2.2.2.1) (And.intro (callC mid.low hHeld.2.2.2.2.2.2.2.1) (And.intro (callC mid.low hHeld.2.2.2.2.2.2.2.2.1) (And.intro (callC mid.low hHeld.2.2.2.2.2.2.2.2.2.1) (callC mid.low hHeld.2.2.2.2.2.2.2.2.2.2)))))))))))
        refine hK.out _ _ hNow ?_
        clear hK K
        try simp only [Act.put]
        try simp only [List.setIfInBounds_toArray, List.set_cons_zero, List.set_cons_succ]
        generalize wx.heap.size = gb at mid ⊢
        generalize wx.alloc (.cells zeroA 80) = wy at mid ⊢
        refine stepNext (i := 7) (by kernel_rfl) rfl (by rfl) (fun K hK => ?_)
        go_simp
        (with_reducible refine (Calls.mono (CT.out _ (WS.out.call mid.low)) ?_)); rintro e wz ⟨⟨Az, cz, rfl, frz⟩, hbz⟩
        replace mid := mid.call hbz frz
        clear hbz frz
        try clear hNow
        have hNow := (And.intro (callC mid.low hHeld.1) (And.intro (callC mid.low hHeld.2.1) (And.intro (callC mid.low hHeld.2.2.1) (And.intro (callC mid.low hHeld.2.2.2.1) (And.intro (callC mid.low hHeld.2.2.2.2.1) (And.intro (callC mid.low hHeld.2.2.2.2.2.1) (And.intro (callC mid.low hHeld.2.2.2.2.2.2.1) (And.intro (callC mid.low hHeld.2.2.2.2.2.2.2.1) (And.intro (callC mid.low hHeld.2.2.2.2.2.2.2.2.1) (And.intro (callC mid.low hHeld.2.2.2.2.2.2.2.2.2.1) (callC mid.low hHeld.2.2.2.2.2.2.2.2.2.2)))))))))))
        refine hK.out _ _ hNow ?_
        clear hK K
        try simp only [Act.put]
        try simp only [List.setIfInBounds_toArray, List.set_cons_zero, List.set_cons_succ]
        refine takeFirst (i := 8) (v := ?_) rfl (by kernel_rfl) (by kernel_rfl) (by kernel_rfl) (by rfl) (fun _ _ _ h => h) ?_ (by assumption) ?_
        rotate_left
        · (intro w hSw; go_simp; try (with_reducible rfl))
        try simp only [Act.put, List.setIfInBounds_toArray, List.set_cons_zero, List.set_cons_succ]
        refine takeFirst (i := 9) (v := ?_) rfl (by kernel_rfl) (by kernel_rfl) (by kernel_rfl) (by rfl) (fun _ _ _ h => h) ?_ (by assumption) ?_
        rotate_left
        · (intro w hSw; go_simp; try (with_reducible rfl))
        try simp only [Act.put, List.setIfInBounds_toArray, List.set_cons_zero, List.set_cons_succ]
        refine takeFirst (i := 10) (v := ?_) rfl (by kernel_rfl) (by kernel_rfl) (by kernel_rfl) (by rfl) (fun _ _ _ h => h) ?_ (by assumption) ?_
        rotate_left
        · (intro w hSw; go_simp; try (with_reducible rfl))
        try simp only [Act.put, List.setIfInBounds_toArray, List.set_cons_zero, List.set_cons_succ]
        refine takeFirst (i := 11) (v := ?_) rfl (by kernel_rfl) (by kernel_rfl) (by kernel_rfl) (by rfl) (fun _ _ _ h => h) ?_ (by assumption) ?_
        rotate_left
        · (intro w hSw; go_simp; try (with_reducible rfl))
        try simp only [Act.put, List.setIfInBounds_toArray, List.set_cons_zero, List.set_cons_succ]
        refine relist (l2 := #[true, true, true, true, true, true, true, true, true, true, true, true, true, true, false, false, false]) (by kernel_rfl) ?_
        exact hE _ _ _ _ _ mid
    · go_simp
      replace mid := mid.allocB
      try clear hNow
      have hNow := (And.intro (callC mid.low hHeld.1) (And.intro (callC mid.low hHeld.2.1) (And.intro (callC mid.low hHeld.2.2.1) (And.intro (callC mid.low hHeld.2.2.2.1) (And.intro (callC mid.low hHeld.2.2.2.2.1) (And.intro (callC mid.low hHeld.2.2.2.2.2.1) (And.intro (callC mid.low hHeld.2.2.2.2.2.2.1) (And.intro (callC mid.low hHeld.2.2.2.2.2.2.2.1) (And.intro (callC mid.low hHeld.2.2.2.2.2.2.2.2.1) (And.intro (callC mid.low hHeld.2.2.2.2.2.2.2.2.2.1) (callC mid.low hHeld.2.2.2.2.2.2.2.2.2.2)))))))))))
      refine hK.out _ _ hNow ?_
      clear hK K
      try simp only [Act.put]
      try simp only [List.setIfInBounds_toArray, List.set_cons_zero, List.set_cons_succ]
      generalize wN.heap.size = gb at mid ⊢
      generalize wN.alloc (.cells zeroA 80) = wx at mid ⊢
      refine stepTwo (i1 := 7) (i2 := 12) (by kernel_rfl) rfl rfl (by rfl) (by rfl) (fun K hK => ?_) (fun K hK => ?_)
      · go_simp
        (with_reducible refine (Calls.mono (CT.out _ (WS.out.call mid.low)) ?_)); rintro e wy ⟨⟨Az, cz, rfl, frz⟩, hbz⟩
        replace mid := mid.call hbz frz
        clear hbz frz
        try clear hNow
        have hNow := (And.intro (callC mid.low hHeld.1) (And.intro (callC mid.low hHeld.2.1) (And.intro (callC mid.low hHeld.2.2.1) (And.intro (callC mid.low hHeld.2.2.2.1) (And.intro (callC mid.low hHeld.2.2.2.2.1) (And.intro (callC mid.low hHeld.2.2.2.2.2.1) (And.intro (callC mid.low hHeld.2.2.2.2.2.2.1) (And.intro (callC mid.low hHeld.2.2.2.2.2.2.2.1) (And.intro (callC mid.low hHeld.2.2.2.2.2.2.2.2.1) (And.intro (callC mid.low hHeld.2.2.2.2.2.2.2.2.2.1) (callC mid.low hHeld.2.2.2.2.2.2.2.2.2.2)))))))))))
        refine hK.out _ _ hNow ?_
        clear hK K
        try simp only [Act.put]
        try simp only [List.setIfInBounds_toArray, List.set_cons_zero, List.set_cons_succ]
        refine takeFirst (i := 8) (v := ?_) rfl (by kernel_rfl) (by kernel_rfl) (by kernel_rfl) (by rfl) (fun _ _ _ h => h) ?_ (by assumption) ?_
        rotate_left
        · (intro w hSw; go_simp; try (with_reducible rfl))
        try simp only [Act.put, List.setIfInBounds_toArray, List.set_cons_zero, List.set_cons_succ]
        refine takeFirst (i := 9) (v := ?_) rfl (by kernel_rfl) (by kernel_rfl) (by kernel_rfl) (by rfl) (fun _ _ _ h => h) ?_ (by assumption) ?_
        rotate_left
        · (intro w hSw; go_simp; try (with_reducible rfl))
        try simp only [Act.put, List.setIfInBounds_toArray, List.set_cons_zero, List.set_cons_succ]
        refine takeFirst (i := 10) (v := ?_) rfl (by kernel_rfl) (by kernel_rfl) (by kernel_rfl) (by rfl) (fun _ _ _ h => h) ?_ (by assumption) ?_
        rotate_left
        · (intro w hSw; go_simp; try (with_reducible rfl))
        try simp only [Act.put, List.setIfInBounds_toArray, List.set_cons_zero, List.set_cons_succ]
        refine takeFirst (i := 11) (v := ?_) rfl (by kernel_rfl) (by kernel_rfl) (by kernel_rfl) (by rfl) (fun _ _ _ h => h) ?_ (by assumption) ?_
        rotate_left
        · (intro w hSw; go_simp; try (with_reducible rfl))
        try simp only [Act.put, List.setIfInBounds_toArray, List.set_cons_zero, List.set_cons_succ]
        refine stepNext (i := 12) (by kernel_rfl) rfl (by rfl) (fun K hK => ?_)
        go_simp
        replace mid := mid.allocA
        try clear hNow
        have hNow := (And.intro (callC mid.low hHeld.1) (And.intro (callC mid.low hHeld.2.1) (And.intro (callC mid.low hHeld.2.2.1) (And.intro (callC mid.low hHeld.2.2.2.1) (And.intro (callC mid.low hHeld.2.2.2.2.1) (And.intro (callC mid.low hHeld.2.2.2.2.2.1) (And.intro (callC mid.low hHeld.2.2.2.2.2.2.1) (And.intro (callC mid.low hHeld.2.2.2.2.2.2.2.1) (And.intro (callC mid.low hHeld.2.2.2.2.2.2.2.2.1) (And.intro (callC mid.low hHeld.2.2.2.2.2.2.2.2.2.1) (callC mid.low hHeld.2.2.2.2.2.2.2.2.2.2)))))))))))
        refine hK.out _ _ hNow ?_
        clear hK K
        try simp only [Act.put]
        try simp only [List.setIfInBounds_toArray, List.set_cons_zero, List.set_cons_succ]
        generalize wy.heap.size = ga at mid ⊢
        generalize wy.alloc (.cells (rowA (.slice none 0 0) false false false) 77) = wz at mid ⊢
        refine relist (l2 := #[true, true, true, true, true, true, true, true, true, true, true, true, true, true, false, false, false]) (by kernel_rfl) ?_
        exact hE _ _ _ _ _ mid
      · go_simp
        replace mid := mid.allocA
        try clear hNow
        have hNow := (And.intro (callC mid.low hHeld.1) (And.intro (callC mid.low hHeld.2.1) (And.intro (callC mid.low hHeld.2.2.1) (And.intro (callC mid.low hHeld.2.2.2.1) (And.intro (callC mid.low hHeld.2.2.2.2.1) (And.intro (callC mid.low hHeld.2.2.2.2.2.1) (And.intro (callC mid.low hHeld.2.2.2.2.2.2.1) (And.intro (callC mid.low hHeld.2.2.2.2.2.2.2.1) (And.intro (callC mid.low hHeld.2.2.2.2.2.2.2.2.1) (And.intro (callC mid.low hHeld.2.2.2.2.2.2.2.2.2.1) (callC mid.low hHeld.2.2.2.2.2.2.2.2.2.2)))))))))))
        refine hK.out _ _ hNow ?_
        clear hK K
        try simp only [Act.put]
        try simp only [List.setIfInBounds_toArray, List.set_cons_zero, List.set_cons_succ]
        generalize wx.heap.size = ga at mid ⊢
        generalize wx.alloc (.cells (rowA (.slice none 0 0) false false false) 77) = wy at mid ⊢
        refine stepNext (i := 7) (by kernel_rfl) rfl (by rfl) (fun K hK => ?_)
        go_simp
        (with_reducible refine (Calls.mono (CT.out _ (WS.out.call mid.low)) ?_)); rintro e wz ⟨⟨Az, cz, rfl, frz⟩, hbz⟩
        replace mid := mid.call hbz frz
        clear hbz frz
        try clear hNow
        have hNow := (And.intro (callC mid.low hHeld.1) (And.intro (callC mid.low hHeld.2.1) (And.intro (callC mid.low hHeld.2.2.1) (And.intro (callC mid.low hHeld.2.2.2.1) (And.intro (callC mid.low hHeld.2.2.2.2.1) (And.intro (callC mid.low hHeld.2.2.2.2.2.1) (And.intro (callC mid.low hHeld.2.2.2.2.2.2.1) (And.intro (callC mid.low hHeld.2.2.2.2.2.2.2.1) (And.intro (callC mid.low hHeld.2.2.2.2.2.2.2.2.1) (And.intro (callC mid.low hHeld.2.2.2.2.2.2.2.2.2.1) (callC mid.low hHeld.2.2.2.2.2.2.2.2.2.2)))))))))))
        refine hK.out _ _ hNow ?_
        clear hK K
        try simp only [Act.put]
        try simp only [List.setIfInBounds_toArray, List.set_cons_zero, List.set_cons_succ]
        refine takeFirst (i := 8) (v := ?_) rfl (by kernel_rfl) (by kernel_rfl) (by kernel_rfl) (by rfl) (fun _ _ _ h => h) ?_ (by assumption) ?_
        rotate_left
        · (intro w hSw; go_simp; try (with_reducible rfl))
        try simp only [Act.put, List.setIfInBounds_toArray, List.set_cons_zero, List.set_cons_succ]
        refine takeFirst (i := 9) (v := ?_) rfl (by kernel_rfl) (by kernel_rfl) (by kernel_rfl) (by rfl) (fun _ _ _ h => h) ?_ (by assumption) ?_
        rotate_left
        · (intro w hSw; go_simp; try (with_reducible rfl))
        try simp only [Act.put, List.setIfInBounds_toArray, List.set_cons_zero, List.set_cons_succ]
        refine takeFirst (i := 10) (v := ?_) rfl (by kernel_rfl) (by kernel_rfl) (by kernel_rfl) (by rfl) (fun _ _ _ h => h) ?_ (by assumption) ?_
        rotate_left
        · (intro w hSw; go_simp; try (with_reducible rfl))
        try simp only [Act.put, List.setIfInBounds_toArray, List.set_cons_zero, List.set_cons_succ]
        refine takeFirst (i := 11) (v := ?_) rfl (by kernel_rfl) (by kernel_rfl) (by kernel_rfl) (by rfl) (fun _ _ _ h => h) ?_ (by assumption) ?_
        rotate_left
        · (intro w hSw; go_simp; try (with_reducible rfl))
        try simp only [Act.put, List.setIfInBounds_toArray, List.set_cons_zero, List.set_cons_succ]
        refine relist (l2 := #[true, true, true, true, true, true, true, true, true, true, true, true, true, true, false, false, false]) (by kernel_rfl) ?_
        exact hE _ _ _ _ _ mid
  intro ga gb Az cz w6 mid
  obtain ⟨hga, ab⟩ := mid.fa ga rfl
  obtain ⟨hgb, yb⟩ := mid.fb gb rfl
  have gne := mid.ne ga gb rfl rfl
  obtain ⟨Bz, Cz, hBz, hCz, frz, hfar⟩ := mid.fr _ _ rfl
  have fa1 := hfar ga (.inl rfl)
  have fa2 := hfar gb (.inr rfl)
  have near := mid.low
  clear hfar mid
  obtain ⟨hh0, hh1, hh2, hh3, hh4, hh5, hh6, hh7, hh8, hh9, hh10⟩ := hHeld
  have hHeld := (And.intro (callC near hh0) (And.intro (callC near hh1) (And.intro (callC near hh2) (And.intro (callC near hh3) (And.intro (callC near hh4) (And.intro (callC near hh5) (And.intro (callC near hh6) (And.intro (callC near hh7) (And.intro (callC near hh8) (And.intro (callC near hh9) (callC near hh10)))))))))))
  clear hh0 hh1 hh2 hh3 hh4 hh5 hh6 hh7 hh8 hh9 hh10
  replace ob := ob.call near
  replace low := gCall low near
  refine stepNext (i := 14) (by kernel_rfl) rfl (by rfl) (fun K hK => ?_)
  refine wp_store_box 77 (.tmp 11) (.tmp 33) rfl _ _ rfl rfl ab size_row rfl (by simp [Value.oneCell']) ?_
  intro w7 ab st
  replace yb := st.box yb (by omega)
  replace ob := st.box ob (by omega)
  replace frz := st.fr frz fa1
  replace low := st.low low (by omega)
  replace near := st.low near (by omega)
  have z7 := st.size
  obtain ⟨hh0, hh1, hh2, hh3, hh4, hh5, hh6, hh7, hh8, hh9, hh10⟩ := hHeld
  have hHeld := (And.intro (st.cell (by dsimp only; omega) hh0) (And.intro (st.cell (by dsimp only; omega) hh1) (And.intro (st.cell (by dsimp only; omega) hh2) (And.intro (st.cell (by dsimp only; omega) hh3) (And.intro (st.cell (by dsimp only; omega) hh4) (And.intro (st.cell (by dsimp only; omega) hh5) (And.intro (st.cell (by dsimp only; omega) hh6) (And.intro (st.cell (by dsimp only; omega) hh7) (And.intro (st.cell (by dsimp only; omega) hh8) (And.intro (st.cell (by dsimp only; omega) hh9) (st.cell (by dsimp only; omega) hh10)))))))))))
  clear hh0 hh1 hh2 hh3 hh4 hh5 hh6 hh7 hh8 hh9 hh10
  clear st
  refine hK.out _ _ hHeld ?_
  clear hK K
  try simp only [Act.put]
  try simp only [List.setIfInBounds_toArray, List.set_cons_zero, List.set_cons_succ]
  refine stepNext (i := 15) (by kernel_rfl) rfl (by rfl) (fun K hK => ?_)
  refine wp_store_box 80 (.tmp 12) (.tmp 34) rfl _ _ rfl rfl yb size_way rfl (by simp [Value.oneCell']) ?_
  intro w8 yb st
  replace ab := st.box ab (by omega)
  replace ob := st.box ob (by omega)
  replace frz := st.fr frz fa2
  replace low := st.low low (by omega)
  replace near := st.low near (by omega)
  have z8 := st.size
  obtain ⟨hh0, hh1, hh2, hh3, hh4, hh5, hh6, hh7, hh8, hh9, hh10⟩ := hHeld
  have hHeld := (And.intro (st.cell (by dsimp only; omega) hh0) (And.intro (st.cell (by dsimp only; omega) hh1) (And.intro (st.cell (by dsimp only; omega) hh2) (And.intro (st.cell (by dsimp only; omega) hh3) (And.intro (st.cell (by dsimp only; omega) hh4) (And.intro (st.cell (by dsimp only; omega) hh5) (And.intro (st.cell (by dsimp only; omega) hh6) (And.intro (st.cell (by dsimp only; omega) hh7) (And.intro (st.cell (by dsimp only; omega) hh8) (And.intro (st.cell (by dsimp only; omega) hh9) (st.cell (by dsimp only; omega) hh10)))))))))))
  clear hh0 hh1 hh2 hh3 hh4 hh5 hh6 hh7 hh8 hh9 hh10
  clear st
  refine hK.out _ _ hHeld ?_
  clear hK K
  try simp only [Act.put]
  try simp only [List.setIfInBounds_toArray, List.set_cons_zero, List.set_cons_succ]
  refine stepNext (i := 16) (by kernel_rfl) rfl (by rfl) (fun K hK => ?_)
  go_simp
  refine hK.out _ _ hHeld ?_
  clear hK K
  try simp only [Act.put]
  try simp only [List.setIfInBounds_toArray, List.set_cons_zero, List.set_cons_succ]
  refine wpAnyH_done (by kernel_rfl) ?_ _
  refine NoPanic.normal ?_
  clear hHeld WS CT
  replace h := h.call near
  cases hE : (E != 0)
  rotate_left
  · have hE' : E ≠ 0 := by simpa using hE
    have ob_0 := ob.at_ 0 rfl
    have ob_1 := ob.at_ 1 rfl
    have ob_2 := ob.at_ 2 rfl
    have ob_3 := ob.at_ 3 rfl
    have ob_4 := ob.at_ 4 rfl
    have ob_5 := ob.at_ 5 rfl
    have ob_f0 := ob.frozen 0
    have ob_f1 := ob.frozen 1
    have ob_f2 := ob.frozen 2
    have ob_f3 := ob.frozen 3
    have ob_f4 := ob.frozen 4
    have ob_f5 := ob.frozen 5
    have z9 : w.heap.size + 1 + 1 < w8.heap.size := ob.lt
    go_wp2_with fail
    refine bodyPost_ret (v := .tuple #[.slice none 0 0, zeroV, .int .i64 E]) (by simp [results, Tryz.results136, go_sem, ob_0, ob_1, ob_2, ob_3, ob_4, ob_5]) rfl ⟨.inl ⟨hE', rfl⟩, ?_⟩
    repeat (refine gSet ?_ (by dsimp only; omega) _)
    exact low
  · obtain rfl : E = 0 := by simpa using hE
    obtain ⟨a0, a1, a2, a3⟩ := ab.rowC
    obtain ⟨y0, y1, y2, y3, y4, y5⟩ := yb.wayC
    have frB : Fr w8.drew wN.heap.size w8.drew.heap.size (.slice Az la.length cz) la := (frz.more (B' := wN.heap.size) (C' := w8.heap.size) (by omega) (by omega)).call (Below.refl _ _).drew
    have sz8 : wN.heap.size ≤ w8.drew.heap.size := near.size
    clear frz fa1 fa2
    go_wp2_with fail
    refine wp_region_noPanic ?_
    refine wp_region_held_drew (S := fun w' => w'.cell? ⟨ga, 0, none⟩ = some (.slice Az la.length cz) ∧ w'.cell? ⟨ga, 1, none⟩ = some (.bool tt.1) ∧ w'.cell? ⟨ga, 2, none⟩ = some (.bool tt.2.1) ∧ w'.cell? ⟨ga, 3, none⟩ = some (.bool tt.2.2) ∧ w'.cell? ⟨gb, 0, none⟩ = some (.int .i64 z.st) ∧ w'.cell? ⟨gb, 1, none⟩ = some (.int .i64 z.ln) ∧ w'.cell? ⟨gb, 2, none⟩ = some (.int .u64 z.a) ∧ w'.cell? ⟨gb, 3, none⟩ = some (.int .u64 z.b) ∧ w'.cell? ⟨gb, 4, none⟩ = some (.int .u64 z.c) ∧ w'.cell? ⟨gb, 5, none⟩ = some (.int .u64 z.d)) (by kernel_rfl) ⟨drewC a0, drewC a1, drewC a2, drewC a3, drewC y0, drewC y1, drewC y2, drewC y3, drewC y4, drewC y5⟩ (fun hHeld => ?_)
    clear a0 a1 a2 a3 y0 y1 y2 y3 y4 y5 ab yb
    refine takeFirst (i := 0) (v := ?_) rfl (by kernel_rfl) (by kernel_rfl) (by kernel_rfl) (by rfl) (fun _ _ _ h => h) ?_ (by assumption) ?_
    rotate_left
    · (intro w hSw; go_simp; try (with_reducible rfl))
    try simp only [Act.put, List.setIfInBounds_toArray, List.set_cons_zero, List.set_cons_succ]
    refine takeFirst (i := 1) (v := ?_) rfl (by kernel_rfl) (by kernel_rfl) (by kernel_rfl) (by rfl) (fun _ _ _ h => h) ?_ (by assumption) ?_
    rotate_left
    · (intro w hSw; go_simp; try (with_reducible rfl))
    try simp only [Act.put, List.setIfInBounds_toArray, List.set_cons_zero, List.set_cons_succ]
    refine takeFirst (i := 2) (v := ?_) rfl (by kernel_rfl) (by kernel_rfl) (by kernel_rfl) (by rfl) (fun _ _ _ h => h) ?_ (by assumption) ?_
    rotate_left
    · (intro w hSw; go_simp; try (with_reducible rfl))
    try simp only [Act.put, List.setIfInBounds_toArray, List.set_cons_zero, List.set_cons_succ]
    refine takeFirst (i := 4) (v := ?_) rfl (by kernel_rfl) (by kernel_rfl) (by kernel_rfl) (by rfl) (fun _ _ _ h => h) ?_ (by assumption) ?_
    rotate_left
    · (intro w hSw; go_simp; try (with_reducible rfl))
    try simp only [Act.put, List.setIfInBounds_toArray, List.set_cons_zero, List.set_cons_succ]
    refine stepNext (i := 3) (by kernel_rfl) rfl (by rfl) (fun K hK => ?_)
    go_simp
    (with_reducible refine (Calls.mono (cacheReplace_l _ ss k Az cz la _ _ _ _ wN.heap.size h.drew kl SM.out frB sz8) ?_)); rintro e w9 ⟨⟨A2, c2, rfl, cf⟩, hb9⟩
    replace ob := ob.drew.call hb9
    replace low := gCall low.drew hb9
    have z9 : w8.heap.size ≤ w9.heap.size := hb9.size
    obtain ⟨hh0, hh1, hh2, hh3, hh4, hh5, hh6, hh7, hh8, hh9⟩ := hHeld
    have hHeld := (And.intro (callC hb9 hh0) (And.intro (callC hb9 hh1) (And.intro (callC hb9 hh2) (And.intro (callC hb9 hh3) (And.intro (callC hb9 hh4) (And.intro (callC hb9 hh5) (And.intro (callC hb9 hh6) (And.intro (callC hb9 hh7) (And.intro (callC hb9 hh8) (callC hb9 hh9))))))))))
    clear hh0 hh1 hh2 hh3 hh4 hh5 hh6 hh7 hh8 hh9
    clear hb9
    refine hK.out _ _ hHeld ?_
    clear hK K
    try simp only [Act.put]
    try simp only [List.setIfInBounds_toArray, List.set_cons_zero, List.set_cons_succ]
    refine stepNext (i := 5) (by kernel_rfl) rfl (by rfl) (fun K hK => ?_)
    go_simp
    refine hK.out _ _ hHeld ?_
    clear hK K
    try simp only [Act.put]
    try simp only [List.setIfInBounds_toArray, List.set_cons_zero, List.set_cons_succ]
    refine stepNext (i := 6) (by kernel_rfl) rfl (by rfl) (fun K hK => ?_)
    refine wp_store_box 80 (.tmp 7) (.tmp 44) rfl _ _ rfl rfl ob size_way rfl (by simp [Value.oneCell']) ?_
    intro w10 ob st
    replace cf := cf.out st (.inl (by omega))
    replace low := st.low low (by omega)
    have z10 := st.size
    have z11 : w8.heap.size = w8.drew.heap.size := rfl
    obtain ⟨hh0, hh1, hh2, hh3, hh4, hh5, hh6, hh7, hh8, hh9⟩ := hHeld
    have hHeld := (And.intro (st.cell (by dsimp only; omega) hh0) (And.intro (st.cell (by dsimp only; omega) hh1) (And.intro (st.cell (by dsimp only; omega) hh2) (And.intro (st.cell (by dsimp only; omega) hh3) (And.intro (st.cell (by dsimp only; omega) hh4) (And.intro (st.cell (by dsimp only; omega) hh5) (And.intro (st.cell (by dsimp only; omega) hh6) (And.intro (st.cell (by dsimp only; omega) hh7) (And.intro (st.cell (by dsimp only; omega) hh8) (st.cell (by dsimp only; omega) hh9))))))))))
    clear hh0 hh1 hh2 hh3 hh4 hh5 hh6 hh7 hh8 hh9
    clear st
    refine hK.out _ _ hHeld ?_
    clear hK K
    try simp only [Act.put]
    try simp only [List.setIfInBounds_toArray, List.set_cons_zero, List.set_cons_succ]
    refine stepNext (i := 7) (by kernel_rfl) rfl (by rfl) (fun K hK => ?_)
    go_simp
    refine hK.out _ _ hHeld ?_
    clear hK K
    try simp only [Act.put]
    try simp only [List.setIfInBounds_toArray, List.set_cons_zero, List.set_cons_succ]
    refine wpAnyH_done (by kernel_rfl) ?_ _
    refine NoPanic.normal ?_
    clear hHeld
    obtain ⟨q0, q1, q2, q3, q4, q5⟩ := ob.wayC
    have CF := Lib.hid (cf.more (B' := w.heap.size) (C' := w10.heap.size) (by omega) (by omega))
    clear cf
    go_wp2_with fail
    refine bodyPost_ret (v := .tuple #[.slice A2 ss.length c2, z.val, .int .i64 0]) (by simp [results, Tryz.results136, go_sem, q0, q1, q2, q3, q4, q5]) rfl ⟨⟨A2, c2, rfl, CF.out⟩, low⟩

theorem cacheTake_bad (n s y b : Int) (v : Value) (ss : List St) (m : Int) (w : World) (h : Cs w v ss) (he : lineE n s y b ss m ≠ 0) :
    Calls Tryz.prog 135 #[cfg n s y b, v, .int .i64 m] w fun e w' => e = .returned (.tuple #[.slice none 0 0, zeroV, .int .i64 (lineE n s y b ss m)]) ∧ Below w.heap.size w w' := by
  have low := Below.refl w.heap.size w
  have cb := boxNext low 23 (cfgA n s y b)
  replace low := gAlloc low (.cells (cfgA n s y b) 23)
  replace h := h.alloc (.cells (cfgA n s y b) 23)
  try simp only [World.size_alloc] at cb
  have ob := boxNext low 80 zeroA
  replace low := gAlloc low (.cells zeroA 80)
  replace h := h.alloc (.cells zeroA 80)
  replace cb := cb.alloc (.cells zeroA 80)
  try simp only [World.size_alloc] at ob
  simp only [zeroA] at ob
  have C := Lib.hid fun w hw => setOfLine_bad n s y b v ss m w hw he
  generalize lineE n s y b ss m = E at C he ⊢
  have he' : (E != 0) = true := by simpa using he
  clear he
  go_enter Tryz.func135, Tryz.ntmps135
  go_wp2_with fail
  (with_reducible refine (C.out _ h).mono ?_); rintro e w1 ⟨rfl, hb⟩
  replace ob := ob.call hb
  replace low := gCall low hb
  clear hb
  have ob_0 := ob.at_ 0 rfl
  have ob_1 := ob.at_ 1 rfl
  have ob_2 := ob.at_ 2 rfl
  have ob_3 := ob.at_ 3 rfl
  have ob_4 := ob.at_ 4 rfl
  have ob_5 := ob.at_ 5 rfl
  have ob_f0 := ob.frozen 0
  have ob_f1 := ob.frozen 1
  have ob_f2 := ob.frozen 2
  have ob_f3 := ob.frozen 3
  have ob_f4 := ob.frozen 4
  have ob_f5 := ob.frozen 5
  have z1 : w.heap.size + 1 < w1.heap.size := ob.lt
  go_wp2_with fail
  refine bodyPost_ret (v := .tuple #[.slice none 0 0, zeroV, .int .i64 E]) (by simp [results, Tryz.results135, go_sem, ob_0, ob_1, ob_2, ob_3, ob_4, ob_5]) rfl ⟨rfl, ?_⟩
  repeat (refine gSet ?_ (by dsimp only; omega) _)
  exact low

set_option maxRecDepth 10000 in
set_option maxHeartbeats 2000000 in
theorem cacheTake_in (n s y b : Int) (v : Value) (ss : List St) (m : Int) (k : Nat) (t : St) (w : World) (h : Cs w v ss) (he : lineE n s y b ss m = 0) (hk : m % s = k) (ht : ss[k]? = some t) :
    ∃ la tt z E, TakeIs t.l t.a t.b t.c y m la tt z E ∧ Calls Tryz.prog 135 #[cfg n s y b, v, .int .i64 m] w fun e w' =>
      ((E ≠ 0 ∧ e = .returned (.tuple #[.slice none 0 0, zeroV, .int .i64 E])) ∨ (E = 0 ∧ ∃ A c, e = .returned (.tuple #[.slice A ss.length c, z.val, .int .i64 0]) ∧ CFr w' w.heap.size w'.heap.size (.slice A ss.length c) (ss.set k ⟨la, tt.1, tt.2.1, tt.2.2⟩))) ∧ Below w.heap.size w w' := by
  obtain ⟨g1, g2, g3⟩ := lineE_ok he
  have good := goodC_iff.1 g1
  have SM := Lib.hid good.small
  have kl := st_lt ht
  obtain ⟨A, cp, rfl, h1, h2, h3⟩ := h.ex
  obtain ⟨bb, o, rfl, hb, hc⟩ := h3 (by omega)
  obtain ⟨A', c', ra, ws⟩ := hc.at_ k t ht
  obtain ⟨la, tt, z, E, PI, P⟩ := take_fr (.slice A' t.l.length c') t.l t.a t.b t.c y m
  refine ⟨la, tt, z, E, PI, ?_⟩
  unfold GivesF at P
  have CT := Lib.hid P
  have C := Lib.hid fun w hw => setOfLine_ok n s y b (.slice (some ⟨bb, o, none⟩) ss.length cp) ss m w hw he
  rw [hk] at C
  have kc : (k : Int) < ss.length := by omega
  have k0 : (0 : Int) ≤ k := by omega
  clear P PI h1 h2 h3 hc good g1 g2 g3 he hk ht
  have low := Below.refl w.heap.size w
  have cb := boxNext low 23 (cfgA n s y b)
  replace low := gAlloc low (.cells (cfgA n s y b) 23)
  replace h := h.alloc (.cells (cfgA n s y b) 23)
  try simp only [World.size_alloc] at cb
  have ob := boxNext low 80 zeroA
  replace low := gAlloc low (.cells zeroA 80)
  replace h := h.alloc (.cells zeroA 80)
  replace cb := cb.alloc (.cells zeroA 80)
  try simp only [World.size_alloc] at ob
  simp only [zeroA] at ob
  go_enter Tryz.func135, Tryz.ntmps135
  go_wp2_with fail
  (with_reducible refine (C.out _ h).mono ?_); rintro e w1 ⟨rfl, hb⟩
  replace ob := ob.call hb
  replace cb := cb.call hb
  replace h := h.call hb
  replace low := gCall low hb
  clear hb
  clear C
  obtain ⟨r0, r1, r2, r3⟩ := rowAt_of ra hb low
  have q2 := cb.at_ 2 rfl
  replace ws := ws.call low
  have z1 : w.heap.size + 1 < w1.heap.size := ob.lt
  clear ra
  go_wp2_with fail
  refine wp_region_noPanic ?_
  refine wp_region_held_drew (S := fun w' => w'.cell? ⟨bb, o + k * 4, none⟩ = some (.slice A' t.l.length c') ∧ w'.cell? ⟨bb, o + k * 4 + 1, none⟩ = some (.bool t.a) ∧ w'.cell? ⟨bb, o + k * 4 + 2, none⟩ = some (.bool t.b) ∧ w'.cell? ⟨bb, o + k * 4 + 3, none⟩ = some (.bool t.c) ∧ w'.cell? ⟨w.heap.size, 2, none⟩ = some (.int .i64 y)) (by kernel_rfl) ⟨drewC r0, drewC r1, drewC r2, drewC r3, drewC q2⟩ (fun hHeld => ?_)
  clear r0 r1 r2 r3 q2 cb
  have z1 : w.heap.size + 1 < w1.drew.heap.size := z1
  replace ws := ws.drew
  replace ob := ob.drew
  replace h := h.drew
  replace low := low.drew
  generalize w1.drew = wN at *
  have WS := Lib.hid ws
  clear ws
  refine takeFirst (i := 0) (v := ?_) rfl (by kernel_rfl) (by kernel_rfl) (by kernel_rfl) (by rfl) (fun _ _ _ h => h) ?_ (by assumption) ?_
  rotate_left
  · (intro w hSw; go_simp; try (with_reducible rfl))
  try simp only [Act.put, List.setIfInBounds_toArray, List.set_cons_zero, List.set_cons_succ]
  refine takeFirst (i := 1) (v := ?_) rfl (by kernel_rfl) (by kernel_rfl) (by kernel_rfl) (by rfl) (fun _ _ _ h => h) ?_ (by assumption) ?_
  rotate_left
  · (intro w hSw; go_simp; try (with_reducible rfl))
  try simp only [Act.put, List.setIfInBounds_toArray, List.set_cons_zero, List.set_cons_succ]
  refine takeFirst (i := 2) (v := ?_) rfl (by kernel_rfl) (by kernel_rfl) (by kernel_rfl) (by rfl) (fun _ _ _ h => h) ?_ (by assumption) ?_
  rotate_left
  · (intro w hSw; go_simp; try (with_reducible rfl))
  try simp only [Act.put, List.setIfInBounds_toArray, List.set_cons_zero, List.set_cons_succ]
  refine takeFirst (i := 3) (v := ?_) rfl (by kernel_rfl) (by kernel_rfl) (by kernel_rfl) (by rfl) (fun _ _ _ h => h) ?_ (by assumption) ?_
  rotate_left
  · (intro w hSw; go_simp; try (with_reducible rfl))
  try simp only [Act.put, List.setIfInBounds_toArray, List.set_cons_zero, List.set_cons_succ]
  refine takeFirst (i := 4) (v := ?_) rfl (by kernel_rfl) (by kernel_rfl) (by kernel_rfl) (by rfl) (fun _ _ _ h => h) ?_ (by assumption) ?_
  rotate_left
  · (intro w hSw; go_simp; try (with_reducible rfl))
  try simp only [Act.put, List.setIfInBounds_toArray, List.set_cons_zero, List.set_cons_succ]
  refine takeFirst (i := 5) (v := ?_) rfl (by kernel_rfl) (by kernel_rfl) (by kernel_rfl) (by rfl) (fun _ _ _ h => h) ?_ (by assumption) ?_
  rotate_left
  · (intro w hSw; go_simp; try (with_reducible rfl))
  try simp only [Act.put, List.setIfInBounds_toArray, List.set_cons_zero, List.set_cons_succ]
  refine takeFirst (i := 6) (v := ?_) rfl (by kernel_rfl) (by kernel_rfl) (by kernel_rfl) (by rfl) (fun _ _ _ h => h) ?_ (by assumption) ?_
  rotate_left
  · (intro w hSw; go_simp; try (with_reducible rfl))
  try simp only [Act.put, List.setIfInBounds_toArray, List.set_cons_zero, List.set_cons_succ]
  apply share (M := fun ga gb A c wz => Mid wN 77 (rowA (.slice none 0 0) false false false) 80 zeroA wz (some ga) (some gb) (some (.slice A la.length c, la)))
  · intro hE
    have mid := Mid.start wN 77 (rowA (.slice none 0 0) false false false) 80 zeroA
    refine stepThree (i1 := 7) (i2 := 12) (i3 := 13) (by kernel_rfl) rfl rfl rfl (by rfl) (by rfl) (by rfl) (fun K hK => ?_) (fun K hK => ?_) (fun K hK => ?_)
    · go_simp
      (with_reducible refine (Calls.mono (CT.out _ (WS.out.call mid.low)) ?_)); rintro e wx ⟨⟨Az, cz, rfl, frz⟩, hbz⟩
      replace mid := mid.call hbz frz
      clear hbz frz
      try clear hNow
      have hNow := (And.intro (callC mid.low hHeld.1) (And.intro (callC mid.low hHeld.2.1) (And.intro (callC mid.low hHeld.2.2.1) (And.intro (callC mid.low hHeld.2.2.2.1) (callC mid.low hHeld.2.2.2.2)))))
      refine hK.out _ _ hNow ?_
      clear hK K
      try simp only [Act.put]
      try simp only [List.setIfInBounds_toArray, List.set_cons_zero, List.set_cons_succ]
      refine takeFirst (i := 8) (v := ?_) rfl (by kernel_rfl) (by kernel_rfl) (by kernel_rfl) (by rfl) (fun _ _ _ h => h) ?_ (by assumption) ?_
      rotate_left
      · (intro w hSw; go_simp; try (with_reducible rfl))
      try simp only [Act.put, List.setIfInBounds_toArray, List.set_cons_zero, List.set_cons_succ]
      refine takeFirst (i := 9) (v := ?_) rfl (by kernel_rfl) (by kernel_rfl) (by kernel_rfl) (by rfl) (fun _ _ _ h => h) ?_ (by assumption) ?_
      rotate_left
      · (intro w hSw; go_simp; try (with_reducible rfl))
      try simp only [Act.put, List.setIfInBounds_toArray, List.set_cons_zero, List.set_cons_succ]
      refine takeFirst (i := 10) (v := ?_) rfl (by kernel_rfl) (by kernel_rfl) (by kernel_rfl) (by rfl) (fun _ _ _ h => h) ?_ (by assumption) ?_
      rotate_left
      · (intro w hSw; go_simp; try (with_reducible rfl))
      try simp only [Act.put, List.setIfInBounds_toArray, List.set_cons_zero, List.set_cons_succ]
      refine takeFirst (i := 11) (v := ?_) rfl (by kernel_rfl) (by kernel_rfl) (by kernel_rfl) (by rfl) (fun _ _ _ h => h) ?_ (by assumption) ?_
      rotate_left
      · (intro w hSw; go_simp; try (with_reducible rfl))
      try simp only [Act.put, List.setIfInBounds_toArray, List.set_cons_zero, List.set_cons_succ]
      refine stepTwo (i1 := 12) (i2 := 13) (by kernel_rfl) rfl rfl (by rfl) (by rfl) (fun K hK => ?_) (fun K hK => ?_)
      · go_simp
        replace mid := mid.allocA
        try clear hNow
        have hNow := (And.intro (callC mid.low hHeld.1) (And.intro (callC mid.low hHeld.2.1) (And.intro (callC mid.low hHeld.2.2.1) (And.intro (callC mid.low hHeld.2.2.2.1) (callC mid.low hHeld.2.2.2.2)))))
        refine hK.out _ _ hNow ?_
        clear hK K
        try simp only [Act.put]
        try simp only [List.setIfInBounds_toArray, List.set_cons_zero, List.set_cons_succ]
        generalize wx.heap.size = ga at mid ⊢
        generalize wx.alloc (.cells (rowA (.slice none 0 0) false false false) 77) = wy at mid ⊢
        refine stepNext (i := 13) (by kernel_rfl) rfl (by rfl) (fun K hK => ?_)
        go_simp
        replace mid := mid.allocB
        try clear hNow
        have hNow := (And.intro (callC mid.low hHeld.1) (And.intro (callC mid.low hHeld.2.1) (And.intro (callC mid.low hHeld.2.2.1) (And.intro (callC mid.low hHeld.2.2.2.1) (callC mid.low hHeld.2.2.2.2)))))
        refine hK.out _ _ hNow ?_
        clear hK K
        try simp only [Act.put]
        try simp only [List.setIfInBounds_toArray, List.set_cons_zero, List.set_cons_succ]
        generalize wy.heap.size = gb at mid ⊢
        generalize wy.alloc (.cells zeroA 80) = wz at mid ⊢
        refine relist (l2 := #[true, true, true, true, true, true, true, true, true, true, true, true, true, true, false, false, false]) (by kernel_rfl) ?_
        exact hE _ _ _ _ _ mid
      · go_simp
        replace mid := mid.allocB
        try clear hNow
        have hNow := (And.intro (callC mid.low hHeld.1) (And.intro (callC mid.low hHeld.2.1) (And.intro (callC mid.low hHeld.2.2.1) (And.intro (callC mid.low hHeld.2.2.2.1) (callC mid.low hHeld.2.2.2.2)))))
        refine hK.out _ _ hNow ?_
        clear hK K
        try simp only [Act.put]
        try simp only [List.setIfInBounds_toArray, List.set_cons_zero, List.set_cons_succ]
        generalize wx.heap.size = gb at mid ⊢
        generalize wx.alloc (.cells zeroA 80) = wy at mid ⊢
        refine stepNext (i := 12) (by kernel_rfl) rfl (by rfl) (fun K hK => ?_)
        go_simp
        replace mid := mid.allocA
        try clear hNow
        have hNow := (And.intro (callC mid.low hHeld.1) (And.intro (callC mid.low hHeld.2.1) (And.intro (callC mid.low hHeld.2.2.1) (And.intro (callC mid.low hHeld.2.2.2.1) (callC mid.low hHeld.2.2.2.2)))))
        refine hK.out _ _ hNow ?_
        clear hK K
        try simp only [Act.put]
        try simp only [List.setIfInBounds_toArray, List.set_cons_zero, List.set_cons_succ]
        generalize wy.heap.size = ga at mid ⊢
        generalize wy.alloc (.cells (rowA (.slice none 0 0) false false false) 77) = wz at mid ⊢
        refine relist (l2 := #[true, true, true, true, true, true, true, true, true, true, true, true, true, true, false, false, false]) (by kernel_rfl) ?_
        exact hE _ _ _ _ _ mid
    · go_simp
      replace mid := mid.allocA
      try clear hNow
      have hNow := (And.intro (callC mid.low hHeld.1) (And.intro (callC mid.low hHeld.2.1) (And.intro (callC mid.low hHeld.2.2.1) (And.intro (callC mid.low hHeld.2.2.2.1) (callC mid.low hHeld.2.2.2.2)))))
      refine hK.out _ _ hNow ?_
      clear hK K
      try simp only [Act.put]
      try simp only [List.setIfInBounds_toArray, List.set_cons_zero, List.set_cons_succ]
      generalize wN.heap.size = ga at mid ⊢
      generalize wN.alloc (.cells (rowA (.slice none 0 0) false false false) 77) = wx at mid ⊢
      refine stepTwo (i1 := 7) (i2 := 13) (by kernel_rfl) rfl rfl (by rfl) (by rfl) (fun K hK => ?_) (fun K hK => ?_)
      · go_simp
        (with_reducible refine (Calls.mono (CT.out _ (WS.out.call mid.low)) ?_)); rintro e wy ⟨⟨Az, cz, rfl, frz⟩, hbz⟩
        replace mid := mid.call hbz frz
        clear hbz frz
        try clear hNow
        have hNow := (And.intro (callC mid.low hHeld.1) (And.intro (callC mid.low hHeld.2.1) (And.intro (callC mid.low hHeld.2.2.1) (And.intro (callC mid.low hHeld.2.2.2.1) (callC mid.low hHeld.2.2.2.2)))))
        refine hK.out _ _ hNow ?_
        clear hK K
        try simp only [Act.put]
        try simp only [List.setIfInBounds_toArray, List.set_cons_zero, List.set_cons_succ]
        refine takeFirst (i := 8) (v := ?_) rfl (by kernel_rfl) (by kernel_rfl) (by kernel_rfl) (by rfl) (fun _ _ _ h => h) ?_ (by assumption) ?_
        rotate_left
        · (intro w hSw; go_simp; try (with_reducible rfl))
        try simp only [Act.put, List.setIfInBounds_toArray, List.set_cons_zero, List.set_cons_succ]
        refine takeFirst (i := 9) (v := ?_) rfl (by kernel_rfl) (by kernel_rfl) (by kernel_rfl) (by rfl) (fun _ _ _ h => h) ?_ (by assumption) ?_
        rotate_left
        · (intro w hSw; go_simp; try (with_reducible rfl))
        try simp only [Act.put, List.setIfInBounds_toArray, List.set_cons_zero, List.set_cons_succ]
        refine takeFirst (i := 10) (v := ?_) rfl (by kernel_rfl) (by kernel_rfl) (by kernel_rfl) (by rfl) (fun _ _ _ h => h) ?_ (by assumption) ?_
        rotate_left
        · (intro w hSw; go_simp; try (with_reducible rfl))
        try simp only [Act.put, List.setIfInBounds_toArray, List.set_cons_zero, List.set_cons_succ]
        refine takeFirst (i := 11) (v := ?_) rfl (by kernel_rfl) (by kernel_rfl) (by kernel_rfl) (by rfl) (fun _ _ _ h => h) ?_ (by assumption) ?_
        rotate_left
        · (intro w hSw; go_simp; try (with_reducible rfl))
        try simp only [Act.put, List.setIfInBounds_toArray, List.set_cons_zero, List.set_cons_succ]
        refine stepNext (i := 13) (by kernel_rfl) rfl (by rfl) (fun K hK => ?_)
        go_simp
        replace mid := mid.allocB
        try clear hNow
        have hNow := (And.intro (callC mid.low hHeld.1) (And.intro (callC mid.low hHeld.2.1) (And.intro (callC mid.low hHeld.2.2.1) (And.intro (callC mid.low hHeld.2.2.2.1) (callC mid.low hHeld.2.2.2.2)))))
        refine hK.out _ _ hNow ?_
        clear hK K
        try simp only [Act.put]
        try simp only [List.setIfInBounds_toArray, List.set_cons_zero, List.set_cons_succ]
        generalize wy.heap.size = gb at mid ⊢
        generalize wy.alloc (.cells zeroA 80) = wz at mid ⊢
        refine relist (l2 := #[true, true, true, true, true, true, true, true, true, true, true, true, true, true, false, false, false]) (by kernel_rfl) ?_
        exact hE _ _ _ _ _ mid
      · go_simp
        replace mid := mid.allocB
        try clear hNow
        have hNow := (And.intro (callC mid.low hHeld.1) (And.intro (callC mid.low hHeld.2.1) (And.intro (callC mid.low hHeld.2.2.1) (And.intro (callC mid.low hHeld.2.2.2.1) (callC mid.low hHeld.2.2.2.2)))))
        refine hK.out _ _ hNow ?_
        clear hK K
        try simp only [Act.put]
        try simp only [List.setIfInBounds_toArray, List.set_cons_zero, List.set_cons_succ]
        generalize wx.heap.size = gb at mid ⊢
        generalize wx.alloc (.cells zeroA 80) = wy at mid ⊢
        refine stepNext (i := 7) (by kernel_rfl) rfl (by rfl) (fun K hK => ?_)
        go_simp
        (with_reducible refine (Calls.mono (CT.out _ (WS.out.call mid.low)) ?_)); rintro e wz ⟨⟨Az, cz, rfl, frz⟩, hbz⟩
        replace mid := mid.call hbz frz
        clear hbz frz
        try clear hNow
        have hNow := (And.intro (callC mid.low hHeld.1) (And.intro (callC mid.low hHeld.2.1) (And.intro (callC mid.low hHeld.2.2.1) (And.intro (callC mid.low hHeld.2.2.2.1) (callC mid.low hHeld.2.2.2.2)))))
        refine hK.out _ _ hNow ?_
        clear hK K
        try simp only [Act.put]
        try simp only [List.setIfInBounds_toArray, List.set_cons_zero, List.set_cons_succ]
        refine takeFirst (i := 8) (v := ?_) rfl (by kernel_rfl) (by kernel_rfl) (by kernel_rfl) (by rfl) (fun _ _ _ h => h) ?_ (by assumption) ?_
        rotate_left
        · (intro w hSw; go_simp; try (with_reducible rfl))
        try simp only [Act.put, List.setIfInBounds_toArray, List.set_cons_zero, List.set_cons_succ]
        refine takeFirst (i := 9) (v := ?_) rfl (by kernel_rfl) (by kernel_rfl) (by kernel_rfl) (by rfl) (fun _ _ _ h => h) ?_ (by assumption) ?_
        rotate_left
        · (intro w hSw; go_simp; try (with_reducible rfl))
        try simp only [Act.put, List.setIfInBounds_toArray, List.set_cons_zero, List.set_cons_succ]
        refine takeFirst (i := 10) (v := ?_) rfl (by kernel_rfl) (by kernel_rfl) (by kernel_rfl) (by rfl) (fun _ _ _ h => h) ?_ (by assumption) ?_
        rotate_left
        · (intro w hSw; go_simp; try (with_reducible rfl))
        try simp only [Act.put, List.setIfInBounds_toArray, List.set_cons_zero, List.set_cons_succ]
        refine takeFirst (i := 11) (v := ?_) rfl (by kernel_rfl) (by kernel_rfl) (by kernel_rfl) (by rfl) (fun _ _ _ h => h) ?_ (by assumption) ?_
        rotate_left
        · (intro w hSw; go_simp; try (with_reducible rfl))
        try simp only [Act.put, List.setIfInBounds_toArray, List.set_cons_zero, List.set_cons_succ]
        refine relist (l2 := #[true, true, true, true, true, true, true, true, true, true, true, true, true, true, false, false, false]) (by kernel_rfl) ?_
        exact hE _ _ _ _ _ mid
    · go_simp
      replace mid := mid.allocB
      try clear hNow
      have hNow := (And.intro (callC mid.low hHeld.1) (And.intro (callC mid.low hHeld.2.1) (And.intro (callC mid.low hHeld.2.2.1) (And.intro (callC mid.low hHeld.2.2.2.1) (callC mid.low hHeld.2.2.2.2)))))
      refine hK.out _ _ hNow ?_
      clear hK K
      try simp only [Act.put]
      try simp only [List.setIfInBounds_toArray, List.set_cons_zero, List.set_cons_succ]
      generalize wN.heap.size = gb at mid ⊢
      generalize wN.alloc (.cells zeroA 80) = wx at mid ⊢
      refine stepTwo (i1 := 7) (i2 := 12) (by kernel_rfl) rfl rfl (by rfl) (by rfl) (fun K hK => ?_) (fun K hK => ?_)
      · go_simp
        (with_reducible refine (Calls.mono (CT.out _ (WS.out.call mid.low)) ?_)); rintro e wy ⟨⟨Az, cz, rfl, frz⟩, hbz⟩
        replace mid := mid.call hbz frz
        clear hbz frz
        try clear hNow
        have hNow := (And.intro (callC mid.low hHeld.1) (And.intro (callC mid.low hHeld.2.1) (And.intro (callC mid.low hHeld.2.2.1) (And.intro (callC mid.low hHeld.2.2.2.1) (callC mid.low hHeld.2.2.2.2)))))
        refine hK.out _ _ hNow ?_
        clear hK K
        try simp only [Act.put]
        try simp only [List.setIfInBounds_toArray, List.set_cons_zero, List.set_cons_succ]
        refine takeFirst (i := 8) (v := ?_) rfl (by kernel_rfl) (by kernel_rfl) (by kernel_rfl) (by rfl) (fun _ _ _ h => h) ?_ (by assumption) ?_
        rotate_left
        · (intro w hSw; go_simp; try (with_reducible rfl))
        try simp only [Act.put, List.setIfInBounds_toArray, List.set_cons_zero, List.set_cons_succ]
        refine takeFirst (i := 9) (v := ?_) rfl (by kernel_rfl) (by kernel_rfl) (by kernel_rfl) (by rfl) (fun _ _ _ h => h) ?_ (by assumption) ?_
        rotate_left
        · (intro w hSw; go_simp; try (with_reducible rfl))
        try simp only [Act.put, List.setIfInBounds_toArray, List.set_cons_zero, List.set_cons_succ]
        refine takeFirst (i := 10) (v := ?_) rfl (by kernel_rfl) (by kernel_rfl) (by kernel_rfl) (by rfl) (fun _ _ _ h => h) ?_ (by assumption) ?_
        rotate_left
        · (intro w hSw; go_simp; try (with_reducible rfl))
        try simp only [Act.put, List.setIfInBounds_toArray, List.set_cons_zero, List.set_cons_succ]
        refine takeFirst (i := 11) (v := ?_) rfl (by kernel_rfl) (by kernel_rfl) (by kernel_rfl) (by rfl) (fun _ _ _ h => h) ?_ (by assumption) ?_
        rotate_left
        · (intro w hSw; go_simp; try (with_reducible rfl))
        try simp only [Act.put, List.setIfInBounds_toArray, List.set_cons_zero, List.set_cons_succ]
        refine stepNext (i := 12) (by kernel_rfl) rfl (by rfl) (fun K hK => ?_)
        go_simp
        replace mid := mid.allocA
        try clear hNow
        have hNow := (And.intro (callC mid.low hHeld.1) (And.intro (callC mid.low hHeld.2.1) (And.intro (callC mid.low hHeld.2.2.1) (And.intro (callC mid.low hHeld.2.2.2.1) (callC mid.low hHeld.2.2.2.2)))))
        refine hK.out _ _ hNow ?_
        clear hK K
        try simp only [Act.put]
        try simp only [List.setIfInBounds_toArray, List.set_cons_zero, List.set_cons_succ]
        generalize wy.heap.size = ga at mid ⊢
        generalize wy.alloc (.cells (rowA (.slice none 0 0) false false false) 77) = wz at mid ⊢
        refine relist (l2 := #[true, true, true, true, true, true, true, true, true, true, true, true, true, true, false, false, false]) (by kernel_rfl) ?_
        exact hE _ _ _ _ _ mid
      · go_simp
        replace mid := mid.allocA
        try clear hNow
        have hNow := (And.intro (callC mid.low hHeld.1) (And.intro (callC mid.low hHeld.2.1) (And.intro (callC mid.low hHeld.2.2.1) (And.intro (callC mid.low hHeld.2.2.2.1) (callC mid.low hHeld.2.2.2.2)))))
        refine hK.out _ _ hNow ?_
        clear hK K
        try simp only [Act.put]
        try simp only [List.setIfInBounds_toArray, List.set_cons_zero, List.set_cons_succ]
        generalize wx.heap.size = ga at mid ⊢
        generalize wx.alloc (.cells (rowA (.slice none 0 0) false false false) 77) = wy at mid ⊢
        refine stepNext (i := 7) (by kernel_rfl) rfl (by rfl) (fun K hK => ?_)
        go_simp
        (with_reducible refine (Calls.mono (CT.out _ (WS.out.call mid.low)) ?_)); rintro e wz ⟨⟨Az, cz, rfl, frz⟩, hbz⟩
        replace mid := mid.call hbz frz
        clear hbz frz
        try clear hNow
        have hNow := (And.intro (callC mid.low hHeld.1) (And.intro (callC mid.low hHeld.2.1) (And.intro (callC mid.low hHeld.2.2.1) (And.intro (callC mid.low hHeld.2.2.2.1) (callC mid.low hHeld.2.2.2.2)))))
        refine hK.out _ _ hNow ?_
        clear hK K
        try simp only [Act.put]
        try simp only [List.setIfInBounds_toArray, List.set_cons_zero, List.set_cons_succ]
        refine takeFirst (i := 8) (v := ?_) rfl (by kernel_rfl) (by kernel_rfl) (by kernel_rfl) (by rfl) (fun _ _ _ h => h) ?_ (by assumption) ?_
        rotate_left
        · (intro w hSw; go_simp; try (with_reducible rfl))
        try simp only [Act.put, List.setIfInBounds_toArray, List.set_cons_zero, List.set_cons_succ]
        refine takeFirst (i := 9) (v := ?_) rfl (by kernel_rfl) (by kernel_rfl) (by kernel_rfl) (by rfl) (fun _ _ _ h => h) ?_ (by assumption) ?_
        rotate_left
        · (intro w hSw; go_simp; try (with_reducible rfl))
        try simp only [Act.put, List.setIfInBounds_toArray, List.set_cons_zero, List.set_cons_succ]
        refine takeFirst (i := 10) (v := ?_) rfl (by kernel_rfl) (by kernel_rfl) (by kernel_rfl) (by rfl) (fun _ _ _ h => h) ?_ (by assumption) ?_
        rotate_left
        · (intro w hSw; go_simp; try (with_reducible rfl))
        try simp only [Act.put, List.setIfInBounds_toArray, List.set_cons_zero, List.set_cons_succ]
        refine takeFirst (i := 11) (v := ?_) rfl (by kernel_rfl) (by kernel_rfl) (by kernel_rfl) (by rfl) (fun _ _ _ h => h) ?_ (by assumption) ?_
        rotate_left
        · (intro w hSw; go_simp; try (with_reducible rfl))
        try simp only [Act.put, List.setIfInBounds_toArray, List.set_cons_zero, List.set_cons_succ]
        refine relist (l2 := #[true, true, true, true, true, true, true, true, true, true, true, true, true, true, false, false, false]) (by kernel_rfl) ?_
        exact hE _ _ _ _ _ mid
  intro ga gb Az cz w6 mid
  obtain ⟨hga, ab⟩ := mid.fa ga rfl
  obtain ⟨hgb, yb⟩ := mid.fb gb rfl
  have gne := mid.ne ga gb rfl rfl
  obtain ⟨Bz, Cz, hBz, hCz, frz, hfar⟩ := mid.fr _ _ rfl
  have fa1 := hfar ga (.inl rfl)
  have fa2 := hfar gb (.inr rfl)
  have near := mid.low
  clear hfar mid
  obtain ⟨hh0, hh1, hh2, hh3, hh4⟩ := hHeld
  have hHeld := (And.intro (callC near hh0) (And.intro (callC near hh1) (And.intro (callC near hh2) (And.intro (callC near hh3) (callC near hh4)))))
  clear hh0 hh1 hh2 hh3 hh4
  replace ob := ob.call near
  replace low := gCall low near
  refine stepNext (i := 14) (by kernel_rfl) rfl (by rfl) (fun K hK => ?_)
  refine wp_store_box 77 (.tmp 11) (.tmp 33) rfl _ _ rfl rfl ab size_row rfl (by simp [Value.oneCell']) ?_
  intro w7 ab st
  replace yb := st.box yb (by omega)
  replace ob := st.box ob (by omega)
  replace frz := st.fr frz fa1
  replace low := st.low low (by omega)
  replace near := st.low near (by omega)
  have z7 := st.size
  obtain ⟨hh0, hh1, hh2, hh3, hh4⟩ := hHeld
  have hHeld := (And.intro (st.cell (by dsimp only; omega) hh0) (And.intro (st.cell (by dsimp only; omega) hh1) (And.intro (st.cell (by dsimp only; omega) hh2) (And.intro (st.cell (by dsimp only; omega) hh3) (st.cell (by dsimp only; omega) hh4)))))
  clear hh0 hh1 hh2 hh3 hh4
  clear st
  refine hK.out _ _ hHeld ?_
  clear hK K
  try simp only [Act.put]
  try simp only [List.setIfInBounds_toArray, List.set_cons_zero, List.set_cons_succ]
  refine stepNext (i := 15) (by kernel_rfl) rfl (by rfl) (fun K hK => ?_)
  refine wp_store_box 80 (.tmp 12) (.tmp 34) rfl _ _ rfl rfl yb size_way rfl (by simp [Value.oneCell']) ?_
  intro w8 yb st
  replace ab := st.box ab (by omega)
  replace ob := st.box ob (by omega)
  replace frz := st.fr frz fa2
  replace low := st.low low (by omega)
  replace near := st.low near (by omega)
  have z8 := st.size
  obtain ⟨hh0, hh1, hh2, hh3, hh4⟩ := hHeld
  have hHeld := (And.intro (st.cell (by dsimp only; omega) hh0) (And.intro (st.cell (by dsimp only; omega) hh1) (And.intro (st.cell (by dsimp only; omega) hh2) (And.intro (st.cell (by dsimp only; omega) hh3) (st.cell (by dsimp only; omega) hh4)))))
  clear hh0 hh1 hh2 hh3 hh4
  clear st
  refine hK.out _ _ hHeld ?_
  clear hK K
  try simp only [Act.put]
  try simp only [List.setIfInBounds_toArray, List.set_cons_zero, List.set_cons_succ]
  refine stepNext (i := 16) (by kernel_rfl) rfl (by rfl) (fun K hK => ?_)
  go_simp
  refine hK.out _ _ hHeld ?_
  clear hK K
  try simp only [Act.put]
  try simp only [List.setIfInBounds_toArray, List.set_cons_zero, List.set_cons_succ]
  refine wpAnyH_done (by kernel_rfl) ?_ _
  refine NoPanic.normal ?_
  clear hHeld WS CT
  replace h := h.call near
  cases hE : (E != 0)
  rotate_left
  · have hE' : E ≠ 0 := by simpa using hE
    have ob_0 := ob.at_ 0 rfl
    have ob_1 := ob.at_ 1 rfl
    have ob_2 := ob.at_ 2 rfl
    have ob_3 := ob.at_ 3 rfl
    have ob_4 := ob.at_ 4 rfl
    have ob_5 := ob.at_ 5 rfl
    have ob_f0 := ob.frozen 0
    have ob_f1 := ob.frozen 1
    have ob_f2 := ob.frozen 2
    have ob_f3 := ob.frozen 3
    have ob_f4 := ob.frozen 4
    have ob_f5 := ob.frozen 5
    have z9 : w.heap.size + 1 < w8.heap.size := ob.lt
    go_wp2_with fail
    refine bodyPost_ret (v := .tuple #[.slice none 0 0, zeroV, .int .i64 E]) (by simp [results, Tryz.results135, go_sem, ob_0, ob_1, ob_2, ob_3, ob_4, ob_5]) rfl ⟨.inl ⟨hE', rfl⟩, ?_⟩
    repeat (refine gSet ?_ (by dsimp only; omega) _)
    exact low
  · obtain rfl : E = 0 := by simpa using hE
    obtain ⟨a0, a1, a2, a3⟩ := ab.rowC
    obtain ⟨y0, y1, y2, y3, y4, y5⟩ := yb.wayC
    have frB : Fr w8.drew wN.heap.size w8.drew.heap.size (.slice Az la.length cz) la := (frz.more (B' := wN.heap.size) (C' := w8.heap.size) (by omega) (by omega)).call (Below.refl _ _).drew
    have sz8 : wN.heap.size ≤ w8.drew.heap.size := near.size
    clear frz fa1 fa2
    go_wp2_with fail
    refine wp_region_noPanic ?_
    refine wp_region_held_drew (S := fun w' => w'.cell? ⟨ga, 0, none⟩ = some (.slice Az la.length cz) ∧ w'.cell? ⟨ga, 1, none⟩ = some (.bool tt.1) ∧ w'.cell? ⟨ga, 2, none⟩ = some (.bool tt.2.1) ∧ w'.cell? ⟨ga, 3, none⟩ = some (.bool tt.2.2) ∧ w'.cell? ⟨gb, 0, none⟩ = some (.int .i64 z.st) ∧ w'.cell? ⟨gb, 1, none⟩ = some (.int .i64 z.ln) ∧ w'.cell? ⟨gb, 2, none⟩ = some (.int .u64 z.a) ∧ w'.cell? ⟨gb, 3, none⟩ = some (.int .u64 z.b) ∧ w'.cell? ⟨gb, 4, none⟩ = some (.int .u64 z.c) ∧ w'.cell? ⟨gb, 5, none⟩ = some (.int .u64 z.d)) (by kernel_rfl) ⟨drewC a0, drewC a1, drewC a2, drewC a3, drewC y0, drewC y1, drewC y2, drewC y3, drewC y4, drewC y5⟩ (fun hHeld => ?_)
    clear a0 a1 a2 a3 y0 y1 y2 y3 y4 y5 ab yb
    refine takeFirst (i := 0) (v := ?_) rfl (by kernel_rfl) (by kernel_rfl) (by kernel_rfl) (by rfl) (fun _ _ _ h => h) ?_ (by assumption) ?_
    rotate_left
    · (intro w hSw; go_simp; try (with_reducible rfl))
    try simp only [Act.put, List.setIfInBounds_toArray, List.set_cons_zero, List.set_cons_succ]
    refine takeFirst (i := 1) (v := ?_) rfl (by kernel_rfl) (by kernel_rfl) (by kernel_rfl) (by rfl) (fun _ _ _ h => h) ?_ (by assumption) ?_
    rotate_left
    · (intro w hSw; go_simp; try (with_reducible rfl))
    try simp only [Act.put, List.setIfInBounds_toArray, List.set_cons_zero, List.set_cons_succ]
    refine takeFirst (i := 2) (v := ?_) rfl (by kernel_rfl) (by kernel_rfl) (by kernel_rfl) (by rfl) (fun _ _ _ h => h) ?_ (by assumption) ?_
    rotate_left
    · (intro w hSw; go_simp; try (with_reducible rfl))
    try simp only [Act.put, List.setIfInBounds_toArray, List.set_cons_zero, List.set_cons_succ]
    refine takeFirst (i := 4) (v := ?_) rfl (by kernel_rfl) (by kernel_rfl) (by kernel_rfl) (by rfl) (fun _ _ _ h => h) ?_ (by assumption) ?_
    rotate_left
    · (intro w hSw; go_simp; try (with_reducible rfl))
    try simp only [Act.put, List.setIfInBounds_toArray, List.set_cons_zero, List.set_cons_succ]
    refine stepNext (i := 3) (by kernel_rfl) rfl (by rfl) (fun K hK => ?_)
    go_simp
    (with_reducible refine (Calls.mono (cacheReplace_l _ ss k Az cz la _ _ _ _ wN.heap.size h.drew kl SM.out frB sz8) ?_)); rintro e w9 ⟨⟨A2, c2, rfl, cf⟩, hb9⟩
    replace ob := ob.drew.call hb9
    replace low := gCall low.drew hb9
    have z9 : w8.heap.size ≤ w9.heap.size := hb9.size
    obtain ⟨hh0, hh1, hh2, hh3, hh4, hh5, hh6, hh7, hh8, hh9⟩ := hHeld
    have hHeld := (And.intro (callC hb9 hh0) (And.intro (callC hb9 hh1) (And.intro (callC hb9 hh2) (And.intro (callC hb9 hh3) (And.intro (callC hb9 hh4) (And.intro (callC hb9 hh5) (And.intro (callC hb9 hh6) (And.intro (callC hb9 hh7) (And.intro (callC hb9 hh8) (callC hb9 hh9))))))))))
    clear hh0 hh1 hh2 hh3 hh4 hh5 hh6 hh7 hh8 hh9
    clear hb9
    refine hK.out _ _ hHeld ?_
    clear hK K
    try simp only [Act.put]
    try simp only [List.setIfInBounds_toArray, List.set_cons_zero, List.set_cons_succ]
    refine stepNext (i := 5) (by kernel_rfl) rfl (by rfl) (fun K hK => ?_)
    go_simp
    refine hK.out _ _ hHeld ?_
    clear hK K
    try simp only [Act.put]
    try simp only [List.setIfInBounds_toArray, List.set_cons_zero, List.set_cons_succ]
    refine stepNext (i := 6) (by kernel_rfl) rfl (by rfl) (fun K hK => ?_)
    refine wp_store_box 80 (.tmp 7) (.tmp 44) rfl _ _ rfl rfl ob size_way rfl (by simp [Value.oneCell']) ?_
    intro w10 ob st
    replace cf := cf.out st (.inl (by omega))
    replace low := st.low low (by omega)
    have z10 := st.size
    have z11 : w8.heap.size = w8.drew.heap.size := rfl
    obtain ⟨hh0, hh1, hh2, hh3, hh4, hh5, hh6, hh7, hh8, hh9⟩ := hHeld
    have hHeld := (And.intro (st.cell (by dsimp only; omega) hh0) (And.intro (st.cell (by dsimp only; omega) hh1) (And.intro (st.cell (by dsimp only; omega) hh2) (And.intro (st.cell (by dsimp only; omega) hh3) (And.intro (st.cell (by dsimp only; omega) hh4) (And.intro (st.cell (by dsimp only; omega) hh5) (And.intro (st.cell (by dsimp only; omega) hh6) (And.intro (st.cell (by dsimp only; omega) hh7) (And.intro (st.cell (by dsimp only; omega) hh8) (st.cell (by dsimp only; omega) hh9))))))))))
    clear hh0 hh1 hh2 hh3 hh4 hh5 hh6 hh7 hh8 hh9
    clear st
    refine hK.out _ _ hHeld ?_
    clear hK K
    try simp only [Act.put]
    try simp only [List.setIfInBounds_toArray, List.set_cons_zero, List.set_cons_succ]
    refine stepNext (i := 7) (by kernel_rfl) rfl (by rfl) (fun K hK => ?_)
    go_simp
    refine hK.out _ _ hHeld ?_
    clear hK K
    try simp only [Act.put]
    try simp only [List.setIfInBounds_toArray, List.set_cons_zero, List.set_cons_succ]
    refine wpAnyH_done (by kernel_rfl) ?_ _
    refine NoPanic.normal ?_
    clear hHeld
    obtain ⟨q0, q1, q2, q3, q4, q5⟩ := ob.wayC
    have CF := Lib.hid (cf.more (B' := w.heap.size) (C' := w10.heap.size) (by omega) (by omega))
    clear cf
    go_wp2_with fail
    refine bodyPost_ret (v := .tuple #[.slice A2 ss.length c2, z.val, .int .i64 0]) (by simp [results, Tryz.results135, go_sem, q0, q1, q2, q3, q4, q5]) rfl ⟨⟨A2, c2, rfl, CF.out⟩, low⟩

theorem cacheSet_bad (n s y b : Int) (v : Value) (ss : List St) (x : Wy) (w : World) (h : Cs w v ss) (he : wayCE n s y b ss x ≠ 0) :
    Calls Tryz.prog 137 #[cfg n s y b, v, x.val] w fun e w' => e = .returned (.tuple #[.slice none 0 0, .int .i64 (wayCE n s y b ss x)]) ∧ Below w.heap.size w w' := by
  have low := Below.refl w.heap.size w
  have cb := boxNext low 23 (cfgA n s y b)
  replace low := gAlloc low (.cells (cfgA n s y b) 23)
  replace h := h.alloc (.cells (cfgA n s y b) 23)
  try simp only [World.size_alloc] at cb
  have xb := boxNext low 80 x.arr
  replace low := gAlloc low (.cells x.arr 80)
  replace h := h.alloc (.cells x.arr 80)
  replace cb := cb.alloc (.cells x.arr 80)
  try simp only [World.size_alloc] at xb
  simp only [Wy.arr] at xb
  have C := Lib.hid fun w hw => setOfWay_bad n s y b v ss x w hw he
  generalize wayCE n s y b ss x = E at C he ⊢
  have he' : (E != 0) = true := by simpa using he
  clear he
  go_enter Tryz.func137, Tryz.ntmps137
  go_wp2_with fail
  (with_reducible refine (C.out _ h).mono ?_); rintro e w1 ⟨rfl, hb⟩
  replace low := gCall low hb
  clear hb
  go_wp2_with fail
  go_ret2
  exact ⟨rfl, low⟩

set_option maxRecDepth 10000 in
set_option maxHeartbeats 2000000 in
theorem cacheSet_in (n s y b : Int) (v : Value) (ss : List St) (x : Wy) (k : Nat) (t : St) (w : World) (h : Cs w v ss) (he : wayCE n s y b ss x = 0) (hk : x.ln % s = k) (ht : ss[k]? = some t) :
    ∃ la tt E, SetIs t.l t.a t.b t.c y x la tt E ∧ Calls Tryz.prog 137 #[cfg n s y b, v, x.val] w fun e w' =>
      ((E ≠ 0 ∧ e = .returned (.tuple #[.slice none 0 0, .int .i64 E])) ∨ (E = 0 ∧ ∃ A c, e = .returned (.tuple #[.slice A ss.length c, .int .i64 0]) ∧ CFr w' w.heap.size w'.heap.size (.slice A ss.length c) (ss.set k ⟨la, tt.1, tt.2.1, tt.2.2⟩))) ∧ Below w.heap.size w w' := by
  obtain ⟨g1, g2⟩ := wayCE_ok he
  have good := goodC_iff.1 g1
  have SM := Lib.hid good.small
  have kl := st_lt ht
  obtain ⟨A, cp, rfl, h1, h2, h3⟩ := h.ex
  obtain ⟨bb, o, rfl, hb, hc⟩ := h3 (by omega)
  obtain ⟨A', c', ra, ws⟩ := hc.at_ k t ht
  obtain ⟨la, tt, E, PI, P⟩ := set_fr (.slice A' t.l.length c') t.l t.a t.b t.c y x
  refine ⟨la, tt, E, PI, ?_⟩
  unfold GivesF2 at P
  have CT := Lib.hid P
  have C := Lib.hid fun w hw => setOfWay_ok n s y b (.slice (some ⟨bb, o, none⟩) ss.length cp) ss x w hw he
  rw [hk] at C
  have kc : (k : Int) < ss.length := by omega
  have k0 : (0 : Int) ≤ k := by omega
  clear P PI h1 h2 h3 hc good g1 g2 he hk ht
  have low := Below.refl w.heap.size w
  have cb := boxNext low 23 (cfgA n s y b)
  replace low := gAlloc low (.cells (cfgA n s y b) 23)
  replace h := h.alloc (.cells (cfgA n s y b) 23)
  try simp only [World.size_alloc] at cb
  have xb := boxNext low 80 x.arr
  replace low := gAlloc low (.cells x.arr 80)
  replace h := h.alloc (.cells x.arr 80)
  replace cb := cb.alloc (.cells x.arr 80)
  try simp only [World.size_alloc] at xb
  simp only [Wy.arr] at xb
  go_enter Tryz.func137, Tryz.ntmps137
  go_wp2_with fail
  (with_reducible refine (C.out _ h).mono ?_); rintro e w1 ⟨rfl, hb⟩
  replace cb := cb.call hb
  replace xb := xb.call hb
  replace h := h.call hb
  replace low := gCall low hb
  clear hb
  clear C
  obtain ⟨r0, r1, r2, r3⟩ := rowAt_of ra hb low
  obtain ⟨x0, x1, x2, x3, x4, x5⟩ := xb.wayC
  have q2 := cb.at_ 2 rfl
  replace ws := ws.call low
  have z1 : w.heap.size + 1 < w1.heap.size := xb.lt
  clear ra
  go_wp2_with fail
  refine wp_region_noPanic ?_
  refine wp_region_held_drew (S := fun w' => w'.cell? ⟨bb, o + k * 4, none⟩ = some (.slice A' t.l.length c') ∧ w'.cell? ⟨bb, o + k * 4 + 1, none⟩ = some (.bool t.a) ∧ w'.cell? ⟨bb, o + k * 4 + 2, none⟩ = some (.bool t.b) ∧ w'.cell? ⟨bb, o + k * 4 + 3, none⟩ = some (.bool t.c) ∧ w'.cell? ⟨w.heap.size, 2, none⟩ = some (.int .i64 y) ∧ w'.cell? ⟨w.heap.size + 1, 0, none⟩ = some (.int .i64 x.st) ∧ w'.cell? ⟨w.heap.size + 1, 1, none⟩ = some (.int .i64 x.ln) ∧ w'.cell? ⟨w.heap.size + 1, 2, none⟩ = some (.int .u64 x.a) ∧ w'.cell? ⟨w.heap.size + 1, 3, none⟩ = some (.int .u64 x.b) ∧ w'.cell? ⟨w.heap.size + 1, 4, none⟩ = some (.int .u64 x.c) ∧ w'.cell? ⟨w.heap.size + 1, 5, none⟩ = some (.int .u64 x.d)) (by kernel_rfl) ⟨drewC r0, drewC r1, drewC r2, drewC r3, drewC q2, drewC x0, drewC x1, drewC x2, drewC x3, drewC x4, drewC x5⟩ (fun hHeld => ?_)
  clear r0 r1 r2 r3 x0 x1 x2 x3 x4 x5 q2 cb xb
  have z1 : w.heap.size + 1 < w1.drew.heap.size := z1
  replace ws := ws.drew
  replace h := h.drew
  replace low := low.drew
  generalize w1.drew = wN at *
  have WS := Lib.hid ws
  clear ws
  refine takeFirst (i := 0) (v := ?_) rfl (by kernel_rfl) (by kernel_rfl) (by kernel_rfl) (by rfl) (fun _ _ _ h => h) ?_ (by assumption) ?_
  rotate_left
  · (intro w hSw; go_simp; try (with_reducible rfl))
  try simp only [Act.put, List.setIfInBounds_toArray, List.set_cons_zero, List.set_cons_succ]
  refine takeFirst (i := 1) (v := ?_) rfl (by kernel_rfl) (by kernel_rfl) (by kernel_rfl) (by rfl) (fun _ _ _ h => h) ?_ (by assumption) ?_
  rotate_left
  · (intro w hSw; go_simp; try (with_reducible rfl))
  try simp only [Act.put, List.setIfInBounds_toArray, List.set_cons_zero, List.set_cons_succ]
  refine takeFirst (i := 2) (v := ?_) rfl (by kernel_rfl) (by kernel_rfl) (by kernel_rfl) (by rfl) (fun _ _ _ h => h) ?_ (by assumption) ?_
  rotate_left
  · (intro w hSw; go_simp; try (with_reducible rfl))
  try simp only [Act.put, List.setIfInBounds_toArray, List.set_cons_zero, List.set_cons_succ]
  refine takeFirst (i := 3) (v := ?_) rfl (by kernel_rfl) (by kernel_rfl) (by kernel_rfl) (by rfl) (fun _ _ _ h => h) ?_ (by assumption) ?_
  rotate_left
  · (intro w hSw; go_simp; try (with_reducible rfl))
  try simp only [Act.put, List.setIfInBounds_toArray, List.set_cons_zero, List.set_cons_succ]
  refine takeFirst (i := 4) (v := ?_) rfl (by kernel_rfl) (by kernel_rfl) (by kernel_rfl) (by rfl) (fun _ _ _ h => h) ?_ (by assumption) ?_
  rotate_left
  · (intro w hSw; go_simp; try (with_reducible rfl))
  try simp only [Act.put, List.setIfInBounds_toArray, List.set_cons_zero, List.set_cons_succ]
  refine takeFirst (i := 5) (v := ?_) rfl (by kernel_rfl) (by kernel_rfl) (by kernel_rfl) (by rfl) (fun _ _ _ h => h) ?_ (by assumption) ?_
  rotate_left
  · (intro w hSw; go_simp; try (with_reducible rfl))
  try simp only [Act.put, List.setIfInBounds_toArray, List.set_cons_zero, List.set_cons_succ]
  refine takeFirst (i := 6) (v := ?_) rfl (by kernel_rfl) (by kernel_rfl) (by kernel_rfl) (by rfl) (fun _ _ _ h => h) ?_ (by assumption) ?_
  rotate_left
  · (intro w hSw; go_simp; try (with_reducible rfl))
  try simp only [Act.put, List.setIfInBounds_toArray, List.set_cons_zero, List.set_cons_succ]
  apply share1 (M := fun ga A c wz => Mid wN 77 (rowA (.slice none 0 0) false false false) 80 zeroA wz (some ga) none (some (.slice A la.length c, la)))
  · intro hE
    have mid := Mid.start wN 77 (rowA (.slice none 0 0) false false false) 80 zeroA
    refine stepTwo (i1 := 7) (i2 := 11) (by kernel_rfl) rfl rfl (by rfl) (by rfl) (fun K hK => ?_) (fun K hK => ?_)
    · go_simp
      (with_reducible refine (Calls.mono (CT.out _ (WS.out.call mid.low)) ?_)); rintro e wx ⟨⟨Az, cz, rfl, frz⟩, hbz⟩
      replace mid := mid.call hbz frz
      clear hbz frz
      try clear hNow
      have hNow := (And.intro (callC mid.low hHeld.1) (And.intro (callC mid.low hHeld.2.1) (And.intro (callC mid.low hHeld.2.2.1) (And.intro (callC mid.low hHeld.2.2.2.1) (And.intro (callC mid.low hHeld.2.2.2.2.1) (And.intro (callC mid.low hHeld.2.2.2.2.2.1) (And.intro (callC mid.low hHeld.2.2.2.2.2.2.1) (And.intro (callC mid.low hHeld.2.2.2.2.2.2.2.1) (And.intro (callC mid.low hHeld.2.2.2.2.2.2.2.2.1) (And.intro (callC mid.low hHeld.2.2.2.2.2.2.2.2.2.1) (callC mid.low hHeld.2.2.2.2.2.2.2.2.2.2)))))))))))
      refine hK.out _ _ hNow ?_
      clear hK K
      try simp only [Act.put]
      try simp only [List.setIfInBounds_toArray, List.set_cons_zero, List.set_cons_succ]
      refine takeFirst (i := 8) (v := ?_) rfl (by kernel_rfl) (by kernel_rfl) (by kernel_rfl) (by rfl) (fun _ _ _ h => h) ?_ (by assumption) ?_
      rotate_left
      · (intro w hSw; go_simp; try (with_reducible rfl))
      try simp only [Act.put, List.setIfInBounds_toArray, List.set_cons_zero, List.set_cons_succ]
      refine takeFirst (i := 9) (v := ?_) rfl (by kernel_rfl) (by kernel_rfl) (by kernel_rfl) (by rfl) (fun _ _ _ h => h) ?_ (by assumption) ?_
      rotate_left
      · (intro w hSw; go_simp; try (with_reducible rfl))
      try simp only [Act.put, List.setIfInBounds_toArray, List.set_cons_zero, List.set_cons_succ]
      refine takeFirst (i := 10) (v := ?_) rfl (by kernel_rfl) (by kernel_rfl) (by kernel_rfl) (by rfl) (fun _ _ _ h => h) ?_ (by assumption) ?_
      rotate_left
      · (intro w hSw; go_simp; try (with_reducible rfl))
      try simp only [Act.put, List.setIfInBounds_toArray, List.set_cons_zero, List.set_cons_succ]
      refine stepNext (i := 11) (by kernel_rfl) rfl (by rfl) (fun K hK => ?_)
      go_simp
      replace mid := mid.allocA
      try clear hNow
      have hNow := (And.intro (callC mid.low hHeld.1) (And.intro (callC mid.low hHeld.2.1) (And.intro (callC mid.low hHeld.2.2.1) (And.intro (callC mid.low hHeld.2.2.2.1) (And.intro (callC mid.low hHeld.2.2.2.2.1) (And.intro (callC mid.low hHeld.2.2.2.2.2.1) (And.intro (callC mid.low hHeld.2.2.2.2.2.2.1) (And.intro (callC mid.low hHeld.2.2.2.2.2.2.2.1) (And.intro (callC mid.low hHeld.2.2.2.2.2.2.2.2.1) (And.intro (callC mid.low hHeld.2.2.2.2.2.2.2.2.2.1) (callC mid.low hHeld.2.2.2.2.2.2.2.2.2.2)))))))))))
      refine hK.out _ _ hNow ?_
      clear hK K
      try simp only [Act.put]
      try simp only [List.setIfInBounds_toArray, List.set_cons_zero, List.set_cons_succ]
      generalize wx.heap.size = ga at mid ⊢
      generalize wx.alloc (.cells (rowA (.slice none 0 0) false false false) 77) = wy at mid ⊢
      refine relist (l2 := #[true, true, true, true, true, true, true, true, true, true, true, true, false, false]) (by kernel_rfl) ?_
      exact hE _ _ _ _ mid
    · go_simp
      replace mid := mid.allocA
      try clear hNow
      have hNow := (And.intro (callC mid.low hHeld.1) (And.intro (callC mid.low hHeld.2.1) (And.intro (callC mid.low hHeld.2.2.1) (And.intro (callC mid.low hHeld.2.2.2.1) (And.intro (callC mid.low hHeld.2.2.2.2.1) (And.intro (callC mid.low hHeld.2.2.2.2.2.1) (And.intro (callC mid.low hHeld.2.2.2.2.2.2.1) (And.intro (callC mid.low hHeld.2.2.2.2.2.2.2.1) (And.intro (callC mid.low hHeld.2.2.2.2.2.2.2.2.1) (And.intro (callC mid.low hHeld.2.2.2.2.2.2.2.2.2.1) (callC mid.low hHeld.2.2.2.2.2.2.2.2.2.2)))))))))))
      refine hK.out _ _ hNow ?_
      clear hK K
      try simp only [Act.put]
      try simp only [List.setIfInBounds_toArray, List.set_cons_zero, List.set_cons_succ]
      generalize wN.heap.size = ga at mid ⊢
      generalize wN.alloc (.cells (rowA (.slice none 0 0) false false false) 77) = wx at mid ⊢
      refine stepNext (i := 7) (by kernel_rfl) rfl (by rfl) (fun K hK => ?_)
      go_simp
      (with_reducible refine (Calls.mono (CT.out _ (WS.out.call mid.low)) ?_)); rintro e wy ⟨⟨Az, cz, rfl, frz⟩, hbz⟩
      replace mid := mid.call hbz frz
      clear hbz frz
      try clear hNow
      have hNow := (And.intro (callC mid.low hHeld.1) (And.intro (callC mid.low hHeld.2.1) (And.intro (callC mid.low hHeld.2.2.1) (And.intro (callC mid.low hHeld.2.2.2.1) (And.intro (callC mid.low hHeld.2.2.2.2.1) (And.intro (callC mid.low hHeld.2.2.2.2.2.1) (And.intro (callC mid.low hHeld.2.2.2.2.2.2.1) (And.intro (callC mid.low hHeld.2.2.2.2.2.2.2.1) (And.intro (callC mid.low hHeld.2.2.2.2.2.2.2.2.1) (And.intro (callC mid.low hHeld.2.2.2.2.2.2.2.2.2.1) (callC mid.low hHeld.2.2.2.2.2.2.2.2.2.2)))))))))))
      refine hK.out _ _ hNow ?_
      clear hK K
      try simp only [Act.put]
      try simp only [List.setIfInBounds_toArray, List.set_cons_zero, List.set_cons_succ]
      refine takeFirst (i := 8) (v := ?_) rfl (by kernel_rfl) (by kernel_rfl) (by kernel_rfl) (by rfl) (fun _ _ _ h => h) ?_ (by assumption) ?_
      rotate_left
      · (intro w hSw; go_simp; try (with_reducible rfl))
      try simp only [Act.put, List.setIfInBounds_toArray, List.set_cons_zero, List.set_cons_succ]
      refine takeFirst (i := 9) (v := ?_) rfl (by kernel_rfl) (by kernel_rfl) (by kernel_rfl) (by rfl) (fun _ _ _ h => h) ?_ (by assumption) ?_
      rotate_left
      · (intro w hSw; go_simp; try (with_reducible rfl))
      try simp only [Act.put, List.setIfInBounds_toArray, List.set_cons_zero, List.set_cons_succ]
      refine takeFirst (i := 10) (v := ?_) rfl (by kernel_rfl) (by kernel_rfl) (by kernel_rfl) (by rfl) (fun _ _ _ h => h) ?_ (by assumption) ?_
      rotate_left
      · (intro w hSw; go_simp; try (with_reducible rfl))
      try simp only [Act.put, List.setIfInBounds_toArray, List.set_cons_zero, List.set_cons_succ]
      refine relist (l2 := #[true, true, true, true, true, true, true, true, true, true, true, true, false, false]) (by kernel_rfl) ?_
      exact hE _ _ _ _ mid
  intro ga Az cz w6 mid
  obtain ⟨hga, ab⟩ := mid.fa ga rfl
  obtain ⟨Bz, Cz, hBz, hCz, frz, hfar⟩ := mid.fr _ _ rfl
  have fa1 := hfar ga (.inl rfl)
  have near := mid.low
  clear hfar mid
  obtain ⟨hh0, hh1, hh2, hh3, hh4, hh5, hh6, hh7, hh8, hh9, hh10⟩ := hHeld
  have hHeld := (And.intro (callC near hh0) (And.intro (callC near hh1) (And.intro (callC near hh2) (And.intro (callC near hh3) (And.intro (callC near hh4) (And.intro (callC near hh5) (And.intro (callC near hh6) (And.intro (callC near hh7) (And.intro (callC near hh8) (And.intro (callC near hh9) (callC near hh10)))))))))))
  clear hh0 hh1 hh2 hh3 hh4 hh5 hh6 hh7 hh8 hh9 hh10
  replace low := gCall low near
  refine stepNext (i := 12) (by kernel_rfl) rfl (by rfl) (fun K hK => ?_)
  refine wp_store_box 77 (.tmp 10) (.tmp 30) rfl _ _ rfl rfl ab size_row rfl (by simp [Value.oneCell']) ?_
  intro w7 ab st
  replace frz := st.fr frz fa1
  replace low := st.low low (by omega)
  replace near := st.low near (by omega)
  have z7 := st.size
  obtain ⟨hh0, hh1, hh2, hh3, hh4, hh5, hh6, hh7, hh8, hh9, hh10⟩ := hHeld
  have hHeld := (And.intro (st.cell (by dsimp only; omega) hh0) (And.intro (st.cell (by dsimp only; omega) hh1) (And.intro (st.cell (by dsimp only; omega) hh2) (And.intro (st.cell (by dsimp only; omega) hh3) (And.intro (st.cell (by dsimp only; omega) hh4) (And.intro (st.cell (by dsimp only; omega) hh5) (And.intro (st.cell (by dsimp only; omega) hh6) (And.intro (st.cell (by dsimp only; omega) hh7) (And.intro (st.cell (by dsimp only; omega) hh8) (And.intro (st.cell (by dsimp only; omega) hh9) (st.cell (by dsimp only; omega) hh10)))))))))))
  clear hh0 hh1 hh2 hh3 hh4 hh5 hh6 hh7 hh8 hh9 hh10
  clear st
  refine hK.out _ _ hHeld ?_
  clear hK K
  try simp only [Act.put]
  try simp only [List.setIfInBounds_toArray, List.set_cons_zero, List.set_cons_succ]
  refine stepNext (i := 13) (by kernel_rfl) rfl (by rfl) (fun K hK => ?_)
  go_simp
  refine hK.out _ _ hHeld ?_
  clear hK K
  try simp only [Act.put]
  try simp only [List.setIfInBounds_toArray, List.set_cons_zero, List.set_cons_succ]
  refine wpAnyH_done (by kernel_rfl) ?_ _
  refine NoPanic.normal ?_
  clear hHeld WS CT
  replace h := h.call near
  cases hE : (E != 0)
  rotate_left
  · have hE' : E ≠ 0 := by simpa using hE
    go_wp2_with fail
    go_ret2
    exact ⟨.inl ⟨hE', rfl⟩, low⟩
  · obtain rfl : E = 0 := by simpa using hE
    obtain ⟨a0, a1, a2, a3⟩ := ab.rowC
    have frB : Fr w7 w.heap.size w7.heap.size (.slice Az la.length cz) la := frz.more (by have := low.size; omega) (by omega)
    have CR := Lib.hid (cacheReplace_l _ ss k Az cz la tt.1 tt.2.1 tt.2.2 _ w.heap.size h kl SM.out frB low.size)
    clear frz frB
    go_wp2_with fail
    (with_reducible refine (Calls.mono CR.out ?_)); rintro e w9 ⟨⟨A2, c2, rfl, cf⟩, hb9⟩
    replace low := gCall low hb9
    have CF := Lib.hid cf
    clear cf a0 a1 a2 a3 hb9
    go_wp2_with fail
    go_ret2
    exact ⟨⟨A2, c2, rfl, CF.out⟩, low⟩
end Go.Proofs.YtgdacpcifnpojaaGreat

/- CacheSpec: Proved: what Put, Take and Set of package cache return where the cache and the argument are right: one contract for the error of the set, one for the good case. No condition. -/
namespace Go.Proofs.YtgdacpcifnpojaaGreat
open Go.ChangeShapes Go.WideShapes Go.ChangeAt Go.RowKit Go.Joins

/-- Behind a call that gives a new cache and a way. -/
abbrev GaveCW (w : World) (ss : List St) (z : Wy) (sa : List St) (e : Ending) (w' : World) : Prop :=
  (∃ A c, e = .returned (.tuple #[.slice A ss.length c, z.val, .int .i64 0]) ∧ CFr w' w.heap.size w'.heap.size (.slice A ss.length c) sa) ∧ Below w.heap.size w w'

theorem cachePut_err (n s y b : Int) (v : Value) (ss : List St) (x : Wy) (k : Nat) (t : St) (w : World) (h : Cs w v ss) (he : wayCE n s y b ss x = 0) (hk : x.ln % s = k) (ht : ss[k]? = some t) (hp : putE t.l t.a t.b t.c y x ≠ 0) :
    Calls Tryz.prog 136 #[cfg n s y b, v, x.val] w fun e w' => e = .returned (.tuple #[.slice none 0 0, zeroV, .int .i64 (putE t.l t.a t.b t.c y x)]) ∧ Below w.heap.size w w' := by
  obtain ⟨la, tt, z, E, ⟨rfl, _⟩, C⟩ := cachePut_in n s y b v ss x k t w h he hk ht
  refine C.mono ?_
  rintro e w' ⟨⟨_, rfl⟩ | ⟨h0, _⟩, hb⟩
  · exact ⟨rfl, hb⟩
  · exact absurd h0 hp

theorem cachePut_ok (n s y b : Int) (v : Value) (ss : List St) (x : Wy) (k : Nat) (t : St) (j : Nat) (old : Wy) (w : World) (h : Cs w v ss) (he : wayCE n s y b ss x = 0) (hk : x.ln % s = k) (ht : ss[k]? = some t) (hp : putE t.l t.a t.b t.c y x = 0)
    (hr : roomN t.l t.a t.b t.c y = j) (hj : t.l[j]? = some old) :
    Calls Tryz.prog 136 #[cfg n s y b, v, x.val] w (GaveCW w ss old (ss.set k ⟨t.l.set j x, (touchT t.a t.b t.c y j).1, (touchT t.a t.b t.c y j).2.1, (touchT t.a t.b t.c y j).2.2⟩)) := by
  obtain ⟨la, tt, z, E, ⟨rfl, P⟩, C⟩ := cachePut_in n s y b v ss x k t w h he hk ht
  rcases P with ⟨h0, _⟩ | ⟨_, j', hr', hj', rfl, rfl⟩
  · exact absurd hp h0
  obtain rfl : j' = j := by rw [hr] at hr'; omega
  rw [hj] at hj'
  cases hj'
  refine C.mono ?_
  rintro e w' ⟨⟨h0, _⟩ | ⟨_, h1⟩, hb⟩
  · exact absurd hp h0
  · exact ⟨h1, hb⟩

theorem cacheTake_err (n s y b : Int) (v : Value) (ss : List St) (m : Int) (k : Nat) (t : St) (w : World) (h : Cs w v ss) (he : lineE n s y b ss m = 0) (hk : m % s = k) (ht : ss[k]? = some t) (hp : takeE t.l t.a t.b t.c y m ≠ 0) :
    Calls Tryz.prog 135 #[cfg n s y b, v, .int .i64 m] w fun e w' => e = .returned (.tuple #[.slice none 0 0, zeroV, .int .i64 (takeE t.l t.a t.b t.c y m)]) ∧ Below w.heap.size w w' := by
  obtain ⟨la, tt, z, E, ⟨rfl, _⟩, C⟩ := cacheTake_in n s y b v ss m k t w h he hk ht
  refine C.mono ?_
  rintro e w' ⟨⟨_, rfl⟩ | ⟨h0, _⟩, hb⟩
  · exact ⟨rfl, hb⟩
  · exact absurd h0 hp

theorem cacheTake_ok (n s y b : Int) (v : Value) (ss : List St) (m : Int) (k : Nat) (t : St) (j : Nat) (old : Wy) (w : World) (h : Cs w v ss) (he : lineE n s y b ss m = 0) (hk : m % s = k) (ht : ss[k]? = some t) (hp : takeE t.l t.a t.b t.c y m = 0)
    (hr : idxP (hasW m) t.l = j) (hj : t.l[j]? = some old) :
    Calls Tryz.prog 135 #[cfg n s y b, v, .int .i64 m] w (GaveCW w ss old (ss.set k ⟨t.l.set j wy0, t.a, t.b, t.c⟩)) := by
  obtain ⟨la, tt, z, E, ⟨rfl, P⟩, C⟩ := cacheTake_in n s y b v ss m k t w h he hk ht
  rcases P with ⟨h0, _⟩ | ⟨_, j', hr', hj', rfl, rfl⟩
  · exact absurd hp h0
  obtain rfl : j' = j := by rw [hr] at hr'; omega
  rw [hj] at hj'
  cases hj'
  refine C.mono ?_
  rintro e w' ⟨⟨h0, _⟩ | ⟨_, h1⟩, hb⟩
  · exact absurd hp h0
  · exact ⟨h1, hb⟩

theorem cacheSet_err (n s y b : Int) (v : Value) (ss : List St) (x : Wy) (k : Nat) (t : St) (w : World) (h : Cs w v ss) (he : wayCE n s y b ss x = 0) (hk : x.ln % s = k) (ht : ss[k]? = some t) (hp : setE t.l t.a t.b t.c y x ≠ 0) :
    Calls Tryz.prog 137 #[cfg n s y b, v, x.val] w fun e w' => e = .returned (.tuple #[.slice none 0 0, .int .i64 (setE t.l t.a t.b t.c y x)]) ∧ Below w.heap.size w w' := by
  obtain ⟨la, tt, E, ⟨rfl, _⟩, C⟩ := cacheSet_in n s y b v ss x k t w h he hk ht
  refine C.mono ?_
  rintro e w' ⟨⟨_, rfl⟩ | ⟨h0, _⟩, hb⟩
  · exact ⟨rfl, hb⟩
  · exact absurd h0 hp

theorem cacheSet_ok (n s y b : Int) (v : Value) (ss : List St) (x : Wy) (k : Nat) (t : St) (j : Nat) (w : World) (h : Cs w v ss) (he : wayCE n s y b ss x = 0) (hk : x.ln % s = k) (ht : ss[k]? = some t) (hp : setE t.l t.a t.b t.c y x = 0)
    (hr : idxP (hasW x.ln) t.l = j) :
    Calls Tryz.prog 137 #[cfg n s y b, v, x.val] w fun e w' => (∃ A c, e = .returned (.tuple #[.slice A ss.length c, .int .i64 0]) ∧ CFr w' w.heap.size w'.heap.size (.slice A ss.length c) (ss.set k ⟨t.l.set j x, (touchT t.a t.b t.c y j).1, (touchT t.a t.b t.c y j).2.1, (touchT t.a t.b t.c y j).2.2⟩)) ∧ Below w.heap.size w w' := by
  obtain ⟨la, tt, E, ⟨rfl, P⟩, C⟩ := cacheSet_in n s y b v ss x k t w h he hk ht
  rcases P with ⟨h0, _⟩ | ⟨_, j', hr', _, rfl, rfl⟩
  · exact absurd hp h0
  obtain rfl : j' = j := by rw [hr] at hr'; omega
  refine C.mono ?_
  rintro e w' ⟨⟨h0, _⟩ | ⟨_, h1⟩, hb⟩
  · exact absurd hp h0
  · exact ⟨h1, hb⟩
end Go.Proofs.YtgdacpcifnpojaaGreat

/- DeedOther: Proved: what otherCache of package deed returns; it changes nothing that was there, and what it returns is new. Conditions: the cache, the line and the kind are right. -/
namespace Go.Proofs.YtgdacpcifnpojaaGreat
open Go.ChangeShapes Go.WideShapes Go.ChangeAt Go.RowKit Go.Joins

theorem hasW_zero (k : Int) : hasW k wy0 = false := rfl
section
variable {n s y b : Int} {ss : List St} {k r j : Nat} {t : St} {z : Wy} {kd : Int}
/-- The line is not there. -/
theorem other_none (he : cacheE n s y b ss = 0) (hf : fnd ss k = none) : OtherIs n s y b ss k kd ss :=
  ⟨he, by rw [hf]; rfl, fun _ _ _ => rfl, fun _ => rfl⟩
/-- The line is taken. -/
theorem other_take (he : cacheE n s y b ss = 0) (hk : k < 16) (ht : ss[r]? = some t) (hj : t.l[j]? = some z) (hz : hasW k z = true) (ho : otS z.st kd = 0) : OtherIs n s y b ss k kd (updC ss r t j wy0 t.a t.b t.c) := by
  have hg := good_upd (x := wy0) (p := t.a) (q := t.b) (p' := t.c) he ht hj (by decide) (fun h => absurd rfl h) (rowE_ok ((goodC_iff.1 he).2.2 r t ht).1).1
  have hf : fnd ss k = some z := (fnd_iff he hk).2 ⟨hz, r, j, t, ht, hj⟩
  refine ⟨hg, ?_, fun q hq hne => ?_, fun h => ?_⟩
  · rw [fnd_upd he hg ht hj hk, hf, if_neg (by rw [hasW_zero]; decide), if_pos hz]
    simp only [Option.bind_some, ho, if_true]
  · have hno : hasW q z = false := hasW_no.2 fun _ e => by have := (hasW_iff.1 hz).2; omega
    rw [fnd_upd he hg ht hj hq, if_neg (by rw [hasW_zero]; decide), if_neg (by rw [hno]; decide)]
  · have := h z hf
    rw [ho] at this
    exact absurd this.symm (fnd_ok he hk hf).1
/-- The line's state is another. -/
theorem other_state (he : cacheE n s y b ss = 0) (hk : k < 16) (ht : ss[r]? = some t) (hj : t.l[j]? = some z) (hz : hasW k z = true) (ho : otS z.st kd ≠ 0) (h1 : 1 ≤ otS z.st kd ∧ otS z.st kd ≤ 4) : OtherIs n s y b ss k kd (relS ss r t j z (otS z.st kd)) := by
  have good := goodC_iff.1 he
  obtain ⟨t1, t2, t3⟩ := rowE_ok (good.2.2 r t ht).1
  have gw := (goodW_iff t.l).1 t3
  obtain ⟨w1, w2⟩ := hasW_iff.1 hz
  have hwe : wayE (z.as (otS z.st kd)) = 0 := (wayE_of (by simp only [hlB, Bool.and_eq_true]; exact ⟨decide_eq_true h1, lnB_iff.2 (by show 0 ≤ z.ln ∧ z.ln ≤ 15; omega)⟩)).1
  have hg : cacheE n s y b (updC ss r t j (z.as (otS z.st kd)) t.a t.b t.c) = 0 := good_upd he ht hj hwe (fun _ => ⟨(good.2.2 r t ht).2 j z hj w1, fun i u hi hu => gw.other hj (show hasW z.ln z = true from hasW_iff.2 ⟨w1, rfl⟩) hu hi⟩) t1
  have hf : fnd ss k = some z := (fnd_iff he hk).2 ⟨hz, r, j, t, ht, hj⟩
  have h2 : hasW k (z.as (otS z.st kd)) = true := hasW_iff.2 ⟨ho, w2⟩
  refine ⟨hg, ?_, fun q hq hne => ?_, fun h => ?_⟩
  · refine (fnd_upd he hg ht hj hk).trans ?_
    rw [hf, if_pos h2]
    simp only [Option.bind_some, if_neg ho]
  · refine (fnd_upd he hg ht hj hq).trans ?_
    have hno : hasW q z = false := hasW_no.2 fun _ e => by omega
    have hno2 : hasW q (z.as (otS z.st kd)) = false := hasW_no.2 fun _ e => by have e' : z.ln = q := e; omega
    rw [if_neg (by rw [hno2]; decide), if_neg (by rw [hno]; decide)]
  · have e := h z hf
    unfold relS
    have e2 : z.as (otS z.st kd) = z := by rw [e]
    rw [e2]
    obtain ⟨hr', e3⟩ := List.getElem?_eq_some_iff.1 ht
    obtain ⟨hj', e4⟩ := List.getElem?_eq_some_iff.1 hj
    have : t.l.set j z = t.l := by rw [← e4]; exact List.set_getElem_self _
    rw [this]
    have : (⟨t.l, t.a, t.b, t.c⟩ : St) = t := rfl
    rw [this, ← e3]
    exact List.set_getElem_self _
end

theorem otS_range {s k : Int} (h : 1 ≤ s ∧ s ≤ 4) (hk : 1 ≤ k ∧ k ≤ 4) : stE s k = 0 ∧ (otS s k = 0 ∨ (1 ≤ otS s k ∧ otS s k ≤ 4)) := by
  obtain e | e | e | e : s = 1 ∨ s = 2 ∨ s = 3 ∨ s = 4 := by omega
  all_goals
    obtain f | f | f | f : k = 1 ∨ k = 2 ∨ k = 3 ∨ k = 4 := by omega
    all_goals rw [e, f]; decide

/-- Behind a call that gives a new cache. -/
abbrev GaveC (w : World) (ss sa : List St) (e : Ending) (w' : World) : Prop :=
  (∃ A c, e = .returned (.tuple #[.slice A ss.length c, .int .i64 0]) ∧ CFr w' w.heap.size w'.heap.size (.slice A ss.length c) sa) ∧ Below w.heap.size w w'



set_option maxHeartbeats 1000000 in
theorem otherCache_none (n s y b : Int) (v : Value) (ss : List St) (k : Nat) (kd : Int) (he : cacheE n s y b ss = 0) (w : World) (h : Cs w v ss)
    (F : Hid (∀ w, Cs w v ss → Calls Tryz.prog 128 #[cfg n s y b, v, .int .i64 k] w fun e w' => e = .returned (.tuple #[wy0.val, .bool false, .int .i64 0]) ∧ Below w.heap.size w w')) :
    Calls Tryz.prog 138 #[cfg n s y b, v, .int .i64 kd, .int .i64 k] w (GaveC w ss ss) := by
  obtain ⟨s4, sl⟩ := (goodC_iff.1 he).small
  have s0 : 0 < ss.length := by have := (goodC_iff.1 he).2.1; have := cfgB_iff.1 (goodC_iff.1 he).1; omega
  have CC := Lib.hid fun w hw => copyCache_any v ss w hw s0 s4 sl
  clear sl
  obtain ⟨A, c, rfl⟩ : ∃ A c, v = .slice A ss.length c := by obtain ⟨A, c, e, _⟩ := h; exact ⟨A, c, e⟩
  clear he s4 s0
  unfold wy0 at F
  have low := Below.refl w.heap.size w
  have cb := boxNext low 23 (cfgA n s y b)
  replace low := gAlloc low (.cells (cfgA n s y b) 23)
  replace h := h.alloc (.cells (cfgA n s y b) 23)
  try simp only [World.size_alloc] at cb
  go_enter Tryz.func138, Tryz.ntmps138
  go_wp2_with fail
  (with_reducible refine (F.out _ h).mono ?_); rintro e w1 ⟨rfl, hb⟩
  replace cb := cb.call hb
  replace h := h.call hb
  replace low := gCall low hb
  clear hb F
  replace h := h.alloc (.cells zeroA 80)
  replace low := gAlloc low (.cells zeroA 80)
  simp only [zeroA] at h low
  go_wp2_with fail
  (with_reducible refine (CC.out _ h).mono ?_); rintro e w2 ⟨⟨rfl, own⟩, hb⟩
  have low2 := gCall low hb
  have cf : CFr w2 w.heap.size w2.heap.size _ (ss) := .inr ⟨_, by have := low.size; simpa using this, own.lt, own.more (by have := low.size; simpa using this) (Nat.le_refl _)⟩
  simp only [World.size_alloc] at cf
  have CF := Lib.hid cf
  clear cf
  clear own hb low
  go_wp2_with fail
  go_ret2
  exact ⟨⟨_, _, rfl, CF.out⟩, low2⟩

set_option maxHeartbeats 1000000 in
theorem otherCache_take (n s y b : Int) (v : Value) (ss sa : List St) (k : Nat) (kd : Int) (z : Wy) (w : World) (h : Cs w v ss) (hs : stE z.st kd = 0) (ho : otS z.st kd = 0)
    (F : Hid (∀ w, Cs w v ss → Calls Tryz.prog 128 #[cfg n s y b, v, .int .i64 k] w fun e w' => e = .returned (.tuple #[z.val, .bool true, .int .i64 0]) ∧ Below w.heap.size w w'))
    (T : Hid (∀ w, Cs w v ss → Calls Tryz.prog 135 #[cfg n s y b, v, .int .i64 k] w (GaveCW w ss z sa))) :
    Calls Tryz.prog 138 #[cfg n s y b, v, .int .i64 kd, .int .i64 k] w (GaveC w ss sa) := by
  obtain ⟨A, c, rfl⟩ : ∃ A c, v = .slice A ss.length c := by obtain ⟨A, c, e, _⟩ := h; exact ⟨A, c, e⟩
  have O := Lib.hid fun w => other_any z.st kd w
  rw [hs, ho] at O
  clear hs ho
  have low := Below.refl w.heap.size w
  have cb := boxNext low 23 (cfgA n s y b)
  replace low := gAlloc low (.cells (cfgA n s y b) 23)
  replace h := h.alloc (.cells (cfgA n s y b) 23)
  try simp only [World.size_alloc] at cb
  go_enter Tryz.func138, Tryz.ntmps138
  go_wp2_with fail
  (with_reducible refine (F.out _ h).mono ?_); rintro e w1 ⟨rfl, hb⟩
  replace cb := cb.call hb
  replace h := h.call hb
  replace low := gCall low hb
  clear hb F
  have zb := boxNext low 80 z.arr
  replace low := gAlloc low (.cells z.arr 80)
  replace h := h.alloc (.cells z.arr 80)
  replace cb := cb.alloc (.cells z.arr 80)
  try simp only [World.size_alloc] at zb
  simp only [Wy.arr] at zb
  have zb_0 := zb.at_ 0 rfl
  go_wp2_with fail
  (with_reducible refine (O.out _).mono ?_); rintro e w' ⟨rfl, rfl⟩
  have cb_0 := cb.at_ 0 rfl
  have cb_1 := cb.at_ 1 rfl
  have cb_2 := cb.at_ 2 rfl
  have cb_3 := cb.at_ 3 rfl
  go_wp2_with fail
  (with_reducible refine (T.out _ h).mono ?_); rintro e w2 ⟨⟨A2, c2, rfl, cf⟩, hb⟩
  clear zb_0 cb_0 cb_1 cb_2 cb_3
  have CF := Lib.hid (((cf.more (by have := low.size; simpa using this) (Nat.le_refl _)).alloc (.cells z.arr 80)).more (Nat.le_refl w.heap.size) (Nat.le_succ _))
  replace low := gAlloc (gCall low hb) (.cells z.arr 80)
  clear hb cf
  go_wp2_with fail
  go_ret2
  exact ⟨⟨_, _, rfl, by simpa using CF.out⟩, low⟩

set_option maxHeartbeats 1000000 in
theorem otherCache_state (n s y b : Int) (v : Value) (ss sa : List St) (k : Nat) (kd o : Int) (z : Wy) (w : World) (h : Cs w v ss) (hs : stE z.st kd = 0) (ho : otS z.st kd = o) (h0 : o ≠ 0)
    (F : Hid (∀ w, Cs w v ss → Calls Tryz.prog 128 #[cfg n s y b, v, .int .i64 k] w fun e w' => e = .returned (.tuple #[z.val, .bool true, .int .i64 0]) ∧ Below w.heap.size w w'))
    (T : Hid (∀ w, Cs w v ss → Calls Tryz.prog 164 #[v, .int .i64 k, .int .i64 o] w fun e w' => (e = .returned (.slice (some ⟨w.heap.size, 0, none⟩) ss.length ss.length) ∧ CFr w' w.heap.size w'.heap.size (.slice (some ⟨w.heap.size, 0, none⟩) ss.length ss.length) sa) ∧ Below w.heap.size w w')) :
    Calls Tryz.prog 138 #[cfg n s y b, v, .int .i64 kd, .int .i64 k] w (GaveC w ss sa) := by
  obtain ⟨A, c, rfl⟩ : ∃ A c, v = .slice A ss.length c := by obtain ⟨A, c, e, _⟩ := h; exact ⟨A, c, e⟩
  have O := Lib.hid fun w => other_any z.st kd w
  rw [hs, ho] at O
  have o0 : (o == 0) = false := by simpa using h0
  clear hs ho h0
  have low := Below.refl w.heap.size w
  have cb := boxNext low 23 (cfgA n s y b)
  replace low := gAlloc low (.cells (cfgA n s y b) 23)
  replace h := h.alloc (.cells (cfgA n s y b) 23)
  try simp only [World.size_alloc] at cb
  go_enter Tryz.func138, Tryz.ntmps138
  go_wp2_with fail
  (with_reducible refine (F.out _ h).mono ?_); rintro e w1 ⟨rfl, hb⟩
  replace cb := cb.call hb
  replace h := h.call hb
  replace low := gCall low hb
  clear hb F
  have zb := boxNext low 80 z.arr
  replace low := gAlloc low (.cells z.arr 80)
  replace h := h.alloc (.cells z.arr 80)
  replace cb := cb.alloc (.cells z.arr 80)
  try simp only [World.size_alloc] at zb
  simp only [Wy.arr] at zb
  have zb_0 := zb.at_ 0 rfl
  go_wp2_with fail
  (with_reducible refine (O.out _).mono ?_); rintro e w' ⟨rfl, rfl⟩
  go_wp2_with fail
  (with_reducible refine (T.out _ h).mono ?_); rintro e w2 ⟨⟨rfl, cf⟩, hb⟩
  clear zb_0
  replace cf := cf.more (by have := low.size; simpa using this) (Nat.le_refl _)
  simp only [World.size_alloc] at cf
  have CF := Lib.hid cf
  replace low := gCall low hb
  clear hb cf
  go_wp2_with fail
  go_ret2
  exact ⟨⟨_, _, rfl, CF.out⟩, low⟩

/-- What Find gives, wherever the cache lies. -/
theorem cacheFind_all (n s y b : Int) (ss : List St) (m : Int) : ∃ z p E, FindCIs n s y b ss m z p E ∧ ∀ v w, Cs w v ss →
    Calls Tryz.prog 128 #[cfg n s y b, v, .int .i64 m] w fun e w' => e = .returned (.tuple #[z.val, .bool p, .int .i64 E]) ∧ Below w.heap.size w w' := by
  obtain ⟨z, p, E, hf, _⟩ := cacheFind_is n s y b (.slice none 0 0) ss m
  refine ⟨z, p, E, hf, fun v w h => ?_⟩
  obtain ⟨z', p', E', hf', F⟩ := cacheFind_is n s y b v ss m
  obtain ⟨rfl, rfl, rfl⟩ := hf.only hf'
  exact F w h

/-- What otherCache gives. -/
theorem otherCache_is (n s y b : Int) (ss : List St) (k : Nat) (kd : Int) (he : cacheE n s y b ss = 0) (hk : k < 16) (h1 : 1 ≤ kd ∧ kd ≤ 4) :
    ∃ sa, OtherIs n s y b ss k kd sa ∧ ∀ v w, Cs w v ss → Calls Tryz.prog 138 #[cfg n s y b, v, .int .i64 kd, .int .i64 k] w (GaveC w ss sa) := by
  obtain ⟨z, p, E, hf, F⟩ := cacheFind_all n s y b ss k
  obtain ⟨rfl, hz0, hfn, _⟩ := fnd_find he hk hf
  have good := goodC_iff.1 he
  obtain ⟨s4, sl⟩ := good.small
  cases p
  · obtain rfl := hz0 rfl
    exact ⟨ss, other_none he (by simpa using hfn), fun v w h => otherCache_none n s y b v ss k kd he w h (Lib.hid (F v))⟩
  · rw [if_pos rfl] at hfn
    obtain ⟨f1, f2, f3⟩ := fnd_ok he hk hfn
    have hz : hasW k z = true := hasW_iff.2 ⟨f1, f2⟩
    obtain ⟨r, t, hr, ht⟩ := good.set_ k
    have hl : lineE n s y b ss k = 0 := by rw [lineE_zero he, if_neg (by rw [lnB_iff.2 (by omega)]; decide)]
    obtain ⟨_, hx⟩ := hf.ok hl hr ht
    obtain ⟨j, hj, hzj⟩ : ∃ j : Nat, idxP (hasW k) t.l = j ∧ t.l[j]? = some z := by
      rcases hx with ⟨_, _, e⟩ | ⟨j, h2, h3, _⟩
      · cases e
      · exact ⟨j, h2, h3⟩
    have row := (good.2.2 r t ht).1
    obtain ⟨o1, o2⟩ := otS_range f3 h1
    by_cases ho : otS z.st kd = 0
    · refine ⟨_, other_take he hk ht hzj hz ho, fun v w h => otherCache_take n s y b v ss _ k kd z w h o1 ho (Lib.hid (F v)) (Lib.hid fun w hw => cacheTake_ok n s y b v ss k r t j z w hw hl hr ht ?_ hj hzj)⟩
      unfold takeE
      rw [if_neg (by simp [row]), if_neg (by omega)]
    · refine ⟨_, other_state he hk ht hzj hz ho (by omega), fun v w h => otherCache_state n s y b v ss _ k kd _ z w h o1 rfl ho (Lib.hid (F v)) (Lib.hid fun w hw => withState_ok v ss k _ r t j z w hw s4 sl (fun q u hu => ?_) ht hzj hz fun q u i x hu hx hw => ?_)⟩
      · have h2 := (rowE_ok row).2.1
        have h3 := (rowE_ok (good.2.2 q u hu).1).2.1
        omega
      · obtain ⟨e1, e2, _⟩ := at_only he ⟨t, ht, hzj⟩ ⟨u, hu, hx⟩ hz hw
        exact ⟨e1, e2⟩
end Go.Proofs.YtgdacpcifnpojaaGreat

/- DeedOwn: Proved: what ownCache of package deed returns; it changes nothing that was there, and what it returns is new. Conditions: the cache, the line, the state and the kind are right. -/
namespace Go.Proofs.YtgdacpcifnpojaaGreat
open Go.ChangeShapes Go.WideShapes Go.ChangeAt Go.RowKit Go.Joins

theorem tyWay : Ty 80 zeroA := ⟨by kernel_rfl, ⟨_, Tryz.underlying80, rfl⟩, fun w => by kernel_rfl⟩
theorem way_one (x : Wy) : x.arr.all (·.oneCell') = true := by simp [Value.oneCell']
theorem way_size (x : Wy) : x.arr.size = zeroA.size := rfl
theorem zero_sz : zeroA.size = zeroA.size := rfl
theorem zero_one : zeroA.all (·.oneCell') = true := by simp [Value.oneCell']

theorem results_mid {fn : Func} {T : TypeId} {z : Array Value} (ty : Ty T z) {tmps : Array Value} {i j k g : Nat} {cs : Array Value} {v u : Value} {w : World} (hr : fn.results = #[.tmp i, .cell j T, .tmp k]) (hi : tmps.getD i undef = v) (hj : tmps.getD j undef = .pointer (some ⟨g, 0, none⟩)) (hk : tmps.getD k undef = u) (hb : Box w g T cs) (hs : cs.size = z.size) :
    (results fn tmps).run Tryz.prog w = .ok (.tuple #[v, .agg cs, u]) w := by
  rw [Array.getD_eq_getD_getElem?] at hi hj hk
  simp [results, hr, hi, hj, hk, asAddr, load_whole ty hb.range hs]

/-- Where the line is, as the program keeps it. -/
abbrev plcA (k s : Int) (al : Bool) (o : Int) : Array Value := #[.int .i64 k, .int .i64 s, .bool al, .int .i64 o]
abbrev plcV (k s : Int) (al : Bool) (o : Int) : Value := .agg (plcA k s al o)


set_option maxHeartbeats 1000000 in
theorem ownCache_take (n s y b : Int) (v : Value) (ss : List St) (k : Nat) (st kd : Int) (al : Bool) (o : Int) (q : L4) (w : World) (h : Cs w v ss) (hs : stE st kd = 0) (ho : ownS st kd al = 0)
    (sa : List St) (z : Wy) (T : Hid (∀ w, Cs w v ss → Calls Tryz.prog 135 #[cfg n s y b, v, .int .i64 k] w (GaveCW w ss z sa))) :
    Calls Tryz.prog 104 #[cfg n s y b, v, .int .i64 kd, plcV k st al o, q.val] w (GaveCW w ss z sa) := by
  obtain ⟨A, c, rfl⟩ : ∃ A c, v = .slice A ss.length c := by obtain ⟨A, c, e, _⟩ := h; exact ⟨A, c, e⟩
  obtain ⟨qa, qq, qc, qd⟩ := q
  obtain ⟨at_, hat⟩ : ∃ a, a = ownS st kd al := ⟨_, rfl⟩
  have O := Lib.hid fun w => own_any st kd al w
  rw [hs, ← hat] at O
  obtain rfl : at_ = 0 := hat.trans ho
  clear hs ho hat
  have low := Below.refl w.heap.size w
  have cb := boxNext low 23 (cfgA n s y b)
  replace low := gAlloc low (.cells (cfgA n s y b) 23)
  replace h := h.alloc (.cells (cfgA n s y b) 23)
  try simp only [World.size_alloc] at cb
  have pb := boxNext low 179 (plcA k st al o)
  replace low := gAlloc low (.cells (plcA k st al o) 179)
  replace h := h.alloc (.cells (plcA k st al o) 179)
  replace cb := cb.alloc (.cells (plcA k st al o) 179)
  try simp only [World.size_alloc] at pb
  have qb := boxNext low 27 (lnA ⟨qa, qq, qc, qd⟩)
  replace low := gAlloc low (.cells (lnA ⟨qa, qq, qc, qd⟩) 27)
  replace h := h.alloc (.cells (lnA ⟨qa, qq, qc, qd⟩) 27)
  replace cb := cb.alloc (.cells (lnA ⟨qa, qq, qc, qd⟩) 27)
  replace pb := pb.alloc (.cells (lnA ⟨qa, qq, qc, qd⟩) 27)
  try simp only [World.size_alloc] at qb
  have ob := boxNext low 80 zeroA
  replace low := gAlloc low (.cells zeroA 80)
  replace h := h.alloc (.cells zeroA 80)
  replace cb := cb.alloc (.cells zeroA 80)
  replace pb := pb.alloc (.cells zeroA 80)
  replace qb := qb.alloc (.cells zeroA 80)
  try simp only [World.size_alloc] at ob
  simp only [zeroA] at ob
  go_enter Tryz.func104, Tryz.ntmps104
  have pb_0 := pb.at_ 0 rfl
  have pb_1 := pb.at_ 1 rfl
  have pb_2 := pb.at_ 2 rfl
  go_wp2_with (with_reducible refine wp_newW (tyWay) ?_)
  (with_reducible refine (O.out _).mono ?_); rintro e w' ⟨rfl, rfl⟩
  have qb_0 := qb.at_ 0 rfl
  have qb_1 := qb.at_ 1 rfl
  have qb_2 := qb.at_ 2 rfl
  have qb_3 := qb.at_ 3 rfl
  have xb := boxNext low 80 #[.int .i64 (0), .int .i64 k, .int .u64 qa, .int .u64 qq, .int .u64 qc, .int .u64 qd]
  replace low := gAlloc low (.cells #[.int .i64 (0), .int .i64 k, .int .u64 qa, .int .u64 qq, .int .u64 qc, .int .u64 qd] 80)
  replace h := h.alloc (.cells #[.int .i64 (0), .int .i64 k, .int .u64 qa, .int .u64 qq, .int .u64 qc, .int .u64 qd] 80)
  replace cb := cb.alloc (.cells #[.int .i64 (0), .int .i64 k, .int .u64 qa, .int .u64 qq, .int .u64 qc, .int .u64 qd] 80)
  replace pb := pb.alloc (.cells #[.int .i64 (0), .int .i64 k, .int .u64 qa, .int .u64 qq, .int .u64 qc, .int .u64 qd] 80)
  replace ob := ob.alloc (.cells #[.int .i64 (0), .int .i64 k, .int .u64 qa, .int .u64 qq, .int .u64 qc, .int .u64 qd] 80)
  try simp only [World.size_alloc] at xb
  have cb_0 := cb.at_ 0 rfl
  have cb_1 := cb.at_ 1 rfl
  have cb_2 := cb.at_ 2 rfl
  have cb_3 := cb.at_ 3 rfl
  go_wp2_with (with_reducible refine wp_newW (tyWay) ?_)
  (with_reducible refine (T.out _ h).mono ?_); rintro e w2 ⟨⟨A2, c2, rfl, cf⟩, hb⟩
  clear pb_0 pb_1 pb_2 qb_0 qb_1 qb_2 qb_3 cb_0 cb_1 cb_2 cb_3
  have zo := ob.lt
  have lz := low.size
  replace ob := ob.call hb
  replace low := gCall low hb
  have CF := Lib.hid cf
  clear hb cf cb pb qb xb
  go_wp2_with ((with_reducible refine wp_storeW (tyWay) (ob) (rfl) (way_size z) (way_one z) ?_ ?_ ?_); rfl; rfl)
  intro w3 ob3 st3
  replace low := st3.low low (by omega)
  have CF3 := Lib.hid ((CF.out.out st3 (.inl zo)).more lz (Nat.le_of_eq st3.size.symm))
  clear st3 CF ob
  go_wp2_with fail
  exact bodyPost_ret (v := .tuple #[.slice A2 ss.length c2, z.val, .int .i64 0]) (results_mid tyWay Tryz.results104 rfl rfl rfl ob3 rfl) rfl ⟨⟨_, _, rfl, CF3.out⟩, low⟩

set_option maxHeartbeats 1000000 in
theorem ownCache_none (n s y b : Int) (v : Value) (ss : List St) (k : Nat) (st kd : Int) (al : Bool) (o : Int) (q : L4) (w : World) (h : Cs w v ss) (hs : stE st kd = 0) (ho : ownS st kd al = 0)
    (T : Hid (∀ w, Cs w v ss → Calls Tryz.prog 135 #[cfg n s y b, v, .int .i64 k] w fun e w' => e = .returned (.tuple #[.slice none 0 0, zeroV, .int .i64 5]) ∧ Below w.heap.size w w')) :
    Calls Tryz.prog 104 #[cfg n s y b, v, .int .i64 kd, plcV k st al o, q.val] w fun e w' => e = .returned (.tuple #[.slice none 0 0, zeroV, .int .i64 5]) ∧ Below w.heap.size w w' := by
  obtain ⟨A, c, rfl⟩ : ∃ A c, v = .slice A ss.length c := by obtain ⟨A, c, e, _⟩ := h; exact ⟨A, c, e⟩
  obtain ⟨qa, qq, qc, qd⟩ := q
  have O := Lib.hid fun w => own_any st kd al w
  rw [hs, ho] at O
  clear hs ho
  have low := Below.refl w.heap.size w
  have cb := boxNext low 23 (cfgA n s y b)
  replace low := gAlloc low (.cells (cfgA n s y b) 23)
  replace h := h.alloc (.cells (cfgA n s y b) 23)
  try simp only [World.size_alloc] at cb
  have pb := boxNext low 179 (plcA k st al o)
  replace low := gAlloc low (.cells (plcA k st al o) 179)
  replace h := h.alloc (.cells (plcA k st al o) 179)
  replace cb := cb.alloc (.cells (plcA k st al o) 179)
  try simp only [World.size_alloc] at pb
  have qb := boxNext low 27 (lnA ⟨qa, qq, qc, qd⟩)
  replace low := gAlloc low (.cells (lnA ⟨qa, qq, qc, qd⟩) 27)
  replace h := h.alloc (.cells (lnA ⟨qa, qq, qc, qd⟩) 27)
  replace cb := cb.alloc (.cells (lnA ⟨qa, qq, qc, qd⟩) 27)
  replace pb := pb.alloc (.cells (lnA ⟨qa, qq, qc, qd⟩) 27)
  try simp only [World.size_alloc] at qb
  have ob := boxNext low 80 zeroA
  replace low := gAlloc low (.cells zeroA 80)
  replace h := h.alloc (.cells zeroA 80)
  replace cb := cb.alloc (.cells zeroA 80)
  replace pb := pb.alloc (.cells zeroA 80)
  replace qb := qb.alloc (.cells zeroA 80)
  try simp only [World.size_alloc] at ob
  simp only [zeroA] at ob
  go_enter Tryz.func104, Tryz.ntmps104
  have pb_0 := pb.at_ 0 rfl
  have pb_1 := pb.at_ 1 rfl
  have pb_2 := pb.at_ 2 rfl
  go_wp2_with (with_reducible refine wp_newW (tyWay) ?_)
  (with_reducible refine (O.out _).mono ?_); rintro e w' ⟨rfl, rfl⟩
  have qb_0 := qb.at_ 0 rfl
  have qb_1 := qb.at_ 1 rfl
  have qb_2 := qb.at_ 2 rfl
  have qb_3 := qb.at_ 3 rfl
  have xb := boxNext low 80 #[.int .i64 (0), .int .i64 k, .int .u64 qa, .int .u64 qq, .int .u64 qc, .int .u64 qd]
  replace low := gAlloc low (.cells #[.int .i64 (0), .int .i64 k, .int .u64 qa, .int .u64 qq, .int .u64 qc, .int .u64 qd] 80)
  replace h := h.alloc (.cells #[.int .i64 (0), .int .i64 k, .int .u64 qa, .int .u64 qq, .int .u64 qc, .int .u64 qd] 80)
  replace cb := cb.alloc (.cells #[.int .i64 (0), .int .i64 k, .int .u64 qa, .int .u64 qq, .int .u64 qc, .int .u64 qd] 80)
  replace pb := pb.alloc (.cells #[.int .i64 (0), .int .i64 k, .int .u64 qa, .int .u64 qq, .int .u64 qc, .int .u64 qd] 80)
  replace ob := ob.alloc (.cells #[.int .i64 (0), .int .i64 k, .int .u64 qa, .int .u64 qq, .int .u64 qc, .int .u64 qd] 80)
  try simp only [World.size_alloc] at xb
  have cb_0 := cb.at_ 0 rfl
  have cb_1 := cb.at_ 1 rfl
  have cb_2 := cb.at_ 2 rfl
  have cb_3 := cb.at_ 3 rfl
  go_wp2_with (with_reducible refine wp_newW (tyWay) ?_)
  (with_reducible refine (T.out _ h).mono ?_); rintro e w2 ⟨rfl, hb⟩
  clear pb_0 pb_1 pb_2 qb_0 qb_1 qb_2 qb_3 cb_0 cb_1 cb_2 cb_3
  replace ob := ob.call hb
  replace low := gCall low hb
  clear hb cb pb qb xb
  go_wp2_with ((with_reducible refine wp_storeW (tyWay) (ob) (rfl) (zero_sz) (zero_one) ?_ ?_ ?_); rfl; rfl)
  intro w3 ob3 st3
  replace low := st3.low low (by omega)
  clear st3 ob
  go_wp2_with fail
  exact bodyPost_ret (v := .tuple #[.slice none 0 0, zeroV, .int .i64 5]) (results_mid tyWay Tryz.results104 rfl rfl rfl ob3 rfl) rfl ⟨rfl, low⟩

set_option maxHeartbeats 1000000 in
theorem ownCache_put (n s y b : Int) (v : Value) (ss : List St) (k : Nat) (kd : Int) (al : Bool) (o : Int) (q : L4) (w : World) (h : Cs w v ss) (hs : stE 0 kd = 0) (a : Int) (ho : ownS 0 kd al = a) (h0 : a ≠ 0)
    (sa : List St) (z : Wy) (T : Hid (∀ w, Cs w v ss → Calls Tryz.prog 136 #[cfg n s y b, v, (⟨a, k, q.a, q.b, q.c, q.d⟩ : Wy).val] w (GaveCW w ss z sa))) :
    Calls Tryz.prog 104 #[cfg n s y b, v, .int .i64 kd, plcV k 0 al o, q.val] w (GaveCW w ss z sa) := by
  obtain ⟨A, c, rfl⟩ : ∃ A c, v = .slice A ss.length c := by obtain ⟨A, c, e, _⟩ := h; exact ⟨A, c, e⟩
  obtain ⟨qa, qq, qc, qd⟩ := q
  obtain ⟨st, hst⟩ : ∃ st : Int, st = 0 := ⟨0, rfl⟩
  have O := Lib.hid fun w => own_any 0 kd al w
  rw [hs, ho] at O
  rw [← hst] at O ⊢
  have s0 : (st == 0) = true := by simp [hst]
  have a0 : (a == 0) = false := by simpa using h0
  clear hs ho h0 hst
  have low := Below.refl w.heap.size w
  have cb := boxNext low 23 (cfgA n s y b)
  replace low := gAlloc low (.cells (cfgA n s y b) 23)
  replace h := h.alloc (.cells (cfgA n s y b) 23)
  try simp only [World.size_alloc] at cb
  have pb := boxNext low 179 (plcA k st al o)
  replace low := gAlloc low (.cells (plcA k st al o) 179)
  replace h := h.alloc (.cells (plcA k st al o) 179)
  replace cb := cb.alloc (.cells (plcA k st al o) 179)
  try simp only [World.size_alloc] at pb
  have qb := boxNext low 27 (lnA ⟨qa, qq, qc, qd⟩)
  replace low := gAlloc low (.cells (lnA ⟨qa, qq, qc, qd⟩) 27)
  replace h := h.alloc (.cells (lnA ⟨qa, qq, qc, qd⟩) 27)
  replace cb := cb.alloc (.cells (lnA ⟨qa, qq, qc, qd⟩) 27)
  replace pb := pb.alloc (.cells (lnA ⟨qa, qq, qc, qd⟩) 27)
  try simp only [World.size_alloc] at qb
  have ob := boxNext low 80 zeroA
  replace low := gAlloc low (.cells zeroA 80)
  replace h := h.alloc (.cells zeroA 80)
  replace cb := cb.alloc (.cells zeroA 80)
  replace pb := pb.alloc (.cells zeroA 80)
  replace qb := qb.alloc (.cells zeroA 80)
  try simp only [World.size_alloc] at ob
  simp only [zeroA] at ob
  go_enter Tryz.func104, Tryz.ntmps104
  have pb_0 := pb.at_ 0 rfl
  have pb_1 := pb.at_ 1 rfl
  have pb_2 := pb.at_ 2 rfl
  go_wp2_with (with_reducible refine wp_newW (tyWay) ?_)
  (with_reducible refine (O.out _).mono ?_); rintro e w' ⟨rfl, rfl⟩
  have qb_0 := qb.at_ 0 rfl
  have qb_1 := qb.at_ 1 rfl
  have qb_2 := qb.at_ 2 rfl
  have qb_3 := qb.at_ 3 rfl
  have xb := boxNext low 80 #[.int .i64 (a), .int .i64 k, .int .u64 qa, .int .u64 qq, .int .u64 qc, .int .u64 qd]
  replace low := gAlloc low (.cells #[.int .i64 (a), .int .i64 k, .int .u64 qa, .int .u64 qq, .int .u64 qc, .int .u64 qd] 80)
  replace h := h.alloc (.cells #[.int .i64 (a), .int .i64 k, .int .u64 qa, .int .u64 qq, .int .u64 qc, .int .u64 qd] 80)
  replace cb := cb.alloc (.cells #[.int .i64 (a), .int .i64 k, .int .u64 qa, .int .u64 qq, .int .u64 qc, .int .u64 qd] 80)
  replace pb := pb.alloc (.cells #[.int .i64 (a), .int .i64 k, .int .u64 qa, .int .u64 qq, .int .u64 qc, .int .u64 qd] 80)
  replace ob := ob.alloc (.cells #[.int .i64 (a), .int .i64 k, .int .u64 qa, .int .u64 qq, .int .u64 qc, .int .u64 qd] 80)
  try simp only [World.size_alloc] at xb
  have cb_0 := cb.at_ 0 rfl
  have cb_1 := cb.at_ 1 rfl
  have cb_2 := cb.at_ 2 rfl
  have cb_3 := cb.at_ 3 rfl
  have xb_0 := xb.at_ 0 rfl
  have xb_1 := xb.at_ 1 rfl
  have xb_2 := xb.at_ 2 rfl
  have xb_3 := xb.at_ 3 rfl
  have xb_4 := xb.at_ 4 rfl
  have xb_5 := xb.at_ 5 rfl
  go_wp2_with (with_reducible refine wp_newW (tyWay) ?_)
  (with_reducible refine (T.out _ h).mono ?_); rintro e w2 ⟨⟨A2, c2, rfl, cf⟩, hb⟩
  clear pb_0 pb_1 pb_2 qb_0 qb_1 qb_2 qb_3 cb_0 cb_1 cb_2 cb_3 xb_0 xb_1 xb_2 xb_3 xb_4 xb_5
  have zo := ob.lt
  have lz := low.size
  replace ob := ob.call hb
  replace low := gCall low hb
  have CF := Lib.hid cf
  clear hb cf cb pb qb xb
  go_wp2_with ((with_reducible refine wp_storeW (tyWay) (ob) (rfl) (way_size z) (way_one z) ?_ ?_ ?_); rfl; rfl)
  intro w3 ob3 st3
  replace low := st3.low low (by omega)
  have CF3 := Lib.hid ((CF.out.out st3 (.inl zo)).more lz (Nat.le_of_eq st3.size.symm))
  clear st3 CF ob
  go_wp2_with fail
  exact bodyPost_ret (v := .tuple #[.slice A2 ss.length c2, z.val, .int .i64 0]) (results_mid tyWay Tryz.results104 rfl rfl rfl ob3 rfl) rfl ⟨⟨_, _, rfl, CF3.out⟩, low⟩

set_option maxHeartbeats 1000000 in
theorem ownCache_set (n s y b : Int) (v : Value) (ss : List St) (k : Nat) (st kd : Int) (al : Bool) (o : Int) (q : L4) (w : World) (h : Cs w v ss) (hs : stE st kd = 0) (a : Int) (ho : ownS st kd al = a) (h0 : a ≠ 0) (hst : st ≠ 0)
    (sa : List St) (T : Hid (∀ w, Cs w v ss → Calls Tryz.prog 137 #[cfg n s y b, v, (⟨a, k, q.a, q.b, q.c, q.d⟩ : Wy).val] w fun e w' => (∃ A c, e = .returned (.tuple #[.slice A ss.length c, .int .i64 0]) ∧ CFr w' w.heap.size w'.heap.size (.slice A ss.length c) sa) ∧ Below w.heap.size w w')) :
    Calls Tryz.prog 104 #[cfg n s y b, v, .int .i64 kd, plcV k st al o, q.val] w (GaveCW w ss wy0 sa) := by
  obtain ⟨A, c, rfl⟩ : ∃ A c, v = .slice A ss.length c := by obtain ⟨A, c, e, _⟩ := h; exact ⟨A, c, e⟩
  obtain ⟨qa, qq, qc, qd⟩ := q
  have O := Lib.hid fun w => own_any st kd al w
  rw [hs, ho] at O
  have s0 : (st == 0) = false := by simpa using hst
  have a0 : (a == 0) = false := by simpa using h0
  clear hs ho h0 hst
  have low := Below.refl w.heap.size w
  have cb := boxNext low 23 (cfgA n s y b)
  replace low := gAlloc low (.cells (cfgA n s y b) 23)
  replace h := h.alloc (.cells (cfgA n s y b) 23)
  try simp only [World.size_alloc] at cb
  have pb := boxNext low 179 (plcA k st al o)
  replace low := gAlloc low (.cells (plcA k st al o) 179)
  replace h := h.alloc (.cells (plcA k st al o) 179)
  replace cb := cb.alloc (.cells (plcA k st al o) 179)
  try simp only [World.size_alloc] at pb
  have qb := boxNext low 27 (lnA ⟨qa, qq, qc, qd⟩)
  replace low := gAlloc low (.cells (lnA ⟨qa, qq, qc, qd⟩) 27)
  replace h := h.alloc (.cells (lnA ⟨qa, qq, qc, qd⟩) 27)
  replace cb := cb.alloc (.cells (lnA ⟨qa, qq, qc, qd⟩) 27)
  replace pb := pb.alloc (.cells (lnA ⟨qa, qq, qc, qd⟩) 27)
  try simp only [World.size_alloc] at qb
  have ob := boxNext low 80 zeroA
  replace low := gAlloc low (.cells zeroA 80)
  replace h := h.alloc (.cells zeroA 80)
  replace cb := cb.alloc (.cells zeroA 80)
  replace pb := pb.alloc (.cells zeroA 80)
  replace qb := qb.alloc (.cells zeroA 80)
  try simp only [World.size_alloc] at ob
  simp only [zeroA] at ob
  go_enter Tryz.func104, Tryz.ntmps104
  have pb_0 := pb.at_ 0 rfl
  have pb_1 := pb.at_ 1 rfl
  have pb_2 := pb.at_ 2 rfl
  go_wp2_with (with_reducible refine wp_newW (tyWay) ?_)
  (with_reducible refine (O.out _).mono ?_); rintro e w' ⟨rfl, rfl⟩
  have qb_0 := qb.at_ 0 rfl
  have qb_1 := qb.at_ 1 rfl
  have qb_2 := qb.at_ 2 rfl
  have qb_3 := qb.at_ 3 rfl
  have xb := boxNext low 80 #[.int .i64 (a), .int .i64 k, .int .u64 qa, .int .u64 qq, .int .u64 qc, .int .u64 qd]
  replace low := gAlloc low (.cells #[.int .i64 (a), .int .i64 k, .int .u64 qa, .int .u64 qq, .int .u64 qc, .int .u64 qd] 80)
  replace h := h.alloc (.cells #[.int .i64 (a), .int .i64 k, .int .u64 qa, .int .u64 qq, .int .u64 qc, .int .u64 qd] 80)
  replace cb := cb.alloc (.cells #[.int .i64 (a), .int .i64 k, .int .u64 qa, .int .u64 qq, .int .u64 qc, .int .u64 qd] 80)
  replace pb := pb.alloc (.cells #[.int .i64 (a), .int .i64 k, .int .u64 qa, .int .u64 qq, .int .u64 qc, .int .u64 qd] 80)
  replace ob := ob.alloc (.cells #[.int .i64 (a), .int .i64 k, .int .u64 qa, .int .u64 qq, .int .u64 qc, .int .u64 qd] 80)
  try simp only [World.size_alloc] at xb
  have cb_0 := cb.at_ 0 rfl
  have cb_1 := cb.at_ 1 rfl
  have cb_2 := cb.at_ 2 rfl
  have cb_3 := cb.at_ 3 rfl
  have xb_0 := xb.at_ 0 rfl
  have xb_1 := xb.at_ 1 rfl
  have xb_2 := xb.at_ 2 rfl
  have xb_3 := xb.at_ 3 rfl
  have xb_4 := xb.at_ 4 rfl
  have xb_5 := xb.at_ 5 rfl
  go_wp2_with (with_reducible refine wp_newW (tyWay) ?_)
  (with_reducible refine (T.out _ h).mono ?_); rintro e w2 ⟨⟨A2, c2, rfl, cf⟩, hb⟩
  clear pb_0 pb_1 pb_2 qb_0 qb_1 qb_2 qb_3 cb_0 cb_1 cb_2 cb_3 xb_0 xb_1 xb_2 xb_3 xb_4 xb_5
  have zo := ob.lt
  have lz := low.size
  replace ob := ob.call hb
  replace low := gCall low hb
  have CF := Lib.hid cf
  clear hb cf cb pb qb xb
  go_wp2_with (first | (with_reducible refine wp_zeroW (tyWay) ?_) | ((with_reducible refine wp_storeW (tyWay) (ob) (rfl) (zero_sz) (zero_one) ?_ ?_ ?_); rfl; rfl))
  intro w3 ob3 st3
  replace low := st3.low low (by omega)
  have CF3 := Lib.hid ((CF.out.out st3 (.inl zo)).more lz (Nat.le_of_eq st3.size.symm))
  clear st3 CF ob
  go_wp2_with fail
  exact bodyPost_ret (v := .tuple #[.slice A2 ss.length c2, wy0.val, .int .i64 0]) (results_mid tyWay Tryz.results104 rfl rfl rfl ob3 rfl) rfl ⟨⟨_, _, rfl, CF3.out⟩, low⟩

section
variable {n s y b : Int} {ss : List St} {k r j : Nat} {t : St} {z : Wy} {al : Bool} {q : L4} {p p' p'' : Bool}
theorem own_take (he : cacheE n s y b ss = 0) (hk : k < 16) (ht : ss[r]? = some t) (hj : t.l[j]? = some z) (hz : hasW k z = true) : OwnIs n s y b ss k 4 al q (updC ss r t j wy0 t.a t.b t.c) z := by
  have hg := good_upd (x := wy0) (p := t.a) (q := t.b) (p' := t.c) he ht hj (by decide) (fun h => absurd rfl h) (rowE_ok ((goodC_iff.1 he).2.2 r t ht).1).1
  have hf : fnd ss k = some z := (fnd_iff he hk).2 ⟨hz, r, j, t, ht, hj⟩
  refine ⟨hg, ?_, fun i hi hne => ?_, fun _ => ⟨k, hk, (hasW_iff.1 hz).2, hf⟩, fun _ => hf, fun h => absurd rfl h, fun h => absurd rfl h⟩
  · rw [fnd_upd he hg ht hj hk, if_neg (by rw [hasW_zero]; decide), if_pos hz, if_pos rfl]
  · rw [fnd_upd he hg ht hj hi, if_neg (by rw [hasW_zero]; decide)]
/-- A way is put into the place of another. -/
theorem own_new {kd : Int} (he : cacheE n s y b ss = 0) (hk : k < 16) (ht : ss[r]? = some t) (hj : t.l[j]? = some z) (hr : (k : Int) % s = r) (_hkd : kd ≠ 4) (ho : 1 ≤ ownS (stO (fnd ss k)) kd al ∧ ownS (stO (fnd ss k)) kd al ≤ 4)
    (hno : ∀ (i : Nat) u, i ≠ j → t.l[i]? = some u → hasW k u = false) (htr : treeE p p' p'' y = 0) :
    cacheE n s y b (updC ss r t j ⟨ownS (stO (fnd ss k)) kd al, k, q.a, q.b, q.c, q.d⟩ p p' p'') = 0 ∧ ∀ i, i < 16 → fnd (updC ss r t j ⟨ownS (stO (fnd ss k)) kd al, k, q.a, q.b, q.c, q.d⟩ p p' p'') i = if i = k then some ⟨ownS (stO (fnd ss k)) kd al, k, q.a, q.b, q.c, q.d⟩ else if hasW i z = true then none else fnd ss i := by
  have hwe : wayE ⟨ownS (stO (fnd ss k)) kd al, k, q.a, q.b, q.c, q.d⟩ = 0 := (wayE_of (by simp only [hlB, Bool.and_eq_true]; exact ⟨decide_eq_true ho, lnB_iff.2 (by omega)⟩)).1
  have hg : cacheE n s y b (updC ss r t j ⟨ownS (stO (fnd ss k)) kd al, k, q.a, q.b, q.c, q.d⟩ p p' p'') = 0 := good_upd he ht hj hwe (fun _ => ⟨hr, hno⟩) htr
  refine ⟨hg, fun i hi => ?_⟩
  rw [fnd_upd he hg ht hj hi]
  by_cases e : i = k
  · subst e
    have hh : hasW i ⟨ownS (stO (fnd ss i)) kd al, i, q.a, q.b, q.c, q.d⟩ = true := hasW_iff.2 ⟨by show ownS (stO (fnd ss i)) kd al ≠ 0; omega, rfl⟩
    rw [if_pos hh, if_pos rfl]
  · have hh : ¬ hasW i ⟨ownS (stO (fnd ss k)) kd al, k, q.a, q.b, q.c, q.d⟩ = true := fun h => e (by have h2 : (k : Int) = i := (hasW_iff.1 h).2; omega)
    rw [if_neg hh, if_neg e]
end

theorem ownS_range {s k : Int} (h : 0 ≤ s ∧ s ≤ 4) (hk : 1 ≤ k ∧ k ≤ 4) (a : Bool) : stE s k = 0 ∧ (k = 4 → ownS s k a = 0) ∧ (k ≠ 4 → 1 ≤ ownS s k a ∧ ownS s k a ≤ 4) := by
  obtain e | e | e | e | e : s = 0 ∨ s = 1 ∨ s = 2 ∨ s = 3 ∨ s = 4 := by omega
  all_goals
    obtain f | f | f | f : k = 1 ∨ k = 2 ∨ k = 3 ∨ k = 4 := by omega
    all_goals rw [e, f]; cases a <;> decide

/-- What ownCache gives. -/
theorem ownCache_is (n s y b : Int) (ss : List St) (k : Nat) (kd : Int) (al : Bool) (o : Int) (q : L4) (he : cacheE n s y b ss = 0) (hk : k < 16) (h1 : 1 ≤ kd ∧ kd ≤ 4) :
    (kd = 4 ∧ fnd ss k = none ∧ ∀ v w, Cs w v ss → Calls Tryz.prog 104 #[cfg n s y b, v, .int .i64 kd, plcV k (stO (fnd ss k)) al o, q.val] w fun e w' => e = .returned (.tuple #[.slice none 0 0, zeroV, .int .i64 5]) ∧ Below w.heap.size w w') ∨
    (¬ (kd = 4 ∧ fnd ss k = none) ∧ ∃ sa out, OwnIs n s y b ss k kd al q sa out ∧ ∀ v w, Cs w v ss → Calls Tryz.prog 104 #[cfg n s y b, v, .int .i64 kd, plcV k (stO (fnd ss k)) al o, q.val] w (GaveCW w ss out sa)) := by
  obtain ⟨z, p, E, hf, _⟩ := cacheFind_all n s y b ss k
  obtain ⟨rfl, hz0, hfn, _⟩ := fnd_find he hk hf
  have good := goodC_iff.1 he
  obtain ⟨r, t, hr, ht⟩ := good.set_ k
  have hl : lineE n s y b ss k = 0 := by rw [lineE_zero he, if_neg (by rw [lnB_iff.2 (by omega)]; decide)]
  obtain ⟨_, hx⟩ := hf.ok hl hr ht
  have row := (good.2.2 r t ht).1
  obtain ⟨t1, t2, t3⟩ := rowE_ok row
  have gw := (goodW_iff t.l).1 t3
  have hst : 0 ≤ stO (fnd ss k) ∧ stO (fnd ss k) ≤ 4 := by
    cases e : fnd ss k with
    | none => exact ⟨by decide, by decide⟩
    | some x => have := (fnd_ok he hk e).2.2; exact ⟨by show 0 ≤ x.st; omega, by show x.st ≤ 4; omega⟩
  obtain ⟨r1, r2, r3⟩ := ownS_range hst h1 al
  have hlx : ∀ a : Int, 1 ≤ a ∧ a ≤ 4 → hlB ⟨a, k, q.a, q.b, q.c, q.d⟩ = true := fun a ha => by simp only [hlB, Bool.and_eq_true]; exact ⟨decide_eq_true ha, lnB_iff.2 (by omega)⟩
  have hwc : ∀ a : Int, 1 ≤ a ∧ a ≤ 4 → wayCE n s y b ss ⟨a, k, q.a, q.b, q.c, q.d⟩ = 0 := fun a ha => by
    unfold wayCE
    rw [if_neg (by simp [he]), if_neg (by rw [hlx a ha]; decide)]
  rcases hx with ⟨hi, rfl, rfl⟩ | ⟨j, hj, hzj, rfl⟩
  · -- not there
    have hfn0 : fnd ss k = none := by simpa using hfn
    by_cases h4 : kd = 4
    · left
      refine ⟨h4, hfn0, fun v w h => ownCache_none n s y b v ss k _ kd al o q w h r1 (r2 h4) (Lib.hid fun w hw => ?_)⟩
      have ht5 : takeE t.l t.a t.b t.c y k = 5 := by
        unfold takeE
        rw [if_neg (by simp [row]), if_pos hi]
      have := cacheTake_err n s y b v ss k r t w hw hl hr ht (by rw [ht5]; decide)
      rwa [ht5] at this
    · right
      have ha := r3 h4
      refine ⟨fun h => h4 h.1, ?_⟩
      obtain ⟨j, old, hj, hold⟩ := room_in row
      have hno : ∀ u ∈ t.l, hasW k u = false := idxP_neg.1 (Int.not_le.2 hi)
      have tk := touch_keeps t1 (show (0 : Int) ≤ j by omega) (show (j : Int) < y by have := set_lt hold; omega)
      obtain ⟨k1, k2⟩ := own_new (q := q) (kd := kd) (al := al) he hk ht hold hr h4 ha (fun i u _ hu => hno u (List.mem_of_getElem? hu)) tk
      have ho0 := hno old (List.mem_of_getElem? hold)
      refine ⟨_, old, ⟨k1, ?_, fun i hi hne => ?_, fun hs => ?_, fun e => absurd e h4, fun _ => ho0, fun _ e => absurd hfn0 e⟩, fun v w h => ?_⟩
      · rw [k2 k hk, if_pos rfl, if_neg h4]
      · rw [k2 i hi, if_neg hne]
      · have hw := gw.1 j old hold
        have hll := good_line hw
        refine ⟨old.ln.toNat, by omega, by omega, (fnd_iff he (by omega)).2 ⟨hasW_iff.2 ⟨hs, by omega⟩, r, j, t, ht, hold⟩⟩
      · have hs0 : stO (fnd ss k) = 0 := by rw [hfn0]; rfl
        rw [hs0] at r1 ha ⊢
        exact ownCache_put n s y b v ss k kd al o q w h r1 _ rfl (by omega) _ old (Lib.hid fun w hw => cachePut_ok n s y b v ss ⟨ownS 0 kd al, k, q.a, q.b, q.c, q.d⟩ r t j old w hw (hwc _ ha) hr ht (by
          unfold putE
          rw [if_neg (by simp [row]), if_neg (by rw [hlx _ ha]; decide), if_neg (by dsimp only; omega)]) hj hold)
  · -- there
    rw [if_pos rfl] at hfn
    obtain ⟨f1, f2, f3⟩ := fnd_ok he hk hfn
    have hz : hasW k z = true := hasW_iff.2 ⟨f1, f2⟩
    have hs0 : stO (fnd ss k) = z.st := by rw [hfn]; rfl
    right
    refine ⟨fun h => (by rw [hfn] at h; cases h.2), ?_⟩
    by_cases h4 : kd = 4
    · subst h4
      refine ⟨_, z, own_take he hk ht hzj hz, fun v w h => ownCache_take n s y b v ss k _ 4 al o q w h r1 (r2 rfl) _ z (Lib.hid fun w hw => cacheTake_ok n s y b v ss k r t j z w hw hl hr ht ?_ hj hzj)⟩
      unfold takeE
      rw [if_neg (by simp [row]), if_neg (by omega)]
    · have ha := r3 h4
      have tk := touch_keeps t1 (show (0 : Int) ≤ j by omega) (show (j : Int) < y by have := set_lt hzj; omega)
      obtain ⟨k1, k2⟩ := own_new (q := q) (kd := kd) (al := al) he hk ht hzj hr h4 ha (fun i u hi hu => gw.other hzj hz hu hi) tk
      refine ⟨_, wy0, ⟨k1, ?_, fun i hi hne => ?_, fun hs => absurd rfl hs, fun e => absurd e h4, fun _ => rfl, fun _ _ => rfl⟩, fun v w h => ?_⟩
      · rw [k2 k hk, if_pos rfl, if_neg h4]
      · have hno : hasW i z = false := hasW_no.2 fun _ e => by omega
        rw [k2 i hi, if_neg hne, if_neg (by rw [hno]; decide), if_neg (by rw [hasW_zero]; decide)]
      · exact ownCache_set n s y b v ss k _ kd al o q w h r1 _ rfl (by omega) (by rw [hs0]; exact f1) _ (Lib.hid fun w hw => cacheSet_ok n s y b v ss ⟨ownS (stO (fnd ss k)) kd al, k, q.a, q.b, q.c, q.d⟩ r t j w hw (hwc _ ha) hr ht (by
          unfold setE
          rw [if_neg (by simp [row]), if_neg (by rw [hlx _ ha]; decide), if_neg (by dsimp only; omega)]) hj)
end Go.Proofs.YtgdacpcifnpojaaGreat

/- Small: Proved: the small configuration that the statements name. No condition. -/
namespace Go.Proofs.YtgdacpcifnpojaaGreat
open Go.ChangeShapes Go.WideShapes Go.ChangeAt Go.RowKit Go.Joins

theorem small_is (w : World) : Calls Tryz.prog 23 #[] w fun e w' => e = .returned (cfg 2 1 1 1) ∧ Below w.heap.size w w' := by
  have low := Below.refl w.heap.size w
  go_enter Tryz.func23, Tryz.ntmps23
  go_wp2_with fail
  refine bodyPost_ret (v := cfg 2 1 1 1) (by simp [results, Tryz.results23, go_sem]) rfl ⟨rfl, ?_⟩
  exact gAlloc low _
end Go.Proofs.YtgdacpcifnpojaaGreat

/- Caches: Proved: the closed fact that the statements on caches ask for first: a small cache can be made. No condition. -/
namespace Go.Proofs.YtgdacpcifnpojaaGreat
open Go.ChangeShapes Go.WideShapes Go.ChangeAt Go.RowKit Go.Joins

end Go.Proofs.YtgdacpcifnpojaaGreat

/- Agrees: Proved: what New of package agree returns for every configuration; the closed fact that the statements on worlds ask for first. No condition. -/
namespace Go.Proofs.YtgdacpcifnpojaaGreat
open Go.ChangeShapes Go.WideShapes Go.ChangeAt Go.RowKit Go.Joins

abbrev nilW : Array Value := wldA (.slice none 0 0) zeroL
theorem info_cache : (Tryz.prog.info? 72).map (fun i => (i.zero, i.size, i.bytes)) = some (some (.slice none 0 0), 1, 24) := by kernel_rfl
def nilsA (n : Nat) : Array Value := (List.replicate n (Value.slice none 0 0)).toArray
theorem make_caches (n : Nat) (hn : n ≤ 8) (w : World) : (Instr.makeSlice 24 (.int .i64 n) (.int .i64 n)).run Tryz.prog w = .ok (.slice (some ⟨w.heap.size, 0, none⟩) n n) (w.alloc (.cells (nilsA n) 72)) := by
  obtain ⟨i0, hi, hz0, hz1, hz2⟩ := info_parts info_cache
  have := run_make w 24 72 i0 (.slice none 0 0) Tryz.underlying24 hi hz0 .i64 .i64 n n (by omega) (Int.le_refl _) (by rw [hz2]; omega) (by omega)
  rw [this, hz1]
  have e : madeCells (Value.slice none 0 0).cells n = nilsA n := by
    unfold nilsA
    refine Array.ext (by rw [size_madeCells, List.size_toArray, List.length_replicate]) fun i h1 h2 => ?_
    simp [madeCells, Value.cells, Nat.mod_one]
  simp [e]
theorem build_world (g n : Nat) (w : World) : (Instr.build 31 #[(0, .slice (some ⟨g, 0, none⟩) n n), (1, memV zeroL)]).run Tryz.prog w = .ok (wldV (.slice (some ⟨g, 0, none⟩) n n) zeroL) w := by kernel_rfl

theorem exec_buildW {ρ : Operand → Value} {dst : Option Tmp} {t : TypeId} {pos : String} {after : Array Edge} {gd : Option (Nat × Bool)} {x y : Operand} {g n : Nat} {w : World} (hx : ρ x = .slice (some ⟨g, 0, none⟩) n n) (hy : ρ y = memV zeroL) :
    (execOp ρ ⟨dst, .build 31 #[(0, x), (1, y)], t, pos, after, gd⟩).run Tryz.prog w = .ok (.value (wldV (.slice (some ⟨g, 0, none⟩) n n) zeroL)) w := by
  unfold execOp
  simp only [List.map_toArray, List.map_cons, List.map_nil, hx, hy, Sem.run_bind, build_world, Result.andThen_ok, Sem.run_pure]

/-- A new variable, as an operation. -/
theorem op_newW {T : TypeId} {z : Array Value} (ty : Ty T z) {dst : Option Tmp} {t : TypeId} {pos : String} {after : Array Edge} {gd : Option (Nat × Bool)} {a : Act} {w : World} {K : Act → World → Prop} {Q : Exit → Act → World → Prop}
    (h : K (a.put dst (.pointer (some ⟨w.heap.size, 0, none⟩))) (w.alloc (.cells z T))) : Oper.wp Tryz.prog ⟨dst, .alloc T, t, pos, after, gd⟩ a w K Q := by
  unfold Oper.wp execOp
  simp only [Instr.alloc, Sem.run_bind, (zero_of_info ty.info).1, newVar, newRow, run_newObj_alloc, Sem.run_pure, Result.andThen_ok]
  exact h

/-- Between a region's first world and world 'w' two new variables have come up. -/
structure Two (w0 : World) (ta : TypeId) (ca : Array Value) (tb : TypeId) (cb : Array Value) (w : World) (pa pb : Option Nat) : Prop where
  low : Below w0.heap.size w0 w
  fa : ∀ g, pa = some g → w0.heap.size ≤ g ∧ Box w g ta ca
  fb : ∀ g, pb = some g → w0.heap.size ≤ g ∧ Box w g tb cb
  ne : ∀ g g', pa = some g → pb = some g' → g ≠ g'
section
variable {w0 w w' : World} {ta tb : TypeId} {ca cb : Array Value} {pa pb : Option Nat}
theorem Two.start (w : World) (ta : TypeId) (ca : Array Value) (tb : TypeId) (cb : Array Value) : Two w ta ca tb cb w none none :=
  ⟨Below.refl _ _, fun _ h => (by cases h), fun _ h => (by cases h), fun _ _ h => (by cases h)⟩
theorem Two.allocA (h : Two w0 ta ca tb cb w none pb) : Two w0 ta ca tb cb (w.alloc (.cells ca ta)) (some w.heap.size) pb := by
  have hs := h.low.size
  refine ⟨gAlloc h.low _, fun g e => ?_, fun g e => ?_, fun g g' e e' => ?_⟩
  · cases e; exact ⟨hs, Box.new w ta ca⟩
  · obtain ⟨h1, h2⟩ := h.fb g e; exact ⟨h1, h2.alloc _⟩
  · cases e; have := (h.fb g' e').2.lt; omega
theorem Two.allocB (h : Two w0 ta ca tb cb w pa none) : Two w0 ta ca tb cb (w.alloc (.cells cb tb)) pa (some w.heap.size) := by
  have hs := h.low.size
  refine ⟨gAlloc h.low _, fun g e => ?_, fun g e => ?_, fun g g' e e' => ?_⟩
  · obtain ⟨h1, h2⟩ := h.fa g e; exact ⟨h1, h2.alloc _⟩
  · cases e; exact ⟨hs, Box.new w tb cb⟩
  · cases e'; have := (h.fa g e).2.lt; omega
theorem Two.call (h : Two w0 ta ca tb cb w pa pb) (hb : Below w.heap.size w w') : Two w0 ta ca tb cb w' pa pb := by
  refine ⟨gCall h.low hb, fun g e => ?_, fun g e => ?_, h.ne⟩
  · obtain ⟨h1, h2⟩ := h.fa g e; exact ⟨h1, h2.call hb⟩
  · obtain ⟨h1, h2⟩ := h.fb g e; exact ⟨h1, h2.call hb⟩
end
/-- Cache j has been made. -/
def Made (w : World) (ga p q : Nat) (us : List Value) (j : Nat) : Prop := ∃ A c, us[j]? = some (.slice A p c) ∧ ∃ B C, ga < B ∧ CFr w B C (.slice A p c) (emptyC p q)
theorem Made.call {w w' : World} {ga p q : Nat} {us : List Value} {j : Nat} (h : Made w ga p q us j) (hb : Below w.heap.size w w') : Made w' ga p q us j := by
  obtain ⟨A, c, h1, B, C, h2, h3⟩ := h
  exact ⟨A, c, h1, B, C, h2, h3.call hb⟩
theorem Made.next {w w' : World} {ga p q : Nat} {us : List Value} {k : Nat} (h : ∀ j, j < k → Made w ga p q us j) (hk : k < us.length) {A : Option Addr} {c B C : Nat} (hB : ga < B) (cf : CFr w B C (.slice A p c) (emptyC p q)) (st : Stored w ga w') : ∀ j, j < k + 1 → Made w' ga p q (us.set k (.slice A p c)) j := by
  intro j hj
  by_cases e : j = k
  · subst e
    exact ⟨A, c, List.getElem?_set_self hk, B, C, hB, cf.out st (.inl hB)⟩
  · obtain ⟨A', c', h1, B', C', h2, h3⟩ := h j (by omega)
    exact ⟨A', c', by rw [List.getElem?_set_ne (fun h => e h.symm)]; exact h1, B', C', h2, h3.out st (.inl h2)⟩
/-- What follows is shown once, for all orders. -/
theorem shareTwo {M Φ : Nat → Nat → World → Prop} {G : Prop} (tree : (∀ ga gb w, M ga gb w → Φ ga gb w) → G) (last : ∀ ga gb w, M ga gb w → Φ ga gb w) : G := tree last


set_option maxRecDepth 10000 in
set_option maxHeartbeats 2000000 in
theorem new_ok (N p q : Nat) (b : Int) (w : World) (he : cfgB N p q b = true) :
    Calls Tryz.prog 35 #[cfg N p q b] w fun e w' => (∃ A c, e = .returned (.tuple #[wldV (.slice A N c) zeroL, .int .i64 0]) ∧ Ks w' (.slice A N c) (List.replicate N (emptyC p q))) ∧ Below w.heap.size w w' := by
  have C := Lib.hid fun w => check_ok N p q b w he
  have CN := Lib.hid fun w => cacheNew_ok N b p q w he
  have n8 : N ≤ 8 := by have := cfgB_iff.1 he; omega
  clear he
  have low := Below.refl w.heap.size w
  have cb := boxNext low 23 (cfgA N p q b)
  replace low := gAlloc low (.cells (cfgA N p q b) 23)
  try simp only [World.size_alloc] at cb
  have ob := boxNext low 31 nilW
  replace low := gAlloc low (.cells nilW 31)
  replace cb := cb.alloc (.cells nilW 31)
  try simp only [World.size_alloc] at ob
  go_enter Tryz.func35, Tryz.ntmps35
  go_wp2_with (first | (with_reducible refine wp_newW (tyWorld) ?_))
  (with_reducible refine (C.out _).mono ?_); rintro e w1 ⟨rfl, hb⟩
  replace cb := cb.call hb
  replace ob := ob.call hb
  replace low := gCall low hb
  clear hb C
  have c0 : w1.cell? ⟨w.heap.size, 0, none⟩ = some (.int .i64 N) := cb.at_ 0 rfl
  have MS := fun w => make_caches N n8 w
  go_wp2_with fail
  refine wp_region_noPanic ?_
  refine wp_region_held_drew (S := fun w' => w'.cell? ⟨w.heap.size, 0, none⟩ = some (.int .i64 N)) (by kernel_rfl) (drewC c0) (fun hHeld => ?_)
  clear c0
  refine takeFirst (i := 0) (v := ?_) rfl (by kernel_rfl) (by kernel_rfl) (by kernel_rfl) (by rfl) (fun _ _ _ h => h) ?_ (by assumption) ?_
  rotate_left
  · (intro w hSw; go_simp; try (with_reducible rfl))
  try simp only [Act.put, List.setIfInBounds_toArray, List.set_cons_zero, List.set_cons_succ]
  refine takeFirst (i := 1) (v := ?_) rfl (by kernel_rfl) (by kernel_rfl) (by kernel_rfl) (by rfl) (fun _ _ _ h => h) ?_ (by assumption) ?_
  rotate_left
  · (intro w hSw; go_simp; try (with_reducible rfl))
  try simp only [Act.put, List.setIfInBounds_toArray, List.set_cons_zero, List.set_cons_succ]
  replace cb := cb.drew
  replace ob := ob.drew
  replace low := low.drew
  generalize w1.drew = wN at *
  apply shareTwo (M := fun ga gb wz => Two wN 72 (nilsA N) 31 nilW wz (some ga) (some gb))
  · intro hE
    have mid := Two.start wN 72 (nilsA N) 31 nilW
    refine stepThree (i1 := 2) (i2 := 3) (i3 := 5) (by kernel_rfl) rfl rfl rfl (by rfl) (by rfl) (by rfl) (fun K hK => ?_) (fun K hK => ?_) (fun K hK => ?_)
    · go_simp
      replace mid := mid.allocA
      try clear hNow
      have hNow := (callC mid.low hHeld)
      refine hK.out _ _ hNow ?_
      clear hK K
      try simp only [Act.put]
      try simp only [List.setIfInBounds_toArray, List.set_cons_zero, List.set_cons_succ]
      generalize wN.heap.size = ga at mid ⊢
      generalize wN.alloc (.cells (nilsA N) 72) = wx at mid hNow ⊢
      refine stepTwo (i1 := 3) (i2 := 5) (by kernel_rfl) rfl rfl (by rfl) (by rfl) (fun K hK => ?_) (fun K hK => ?_)
      · go_simp
        (with_reducible refine (Calls.mono (bankNew_any _) ?_)); rintro e wy ⟨rfl, hbz⟩
        replace mid := mid.call hbz
        clear hbz
        try clear hNow
        have hNow := (callC mid.low hHeld)
        refine hK.out _ _ hNow ?_
        clear hK K
        try simp only [Act.put]
        try simp only [List.setIfInBounds_toArray, List.set_cons_zero, List.set_cons_succ]
        refine takeFirst (i := 4) (v := wldV (.slice (some ⟨ga, 0, none⟩) N N) zeroL) rfl (by kernel_rfl) (by kernel_rfl) (by kernel_rfl) (by rfl) (fun _ _ _ h => h) (fun _ _ => exec_buildW rfl rfl) (by assumption) ?_
        try simp only [Act.put, List.setIfInBounds_toArray, List.set_cons_zero, List.set_cons_succ]
        refine stepNext (i := 5) (by kernel_rfl) rfl (by rfl) (fun K hK => ?_)
        refine op_newW tyWorld ?_
        replace mid := mid.allocB
        try clear hNow
        have hNow := (callC mid.low hHeld)
        refine hK.out _ _ hNow ?_
        clear hK K
        try simp only [Act.put]
        try simp only [List.setIfInBounds_toArray, List.set_cons_zero, List.set_cons_succ]
        generalize wy.heap.size = gb at mid ⊢
        generalize wy.alloc (.cells nilW 31) = wz at mid hNow ⊢
        refine relist (l2 := #[true, true, true, true, true, true, false]) (by kernel_rfl) ?_
        exact hE _ _ _ mid
      · refine op_newW tyWorld ?_
        replace mid := mid.allocB
        try clear hNow
        have hNow := (callC mid.low hHeld)
        refine hK.out _ _ hNow ?_
        clear hK K
        try simp only [Act.put]
        try simp only [List.setIfInBounds_toArray, List.set_cons_zero, List.set_cons_succ]
        generalize wx.heap.size = gb at mid ⊢
        generalize wx.alloc (.cells nilW 31) = wy at mid hNow ⊢
        refine stepNext (i := 3) (by kernel_rfl) rfl (by rfl) (fun K hK => ?_)
        go_simp
        (with_reducible refine (Calls.mono (bankNew_any _) ?_)); rintro e wz ⟨rfl, hbz⟩
        replace mid := mid.call hbz
        clear hbz
        try clear hNow
        have hNow := (callC mid.low hHeld)
        refine hK.out _ _ hNow ?_
        clear hK K
        try simp only [Act.put]
        try simp only [List.setIfInBounds_toArray, List.set_cons_zero, List.set_cons_succ]
        refine takeFirst (i := 4) (v := wldV (.slice (some ⟨ga, 0, none⟩) N N) zeroL) rfl (by kernel_rfl) (by kernel_rfl) (by kernel_rfl) (by rfl) (fun _ _ _ h => h) (fun _ _ => exec_buildW rfl rfl) (by assumption) ?_
        try simp only [Act.put, List.setIfInBounds_toArray, List.set_cons_zero, List.set_cons_succ]
        refine relist (l2 := #[true, true, true, true, true, true, false]) (by kernel_rfl) ?_
        exact hE _ _ _ mid
    · go_simp
      (with_reducible refine (Calls.mono (bankNew_any _) ?_)); rintro e wx ⟨rfl, hbz⟩
      replace mid := mid.call hbz
      clear hbz
      try clear hNow
      have hNow := (callC mid.low hHeld)
      refine hK.out _ _ hNow ?_
      clear hK K
      try simp only [Act.put]
      try simp only [List.setIfInBounds_toArray, List.set_cons_zero, List.set_cons_succ]
      refine stepTwo (i1 := 2) (i2 := 5) (by kernel_rfl) rfl rfl (by rfl) (by rfl) (fun K hK => ?_) (fun K hK => ?_)
      · go_simp
        replace mid := mid.allocA
        try clear hNow
        have hNow := (callC mid.low hHeld)
        refine hK.out _ _ hNow ?_
        clear hK K
        try simp only [Act.put]
        try simp only [List.setIfInBounds_toArray, List.set_cons_zero, List.set_cons_succ]
        generalize wx.heap.size = ga at mid ⊢
        generalize wx.alloc (.cells (nilsA N) 72) = wy at mid hNow ⊢
        refine takeFirst (i := 4) (v := wldV (.slice (some ⟨ga, 0, none⟩) N N) zeroL) rfl (by kernel_rfl) (by kernel_rfl) (by kernel_rfl) (by rfl) (fun _ _ _ h => h) (fun _ _ => exec_buildW rfl rfl) (by assumption) ?_
        try simp only [Act.put, List.setIfInBounds_toArray, List.set_cons_zero, List.set_cons_succ]
        refine stepNext (i := 5) (by kernel_rfl) rfl (by rfl) (fun K hK => ?_)
        refine op_newW tyWorld ?_
        replace mid := mid.allocB
        try clear hNow
        have hNow := (callC mid.low hHeld)
        refine hK.out _ _ hNow ?_
        clear hK K
        try simp only [Act.put]
        try simp only [List.setIfInBounds_toArray, List.set_cons_zero, List.set_cons_succ]
        generalize wy.heap.size = gb at mid ⊢
        generalize wy.alloc (.cells nilW 31) = wz at mid hNow ⊢
        refine relist (l2 := #[true, true, true, true, true, true, false]) (by kernel_rfl) ?_
        exact hE _ _ _ mid
      · refine op_newW tyWorld ?_
        replace mid := mid.allocB
        try clear hNow
        have hNow := (callC mid.low hHeld)
        refine hK.out _ _ hNow ?_
        clear hK K
        try simp only [Act.put]
        try simp only [List.setIfInBounds_toArray, List.set_cons_zero, List.set_cons_succ]
        generalize wx.heap.size = gb at mid ⊢
        generalize wx.alloc (.cells nilW 31) = wy at mid hNow ⊢
        refine stepNext (i := 2) (by kernel_rfl) rfl (by rfl) (fun K hK => ?_)
        go_simp
        replace mid := mid.allocA
        try clear hNow
        have hNow := (callC mid.low hHeld)
        refine hK.out _ _ hNow ?_
        clear hK K
        try simp only [Act.put]
        try simp only [List.setIfInBounds_toArray, List.set_cons_zero, List.set_cons_succ]
        generalize wy.heap.size = ga at mid ⊢
        generalize wy.alloc (.cells (nilsA N) 72) = wz at mid hNow ⊢
        refine takeFirst (i := 4) (v := wldV (.slice (some ⟨ga, 0, none⟩) N N) zeroL) rfl (by kernel_rfl) (by kernel_rfl) (by kernel_rfl) (by rfl) (fun _ _ _ h => h) (fun _ _ => exec_buildW rfl rfl) (by assumption) ?_
        try simp only [Act.put, List.setIfInBounds_toArray, List.set_cons_zero, List.set_cons_succ]
        refine relist (l2 := #[true, true, true, true, true, true, false]) (by kernel_rfl) ?_
        exact hE _ _ _ mid
    · refine op_newW tyWorld ?_
      replace mid := mid.allocB
      try clear hNow
      have hNow := (callC mid.low hHeld)
      refine hK.out _ _ hNow ?_
      clear hK K
      try simp only [Act.put]
      try simp only [List.setIfInBounds_toArray, List.set_cons_zero, List.set_cons_succ]
      generalize wN.heap.size = gb at mid ⊢
      generalize wN.alloc (.cells nilW 31) = wx at mid hNow ⊢
      refine stepTwo (i1 := 2) (i2 := 3) (by kernel_rfl) rfl rfl (by rfl) (by rfl) (fun K hK => ?_) (fun K hK => ?_)
      · go_simp
        replace mid := mid.allocA
        try clear hNow
        have hNow := (callC mid.low hHeld)
        refine hK.out _ _ hNow ?_
        clear hK K
        try simp only [Act.put]
        try simp only [List.setIfInBounds_toArray, List.set_cons_zero, List.set_cons_succ]
        generalize wx.heap.size = ga at mid ⊢
        generalize wx.alloc (.cells (nilsA N) 72) = wy at mid hNow ⊢
        refine stepNext (i := 3) (by kernel_rfl) rfl (by rfl) (fun K hK => ?_)
        go_simp
        (with_reducible refine (Calls.mono (bankNew_any _) ?_)); rintro e wz ⟨rfl, hbz⟩
        replace mid := mid.call hbz
        clear hbz
        try clear hNow
        have hNow := (callC mid.low hHeld)
        refine hK.out _ _ hNow ?_
        clear hK K
        try simp only [Act.put]
        try simp only [List.setIfInBounds_toArray, List.set_cons_zero, List.set_cons_succ]
        refine takeFirst (i := 4) (v := wldV (.slice (some ⟨ga, 0, none⟩) N N) zeroL) rfl (by kernel_rfl) (by kernel_rfl) (by kernel_rfl) (by rfl) (fun _ _ _ h => h) (fun _ _ => exec_buildW rfl rfl) (by assumption) ?_
        try simp only [Act.put, List.setIfInBounds_toArray, List.set_cons_zero, List.set_cons_succ]
        refine relist (l2 := #[true, true, true, true, true, true, false]) (by kernel_rfl) ?_
        exact hE _ _ _ mid
      · go_simp
        (with_reducible refine (Calls.mono (bankNew_any _) ?_)); rintro e wy ⟨rfl, hbz⟩
        replace mid := mid.call hbz
        clear hbz
        try clear hNow
        have hNow := (callC mid.low hHeld)
        refine hK.out _ _ hNow ?_
        clear hK K
        try simp only [Act.put]
        try simp only [List.setIfInBounds_toArray, List.set_cons_zero, List.set_cons_succ]
        refine stepNext (i := 2) (by kernel_rfl) rfl (by rfl) (fun K hK => ?_)
        go_simp
        replace mid := mid.allocA
        try clear hNow
        have hNow := (callC mid.low hHeld)
        refine hK.out _ _ hNow ?_
        clear hK K
        try simp only [Act.put]
        try simp only [List.setIfInBounds_toArray, List.set_cons_zero, List.set_cons_succ]
        generalize wy.heap.size = ga at mid ⊢
        generalize wy.alloc (.cells (nilsA N) 72) = wz at mid hNow ⊢
        refine takeFirst (i := 4) (v := wldV (.slice (some ⟨ga, 0, none⟩) N N) zeroL) rfl (by kernel_rfl) (by kernel_rfl) (by kernel_rfl) (by rfl) (fun _ _ _ h => h) (fun _ _ => exec_buildW rfl rfl) (by assumption) ?_
        try simp only [Act.put, List.setIfInBounds_toArray, List.set_cons_zero, List.set_cons_succ]
        refine relist (l2 := #[true, true, true, true, true, true, false]) (by kernel_rfl) ?_
        exact hE _ _ _ mid
  intro ga gb wz mid
  obtain ⟨hga, ab⟩ := mid.fa ga rfl
  obtain ⟨hgb, yb⟩ := mid.fb gb rfl
  have gne := mid.ne ga gb rfl rfl
  have near := mid.low
  clear mid
  have zc := cb.lt
  have zo := ob.lt
  replace hHeld := callC near hHeld
  replace cb := cb.call near
  replace ob := ob.call near
  replace low := gCall low near
  refine stepNext (i := 6) (by kernel_rfl) rfl (by rfl) (fun K hK => ?_)
  refine wp_store_box 31 (.tmp 5) (.tmp 19) rfl _ _ rfl rfl yb (tyWorld.size.trans (congrArg some (wld_size zeroL_length).symm)) (wld_size zeroL_length).symm (wldA_one _) ?_
  intro w2 yb st
  replace ab := st.box ab gne
  replace cb := st.box cb (by omega)
  replace ob := st.box ob (by omega)
  replace low := st.low low (by omega)
  replace hHeld := st.cell (by dsimp only; omega) hHeld
  clear st near
  refine hK.out _ _ hHeld ?_
  clear hK K
  try simp only [Act.put]
  try simp only [List.setIfInBounds_toArray, List.set_cons_zero, List.set_cons_succ]
  clear hHeld
  refine wpAnyH_done (by kernel_rfl) ?_ _
  refine NoPanic.normal ?_
  have yb0 := yb.at_ 0 (wldA_zero _ _)
  go_wp2_with fail
  clear MS
  go_loopw [23] (fun i wr => ∃ k : Nat, k ≤ N ∧ i = .int .i64 k ∧ Hid (∃ us : List Value, us.length = N ∧ Box wr ga 72 us.toArray ∧ ∀ j, j < k → Made wr ga p q us j) ∧
    Box wr gb 31 (wldA (.slice (some ⟨ga, 0, none⟩) N N) zeroL) ∧ Box wr w.heap.size 23 (cfgA N p q b) ∧ Box wr (w.heap.size + 1) 31 nilW ∧ Below w.heap.size w wr) (fun i _ => N - (intOf i).toNat)
  case atStart => exact ⟨0, Nat.zero_le _, rfl, Lib.hid ⟨_, by simp, ab, fun j hj => absurd hj (by omega)⟩, yb, cb, ob, low⟩
  case round =>
    clear ab yb cb ob low yb0
    obtain ⟨k, hk, rfl, hus, yb, cb, ob, low⟩ := hrel
    simp only [cfgA] at cb
    obtain ⟨us, ulen, ab, hcf⟩ := hus.out
    have HCF := Lib.hid hcf
    clear hus hcf
    by_cases hlt : k < N
    · have k1 : (k : Int) < N := by omega
      have hu : us[k]? = some (us[k]'(by omega)) := List.getElem?_eq_getElem _
      generalize us[k]'(by omega) = u at hu
      have hcu : us.toArray[k]? = some u := by rw [List.getElem?_toArray]; exact hu
      have UK := Lib.hid (show k < us.length by omega)
      clear hu
      have za := ab.lt
      have cb_0 := cb.at_ 0 rfl
      have cb_1 := cb.at_ 1 rfl
      have cb_2 := cb.at_ 2 rfl
      have cb_3 := cb.at_ 3 rfl
      go_wp2_with fail
      (with_reducible refine (CN.out _).mono ?_); rintro e w3 ⟨⟨A3, c3, rfl, cf⟩, hb3⟩
      clear cb_0 cb_1 cb_2 cb_3
      replace ab := ab.call hb3
      replace yb := yb.call hb3
      replace cb := cb.call hb3
      replace ob := ob.call hb3
      replace low := gCall low hb3
      have HC3 := Lib.hid (fun j (hj : j < k) => (HCF.out j hj).call hb3)
      have CF := Lib.hid cf
      clear hb3 HCF cf
      have yb0 := yb.at_ 0 (wldA_zero _ _)
      have ac := ab.at_ k hcu
      have af := ab.frozen k
      go_wp2_with fail
      have st : Stored w3 ga (w3.setCell ⟨ga, k, none⟩ (.slice A3 p c3)) := Stored.cell1 w3 ⟨ga, k, none⟩ _
      have ab4 := ab.set k (.slice A3 p c3)
      rw [List.setIfInBounds_toArray] at ab4
      have yb4 := st.box yb (Ne.symm gne)
      have cb4 := st.box cb (by omega)
      have ob4 := st.box ob (by omega)
      have low4 := st.low low (by omega)
      have HC4 := Lib.hid (Made.next HC3.out UK.out za CF.out st)
      go_roundw
      case rel => exact ⟨k + 1, by omega, by go_num, Lib.hid ⟨_, by rw [List.length_set]; exact ulen, ab4, HC4.out⟩, yb4, cb4, ob4, low4⟩
      case measure => simp [intOf]; omega
    · obtain rfl : k = N := by omega
      have yr := yb.range
      have s1 : (wldA (.slice (some ⟨ga, 0, none⟩) k k) zeroL).size = nilW.size := wld_size zeroL_length
      have one : (wldA (.slice (some ⟨ga, 0, none⟩) k k) zeroL).all (·.oneCell') = true := wldA_one _
      go_wp2_with (first | ((with_reducible refine wp_loadW (tyWorld) (yr) (s1) ?_ ?_ ?_); rfl; rfl) | ((with_reducible refine wp_storeW (tyWorld) (ob) (rfl) (s1) (one) ?_ ?_ ?_); rfl; rfl))
      intro w5 ob5 st
      replace low := st.low low (by omega)
      replace ab := st.box ab (by omega)
      have KS := Lib.hid (show Ks w5 (.slice (some ⟨ga, 0, none⟩) k k) (List.replicate k (emptyC p q)) by
        refine ⟨_, _, by rw [List.length_replicate], by rw [List.length_replicate]; exact Nat.le_refl _, by unfold maxLen; omega, fun _ => ⟨ga, 0, rfl, ab.lt, fun j ss hj => ?_⟩⟩
        have hjk : j < k := by have := (List.getElem?_eq_some_iff.1 hj).1; simpa using this
        obtain rfl : ss = emptyC p q := List.eq_of_mem_replicate (List.mem_of_getElem? hj)
        obtain ⟨A, c, h1, B, C, h2, h3⟩ := HCF.out j hjk
        have e1 : (emptyC p q).length = p := by simp [emptyC]
        rw [e1]
        refine ⟨A, c, ?_, (h3.out st (.inl (by omega))).cs⟩
        rw [ab.cell, Nat.zero_add, List.getElem?_toArray]
        exact h1)
      clear ob st yb yr ab cb
      go_wp2_with fail
      exact bodyPost_ret (v := .tuple #[wldV (.slice (some ⟨ga, 0, none⟩) k k) zeroL, .int .i64 0]) (results_first tyWorld Tryz.results35 rfl rfl ob5 s1) rfl ⟨⟨_, _, rfl, KS.out⟩, low⟩

end Go.Proofs.YtgdacpcifnpojaaGreat

/- DeedReport: Proved: what report of package deed returns; it changes nothing that was there. Condition: the kind is right. -/
namespace Go.Proofs.YtgdacpcifnpojaaGreat
open Go.ChangeShapes Go.WideShapes Go.ChangeAt Go.RowKit Go.Joins

/-- What is told of an operation. -/
abbrev doneA (u : Int) (hit : Bool) (fr out : Int) (wr : Bool) : Array Value := #[.int .u64 u, .bool hit, .int .i64 fr, .int .i64 out, .bool wr]
abbrev doneV (u : Int) (hit : Bool) (fr out : Int) (wr : Bool) : Value := .agg (doneA u hit fr out wr)
theorem tyDone : Ty 159 (doneA 0 false 0 0 false) := ⟨by kernel_rfl, ⟨_, Tryz.underlying159, rfl⟩, fun w => by kernel_rfl⟩
theorem done_one (u : Int) (hit : Bool) (fr out : Int) (wr : Bool) : (doneA u hit fr out wr).all (·.oneCell') = true := by simp [Value.oneCell']
theorem done_size (u : Int) (hit : Bool) (fr out : Int) (wr : Bool) : (doneA u hit fr out wr).size = (doneA 0 false 0 0 false).size := rfl

/-- One int is stored into a block that is known whole. -/
theorem run_storeInt {w : World} {g : Nat} {T ty : TypeId} {cs : Array Value} {kk : IntKind} (z : (Tryz.prog.info? ty).map (·.size) = some 1) (h : Box w g T cs) (i : Nat) (hi : i < cs.size) (v : Int) :
    (storeVar ty ⟨g, i, none⟩ (.int kk v)).run Tryz.prog w = .ok () (w.setCell ⟨g, i, none⟩ (.int kk v)) := by
  have c := h.cell i
  rw [Array.getElem?_eq_getElem hi] at c
  have f := h.frozen i
  have := run_storeCells_cells (P := Tryz.prog) g i [.int kk v] 0 w (fun j hj => by obtain rfl : j = 0 := (by simpa using hj); simp [c]) (fun j hj => by obtain rfl : j = 0 := (by simpa using hj); simp [f]) (fun u hu => by simp at hu; subst hu; rfl)
  cases hq : Tryz.prog.info? ty with
  | none => rw [hq] at z; cases z
  | some y =>
    have hs : y.size = 1 := by rw [hq] at z; simpa using z
    simp only [Nat.add_zero] at this
    simp [storeVar, sizeOf, typeInfo, hq, Value.cells, hs, this, World.setCells]
theorem wp_storeI {ops : Array Oper} {rest : List Oper} {dst : Option Tmp} {t : TypeId} {pos : String} {after : Array Edge} {a : Act} {w : World} {Q : Exit → Act → World → Prop} {ty : TypeId} (z : (Tryz.prog.info? ty).map (·.size) = some 1)
    {x y : Operand} {g : Nat} {T : TypeId} {cs : Array Value} {kk : IntKind} (hb : Box w g T cs) (i : Nat) (hi : i < cs.size) (v : Int) (hx : a.eval x = .pointer (some ⟨g, i, none⟩)) (hy : a.eval y = .int kk v)
    (h : ∀ w', Box w' g T (cs.setIfInBounds i (.int kk v)) → Stored w g w' → wpList Tryz.prog ops Q rest (a.put dst undef) w') :
    wpList Tryz.prog ops Q (⟨dst, .store ty x y, t, pos, after, none⟩ :: rest) a w := by
  refine wpList_plain rfl fun K hK => ?_
  unfold Oper.wp execOp
  simp only [hx, hy, Instr.storeAt, Instr.sureAddr, Sem.run_bind, Sem.run_pure, Result.andThen_ok, run_storeInt z hb i hi v]
  exact hK _ _ (h _ (hb.set i _) (Stored.cell1 w ⟨g, i, none⟩ _))
theorem size_int : (Tryz.prog.info? 3).map (·.size) = some 1 := by kernel_rfl

/-- What follows is shown once, for all orders. -/
theorem shareAll {Φ G : Prop} (tree : (True → Φ) → G) (last : Φ) : G := tree fun _ => last

theorem results_one {fn : Func} {T : TypeId} {z : Array Value} (ty : Ty T z) {tmps : Array Value} {i g : Nat} {cs : Array Value} {w : World} (hr : fn.results = #[.cell i T]) (hi : tmps.getD i undef = .pointer (some ⟨g, 0, none⟩)) (hb : Box w g T cs) (hs : cs.size = z.size) :
    (results fn tmps).run Tryz.prog w = .ok (.agg cs) w := by
  rw [Array.getD_eq_getD_getElem?] at hi
  simp [results, hr, hi, asAddr, load_whole ty hb.range hs]



set_option maxRecDepth 10000 in
set_option maxHeartbeats 2000000 in
theorem report_any (k st : Int) (al : Bool) (o kd u : Int) (x : Wy) (w : World) (h1 : 1 ≤ kd) (h2 : kd ≤ 4) :
    Calls Tryz.prog 107 #[plcV k st al o, .int .i64 kd, .int .u64 u, x.val] w fun e w' =>
      e = .returned (doneV u (locB st kd) (if st = 0 then o else -1) (if x.st ≠ 0 then x.ln else -1) (owB x.st)) ∧ Below w.heap.size w w' := by
  have L := Lib.hid fun w => isLocal_any st kd w h1 h2
  have O := Lib.hid fun w => owns_any x.st w
  generalize hP : (if st = 0 then o else -1) = P
  generalize hR : (if x.st ≠ 0 then x.ln else -1) = R
  have HP := Lib.hid hP
  have HR := Lib.hid hR
  obtain ⟨sx, lx, ax, bx, cx, dx⟩ := x
  simp only at *
  generalize locB st kd = lb at L ⊢
  generalize owB sx = ow at O ⊢
  clear h1 h2 hP hR
  have low := Below.refl w.heap.size w
  have pb := boxNext low 179 (plcA k st al o)
  replace low := gAlloc low (.cells (plcA k st al o) 179)
  try simp only [World.size_alloc] at pb
  have xb := boxNext low 80 #[.int .i64 sx, .int .i64 lx, .int .u64 ax, .int .u64 bx, .int .u64 cx, .int .u64 dx]
  replace low := gAlloc low (.cells #[.int .i64 sx, .int .i64 lx, .int .u64 ax, .int .u64 bx, .int .u64 cx, .int .u64 dx] 80)
  replace pb := pb.alloc (.cells #[.int .i64 sx, .int .i64 lx, .int .u64 ax, .int .u64 bx, .int .u64 cx, .int .u64 dx] 80)
  try simp only [World.size_alloc] at xb
  have ob := boxNext low 159 (doneA 0 false 0 0 false)
  replace low := gAlloc low (.cells (doneA 0 false 0 0 false) 159)
  replace pb := pb.alloc (.cells (doneA 0 false 0 0 false) 159)
  replace xb := xb.alloc (.cells (doneA 0 false 0 0 false) 159)
  try simp only [World.size_alloc] at ob
  have p1 := pb.at_ 1 rfl
  have x0 := xb.at_ 0 rfl
  go_enter Tryz.func107, Tryz.ntmps107
  go_wp2_with (with_reducible refine wp_newW (tyDone) ?_)
  refine wp_region_noPanic ?_
  refine wp_region_held_drew (S := fun w' => w'.cell? ⟨w.heap.size, 1, none⟩ = some (.int .i64 st) ∧ w'.cell? ⟨w.heap.size + 1, 0, none⟩ = some (.int .i64 sx)) (by kernel_rfl) ⟨drewC p1, drewC x0⟩ (fun hHeld => ?_)
  clear p1 x0
  refine takeFirst (i := 0) (v := ?_) rfl (by kernel_rfl) (by kernel_rfl) (by kernel_rfl) (by rfl) (fun _ _ _ h => h) ?_ (by assumption) ?_
  rotate_left
  · (intro w hSw; go_simp; try (with_reducible rfl))
  try simp only [Act.put, List.setIfInBounds_toArray, List.set_cons_zero, List.set_cons_succ]
  refine takeFirst (i := 1) (v := ?_) rfl (by kernel_rfl) (by kernel_rfl) (by kernel_rfl) (by rfl) (fun _ _ _ h => h) ?_ (by assumption) ?_
  rotate_left
  · (intro w hSw; go_simp; try (with_reducible rfl))
  try simp only [Act.put, List.setIfInBounds_toArray, List.set_cons_zero, List.set_cons_succ]
  refine takeFirst (i := 2) (v := ?_) rfl (by kernel_rfl) (by kernel_rfl) (by kernel_rfl) (by rfl) (fun _ _ _ h => h) ?_ (by assumption) ?_
  rotate_left
  · (intro w hSw; go_simp; try (with_reducible rfl))
  try simp only [Act.put, List.setIfInBounds_toArray, List.set_cons_zero, List.set_cons_succ]
  refine takeFirst (i := 3) (v := ?_) rfl (by kernel_rfl) (by kernel_rfl) (by kernel_rfl) (by rfl) (fun _ _ _ h => h) ?_ (by assumption) ?_
  rotate_left
  · (intro w hSw; go_simp; try (with_reducible rfl))
  try simp only [Act.put, List.setIfInBounds_toArray, List.set_cons_zero, List.set_cons_succ]
  refine takeFirst (i := 5) (v := ?_) rfl (by kernel_rfl) (by kernel_rfl) (by kernel_rfl) (by rfl) (fun _ _ _ h => h) ?_ (by assumption) ?_
  rotate_left
  · (intro w hSw; go_simp; try (with_reducible rfl))
  try simp only [Act.put, List.setIfInBounds_toArray, List.set_cons_zero, List.set_cons_succ]
  refine takeFirst (i := 6) (v := ?_) rfl (by kernel_rfl) (by kernel_rfl) (by kernel_rfl) (by rfl) (fun _ _ _ h => h) ?_ (by assumption) ?_
  rotate_left
  · (intro w hSw; go_simp; try (with_reducible rfl))
  try simp only [Act.put, List.setIfInBounds_toArray, List.set_cons_zero, List.set_cons_succ]
  replace pb := pb.drew
  replace xb := xb.drew
  replace ob := ob.drew
  replace low := low.drew
  have zo := ob.lt
  simp only [plcA, doneA] at pb ob zo
  generalize hW : World.drew _ = wN at *
  clear hW
  have hNew := (And.intro (allocC (.cells (doneA 0 false 0 0 false) 159) hHeld.1) (allocC (.cells (doneA 0 false 0 0 false) 159) hHeld.2))
  apply shareAll
  · intro hE
    refine stepTwo (i1 := 4) (i2 := 9) (by kernel_rfl) rfl rfl (by rfl) (by rfl) (fun K hK => ?_) (fun K hK => ?_)
    · go_simp
      (with_reducible refine (L.out _).mono ?_); rintro e w' ⟨rfl, rfl⟩
      refine hK.out _ _ (by assumption) ?_
      clear hK K
      try simp only [Act.put]
      try simp only [List.setIfInBounds_toArray, List.set_cons_zero, List.set_cons_succ]
      refine stepTwo (i1 := 7) (i2 := 9) (by kernel_rfl) rfl rfl (by rfl) (by rfl) (fun K hK => ?_) (fun K hK => ?_)
      · go_simp
        (with_reducible refine (O.out _).mono ?_); rintro e w' ⟨rfl, rfl⟩
        refine hK.out _ _ (by assumption) ?_
        clear hK K
        try simp only [Act.put]
        try simp only [List.setIfInBounds_toArray, List.set_cons_zero, List.set_cons_succ]
        refine takeFirst (i := 8) (v := ?_) rfl (by kernel_rfl) (by kernel_rfl) (by kernel_rfl) (by rfl) (fun _ _ _ h => h) ?_ (by assumption) ?_
        rotate_left
        · (intro w hSw; go_simp; try (with_reducible rfl))
        try simp only [Act.put, List.setIfInBounds_toArray, List.set_cons_zero, List.set_cons_succ]
        refine stepNext (i := 9) (by kernel_rfl) rfl (by rfl) (fun K hK => ?_)
        refine op_newW tyDone ?_
        refine hK.out _ _ hNew ?_
        clear hK K
        try simp only [Act.put]
        try simp only [List.setIfInBounds_toArray, List.set_cons_zero, List.set_cons_succ]
        refine relist (l2 := #[true, true, true, true, true, true, true, true, true, true, false]) (by kernel_rfl) ?_
        exact hE trivial
      · refine op_newW tyDone ?_
        refine hK.out _ _ hNew ?_
        clear hK K
        try simp only [Act.put]
        try simp only [List.setIfInBounds_toArray, List.set_cons_zero, List.set_cons_succ]
        refine stepNext (i := 7) (by kernel_rfl) rfl (by rfl) (fun K hK => ?_)
        go_simp
        (with_reducible refine (O.out _).mono ?_); rintro e w' ⟨rfl, rfl⟩
        refine hK.out _ _ (by assumption) ?_
        clear hK K
        try simp only [Act.put]
        try simp only [List.setIfInBounds_toArray, List.set_cons_zero, List.set_cons_succ]
        refine takeFirst (i := 8) (v := ?_) rfl (by kernel_rfl) (by kernel_rfl) (by kernel_rfl) (by rfl) (fun _ _ _ h => h) ?_ (by assumption) ?_
        rotate_left
        · (intro w hSw; go_simp; try (with_reducible rfl))
        try simp only [Act.put, List.setIfInBounds_toArray, List.set_cons_zero, List.set_cons_succ]
        refine relist (l2 := #[true, true, true, true, true, true, true, true, true, true, false]) (by kernel_rfl) ?_
        exact hE trivial
    · refine op_newW tyDone ?_
      refine hK.out _ _ hNew ?_
      clear hK K
      try simp only [Act.put]
      try simp only [List.setIfInBounds_toArray, List.set_cons_zero, List.set_cons_succ]
      refine stepNext (i := 4) (by kernel_rfl) rfl (by rfl) (fun K hK => ?_)
      go_simp
      (with_reducible refine (L.out _).mono ?_); rintro e w' ⟨rfl, rfl⟩
      refine hK.out _ _ (by assumption) ?_
      clear hK K
      try simp only [Act.put]
      try simp only [List.setIfInBounds_toArray, List.set_cons_zero, List.set_cons_succ]
      refine stepNext (i := 7) (by kernel_rfl) rfl (by rfl) (fun K hK => ?_)
      go_simp
      (with_reducible refine (O.out _).mono ?_); rintro e w' ⟨rfl, rfl⟩
      refine hK.out _ _ (by assumption) ?_
      clear hK K
      try simp only [Act.put]
      try simp only [List.setIfInBounds_toArray, List.set_cons_zero, List.set_cons_succ]
      refine takeFirst (i := 8) (v := ?_) rfl (by kernel_rfl) (by kernel_rfl) (by kernel_rfl) (by rfl) (fun _ _ _ h => h) ?_ (by assumption) ?_
      rotate_left
      · (intro w hSw; go_simp; try (with_reducible rfl))
      try simp only [Act.put, List.setIfInBounds_toArray, List.set_cons_zero, List.set_cons_succ]
      refine relist (l2 := #[true, true, true, true, true, true, true, true, true, true, false]) (by kernel_rfl) ?_
      exact hE trivial
  have yb := Box.new wN 159 (doneA 0 false 0 0 false)
  replace pb := pb.alloc (.cells (doneA 0 false 0 0 false) 159)
  replace xb := xb.alloc (.cells (doneA 0 false 0 0 false) 159)
  replace ob := ob.alloc (.cells (doneA 0 false 0 0 false) 159)
  replace low := gAlloc low (.cells (doneA 0 false 0 0 false) 159)
  refine stepNext (i := 10) (by kernel_rfl) rfl (by rfl) (fun K hK => ?_)
  refine wp_store_box 159 (.tmp 9) (.tmp 18) rfl _ _ rfl rfl yb (tyDone.size.trans rfl) rfl (done_one u lb (-1) (-1) ow) ?_
  intro w2 yb2 st2
  replace pb := st2.box pb (by omega)
  replace xb := st2.box xb (by omega)
  replace ob := st2.box ob (by omega)
  replace low := st2.low low (by omega)
  have hAll := (And.intro (pb.at_ 1 rfl) (xb.at_ 0 rfl))
  refine hK.out _ _ hAll ?_
  clear hK K st2 yb hAll hHeld hNew
  try simp only [Act.put]
  try simp only [List.setIfInBounds_toArray, List.set_cons_zero, List.set_cons_succ]
  refine wpAnyH_done (by kernel_rfl) ?_ _
  refine NoPanic.normal ?_
  have zy := yb2.lt
  generalize hgy : wN.heap.size = gy at *
  have HGY := Lib.hid hgy
  have ny : w.heap.size + 1 + 1 ≠ gy := by omega
  have nl : w.heap.size ≤ gy := by omega
  clear hgy
  have pb_0 := pb.at_ 0 rfl
  have pb_1 := pb.at_ 1 rfl
  have pb_3 := pb.at_ 3 rfl
  have xb_0 := xb.at_ 0 rfl
  have xb_1 := xb.at_ 1 rfl
  by_cases hs : st = 0
  · obtain rfl : o = P := by have := HP.out; rwa [if_pos hs] at this
    have hs0 : (st == 0) = true := by simp [hs]
    clear hs
    have i2 : 2 < (doneA u lb (-1) (-1) ow).size := show 2 < 5 by omega
    go_wp2_with ((with_reducible refine wp_storeI (kk := .i64) size_int yb2 2 i2 o ?_ ?_ ?_); rfl; rfl)
    intro w5 yb5 st5
    replace ob := st5.box ob (by omega)
    replace xb := st5.box xb (by omega)
    replace low := st5.low low (by omega)
    have yb2 : Box w5 gy 159 (doneA u lb o (-1) ow) := yb5
    clear st5 yb5
    clear pb_0 pb_1 pb_3 xb_0 xb_1
    have xb_0 := xb.at_ 0 rfl
    have xb_1 := xb.at_ 1 rfl
    by_cases hq : sx ≠ 0
    · obtain rfl : lx = R := by have := HR.out; rwa [if_pos hq] at this
      have hq0 : (sx != 0) = true := by simpa using hq
      clear hq
      have i3 : 3 < (doneA u lb (o) (-1) ow).size := show 3 < 5 by omega
      go_wp2_with ((with_reducible refine wp_storeI (kk := .i64) size_int yb2 3 i3 lx ?_ ?_ ?_); rfl; rfl)
      intro w7 yb7 st7
      replace ob := st7.box ob (by omega)
      replace low := st7.low low (by omega)
      have yb2 : Box w7 gy 159 (doneA u lb (o) lx ow) := yb7
      clear st7 yb7
      have yr := yb2.range
      have sz : (doneA u lb (o) (lx) ow).size = (doneA 0 false 0 0 false).size := done_size u lb (o) (lx) ow
      have one := done_one u lb (o) (lx) ow
      go_wp2_with (first | ((with_reducible refine wp_loadW (tyDone) (yr) (sz) ?_ ?_ ?_); rfl; rfl) | ((with_reducible refine wp_storeW (tyDone) (ob) (rfl) (sz) (one) ?_ ?_ ?_); rfl; rfl))
      intro w6 ob6 st6
      replace low := st6.low low (by omega)
      clear st6 ob
      go_wp2_with fail
      exact bodyPost_ret (v := doneV u lb (o) (lx) ow) (results_one tyDone Tryz.results107 rfl ob6 rfl) rfl ⟨rfl, low⟩
    · obtain rfl : -1 = R := by have := HR.out; rwa [if_neg hq] at this
      have hq0 : (sx != 0) = false := by simpa using hq
      clear hq
      have yr := yb2.range
      have sz : (doneA u lb (o) (-1) ow).size = (doneA 0 false 0 0 false).size := done_size u lb (o) (-1) ow
      have one := done_one u lb (o) (-1) ow
      go_wp2_with (first | ((with_reducible refine wp_loadW (tyDone) (yr) (sz) ?_ ?_ ?_); rfl; rfl) | ((with_reducible refine wp_storeW (tyDone) (ob) (rfl) (sz) (one) ?_ ?_ ?_); rfl; rfl))
      intro w6 ob6 st6
      replace low := st6.low low (by omega)
      clear st6 ob
      go_wp2_with fail
      exact bodyPost_ret (v := doneV u lb (o) (-1) ow) (results_one tyDone Tryz.results107 rfl ob6 rfl) rfl ⟨rfl, low⟩
  · obtain rfl : -1 = P := by have := HP.out; rwa [if_neg hs] at this
    have hs0 : (st == 0) = false := by simpa using hs
    clear hs
    by_cases hq : sx ≠ 0
    · obtain rfl : lx = R := by have := HR.out; rwa [if_pos hq] at this
      have hq0 : (sx != 0) = true := by simpa using hq
      clear hq
      have i3 : 3 < (doneA u lb (-1) (-1) ow).size := show 3 < 5 by omega
      go_wp2_with ((with_reducible refine wp_storeI (kk := .i64) size_int yb2 3 i3 lx ?_ ?_ ?_); rfl; rfl)
      intro w7 yb7 st7
      replace ob := st7.box ob (by omega)
      replace low := st7.low low (by omega)
      have yb2 : Box w7 gy 159 (doneA u lb (-1) lx ow) := yb7
      clear st7 yb7
      have yr := yb2.range
      have sz : (doneA u lb (-1) (lx) ow).size = (doneA 0 false 0 0 false).size := done_size u lb (-1) (lx) ow
      have one := done_one u lb (-1) (lx) ow
      go_wp2_with (first | ((with_reducible refine wp_loadW (tyDone) (yr) (sz) ?_ ?_ ?_); rfl; rfl) | ((with_reducible refine wp_storeW (tyDone) (ob) (rfl) (sz) (one) ?_ ?_ ?_); rfl; rfl))
      intro w6 ob6 st6
      replace low := st6.low low (by omega)
      clear st6 ob
      go_wp2_with fail
      exact bodyPost_ret (v := doneV u lb (-1) (lx) ow) (results_one tyDone Tryz.results107 rfl ob6 rfl) rfl ⟨rfl, low⟩
    · obtain rfl : -1 = R := by have := HR.out; rwa [if_neg hq] at this
      have hq0 : (sx != 0) = false := by simpa using hq
      clear hq
      have yr := yb2.range
      have sz : (doneA u lb (-1) (-1) ow).size = (doneA 0 false 0 0 false).size := done_size u lb (-1) (-1) ow
      have one := done_one u lb (-1) (-1) ow
      go_wp2_with (first | ((with_reducible refine wp_loadW (tyDone) (yr) (sz) ?_ ?_ ?_); rfl; rfl) | ((with_reducible refine wp_storeW (tyDone) (ob) (rfl) (sz) (one) ?_ ?_ ?_); rfl; rfl))
      intro w6 ob6 st6
      replace low := st6.low low (by omega)
      clear st6 ob
      go_wp2_with fail
      exact bodyPost_ret (v := doneV u lb (-1) (-1) ow) (results_one tyDone Tryz.results107 rfl ob6 rfl) rfl ⟨rfl, low⟩
end Go.Proofs.YtgdacpcifnpojaaGreat

/- Atomic2: Proved: what Play of package atomic returns, for every list of operations that can be read; it changes nothing that was there. An argument that is an operation, or a list of them. No condition. -/
namespace Go.Proofs.YtgdacpcifnpojaaGreat
open Go.ChangeShapes Go.WideShapes Go.ChangeAt Go.RowKit Go.Joins

/-! Operations one after the other: the first error, the memory, what they tell. -/
def runE : List Dd → Int
  | [] => 0
  | d :: r => if deedE d = 0 then runE r else deedE d
def runM (l : List Int) (r : List Dd) : List Int := r.foldl doM l
def runV (l : List Int) : List Dd → List Int
  | [] => []
  | d :: r => doV l d :: runV (doM l d) r

theorem runM_length {l : List Int} (hl : l.length = 64) : ∀ (r : List Dd), (runM l r).length = 64 := fun r => by
  induction r generalizing l with
  | nil => exact hl
  | cons d r ih => exact ih (doM_length d hl)
theorem runV_length (l : List Int) (r : List Dd) : (runV l r).length = r.length := by
  induction r generalizing l with
  | nil => rfl
  | cons d r ih => simp [runV, ih]
theorem runE_append (a b : List Dd) : runE (a ++ b) = if runE a = 0 then runE b else runE a := by
  induction a with
  | nil => simp [runE]
  | cons d r ih =>
    simp only [List.cons_append, runE]
    by_cases h : deedE d = 0
    · simp only [if_pos h, ih]
    · simp only [if_neg h]
theorem runM_append (l : List Int) (a b : List Dd) : runM l (a ++ b) = runM (runM l a) b := List.foldl_append
theorem runV_append (l : List Int) (a b : List Dd) : runV l (a ++ b) = runV l a ++ runV (runM l a) b := by
  induction a generalizing l with
  | nil => rfl
  | cons d r ih => simp only [List.cons_append, runV, ih]; rfl

theorem take_more {r : List Dd} {j : Nat} {d : Dd} (h : r[j]? = some d) : r.take (j + 1) = r.take j ++ [d] := by
  rw [List.take_add_one, h]; rfl

/-- What the first j operations tell; the others' places hold 0. -/
def toldL (l : List Int) (r : List Dd) (j : Nat) : List Int := runV l (r.take j) ++ List.replicate (r.length - j) 0
theorem toldL_zero (l : List Int) (r : List Dd) : toldL l r 0 = List.replicate r.length 0 := rfl
theorem toldL_length (l : List Int) (r : List Dd) (j : Nat) (hj : j ≤ r.length) : (toldL l r j).length = r.length := by
  simp [toldL, runV_length]; omega
theorem toldL_all (l : List Int) (r : List Dd) : toldL l r r.length = runV l r := by simp [toldL]
theorem toldL_step {l : List Int} {r : List Dd} {j : Nat} {d : Dd} (h : r[j]? = some d) : (toldL l r j).set j (doV (runM l (r.take j)) d) = toldL l r (j + 1) := by
  have hj : j < r.length := (List.getElem?_eq_some_iff.1 h).1
  have e : (runV l (r.take j)).length = j := by rw [runV_length, List.length_take]; omega
  unfold toldL
  rw [take_more h, runV_append, List.set_append_right _ _ (by omega), e, Nat.sub_self, show r.length - j = (r.length - (j + 1)) + 1 by omega, List.replicate_succ, List.set_cons_zero, List.append_assoc]
  rfl

theorem info_word : (Tryz.prog.info? 25).map (fun i => (i.zero, i.size, i.bytes)) = some (some (.int .u64 0), 1, 8) := by kernel_rfl

end Go.Proofs.YtgdacpcifnpojaaGreat

/- DeedFind: Proved: what find of package deed returns, for every world that can be read; it changes nothing that was there. Conditions: none for the errors; the world, the operation and the node are right for the rest. -/
namespace Go.Proofs.YtgdacpcifnpojaaGreat
open Go.ChangeShapes Go.WideShapes Go.ChangeAt Go.RowKit Go.Joins

/-- Is another number than 'i' among them? -/
def othB (xs : List Int) (i : Int) : Bool := xs.any fun x => x != i

theorem indexOther (v : Value) (xs : List Int) (g : Nat) (i : Int) (w : World) (h : Sl w w.heap.size 1 v xs.length (xs.map (Value.int .i64))) (hc : w.cell? ⟨g, 0, none⟩ = some (.int .i64 i)) :
    Calls Tryz.prog 79 #[v, .func (.func 130) #[] #[.pointer (some ⟨g, 0, none⟩)]] w fun e w' => (∃ r : Int, e = .returned (.int .i64 r) ∧ decide (0 ≤ r) = othB xs i) ∧ w = w' := by
  obtain ⟨hl, A, c, rfl, h1, h2, h3⟩ := h
  have H3 := Lib.hid h3
  unfold maxLen at h2
  clear hl h3
  generalize hB : othB xs i = B
  have HB := Lib.hid hB
  clear hB
  go_enter Tryz.func79, Tryz.ntmps79
  go_wp2
  go_loop [8] (fun a => ∃ k : Nat, (k ≤ xs.length ∧ Hid (∀ (j : Nat) x, j < k → xs[j]? = some x → x = i)) ∧ a = .int .i64 k) (fun a => xs.length - (intOf a).toNat)
  case atStart => exact ⟨0, ⟨Nat.zero_le _, Lib.hid fun j x hj => absurd hj (by omega)⟩, rfl⟩
  case round =>
    obtain ⟨k, ⟨hk, Z⟩, rfl⟩ := hrel
    by_cases hlt : k < xs.length
    · obtain ⟨bb, o, rfl, hb, hcell⟩ := H3.out (by omega)
      have hx : xs[k]? = some xs[k] := List.getElem?_eq_getElem _
      generalize xs[k] = x at hx
      have g0 := hcell k (.int .i64 x) (by rw [List.getElem?_map, hx]; rfl)
      have HX := Lib.hid hx
      clear hx hcell
      have k0 : (0 : Int) ≤ k := by omega
      have k1 : (k : Int) < xs.length := by omega
      by_cases h0 : x = i
      · have e0 : (x != i) = false := by simp [h0]
        have H0 := Lib.hid h0
        clear h0
        go_wp2
        go_round
        case rel => exact ⟨k + 1, ⟨by omega, Lib.hid fun j y hj hy => by
          by_cases e : j < k
          · exact Z.out j y e hy
          · obtain rfl : j = k := by omega
            rw [HX.out] at hy
            cases hy
            exact H0.out⟩, by go_num⟩
        case measure => simp [intOf]; omega
      · have e0 : (x != i) = true := by simpa using h0
        have H0 := Lib.hid h0
        clear h0
        go_wp2
        go_ret
        refine ⟨⟨k, rfl, ?_⟩, rfl⟩
        have : othB xs i = true := List.any_eq_true.2 ⟨x, List.mem_of_getElem? HX.out, by simpa using H0.out⟩
        rw [← HB.out, this]
        exact decide_eq_true (by omega)
    · obtain rfl : k = xs.length := by omega
      clear hlt
      go_wp2
      go_ret
      refine ⟨⟨-1, rfl, ?_⟩, rfl⟩
      have : othB xs i = false := by
        unfold othB
        rw [List.any_eq_false]
        intro x hx
        obtain ⟨j, hj, e⟩ := List.getElem_of_mem hx
        have := Z.out j x hj (by rw [List.getElem?_eq_getElem hj, e])
        simp [this]
      rw [← HB.out, this]
      rfl
theorem containsOther (v : Value) (xs : List Int) (g : Nat) (i : Int) (w : World) (h : Sl w w.heap.size 1 v xs.length (xs.map (Value.int .i64))) (hc : w.cell? ⟨g, 0, none⟩ = some (.int .i64 i)) :
    Calls Tryz.prog 58 #[v, .func (.func 130) #[] #[.pointer (some ⟨g, 0, none⟩)]] w fun e w' => e = .returned (.bool (othB xs i)) ∧ w = w' := by
  have C := Lib.hid (indexOther v xs g i w h hc)
  obtain ⟨A, c, rfl⟩ : ∃ A c, v = .slice A xs.length c := by obtain ⟨_, A, c, e, _⟩ := h; exact ⟨A, c, e⟩
  generalize othB xs i = B at C ⊢
  clear h hc
  go_enter Tryz.func58, Tryz.ntmps58
  go_wp2_with fail
  (with_reducible refine (C.out).mono ?_); rintro e w' ⟨⟨r, rfl, hr⟩, rfl⟩
  cases B
  · go_wp2_with fail
    go_ret
    exact ⟨rfl, rfl⟩
  · go_wp2_with fail
    go_ret
    exact ⟨rfl, rfl⟩

/-- The first error of an operation in a world. -/
def findE (n s y b : Int) (css : List (List St)) (m : List Int) (d : Dd) : Int :=
  if cohE n s y b css m ≠ 0 then cohE n s y b css m else if deedE d ≠ 0 then deedE d else if n ≤ d.nd then 4 else 0
theorem findE_ok {n s y b : Int} {css : List (List St)} {m : List Int} {d : Dd} (h : findE n s y b css m d = 0) : cohE n s y b css m = 0 ∧ deedE d = 0 ∧ d.nd < n := by
  unfold findE at h
  by_cases h1 : cohE n s y b css m ≠ 0
  · rw [if_pos h1] at h; exact absurd h h1
  · rw [if_neg h1] at h
    by_cases h2 : deedE d ≠ 0
    · rw [if_pos h2] at h; exact absurd h h2
    · rw [if_neg h2] at h
      by_cases h3 : n ≤ d.nd
      · rw [if_pos h3] at h; omega
      · exact ⟨by simpa using h1, by simpa using h2, by omega⟩

theorem tyPlace : Ty 179 (plcA 0 0 false 0) := ⟨by kernel_rfl, ⟨_, Tryz.underlying179, rfl⟩, fun w => by kernel_rfl⟩
theorem plc_one (k s : Int) (al : Bool) (o : Int) : (plcA k s al o).all (·.oneCell') = true := by simp [Value.oneCell']
theorem plc_size (k s : Int) (al : Bool) (o : Int) : (plcA k s al o).size = (plcA 0 0 false 0).size := rfl


set_option maxRecDepth 10000 in
set_option maxHeartbeats 2000000 in
theorem find_bad (n s y b : Int) (v : Value) (m : List Int) (css : List (List St)) (d : Dd) (w : World) (h : Ks w v css) (hm : m.length = 64) (he : findE n s y b css m d ≠ 0) :
    Calls Tryz.prog 102 #[cfg n s y b, wldV v m, d.val] w fun e w' => e = .returned (.tuple #[plcV 0 0 false 0, .int .i64 (findE n s y b css m d)]) ∧ Below w.heap.size w w' := by
  have F := Lib.hid fun w hw => agreeCheck_any n s y b v m css w hw hm
  have R := Lib.hid fun w => atomicRight_any d w
  unfold findE at he ⊢
  generalize cohE n s y b css m = E at *
  generalize cohL n s y b css m = L at *
  generalize deedE d = D at *
  obtain ⟨dn, dk, da, dv⟩ := d
  simp only at *
  by_cases h1 : E ≠ 0
  · rw [if_pos h1] at he ⊢
    have e1 : (E != 0) = true := by simpa using h1
    clear he h1 R
    have low := Below.refl w.heap.size w
    have cb := boxNext low 23 (cfgA n s y b)
    replace low := gAlloc low (.cells (cfgA n s y b) 23)
    replace h := h.alloc (.cells (cfgA n s y b) 23)
    try simp only [World.size_alloc] at cb
    have wb := boxNext low 31 (wldA (v) m)
    replace low := gAlloc low (.cells (wldA (v) m) 31)
    replace cb := cb.alloc (.cells (wldA (v) m) 31)
    replace h := h.alloc (.cells (wldA (v) m) 31)
    try simp only [World.size_alloc] at wb
    have db := boxNext low 59 #[.int .i64 (dn), .int .i64 dk, .int .i64 da, .int .u64 dv]
    replace low := gAlloc low (.cells #[.int .i64 (dn), .int .i64 dk, .int .i64 da, .int .u64 dv] 59)
    replace cb := cb.alloc (.cells #[.int .i64 (dn), .int .i64 dk, .int .i64 da, .int .u64 dv] 59)
    replace wb := wb.alloc (.cells #[.int .i64 (dn), .int .i64 dk, .int .i64 da, .int .u64 dv] 59)
    replace h := h.alloc (.cells #[.int .i64 (dn), .int .i64 dk, .int .i64 da, .int .u64 dv] 59)
    try simp only [World.size_alloc] at db
    have ob := boxNext low 179 (plcA 0 0 false 0)
    replace low := gAlloc low (.cells (plcA 0 0 false 0) 179)
    replace cb := cb.alloc (.cells (plcA 0 0 false 0) 179)
    replace wb := wb.alloc (.cells (plcA 0 0 false 0) 179)
    replace db := db.alloc (.cells (plcA 0 0 false 0) 179)
    replace h := h.alloc (.cells (plcA 0 0 false 0) 179)
    try simp only [World.size_alloc] at ob
    have wr := wb.range
    go_enter Tryz.func102, Tryz.ntmps102
    go_wp2_with (first | (with_reducible refine wp_newW (tyPlace) ?_) | ((with_reducible refine wp_loadW (tyWorld) (wr) (wld_size hm) ?_ ?_ ?_); rfl; rfl))
    (with_reducible refine (F.out _ h).mono ?_); rintro e w1 ⟨rfl, hb⟩
    replace ob := ob.call hb
    replace db := db.call hb
    replace cb := cb.call hb
    replace wb := wb.call hb
    replace h := h.call hb
    replace low := gCall low hb
    clear hb wr F
    go_wp2_with (first | (with_reducible refine wp_zeroW (tyPlace) ?_) | ((with_reducible refine wp_storeW (tyPlace) (ob) (rfl) (plc_size 0 0 false 0) (plc_one 0 0 false 0) ?_ ?_ ?_); rfl; rfl))
    intro w9 ob9 st9
    replace low := st9.low low (by omega)
    clear st9 ob
    go_wp2_with fail
    exact bodyPost_ret (v := .tuple #[plcV 0 0 false 0, .int .i64 (E)]) (results_first tyPlace Tryz.results102 rfl rfl ob9 rfl) rfl ⟨rfl, low⟩
  · obtain rfl : E = 0 := by simpa using h1
    rw [if_neg h1] at he ⊢
    by_cases h2 : D ≠ 0
    · rw [if_pos h2] at he ⊢
      have e2 : (D != 0) = true := by simpa using h2
      clear he h1 h2
      have low := Below.refl w.heap.size w
      have cb := boxNext low 23 (cfgA n s y b)
      replace low := gAlloc low (.cells (cfgA n s y b) 23)
      replace h := h.alloc (.cells (cfgA n s y b) 23)
      try simp only [World.size_alloc] at cb
      have wb := boxNext low 31 (wldA (v) m)
      replace low := gAlloc low (.cells (wldA (v) m) 31)
      replace cb := cb.alloc (.cells (wldA (v) m) 31)
      replace h := h.alloc (.cells (wldA (v) m) 31)
      try simp only [World.size_alloc] at wb
      have db := boxNext low 59 #[.int .i64 (dn), .int .i64 dk, .int .i64 da, .int .u64 dv]
      replace low := gAlloc low (.cells #[.int .i64 (dn), .int .i64 dk, .int .i64 da, .int .u64 dv] 59)
      replace cb := cb.alloc (.cells #[.int .i64 (dn), .int .i64 dk, .int .i64 da, .int .u64 dv] 59)
      replace wb := wb.alloc (.cells #[.int .i64 (dn), .int .i64 dk, .int .i64 da, .int .u64 dv] 59)
      replace h := h.alloc (.cells #[.int .i64 (dn), .int .i64 dk, .int .i64 da, .int .u64 dv] 59)
      try simp only [World.size_alloc] at db
      have ob := boxNext low 179 (plcA 0 0 false 0)
      replace low := gAlloc low (.cells (plcA 0 0 false 0) 179)
      replace cb := cb.alloc (.cells (plcA 0 0 false 0) 179)
      replace wb := wb.alloc (.cells (plcA 0 0 false 0) 179)
      replace db := db.alloc (.cells (plcA 0 0 false 0) 179)
      replace h := h.alloc (.cells (plcA 0 0 false 0) 179)
      try simp only [World.size_alloc] at ob
      have wr := wb.range
      go_enter Tryz.func102, Tryz.ntmps102
      go_wp2_with (first | (with_reducible refine wp_newW (tyPlace) ?_) | ((with_reducible refine wp_loadW (tyWorld) (wr) (wld_size hm) ?_ ?_ ?_); rfl; rfl))
      (with_reducible refine (F.out _ h).mono ?_); rintro e w1 ⟨rfl, hb⟩
      replace ob := ob.call hb
      replace db := db.call hb
      replace cb := cb.call hb
      replace wb := wb.call hb
      replace h := h.call hb
      replace low := gCall low hb
      clear hb wr F
      have db_0 := db.at_ 0 rfl
      have db_1 := db.at_ 1 rfl
      have db_2 := db.at_ 2 rfl
      have db_3 := db.at_ 3 rfl
      go_wp2_with fail
      (with_reducible refine (R.out _).mono ?_); rintro e w2 ⟨rfl, hb⟩
      clear db_0 db_1 db_2 db_3
      replace ob := ob.call hb
      replace low := gCall low hb
      clear hb
      go_wp2_with (first | (with_reducible refine wp_zeroW (tyPlace) ?_) | ((with_reducible refine wp_storeW (tyPlace) (ob) (rfl) (plc_size 0 0 false 0) (plc_one 0 0 false 0) ?_ ?_ ?_); rfl; rfl))
      intro w9 ob9 st9
      replace low := st9.low low (by omega)
      clear st9 ob
      go_wp2_with fail
      exact bodyPost_ret (v := .tuple #[plcV 0 0 false 0, .int .i64 (D)]) (results_first tyPlace Tryz.results102 rfl rfl ob9 rfl) rfl ⟨rfl, low⟩
    · obtain rfl : D = 0 := by simpa using h2
      rw [if_neg h2] at he ⊢
      have h3 : n ≤ dn := by
        by_cases h3 : n ≤ dn
        · exact h3
        · rw [if_neg h3] at he; exact absurd rfl he
      rw [if_pos h3]
      clear he h1 h2
      have low := Below.refl w.heap.size w
      have cb := boxNext low 23 (cfgA n s y b)
      replace low := gAlloc low (.cells (cfgA n s y b) 23)
      replace h := h.alloc (.cells (cfgA n s y b) 23)
      try simp only [World.size_alloc] at cb
      have wb := boxNext low 31 (wldA (v) m)
      replace low := gAlloc low (.cells (wldA (v) m) 31)
      replace cb := cb.alloc (.cells (wldA (v) m) 31)
      replace h := h.alloc (.cells (wldA (v) m) 31)
      try simp only [World.size_alloc] at wb
      have db := boxNext low 59 #[.int .i64 (dn), .int .i64 dk, .int .i64 da, .int .u64 dv]
      replace low := gAlloc low (.cells #[.int .i64 (dn), .int .i64 dk, .int .i64 da, .int .u64 dv] 59)
      replace cb := cb.alloc (.cells #[.int .i64 (dn), .int .i64 dk, .int .i64 da, .int .u64 dv] 59)
      replace wb := wb.alloc (.cells #[.int .i64 (dn), .int .i64 dk, .int .i64 da, .int .u64 dv] 59)
      replace h := h.alloc (.cells #[.int .i64 (dn), .int .i64 dk, .int .i64 da, .int .u64 dv] 59)
      try simp only [World.size_alloc] at db
      have ob := boxNext low 179 (plcA 0 0 false 0)
      replace low := gAlloc low (.cells (plcA 0 0 false 0) 179)
      replace cb := cb.alloc (.cells (plcA 0 0 false 0) 179)
      replace wb := wb.alloc (.cells (plcA 0 0 false 0) 179)
      replace db := db.alloc (.cells (plcA 0 0 false 0) 179)
      replace h := h.alloc (.cells (plcA 0 0 false 0) 179)
      try simp only [World.size_alloc] at ob
      have wr := wb.range
      go_enter Tryz.func102, Tryz.ntmps102
      go_wp2_with (first | (with_reducible refine wp_newW (tyPlace) ?_) | ((with_reducible refine wp_loadW (tyWorld) (wr) (wld_size hm) ?_ ?_ ?_); rfl; rfl))
      (with_reducible refine (F.out _ h).mono ?_); rintro e w1 ⟨rfl, hb⟩
      replace ob := ob.call hb
      replace db := db.call hb
      replace cb := cb.call hb
      replace wb := wb.call hb
      replace h := h.call hb
      replace low := gCall low hb
      clear hb wr F
      have db_0 := db.at_ 0 rfl
      have db_1 := db.at_ 1 rfl
      have db_2 := db.at_ 2 rfl
      have db_3 := db.at_ 3 rfl
      go_wp2_with fail
      (with_reducible refine (R.out _).mono ?_); rintro e w2 ⟨rfl, hb⟩
      clear db_0 db_1 db_2 db_3
      replace ob := ob.call hb
      replace db := db.call hb
      replace cb := cb.call hb
      replace low := gCall low hb
      clear hb
      have d0 : decide (n ≤ dn) = true := decide_eq_true h3
      clear h3
      have db_0 := db.at_ 0 rfl
      have cb_0 := cb.at_ 0 rfl
      go_wp2_with (first | (with_reducible refine wp_zeroW (tyPlace) ?_) | ((with_reducible refine wp_storeW (tyPlace) (ob) (rfl) (plc_size 0 0 false 0) (plc_one 0 0 false 0) ?_ ?_ ?_); rfl; rfl))
      intro w9 ob9 st9
      replace low := st9.low low (by omega)
      clear st9 ob
      go_wp2_with fail
      exact bodyPost_ret (v := .tuple #[plcV 0 0 false 0, .int .i64 (4)]) (results_first tyPlace Tryz.results102 rfl rfl ob9 rfl) rfl ⟨rfl, low⟩
end Go.Proofs.YtgdacpcifnpojaaGreat
