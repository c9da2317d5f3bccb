/-
Proved: what Put, Take and Set of package cache return, for every cache that can be read; they change nothing that was there. No condition.
-/
import Derived.Test.YtmodajmjmdigfaaCache3
import Derived.Test.YtmodajmjmdigfaaMix
namespace Go.Proofs.Ytmodajmjmdigfaa
open Go.ChangeShapes Go.WideShapes Go.ChangeAt Go.RowKit Go.Joins

theorem cacheReplace_l (v : Value) (ss : List St) (k : Nat) (A : Option Addr) (c : Nat) (l : List Wy) (p q r : Bool) (w : World) (B : Nat) (h : Cs w v ss) (hk : k < ss.length) (hn : ss.length ≤ 4 ∧ ∀ (q : Nat) t, ss[q]? = some t → 0 < t.l.length ∧ t.l.length ≤ 4)
    (fr : Fr w B w.heap.size (.slice A l.length c) l) (hB : B ≤ w.heap.size) :
    Calls Try.prog 53 #[v, .int .i64 k, rowV (.slice A l.length c) p q r] w fun e w' => (∃ A' c', e = .returned (.slice A' ss.length c') ∧ CFr w' B w'.heap.size (.slice A' ss.length c') (ss.set k ⟨l, p, q, r⟩)) ∧ Below w.heap.size w w' := by
  refine (cacheReplace_any v ss k A c ⟨l, p, q, r⟩ w B h hk hn.1 hn.2 fr hB).mono ?_
  rintro e w' ⟨⟨v', rfl, fr⟩, hb⟩
  obtain ⟨A', c', e⟩ := fr.shape
  rw [List.length_set] at e
  subst e
  exact ⟨⟨A', c', rfl, fr⟩, hb⟩




theorem cachePut_bad (n s y b : Int) (v : Value) (ss : List St) (x : Wy) (w : World) (h : Cs w v ss) (he : wayCE n s y b ss x ≠ 0) :
    Calls Try.prog 16 #[cfg n s y b, v, x.val] w fun e w' => e = .returned (.tuple #[.slice none 0 0, zeroV, .int .i64 (wayCE n s y b ss x)]) ∧ Below w.heap.size w w' := by
  have low := Below.refl w.heap.size w
  have cb := boxNext low 44 (cfgA n s y b)
  replace low := gAlloc low (.cells (cfgA n s y b) 44)
  replace h := h.alloc (.cells (cfgA n s y b) 44)
  try simp only [World.size_alloc] at cb
  have xb := boxNext low 32 x.arr
  replace low := gAlloc low (.cells x.arr 32)
  replace h := h.alloc (.cells x.arr 32)
  replace cb := cb.alloc (.cells x.arr 32)
  try simp only [World.size_alloc] at xb
  simp only [Wy.arr] at xb
  have ob := boxNext low 32 zeroA
  replace low := gAlloc low (.cells zeroA 32)
  replace h := h.alloc (.cells zeroA 32)
  replace cb := cb.alloc (.cells zeroA 32)
  replace xb := xb.alloc (.cells zeroA 32)
  try simp only [World.size_alloc] at ob
  simp only [zeroA] at ob
  have C := Lib.hid fun w hw => setOfWay_bad n s y b v ss x w hw he
  generalize wayCE n s y b ss x = E at C he ⊢
  have he' : (E != 0) = true := by simpa using he
  clear he
  go_enter Try.func16, Try.ntmps16
  go_wp2_with fail
  (with_reducible refine (C.out _ h).mono ?_); rintro e w1 ⟨rfl, hb⟩
  replace ob := ob.call hb
  replace low := gCall low hb
  clear hb
  have ob_0 := ob.at_ 0 rfl
  have ob_1 := ob.at_ 1 rfl
  have ob_2 := ob.at_ 2 rfl
  have ob_3 := ob.at_ 3 rfl
  have ob_4 := ob.at_ 4 rfl
  have ob_5 := ob.at_ 5 rfl
  have ob_f0 := ob.frozen 0
  have ob_f1 := ob.frozen 1
  have ob_f2 := ob.frozen 2
  have ob_f3 := ob.frozen 3
  have ob_f4 := ob.frozen 4
  have ob_f5 := ob.frozen 5
  have z1 : w.heap.size + 1 + 1 < w1.heap.size := ob.lt
  go_wp2_with fail
  refine bodyPost_ret (v := .tuple #[.slice none 0 0, zeroV, .int .i64 E]) (by simp [results, Try.results16, go_sem, ob_0, ob_1, ob_2, ob_3, ob_4, ob_5]) rfl ⟨rfl, ?_⟩
  repeat (refine gSet ?_ (by dsimp only; omega) _)
  exact low

set_option maxRecDepth 10000 in
set_option maxHeartbeats 2000000 in
theorem cachePut_in (n s y b : Int) (v : Value) (ss : List St) (x : Wy) (k : Nat) (t : St) (w : World) (h : Cs w v ss) (he : wayCE n s y b ss x = 0) (hk : x.ln % s = k) (ht : ss[k]? = some t) :
    ∃ la tt z E, PutIs t.l t.a t.b t.c y x la tt z E ∧ Calls Try.prog 16 #[cfg n s y b, v, x.val] w fun e w' =>
      ((E ≠ 0 ∧ e = .returned (.tuple #[.slice none 0 0, zeroV, .int .i64 E])) ∨ (E = 0 ∧ ∃ A c, e = .returned (.tuple #[.slice A ss.length c, z.val, .int .i64 0]) ∧ CFr w' w.heap.size w'.heap.size (.slice A ss.length c) (ss.set k ⟨la, tt.1, tt.2.1, tt.2.2⟩))) ∧ Below w.heap.size w w' := by
  obtain ⟨g1, g2⟩ := wayCE_ok he
  have good := goodC_iff.1 g1
  have SM := Lib.hid good.small
  have kl := st_lt ht
  obtain ⟨A, cp, rfl, h1, h2, h3⟩ := h.ex
  obtain ⟨bb, o, rfl, hb, hc⟩ := h3 (by omega)
  obtain ⟨A', c', ra, ws⟩ := hc.at_ k t ht
  obtain ⟨la, tt, z, E, PI, P⟩ := put_fr (.slice A' t.l.length c') t.l t.a t.b t.c y x
  refine ⟨la, tt, z, E, PI, ?_⟩
  unfold GivesF at P
  have CT := Lib.hid P
  have C := Lib.hid fun w hw => setOfWay_ok n s y b (.slice (some ⟨bb, o, none⟩) ss.length cp) ss x w hw he
  rw [hk] at C
  have kc : (k : Int) < ss.length := by omega
  have k0 : (0 : Int) ≤ k := by omega
  clear P PI h1 h2 h3 hc good g1 g2 he hk ht
  have low := Below.refl w.heap.size w
  have cb := boxNext low 44 (cfgA n s y b)
  replace low := gAlloc low (.cells (cfgA n s y b) 44)
  replace h := h.alloc (.cells (cfgA n s y b) 44)
  try simp only [World.size_alloc] at cb
  have xb := boxNext low 32 x.arr
  replace low := gAlloc low (.cells x.arr 32)
  replace h := h.alloc (.cells x.arr 32)
  replace cb := cb.alloc (.cells x.arr 32)
  try simp only [World.size_alloc] at xb
  simp only [Wy.arr] at xb
  have ob := boxNext low 32 zeroA
  replace low := gAlloc low (.cells zeroA 32)
  replace h := h.alloc (.cells zeroA 32)
  replace cb := cb.alloc (.cells zeroA 32)
  replace xb := xb.alloc (.cells zeroA 32)
  try simp only [World.size_alloc] at ob
  simp only [zeroA] at ob
  go_enter Try.func16, Try.ntmps16
  go_wp2_with fail
  (with_reducible refine (C.out _ h).mono ?_); rintro e w1 ⟨rfl, hb⟩
  replace ob := ob.call hb
  replace cb := cb.call hb
  replace xb := xb.call hb
  replace h := h.call hb
  replace low := gCall low hb
  clear hb
  clear C
  obtain ⟨r0, r1, r2, r3⟩ := rowAt_of ra hb low
  obtain ⟨x0, x1, x2, x3, x4, x5⟩ := xb.wayC
  have q2 := cb.at_ 2 rfl
  replace ws := ws.call low
  have z1 : w.heap.size + 1 + 1 < w1.heap.size := ob.lt
  clear ra
  go_wp2_with fail
  refine wp_region_noPanic ?_
  refine wp_region_held_drew (S := fun w' => w'.cell? ⟨bb, o + k * 4, none⟩ = some (.slice A' t.l.length c') ∧ w'.cell? ⟨bb, o + k * 4 + 1, none⟩ = some (.bool t.a) ∧ w'.cell? ⟨bb, o + k * 4 + 2, none⟩ = some (.bool t.b) ∧ w'.cell? ⟨bb, o + k * 4 + 3, none⟩ = some (.bool t.c) ∧ w'.cell? ⟨w.heap.size, 2, none⟩ = some (.int .i64 y) ∧ w'.cell? ⟨w.heap.size + 1, 0, none⟩ = some (.int .i64 x.st) ∧ w'.cell? ⟨w.heap.size + 1, 1, none⟩ = some (.int .i64 x.ln) ∧ w'.cell? ⟨w.heap.size + 1, 2, none⟩ = some (.int .u64 x.a) ∧ w'.cell? ⟨w.heap.size + 1, 3, none⟩ = some (.int .u64 x.b) ∧ w'.cell? ⟨w.heap.size + 1, 4, none⟩ = some (.int .u64 x.c) ∧ w'.cell? ⟨w.heap.size + 1, 5, none⟩ = some (.int .u64 x.d)) (by kernel_rfl) ⟨drewC r0, drewC r1, drewC r2, drewC r3, drewC q2, drewC x0, drewC x1, drewC x2, drewC x3, drewC x4, drewC x5⟩ (fun hHeld => ?_)
  clear r0 r1 r2 r3 x0 x1 x2 x3 x4 x5 q2 cb xb
  have z1 : w.heap.size + 1 + 1 < w1.drew.heap.size := z1
  replace ws := ws.drew
  replace ob := ob.drew
  replace h := h.drew
  replace low := low.drew
  generalize w1.drew = wN at *
  have WS := Lib.hid ws
  clear ws
  refine takeFirst (i := 0) (v := ?_) rfl (by kernel_rfl) (by kernel_rfl) (by kernel_rfl) (by rfl) (fun _ _ _ h => h) ?_ (by assumption) ?_
  rotate_left
  · (intro w hSw; go_simp; try (with_reducible rfl))
  try simp only [Act.put, List.setIfInBounds_toArray, List.set_cons_zero, List.set_cons_succ]
  refine takeFirst (i := 1) (v := ?_) rfl (by kernel_rfl) (by kernel_rfl) (by kernel_rfl) (by rfl) (fun _ _ _ h => h) ?_ (by assumption) ?_
  rotate_left
  · (intro w hSw; go_simp; try (with_reducible rfl))
  try simp only [Act.put, List.setIfInBounds_toArray, List.set_cons_zero, List.set_cons_succ]
  refine takeFirst (i := 2) (v := ?_) rfl (by kernel_rfl) (by kernel_rfl) (by kernel_rfl) (by rfl) (fun _ _ _ h => h) ?_ (by assumption) ?_
  rotate_left
  · (intro w hSw; go_simp; try (with_reducible rfl))
  try simp only [Act.put, List.setIfInBounds_toArray, List.set_cons_zero, List.set_cons_succ]
  refine takeFirst (i := 3) (v := ?_) rfl (by kernel_rfl) (by kernel_rfl) (by kernel_rfl) (by rfl) (fun _ _ _ h => h) ?_ (by assumption) ?_
  rotate_left
  · (intro w hSw; go_simp; try (with_reducible rfl))
  try simp only [Act.put, List.setIfInBounds_toArray, List.set_cons_zero, List.set_cons_succ]
  refine takeFirst (i := 4) (v := ?_) rfl (by kernel_rfl) (by kernel_rfl) (by kernel_rfl) (by rfl) (fun _ _ _ h => h) ?_ (by assumption) ?_
  rotate_left
  · (intro w hSw; go_simp; try (with_reducible rfl))
  try simp only [Act.put, List.setIfInBounds_toArray, List.set_cons_zero, List.set_cons_succ]
  refine takeFirst (i := 5) (v := ?_) rfl (by kernel_rfl) (by kernel_rfl) (by kernel_rfl) (by rfl) (fun _ _ _ h => h) ?_ (by assumption) ?_
  rotate_left
  · (intro w hSw; go_simp; try (with_reducible rfl))
  try simp only [Act.put, List.setIfInBounds_toArray, List.set_cons_zero, List.set_cons_succ]
  refine takeFirst (i := 6) (v := ?_) rfl (by kernel_rfl) (by kernel_rfl) (by kernel_rfl) (by rfl) (fun _ _ _ h => h) ?_ (by assumption) ?_
  rotate_left
  · (intro w hSw; go_simp; try (with_reducible rfl))
  try simp only [Act.put, List.setIfInBounds_toArray, List.set_cons_zero, List.set_cons_succ]
  apply share (M := fun ga gb A c wz => Mid wN 26 (rowA (.slice none 0 0) false false false) 32 zeroA wz (some ga) (some gb) (some (.slice A la.length c, la)))
  · intro hE
    have mid := Mid.start wN 26 (rowA (.slice none 0 0) false false false) 32 zeroA
    refine stepThree (i1 := 7) (i2 := 12) (i3 := 13) (by kernel_rfl) rfl rfl rfl (by rfl) (by rfl) (by rfl) (fun K hK => ?_) (fun K hK => ?_) (fun K hK => ?_)
    · go_simp
      (with_reducible refine (Calls.mono (CT.out _ (WS.out.call mid.low)) ?_)); rintro e wx ⟨⟨Az, cz, rfl, frz⟩, hbz⟩
      replace mid := mid.call hbz frz
      clear hbz frz
      try clear hNow
      have hNow := (And.intro (callC mid.low hHeld.1) (And.intro (callC mid.low hHeld.2.1) (And.intro (callC mid.low hHeld.2.2.1) (And.intro (callC mid.low hHeld.2.2.2.1) (And.intro (callC mid.low hHeld.2.2.2.2.1) (And.intro (callC mid.low hHeld.2.2.2.2.2.1) (And.intro (callC mid.low hHeld.2.2.2.2.2.2.1) (And.intro (callC mid.low hHeld.2.2.2.2.2.2.2.1) (And.intro (callC mid.low hHeld.2.2.2.2.2.2.2.2.1) (And.intro (callC mid.low hHeld.2.2.2.2.2.2.2.2.2.1) (callC mid.low hHeld.2.2.2.2.2.2.2.2.2.2)))))))))))
      refine hK.out _ _ hNow ?_
      clear hK K
      try simp only [Act.put]
      try simp only [List.setIfInBounds_toArray, List.set_cons_zero, List.set_cons_succ]
      refine takeFirst (i := 8) (v := ?_) rfl (by kernel_rfl) (by kernel_rfl) (by kernel_rfl) (by rfl) (fun _ _ _ h => h) ?_ (by assumption) ?_
      rotate_left
      · (intro w hSw; go_simp; try (with_reducible rfl))
      try simp only [Act.put, List.setIfInBounds_toArray, List.set_cons_zero, List.set_cons_succ]
      refine takeFirst (i := 9) (v := ?_) rfl (by kernel_rfl) (by kernel_rfl) (by kernel_rfl) (by rfl) (fun _ _ _ h => h) ?_ (by assumption) ?_
      rotate_left
      · (intro w hSw; go_simp; try (with_reducible rfl))
      try simp only [Act.put, List.setIfInBounds_toArray, List.set_cons_zero, List.set_cons_succ]
      refine takeFirst (i := 10) (v := ?_) rfl (by kernel_rfl) (by kernel_rfl) (by kernel_rfl) (by rfl) (fun _ _ _ h => h) ?_ (by assumption) ?_
      rotate_left
      · (intro w hSw; go_simp; try (with_reducible rfl))
      try simp only [Act.put, List.setIfInBounds_toArray, List.set_cons_zero, List.set_cons_succ]
      refine takeFirst (i := 11) (v := ?_) rfl (by kernel_rfl) (by kernel_rfl) (by kernel_rfl) (by rfl) (fun _ _ _ h => h) ?_ (by assumption) ?_
      rotate_left
      · (intro w hSw; go_simp; try (with_reducible rfl))
      try simp only [Act.put, List.setIfInBounds_toArray, List.set_cons_zero, List.set_cons_succ]
      refine stepTwo (i1 := 12) (i2 := 13) (by kernel_rfl) rfl rfl (by rfl) (by rfl) (fun K hK => ?_) (fun K hK => ?_)
      · go_simp
        replace mid := mid.allocA
        try clear hNow
        have hNow := (And.intro (callC mid.low hHeld.1) (And.intro (callC mid.low hHeld.2.1) (And.intro (callC mid.low hHeld.2.2.1) (And.intro (callC mid.low hHeld.2.2.2.1) (And.intro (callC mid.low hHeld.2.2.2.2.1) (And.intro (callC mid.low hHeld.2.2.2.2.2.1) (And.intro (callC mid.low hHeld.2.2.2.2.2.2.1) (And.intro (callC mid.low hHeld.2.2.2.2.2.2.2.1) (And.intro (callC mid.low hHeld.2.2.2.2.2.2.2.2.1) (And.intro (callC mid.low hHeld.2.2.2.2.2.2.2.2.2.1) (callC mid.low hHeld.2.2.2.2.2.2.2.2.2.2)))))))))))
        refine hK.out _ _ hNow ?_
        clear hK K
        try simp only [Act.put]
        try simp only [List.setIfInBounds_toArray, List.set_cons_zero, List.set_cons_succ]
        generalize wx.heap.size = ga at mid ⊢
        generalize wx.alloc (.cells (rowA (.slice none 0 0) false false false) 26) = wy at mid ⊢
        refine stepNext (i := 13) (by kernel_rfl) rfl (by rfl) (fun K hK => ?_)
        go_simp
        replace mid := mid.allocB
        try clear hNow
        have hNow := (And.intro (callC mid.low hHeld.1) (And.intro (callC mid.low hHeld.2.1) (And.intro (callC mid.low hHeld.2.2.1) (And.intro (callC mid.low hHeld.2.2.2.1) (And.intro (callC mid.low hHeld.2.2.2.2.1) (And.intro (callC mid.low hHeld.2.2.2.2.2.1) (And.intro (callC mid.low hHeld.2.2.2.2.2.2.1) (And.intro (callC mid.low hHeld.2.2.2.2.2.2.2.1) (And.intro (callC mid.low hHeld.2.2.2.2.2.2.2.2.1) (And.intro (callC mid.low hHeld.2.2.2.2.2.2.2.2.2.1) (callC mid.low hHeld.2.2.2.2.2.2.2.2.2.2)))))))))))
        refine hK.out _ _ hNow ?_
        clear hK K
        try simp only [Act.put]
        try simp only [List.setIfInBounds_toArray, List.set_cons_zero, List.set_cons_succ]
        generalize wy.heap.size = gb at mid ⊢
        generalize wy.alloc (.cells zeroA 32) = wz at mid ⊢
        refine relist (l2 := #[true, true, true, true, true, true, true, true, true, true, true, true, true, true, false, false, false]) (by kernel_rfl) ?_
        exact hE _ _ _ _ _ mid
      · go_simp
        replace mid := mid.allocB
        try clear hNow
        have hNow := (And.intro (callC mid.low hHeld.1) (And.intro (callC mid.low hHeld.2.1) (And.intro (callC mid.low hHeld.2.2.1) (And.intro (callC mid.low hHeld.2.2.2.1) (And.intro (callC mid.low hHeld.2.2.2.2.1) (And.intro (callC mid.low hHeld.2.2.2.2.2.1) (And.intro (callC mid.low hHeld.2.2.2.2.2.2.1) (And.intro (callC mid.low hHeld.2.2.2.2.2.2.2.1) (And.intro (callC mid.low hHeld.2.2.2.2.2.2.2.2.1) (And.intro (callC mid.low hHeld.2.2.2.2.2.2.2.2.2.1) (callC mid.low hHeld.2.2.2.2.2.2.2.2.2.2)))))))))))
        refine hK.out _ _ hNow ?_
        clear hK K
        try simp only [Act.put]
        try simp only [List.setIfInBounds_toArray, List.set_cons_zero, List.set_cons_succ]
        generalize wx.heap.size = gb at mid ⊢
        generalize wx.alloc (.cells zeroA 32) = wy at mid ⊢
        refine stepNext (i := 12) (by kernel_rfl) rfl (by rfl) (fun K hK => ?_)
        go_simp
        replace mid := mid.allocA
        try clear hNow
        have hNow := (And.intro (callC mid.low hHeld.1) (And.intro (callC mid.low hHeld.2.1) (And.intro (callC mid.low hHeld.2.2.1) (And.intro (callC mid.low hHeld.2.2.2.1) (And.intro (callC mid.low hHeld.2.2.2.2.1) (And.intro (callC mid.low hHeld.2.2.2.2.2.1) (And.intro (callC mid.low hHeld.2.2.2.2.2.2.1) (And.intro (callC mid.low hHeld.2.2.2.2.2.2.2.1) (And.intro (callC mid.low hHeld.2.2.2.2.2.2.2.2.1) (And.intro (callC mid.low hHeld.2.2.2.2.2.2.2.2.2.1) (callC mid.low hHeld.2.2.2.2.2.2.2.2.2.2)))))))))))
        refine hK.out _ _ hNow ?_
        clear hK K
        try simp only [Act.put]
        try simp only [List.setIfInBounds_toArray, List.set_cons_zero, List.set_cons_succ]
        generalize wy.heap.size = ga at mid ⊢
        generalize wy.alloc (.cells (rowA (.slice none 0 0) false false false) 26) = wz at mid ⊢
        refine relist (l2 := #[true, true, true, true, true, true, true, true, true, true, true, true, true, true, false, false, false]) (by kernel_rfl) ?_
        exact hE _ _ _ _ _ mid
    · go_simp
      replace mid := mid.allocA
      try clear hNow
      have hNow := (And.intro (callC mid.low hHeld.1) (And.intro (callC mid.low hHeld.2.1) (And.intro (callC mid.low hHeld.2.2.1) (And.intro (callC mid.low hHeld.2.2.2.1) (And.intro (callC mid.low hHeld.2.2.2.2.1) (And.intro (callC mid.low hHeld.2.2.2.2.2.1) (And.intro (callC mid.low hHeld.2.2.2.2.2.2.1) (And.intro (callC mid.low hHeld.2.2.2.2.2.2.2.1) (And.intro (callC mid.low hHeld.2.2.2.2.2.2.2.2.1) (And.intro (callC mid.low hHeld.2.2.2.2.2.2.2.2.2.1) (callC mid.low hHeld.2.2.2.2.2.2.2.2.2.2)))))))))))
      refine hK.out _ _ hNow ?_
      clear hK K
      try simp only [Act.put]
      try simp only [List.setIfInBounds_toArray, List.set_cons_zero, List.set_cons_succ]
      generalize wN.heap.size = ga at mid ⊢
      generalize wN.alloc (.cells (rowA (.slice none 0 0) false false false) 26) = wx at mid ⊢
      refine stepTwo (i1 := 7) (i2 := 13) (by kernel_rfl) rfl rfl (by rfl) (by rfl) (fun K hK => ?_) (fun K hK => ?_)
      · go_simp
        (with_reducible refine (Calls.mono (CT.out _ (WS.out.call mid.low)) ?_)); rintro e wy ⟨⟨Az, cz, rfl, frz⟩, hbz⟩
        replace mid := mid.call hbz frz
        clear hbz frz
        try clear hNow
        have hNow := (And.intro (callC mid.low hHeld.1) (And.intro (callC mid.low hHeld.2.1) (And.intro (callC mid.low hHeld.2.2.1) (And.intro (callC mid.low hHeld.2.2.2.1) (And.intro (callC mid.low hHeld.2.2.2.2.1) (And.intro (callC mid.low hHeld.2.2.2.2.2.1) (And.intro (callC mid.low hHeld.2.2.2.2.2.2.1) (And.intro (callC mid.low hHeld.2.2.2.2.2.2.2.1) (And.intro (callC mid.low hHeld.2.2.2.2.2.2.2.2.1) (And.intro (callC mid.low hHeld.2.2.2.2.2.2.2.2.2.1) (callC mid.low hHeld.2.2.2.2.2.2.2.2.2.2)))))))))))
        refine hK.out _ _ hNow ?_
        clear hK K
        try simp only [Act.put]
        try simp only [List.setIfInBounds_toArray, List.set_cons_zero, List.set_cons_succ]
        refine takeFirst (i := 8) (v := ?_) rfl (by kernel_rfl) (by kernel_rfl) (by kernel_rfl) (by rfl) (fun _ _ _ h => h) ?_ (by assumption) ?_
        rotate_left
        · (intro w hSw; go_simp; try (with_reducible rfl))
        try simp only [Act.put, List.setIfInBounds_toArray, List.set_cons_zero, List.set_cons_succ]
        refine takeFirst (i := 9) (v := ?_) rfl (by kernel_rfl) (by kernel_rfl) (by kernel_rfl) (by rfl) (fun _ _ _ h => h) ?_ (by assumption) ?_
        rotate_left
        · (intro w hSw; go_simp; try (with_reducible rfl))
        try simp only [Act.put, List.setIfInBounds_toArray, List.set_cons_zero, List.set_cons_succ]
        refine takeFirst (i := 10) (v := ?_) rfl (by kernel_rfl) (by kernel_rfl) (by kernel_rfl) (by rfl) (fun _ _ _ h => h) ?_ (by assumption) ?_
        rotate_left
        · (intro w hSw; go_simp; try (with_reducible rfl))
        try simp only [Act.put, List.setIfInBounds_toArray, List.set_cons_zero, List.set_cons_succ]
        refine takeFirst (i := 11) (v := ?_) rfl (by kernel_rfl) (by kernel_rfl) (by kernel_rfl) (by rfl) (fun _ _ _ h => h) ?_ (by assumption) ?_
        rotate_left
        · (intro w hSw; go_simp; try (with_reducible rfl))
        try simp only [Act.put, List.setIfInBounds_toArray, List.set_cons_zero, List.set_cons_succ]
        refine stepNext (i := 13) (by kernel_rfl) rfl (by rfl) (fun K hK => ?_)
        go_simp
        replace mid := mid.allocB
        try clear hNow
        have hNow := (And.intro (callC mid.low hHeld.1) (And.intro (callC mid.low hHeld.2.1) (And.intro (callC mid.low hHeld.2.2.1) (And.intro (callC mid.low hHeld.2.2.2.1) (And.intro (callC mid.low hHeld.2.2.2.2.1) (And.intro (callC mid.low hHeld.2.2.2.2.2.1) (And.intro (callC mid.low hHeld.2.2.2.2.2.2.1) (And.intro (callC mid.low hHeld.2.2.2.2.2.2.2.1) (And.intro (callC mid.low hHeld.2.2.2.2.2.2.2.2.1) (And.intro (callC mid.low hHeld.2.2.2.2.2.2.2.2.2.1) (callC mid.low hHeld.2.2.2.2.2.2.2.2.2.2)))))))))))
        refine hK.out _ _ hNow ?_
        clear hK K
        try simp only [Act.put]
        try simp only [List.setIfInBounds_toArray, List.set_cons_zero, List.set_cons_succ]
        generalize wy.heap.size = gb at mid ⊢
        generalize wy.alloc (.cells zeroA 32) = wz at mid ⊢
        refine relist (l2 := #[true, true, true, true, true, true, true, true, true, true, true, true, true, true, false, false, false]) (by kernel_rfl) ?_
        exact hE _ _ _ _ _ mid
      · go_simp
        replace mid := mid.allocB
        try clear hNow
        have hNow := (And.intro (callC mid.low hHeld.1) (And.intro (callC mid.low hHeld.2.1) (And.intro (callC mid.low hHeld.2.2.1) (And.intro (callC mid.low hHeld.2.2.2.1) (And.intro (callC mid.low hHeld.2.2.2.2.1) (And.intro (callC mid.low hHeld.2.2.2.2.2.1) (And.intro (callC mid.low hHeld.2.2.2.2.2.2.1) (And.intro (callC mid.low hHeld.2.2.2.2.2.2.2.1) (And.intro (callC mid.low hHeld.2.2.2.2.2.2.2.2.1) (And.intro (callC mid.low hHeld.2.2.2.2.2.2.2.2.2.1) (callC mid.low hHeld.2.2.2.2.2.2.2.2.2.2)))))))))))
        refine hK.out _ _ hNow ?_
        clear hK K
        try simp only [Act.put]
        try simp only [List.setIfInBounds_toArray, List.set_cons_zero, List.set_cons_succ]
        generalize wx.heap.size = gb at mid ⊢
        generalize wx.alloc (.cells zeroA 32) = wy at mid ⊢
        refine stepNext (i := 7) (by kernel_rfl) rfl (by rfl) (fun K hK => ?_)
        go_simp
        (with_reducible refine (Calls.mono (CT.out _ (WS.out.call mid.low)) ?_)); rintro e wz ⟨⟨Az, cz, rfl, frz⟩, hbz⟩
        replace mid := mid.call hbz frz
        clear hbz frz
        try clear hNow
        have hNow := (And.intro (callC mid.low hHeld.1) (And.intro (callC mid.low hHeld.2.1) (And.intro (callC mid.low hHeld.2.2.1) (And.intro (callC mid.low hHeld.2.2.2.1) (And.intro (callC mid.low hHeld.2.2.2.2.1) (And.intro (callC mid.low hHeld.2.2.2.2.2.1) (And.intro (callC mid.low hHeld.2.2.2.2.2.2.1) (And.intro (callC mid.low hHeld.2.2.2.2.2.2.2.1) (And.intro (callC mid.low hHeld.2.2.2.2.2.2.2.2.1) (And.intro (callC mid.low hHeld.2.2.2.2.2.2.2.2.2.1) (callC mid.low hHeld.2.2.2.2.2.2.2.2.2.2)))))))))))
        refine hK.out _ _ hNow ?_
        clear hK K
        try simp only [Act.put]
        try simp only [List.setIfInBounds_toArray, List.set_cons_zero, List.set_cons_succ]
        refine takeFirst (i := 8) (v := ?_) rfl (by kernel_rfl) (by kernel_rfl) (by kernel_rfl) (by rfl) (fun _ _ _ h => h) ?_ (by assumption) ?_
        rotate_left
        · (intro w hSw; go_simp; try (with_reducible rfl))
        try simp only [Act.put, List.setIfInBounds_toArray, List.set_cons_zero, List.set_cons_succ]
        refine takeFirst (i := 9) (v := ?_) rfl (by kernel_rfl) (by kernel_rfl) (by kernel_rfl) (by rfl) (fun _ _ _ h => h) ?_ (by assumption) ?_
        rotate_left
        · (intro w hSw; go_simp; try (with_reducible rfl))
        try simp only [Act.put, List.setIfInBounds_toArray, List.set_cons_zero, List.set_cons_succ]
        refine takeFirst (i := 10) (v := ?_) rfl (by kernel_rfl) (by kernel_rfl) (by kernel_rfl) (by rfl) (fun _ _ _ h => h) ?_ (by assumption) ?_
        rotate_left
        · (intro w hSw; go_simp; try (with_reducible rfl))
        try simp only [Act.put, List.setIfInBounds_toArray, List.set_cons_zero, List.set_cons_succ]
        refine takeFirst (i := 11) (v := ?_) rfl (by kernel_rfl) (by kernel_rfl) (by kernel_rfl) (by rfl) (fun _ _ _ h => h) ?_ (by assumption) ?_
        rotate_left
        · (intro w hSw; go_simp; try (with_reducible rfl))
        try simp only [Act.put, List.setIfInBounds_toArray, List.set_cons_zero, List.set_cons_succ]
        refine relist (l2 := #[true, true, true, true, true, true, true, true, true, true, true, true, true, true, false, false, false]) (by kernel_rfl) ?_
        exact hE _ _ _ _ _ mid
    · go_simp
      replace mid := mid.allocB
      try clear hNow
      have hNow := (And.intro (callC mid.low hHeld.1) (And.intro (callC mid.low hHeld.2.1) (And.intro (callC mid.low hHeld.2.2.1) (And.intro (callC mid.low hHeld.2.2.2.1) (And.intro (callC mid.low hHeld.2.2.2.2.1) (And.intro (callC mid.low hHeld.2.2.2.2.2.1) (And.intro (callC mid.low hHeld.2.2.2.2.2.2.1) (And.intro (callC mid.low hHeld.2.2.2.2.2.2.2.1) (And.intro (callC mid.low hHeld.2.2.2.2.2.2.2.2.1) (And.intro (callC mid.low hHeld.2.2.2.2.2.2.2.2.2.1) (callC mid.low hHeld.2.2.2.2.2.2.2.2.2.2)))))))))))
      refine hK.out _ _ hNow ?_
      clear hK K
      try simp only [Act.put]
      try simp only [List.setIfInBounds_toArray, List.set_cons_zero, List.set_cons_succ]
      generalize wN.heap.size = gb at mid ⊢
      generalize wN.alloc (.cells zeroA 32) = wx at mid ⊢
      refine stepTwo (i1 := 7) (i2 := 12) (by kernel_rfl) rfl rfl (by rfl) (by rfl) (fun K hK => ?_) (fun K hK => ?_)
      · go_simp
        (with_reducible refine (Calls.mono (CT.out _ (WS.out.call mid.low)) ?_)); rintro e wy ⟨⟨Az, cz, rfl, frz⟩, hbz⟩
        replace mid := mid.call hbz frz
        clear hbz frz
        try clear hNow
        have hNow := (And.intro (callC mid.low hHeld.1) (And.intro (callC mid.low hHeld.2.1) (And.intro (callC mid.low hHeld.2.2.1) (And.intro (callC mid.low hHeld.2.2.2.1) (And.intro (callC mid.low hHeld.2.2.2.2.1) (And.intro (callC mid.low hHeld.2.2.2.2.2.1) (And.intro (callC mid.low hHeld.2.2.2.2.2.2.1) (And.intro (callC mid.low hHeld.2.2.2.2.2.2.2.1) (And.intro (callC mid.low hHeld.2.2.2.2.2.2.2.2.1) (And.intro (callC mid.low hHeld.2.2.2.2.2.2.2.2.2.1) (callC mid.low hHeld.2.2.2.2.2.2.2.2.2.2)))))))))))
        refine hK.out _ _ hNow ?_
        clear hK K
        try simp only [Act.put]
        try simp only [List.setIfInBounds_toArray, List.set_cons_zero, List.set_cons_succ]
        refine takeFirst (i := 8) (v := ?_) rfl (by kernel_rfl) (by kernel_rfl) (by kernel_rfl) (by rfl) (fun _ _ _ h => h) ?_ (by assumption) ?_
        rotate_left
        · (intro w hSw; go_simp; try (with_reducible rfl))
        try simp only [Act.put, List.setIfInBounds_toArray, List.set_cons_zero, List.set_cons_succ]
        refine takeFirst (i := 9) (v := ?_) rfl (by kernel_rfl) (by kernel_rfl) (by kernel_rfl) (by rfl) (fun _ _ _ h => h) ?_ (by assumption) ?_
        rotate_left
        · (intro w hSw; go_simp; try (with_reducible rfl))
        try simp only [Act.put, List.setIfInBounds_toArray, List.set_cons_zero, List.set_cons_succ]
        refine takeFirst (i := 10) (v := ?_) rfl (by kernel_rfl) (by kernel_rfl) (by kernel_rfl) (by rfl) (fun _ _ _ h => h) ?_ (by assumption) ?_
        rotate_left
        · (intro w hSw; go_simp; try (with_reducible rfl))
        try simp only [Act.put, List.setIfInBounds_toArray, List.set_cons_zero, List.set_cons_succ]
        refine takeFirst (i := 11) (v := ?_) rfl (by kernel_rfl) (by kernel_rfl) (by kernel_rfl) (by rfl) (fun _ _ _ h => h) ?_ (by assumption) ?_
        rotate_left
        · (intro w hSw; go_simp; try (with_reducible rfl))
        try simp only [Act.put, List.setIfInBounds_toArray, List.set_cons_zero, List.set_cons_succ]
        refine stepNext (i := 12) (by kernel_rfl) rfl (by rfl) (fun K hK => ?_)
        go_simp
        replace mid := mid.allocA
        try clear hNow
        have hNow := (And.intro (callC mid.low hHeld.1) (And.intro (callC mid.low hHeld.2.1) (And.intro (callC mid.low hHeld.2.2.1) (And.intro (callC mid.low hHeld.2.2.2.1) (And.intro (callC mid.low hHeld.2.2.2.2.1) (And.intro (callC mid.low hHeld.2.2.2.2.2.1) (And.intro (callC mid.low hHeld.2.2.2.2.2.2.1) (And.intro (callC mid.low hHeld.2.2.2.2.2.2.2.1) (And.intro (callC mid.low hHeld.2.2.2.2.2.2.2.2.1) (And.intro (callC mid.low hHeld.2.2.2.2.2.2.2.2.2.1) (callC mid.low hHeld.2.2.2.2.2.2.2.2.2.2)))))))))))
        refine hK.out _ _ hNow ?_
        clear hK K
        try simp only [Act.put]
        try simp only [List.setIfInBounds_toArray, List.set_cons_zero, List.set_cons_succ]
        generalize wy.heap.size = ga at mid ⊢
        generalize wy.alloc (.cells (rowA (.slice none 0 0) false false false) 26) = wz at mid ⊢
        refine relist (l2 := #[true, true, true, true, true, true, true, true, true, true, true, true, true, true, false, false, false]) (by kernel_rfl) ?_
        exact hE _ _ _ _ _ mid
      · go_simp
        replace mid := mid.allocA
        try clear hNow
        have hNow := (And.intro (callC mid.low hHeld.1) (And.intro (callC mid.low hHeld.2.1) (And.intro (callC mid.low hHeld.2.2.1) (And.intro (callC mid.low hHeld.2.2.2.1) (And.intro (callC mid.low hHeld.2.2.2.2.1) (And.intro (callC mid.low hHeld.2.2.2.2.2.1) (And.intro (callC mid.low hHeld.2.2.2.2.2.2.1) (And.intro (callC mid.low hHeld.2.2.2.2.2.2.2.1) (And.intro (callC mid.low hHeld.2.2.2.2.2.2.2.2.1) (And.intro (callC mid.low hHeld.2.2.2.2.2.2.2.2.2.1) (callC mid.low hHeld.2.2.2.2.2.2.2.2.2.2)))))))))))
        refine hK.out _ _ hNow ?_
        clear hK K
        try simp only [Act.put]
        try simp only [List.setIfInBounds_toArray, List.set_cons_zero, List.set_cons_succ]
        generalize wx.heap.size = ga at mid ⊢
        generalize wx.alloc (.cells (rowA (.slice none 0 0) false false false) 26) = wy at mid ⊢
        refine stepNext (i := 7) (by kernel_rfl) rfl (by rfl) (fun K hK => ?_)
        go_simp
        (with_reducible refine (Calls.mono (CT.out _ (WS.out.call mid.low)) ?_)); rintro e wz ⟨⟨Az, cz, rfl, frz⟩, hbz⟩
        replace mid := mid.call hbz frz
        clear hbz frz
        try clear hNow
        have hNow := (And.intro (callC mid.low hHeld.1) (And.intro (callC mid.low hHeld.2.1) (And.intro (callC mid.low hHeld.2.2.1) (And.intro (callC mid.low hHeld.2.2.2.1) (And.intro (callC mid.low hHeld.2.2.2.2.1) (And.intro (callC mid.low hHeld.2.2.2.2.2.1) (And.intro (callC mid.low hHeld.2.2.2.2.2.2.1) (And.intro (callC mid.low hHeld.2.2.2.2.2.2.2.1) (And.intro (callC mid.low hHeld.2.2.2.2.2.2.2.2.1) (And.intro (callC mid.low hHeld.2.2.2.2.2.2.2.2.2.1) (callC mid.low hHeld.2.2.2.2.2.2.2.2.2.2)))))))))))
        refine hK.out _ _ hNow ?_
        clear hK K
        try simp only [Act.put]
        try simp only [List.setIfInBounds_toArray, List.set_cons_zero, List.set_cons_succ]
        refine takeFirst (i := 8) (v := ?_) rfl (by kernel_rfl) (by kernel_rfl) (by kernel_rfl) (by rfl) (fun _ _ _ h => h) ?_ (by assumption) ?_
        rotate_left
        · (intro w hSw; go_simp; try (with_reducible rfl))
        try simp only [Act.put, List.setIfInBounds_toArray, List.set_cons_zero, List.set_cons_succ]
        refine takeFirst (i := 9) (v := ?_) rfl (by kernel_rfl) (by kernel_rfl) (by kernel_rfl) (by rfl) (fun _ _ _ h => h) ?_ (by assumption) ?_
        rotate_left
        · (intro w hSw; go_simp; try (with_reducible rfl))
        try simp only [Act.put, List.setIfInBounds_toArray, List.set_cons_zero, List.set_cons_succ]
        refine takeFirst (i := 10) (v := ?_) rfl (by kernel_rfl) (by kernel_rfl) (by kernel_rfl) (by rfl) (fun _ _ _ h => h) ?_ (by assumption) ?_
        rotate_left
        · (intro w hSw; go_simp; try (with_reducible rfl))
        try simp only [Act.put, List.setIfInBounds_toArray, List.set_cons_zero, List.set_cons_succ]
        refine takeFirst (i := 11) (v := ?_) rfl (by kernel_rfl) (by kernel_rfl) (by kernel_rfl) (by rfl) (fun _ _ _ h => h) ?_ (by assumption) ?_
        rotate_left
        · (intro w hSw; go_simp; try (with_reducible rfl))
        try simp only [Act.put, List.setIfInBounds_toArray, List.set_cons_zero, List.set_cons_succ]
        refine relist (l2 := #[true, true, true, true, true, true, true, true, true, true, true, true, true, true, false, false, false]) (by kernel_rfl) ?_
        exact hE _ _ _ _ _ mid
  intro ga gb Az cz w6 mid
  obtain ⟨hga, ab⟩ := mid.fa ga rfl
  obtain ⟨hgb, yb⟩ := mid.fb gb rfl
  have gne := mid.ne ga gb rfl rfl
  obtain ⟨Bz, Cz, hBz, hCz, frz, hfar⟩ := mid.fr _ _ rfl
  have fa1 := hfar ga (.inl rfl)
  have fa2 := hfar gb (.inr rfl)
  have near := mid.low
  clear hfar mid
  obtain ⟨hh0, hh1, hh2, hh3, hh4, hh5, hh6, hh7, hh8, hh9, hh10⟩ := hHeld
  have hHeld := (And.intro (callC near hh0) (And.intro (callC near hh1) (And.intro (callC near hh2) (And.intro (callC near hh3) (And.intro (callC near hh4) (And.intro (callC near hh5) (And.intro (callC near hh6) (And.intro (callC near hh7) (And.intro (callC near hh8) (And.intro (callC near hh9) (callC near hh10)))))))))))
  clear hh0 hh1 hh2 hh3 hh4 hh5 hh6 hh7 hh8 hh9 hh10
  replace ob := ob.call near
  replace low := gCall low near
  refine stepNext (i := 14) (by kernel_rfl) rfl (by rfl) (fun K hK => ?_)
  refine wp_store_box 26 (.tmp 11) (.tmp 33) rfl _ _ rfl rfl ab size_row rfl (by simp [Value.oneCell']) ?_
  intro w7 ab st
  replace yb := st.box yb (by omega)
  replace ob := st.box ob (by omega)
  replace frz := st.fr frz fa1
  replace low := st.low low (by omega)
  replace near := st.low near (by omega)
  have z7 := st.size
  obtain ⟨hh0, hh1, hh2, hh3, hh4, hh5, hh6, hh7, hh8, hh9, hh10⟩ := hHeld
  have hHeld := (And.intro (st.cell (by dsimp only; omega) hh0) (And.intro (st.cell (by dsimp only; omega) hh1) (And.intro (st.cell (by dsimp only; omega) hh2) (And.intro (st.cell (by dsimp only; omega) hh3) (And.intro (st.cell (by dsimp only; omega) hh4) (And.intro (st.cell (by dsimp only; omega) hh5) (And.intro (st.cell (by dsimp only; omega) hh6) (And.intro (st.cell (by dsimp only; omega) hh7) (And.intro (st.cell (by dsimp only; omega) hh8) (And.intro (st.cell (by dsimp only; omega) hh9) (st.cell (by dsimp only; omega) hh10)))))))))))
  clear hh0 hh1 hh2 hh3 hh4 hh5 hh6 hh7 hh8 hh9 hh10
  clear st
  refine hK.out _ _ hHeld ?_
  clear hK K
  try simp only [Act.put]
  try simp only [List.setIfInBounds_toArray, List.set_cons_zero, List.set_cons_succ]
  refine stepNext (i := 15) (by kernel_rfl) rfl (by rfl) (fun K hK => ?_)
  refine wp_store_box 32 (.tmp 12) (.tmp 34) rfl _ _ rfl rfl yb size_way rfl (by simp [Value.oneCell']) ?_
  intro w8 yb st
  replace ab := st.box ab (by omega)
  replace ob := st.box ob (by omega)
  replace frz := st.fr frz fa2
  replace low := st.low low (by omega)
  replace near := st.low near (by omega)
  have z8 := st.size
  obtain ⟨hh0, hh1, hh2, hh3, hh4, hh5, hh6, hh7, hh8, hh9, hh10⟩ := hHeld
  have hHeld := (And.intro (st.cell (by dsimp only; omega) hh0) (And.intro (st.cell (by dsimp only; omega) hh1) (And.intro (st.cell (by dsimp only; omega) hh2) (And.intro (st.cell (by dsimp only; omega) hh3) (And.intro (st.cell (by dsimp only; omega) hh4) (And.intro (st.cell (by dsimp only; omega) hh5) (And.intro (st.cell (by dsimp only; omega) hh6) (And.intro (st.cell (by dsimp only; omega) hh7) (And.intro (st.cell (by dsimp only; omega) hh8) (And.intro (st.cell (by dsimp only; omega) hh9) (st.cell (by dsimp only; omega) hh10)))))))))))
  clear hh0 hh1 hh2 hh3 hh4 hh5 hh6 hh7 hh8 hh9 hh10
  clear st
  refine hK.out _ _ hHeld ?_
  clear hK K
  try simp only [Act.put]
  try simp only [List.setIfInBounds_toArray, List.set_cons_zero, List.set_cons_succ]
  refine stepNext (i := 16) (by kernel_rfl) rfl (by rfl) (fun K hK => ?_)
  go_simp
  refine hK.out _ _ hHeld ?_
  clear hK K
  try simp only [Act.put]
  try simp only [List.setIfInBounds_toArray, List.set_cons_zero, List.set_cons_succ]
  refine wpAnyH_done (by kernel_rfl) ?_ _
  refine NoPanic.normal ?_
  clear hHeld WS CT
  replace h := h.call near
  cases hE : (E != 0)
  rotate_left
  · have hE' : E ≠ 0 := by simpa using hE
    have ob_0 := ob.at_ 0 rfl
    have ob_1 := ob.at_ 1 rfl
    have ob_2 := ob.at_ 2 rfl
    have ob_3 := ob.at_ 3 rfl
    have ob_4 := ob.at_ 4 rfl
    have ob_5 := ob.at_ 5 rfl
    have ob_f0 := ob.frozen 0
    have ob_f1 := ob.frozen 1
    have ob_f2 := ob.frozen 2
    have ob_f3 := ob.frozen 3
    have ob_f4 := ob.frozen 4
    have ob_f5 := ob.frozen 5
    have z9 : w.heap.size + 1 + 1 < w8.heap.size := ob.lt
    go_wp2_with fail
    refine bodyPost_ret (v := .tuple #[.slice none 0 0, zeroV, .int .i64 E]) (by simp [results, Try.results16, go_sem, ob_0, ob_1, ob_2, ob_3, ob_4, ob_5]) rfl ⟨.inl ⟨hE', rfl⟩, ?_⟩
    repeat (refine gSet ?_ (by dsimp only; omega) _)
    exact low
  · obtain rfl : E = 0 := by simpa using hE
    obtain ⟨a0, a1, a2, a3⟩ := ab.rowC
    obtain ⟨y0, y1, y2, y3, y4, y5⟩ := yb.wayC
    have frB : Fr w8.drew wN.heap.size w8.drew.heap.size (.slice Az la.length cz) la := (frz.more (B' := wN.heap.size) (C' := w8.heap.size) (by omega) (by omega)).call (Below.refl _ _).drew
    have sz8 : wN.heap.size ≤ w8.drew.heap.size := near.size
    clear frz fa1 fa2
    go_wp2_with fail
    refine wp_region_noPanic ?_
    refine wp_region_held_drew (S := fun w' => w'.cell? ⟨ga, 0, none⟩ = some (.slice Az la.length cz) ∧ w'.cell? ⟨ga, 1, none⟩ = some (.bool tt.1) ∧ w'.cell? ⟨ga, 2, none⟩ = some (.bool tt.2.1) ∧ w'.cell? ⟨ga, 3, none⟩ = some (.bool tt.2.2) ∧ w'.cell? ⟨gb, 0, none⟩ = some (.int .i64 z.st) ∧ w'.cell? ⟨gb, 1, none⟩ = some (.int .i64 z.ln) ∧ w'.cell? ⟨gb, 2, none⟩ = some (.int .u64 z.a) ∧ w'.cell? ⟨gb, 3, none⟩ = some (.int .u64 z.b) ∧ w'.cell? ⟨gb, 4, none⟩ = some (.int .u64 z.c) ∧ w'.cell? ⟨gb, 5, none⟩ = some (.int .u64 z.d)) (by kernel_rfl) ⟨drewC a0, drewC a1, drewC a2, drewC a3, drewC y0, drewC y1, drewC y2, drewC y3, drewC y4, drewC y5⟩ (fun hHeld => ?_)
    clear a0 a1 a2 a3 y0 y1 y2 y3 y4 y5 ab yb
    refine takeFirst (i := 0) (v := ?_) rfl (by kernel_rfl) (by kernel_rfl) (by kernel_rfl) (by rfl) (fun _ _ _ h => h) ?_ (by assumption) ?_
    rotate_left
    · (intro w hSw; go_simp; try (with_reducible rfl))
    try simp only [Act.put, List.setIfInBounds_toArray, List.set_cons_zero, List.set_cons_succ]
    refine takeFirst (i := 1) (v := ?_) rfl (by kernel_rfl) (by kernel_rfl) (by kernel_rfl) (by rfl) (fun _ _ _ h => h) ?_ (by assumption) ?_
    rotate_left
    · (intro w hSw; go_simp; try (with_reducible rfl))
    try simp only [Act.put, List.setIfInBounds_toArray, List.set_cons_zero, List.set_cons_succ]
    refine takeFirst (i := 2) (v := ?_) rfl (by kernel_rfl) (by kernel_rfl) (by kernel_rfl) (by rfl) (fun _ _ _ h => h) ?_ (by assumption) ?_
    rotate_left
    · (intro w hSw; go_simp; try (with_reducible rfl))
    try simp only [Act.put, List.setIfInBounds_toArray, List.set_cons_zero, List.set_cons_succ]
    refine takeFirst (i := 4) (v := ?_) rfl (by kernel_rfl) (by kernel_rfl) (by kernel_rfl) (by rfl) (fun _ _ _ h => h) ?_ (by assumption) ?_
    rotate_left
    · (intro w hSw; go_simp; try (with_reducible rfl))
    try simp only [Act.put, List.setIfInBounds_toArray, List.set_cons_zero, List.set_cons_succ]
    refine stepNext (i := 3) (by kernel_rfl) rfl (by rfl) (fun K hK => ?_)
    go_simp
    (with_reducible refine (Calls.mono (cacheReplace_l _ ss k Az cz la _ _ _ _ wN.heap.size h.drew kl SM.out frB sz8) ?_)); rintro e w9 ⟨⟨A2, c2, rfl, cf⟩, hb9⟩
    replace ob := ob.drew.call hb9
    replace low := gCall low.drew hb9
    have z9 : w8.heap.size ≤ w9.heap.size := hb9.size
    obtain ⟨hh0, hh1, hh2, hh3, hh4, hh5, hh6, hh7, hh8, hh9⟩ := hHeld
    have hHeld := (And.intro (callC hb9 hh0) (And.intro (callC hb9 hh1) (And.intro (callC hb9 hh2) (And.intro (callC hb9 hh3) (And.intro (callC hb9 hh4) (And.intro (callC hb9 hh5) (And.intro (callC hb9 hh6) (And.intro (callC hb9 hh7) (And.intro (callC hb9 hh8) (callC hb9 hh9))))))))))
    clear hh0 hh1 hh2 hh3 hh4 hh5 hh6 hh7 hh8 hh9
    clear hb9
    refine hK.out _ _ hHeld ?_
    clear hK K
    try simp only [Act.put]
    try simp only [List.setIfInBounds_toArray, List.set_cons_zero, List.set_cons_succ]
    refine stepNext (i := 5) (by kernel_rfl) rfl (by rfl) (fun K hK => ?_)
    go_simp
    refine hK.out _ _ hHeld ?_
    clear hK K
    try simp only [Act.put]
    try simp only [List.setIfInBounds_toArray, List.set_cons_zero, List.set_cons_succ]
    refine stepNext (i := 6) (by kernel_rfl) rfl (by rfl) (fun K hK => ?_)
    refine wp_store_box 32 (.tmp 7) (.tmp 44) rfl _ _ rfl rfl ob size_way rfl (by simp [Value.oneCell']) ?_
    intro w10 ob st
    replace cf := cf.out st (.inl (by omega))
    replace low := st.low low (by omega)
    have z10 := st.size
    have z11 : w8.heap.size = w8.drew.heap.size := rfl
    obtain ⟨hh0, hh1, hh2, hh3, hh4, hh5, hh6, hh7, hh8, hh9⟩ := hHeld
    have hHeld := (And.intro (st.cell (by dsimp only; omega) hh0) (And.intro (st.cell (by dsimp only; omega) hh1) (And.intro (st.cell (by dsimp only; omega) hh2) (And.intro (st.cell (by dsimp only; omega) hh3) (And.intro (st.cell (by dsimp only; omega) hh4) (And.intro (st.cell (by dsimp only; omega) hh5) (And.intro (st.cell (by dsimp only; omega) hh6) (And.intro (st.cell (by dsimp only; omega) hh7) (And.intro (st.cell (by dsimp only; omega) hh8) (st.cell (by dsimp only; omega) hh9))))))))))
    clear hh0 hh1 hh2 hh3 hh4 hh5 hh6 hh7 hh8 hh9
    clear st
    refine hK.out _ _ hHeld ?_
    clear hK K
    try simp only [Act.put]
    try simp only [List.setIfInBounds_toArray, List.set_cons_zero, List.set_cons_succ]
    refine stepNext (i := 7) (by kernel_rfl) rfl (by rfl) (fun K hK => ?_)
    go_simp
    refine hK.out _ _ hHeld ?_
    clear hK K
    try simp only [Act.put]
    try simp only [List.setIfInBounds_toArray, List.set_cons_zero, List.set_cons_succ]
    refine wpAnyH_done (by kernel_rfl) ?_ _
    refine NoPanic.normal ?_
    clear hHeld
    obtain ⟨q0, q1, q2, q3, q4, q5⟩ := ob.wayC
    have CF := Lib.hid (cf.more (B' := w.heap.size) (C' := w10.heap.size) (by omega) (by omega))
    clear cf
    go_wp2_with fail
    refine bodyPost_ret (v := .tuple #[.slice A2 ss.length c2, z.val, .int .i64 0]) (by simp [results, Try.results16, go_sem, q0, q1, q2, q3, q4, q5]) rfl ⟨⟨A2, c2, rfl, CF.out⟩, low⟩

theorem cacheTake_bad (n s y b : Int) (v : Value) (ss : List St) (m : Int) (w : World) (h : Cs w v ss) (he : lineE n s y b ss m ≠ 0) :
    Calls Try.prog 17 #[cfg n s y b, v, .int .i64 m] w fun e w' => e = .returned (.tuple #[.slice none 0 0, zeroV, .int .i64 (lineE n s y b ss m)]) ∧ Below w.heap.size w w' := by
  have low := Below.refl w.heap.size w
  have cb := boxNext low 44 (cfgA n s y b)
  replace low := gAlloc low (.cells (cfgA n s y b) 44)
  replace h := h.alloc (.cells (cfgA n s y b) 44)
  try simp only [World.size_alloc] at cb
  have ob := boxNext low 32 zeroA
  replace low := gAlloc low (.cells zeroA 32)
  replace h := h.alloc (.cells zeroA 32)
  replace cb := cb.alloc (.cells zeroA 32)
  try simp only [World.size_alloc] at ob
  simp only [zeroA] at ob
  have C := Lib.hid fun w hw => setOfLine_bad n s y b v ss m w hw he
  generalize lineE n s y b ss m = E at C he ⊢
  have he' : (E != 0) = true := by simpa using he
  clear he
  go_enter Try.func17, Try.ntmps17
  go_wp2_with fail
  (with_reducible refine (C.out _ h).mono ?_); rintro e w1 ⟨rfl, hb⟩
  replace ob := ob.call hb
  replace low := gCall low hb
  clear hb
  have ob_0 := ob.at_ 0 rfl
  have ob_1 := ob.at_ 1 rfl
  have ob_2 := ob.at_ 2 rfl
  have ob_3 := ob.at_ 3 rfl
  have ob_4 := ob.at_ 4 rfl
  have ob_5 := ob.at_ 5 rfl
  have ob_f0 := ob.frozen 0
  have ob_f1 := ob.frozen 1
  have ob_f2 := ob.frozen 2
  have ob_f3 := ob.frozen 3
  have ob_f4 := ob.frozen 4
  have ob_f5 := ob.frozen 5
  have z1 : w.heap.size + 1 < w1.heap.size := ob.lt
  go_wp2_with fail
  refine bodyPost_ret (v := .tuple #[.slice none 0 0, zeroV, .int .i64 E]) (by simp [results, Try.results17, go_sem, ob_0, ob_1, ob_2, ob_3, ob_4, ob_5]) rfl ⟨rfl, ?_⟩
  repeat (refine gSet ?_ (by dsimp only; omega) _)
  exact low

set_option maxRecDepth 10000 in
set_option maxHeartbeats 2000000 in
theorem cacheTake_in (n s y b : Int) (v : Value) (ss : List St) (m : Int) (k : Nat) (t : St) (w : World) (h : Cs w v ss) (he : lineE n s y b ss m = 0) (hk : m % s = k) (ht : ss[k]? = some t) :
    ∃ la tt z E, TakeIs t.l t.a t.b t.c y m la tt z E ∧ Calls Try.prog 17 #[cfg n s y b, v, .int .i64 m] w fun e w' =>
      ((E ≠ 0 ∧ e = .returned (.tuple #[.slice none 0 0, zeroV, .int .i64 E])) ∨ (E = 0 ∧ ∃ A c, e = .returned (.tuple #[.slice A ss.length c, z.val, .int .i64 0]) ∧ CFr w' w.heap.size w'.heap.size (.slice A ss.length c) (ss.set k ⟨la, tt.1, tt.2.1, tt.2.2⟩))) ∧ Below w.heap.size w w' := by
  obtain ⟨g1, g2, g3⟩ := lineE_ok he
  have good := goodC_iff.1 g1
  have SM := Lib.hid good.small
  have kl := st_lt ht
  obtain ⟨A, cp, rfl, h1, h2, h3⟩ := h.ex
  obtain ⟨bb, o, rfl, hb, hc⟩ := h3 (by omega)
  obtain ⟨A', c', ra, ws⟩ := hc.at_ k t ht
  obtain ⟨la, tt, z, E, PI, P⟩ := take_fr (.slice A' t.l.length c') t.l t.a t.b t.c y m
  refine ⟨la, tt, z, E, PI, ?_⟩
  unfold GivesF at P
  have CT := Lib.hid P
  have C := Lib.hid fun w hw => setOfLine_ok n s y b (.slice (some ⟨bb, o, none⟩) ss.length cp) ss m w hw he
  rw [hk] at C
  have kc : (k : Int) < ss.length := by omega
  have k0 : (0 : Int) ≤ k := by omega
  clear P PI h1 h2 h3 hc good g1 g2 g3 he hk ht
  have low := Below.refl w.heap.size w
  have cb := boxNext low 44 (cfgA n s y b)
  replace low := gAlloc low (.cells (cfgA n s y b) 44)
  replace h := h.alloc (.cells (cfgA n s y b) 44)
  try simp only [World.size_alloc] at cb
  have ob := boxNext low 32 zeroA
  replace low := gAlloc low (.cells zeroA 32)
  replace h := h.alloc (.cells zeroA 32)
  replace cb := cb.alloc (.cells zeroA 32)
  try simp only [World.size_alloc] at ob
  simp only [zeroA] at ob
  go_enter Try.func17, Try.ntmps17
  go_wp2_with fail
  (with_reducible refine (C.out _ h).mono ?_); rintro e w1 ⟨rfl, hb⟩
  replace ob := ob.call hb
  replace cb := cb.call hb
  replace h := h.call hb
  replace low := gCall low hb
  clear hb
  clear C
  obtain ⟨r0, r1, r2, r3⟩ := rowAt_of ra hb low
  have q2 := cb.at_ 2 rfl
  replace ws := ws.call low
  have z1 : w.heap.size + 1 < w1.heap.size := ob.lt
  clear ra
  go_wp2_with fail
  refine wp_region_noPanic ?_
  refine wp_region_held_drew (S := fun w' => w'.cell? ⟨bb, o + k * 4, none⟩ = some (.slice A' t.l.length c') ∧ w'.cell? ⟨bb, o + k * 4 + 1, none⟩ = some (.bool t.a) ∧ w'.cell? ⟨bb, o + k * 4 + 2, none⟩ = some (.bool t.b) ∧ w'.cell? ⟨bb, o + k * 4 + 3, none⟩ = some (.bool t.c) ∧ w'.cell? ⟨w.heap.size, 2, none⟩ = some (.int .i64 y)) (by kernel_rfl) ⟨drewC r0, drewC r1, drewC r2, drewC r3, drewC q2⟩ (fun hHeld => ?_)
  clear r0 r1 r2 r3 q2 cb
  have z1 : w.heap.size + 1 < w1.drew.heap.size := z1
  replace ws := ws.drew
  replace ob := ob.drew
  replace h := h.drew
  replace low := low.drew
  generalize w1.drew = wN at *
  have WS := Lib.hid ws
  clear ws
  refine takeFirst (i := 0) (v := ?_) rfl (by kernel_rfl) (by kernel_rfl) (by kernel_rfl) (by rfl) (fun _ _ _ h => h) ?_ (by assumption) ?_
  rotate_left
  · (intro w hSw; go_simp; try (with_reducible rfl))
  try simp only [Act.put, List.setIfInBounds_toArray, List.set_cons_zero, List.set_cons_succ]
  refine takeFirst (i := 1) (v := ?_) rfl (by kernel_rfl) (by kernel_rfl) (by kernel_rfl) (by rfl) (fun _ _ _ h => h) ?_ (by assumption) ?_
  rotate_left
  · (intro w hSw; go_simp; try (with_reducible rfl))
  try simp only [Act.put, List.setIfInBounds_toArray, List.set_cons_zero, List.set_cons_succ]
  refine takeFirst (i := 2) (v := ?_) rfl (by kernel_rfl) (by kernel_rfl) (by kernel_rfl) (by rfl) (fun _ _ _ h => h) ?_ (by assumption) ?_
  rotate_left
  · (intro w hSw; go_simp; try (with_reducible rfl))
  try simp only [Act.put, List.setIfInBounds_toArray, List.set_cons_zero, List.set_cons_succ]
  refine takeFirst (i := 3) (v := ?_) rfl (by kernel_rfl) (by kernel_rfl) (by kernel_rfl) (by rfl) (fun _ _ _ h => h) ?_ (by assumption) ?_
  rotate_left
  · (intro w hSw; go_simp; try (with_reducible rfl))
  try simp only [Act.put, List.setIfInBounds_toArray, List.set_cons_zero, List.set_cons_succ]
  refine takeFirst (i := 4) (v := ?_) rfl (by kernel_rfl) (by kernel_rfl) (by kernel_rfl) (by rfl) (fun _ _ _ h => h) ?_ (by assumption) ?_
  rotate_left
  · (intro w hSw; go_simp; try (with_reducible rfl))
  try simp only [Act.put, List.setIfInBounds_toArray, List.set_cons_zero, List.set_cons_succ]
  refine takeFirst (i := 5) (v := ?_) rfl (by kernel_rfl) (by kernel_rfl) (by kernel_rfl) (by rfl) (fun _ _ _ h => h) ?_ (by assumption) ?_
  rotate_left
  · (intro w hSw; go_simp; try (with_reducible rfl))
  try simp only [Act.put, List.setIfInBounds_toArray, List.set_cons_zero, List.set_cons_succ]
  refine takeFirst (i := 6) (v := ?_) rfl (by kernel_rfl) (by kernel_rfl) (by kernel_rfl) (by rfl) (fun _ _ _ h => h) ?_ (by assumption) ?_
  rotate_left
  · (intro w hSw; go_simp; try (with_reducible rfl))
  try simp only [Act.put, List.setIfInBounds_toArray, List.set_cons_zero, List.set_cons_succ]
  apply share (M := fun ga gb A c wz => Mid wN 26 (rowA (.slice none 0 0) false false false) 32 zeroA wz (some ga) (some gb) (some (.slice A la.length c, la)))
  · intro hE
    have mid := Mid.start wN 26 (rowA (.slice none 0 0) false false false) 32 zeroA
    refine stepThree (i1 := 7) (i2 := 12) (i3 := 13) (by kernel_rfl) rfl rfl rfl (by rfl) (by rfl) (by rfl) (fun K hK => ?_) (fun K hK => ?_) (fun K hK => ?_)
    · go_simp
      (with_reducible refine (Calls.mono (CT.out _ (WS.out.call mid.low)) ?_)); rintro e wx ⟨⟨Az, cz, rfl, frz⟩, hbz⟩
      replace mid := mid.call hbz frz
      clear hbz frz
      try clear hNow
      have hNow := (And.intro (callC mid.low hHeld.1) (And.intro (callC mid.low hHeld.2.1) (And.intro (callC mid.low hHeld.2.2.1) (And.intro (callC mid.low hHeld.2.2.2.1) (callC mid.low hHeld.2.2.2.2)))))
      refine hK.out _ _ hNow ?_
      clear hK K
      try simp only [Act.put]
      try simp only [List.setIfInBounds_toArray, List.set_cons_zero, List.set_cons_succ]
      refine takeFirst (i := 8) (v := ?_) rfl (by kernel_rfl) (by kernel_rfl) (by kernel_rfl) (by rfl) (fun _ _ _ h => h) ?_ (by assumption) ?_
      rotate_left
      · (intro w hSw; go_simp; try (with_reducible rfl))
      try simp only [Act.put, List.setIfInBounds_toArray, List.set_cons_zero, List.set_cons_succ]
      refine takeFirst (i := 9) (v := ?_) rfl (by kernel_rfl) (by kernel_rfl) (by kernel_rfl) (by rfl) (fun _ _ _ h => h) ?_ (by assumption) ?_
      rotate_left
      · (intro w hSw; go_simp; try (with_reducible rfl))
      try simp only [Act.put, List.setIfInBounds_toArray, List.set_cons_zero, List.set_cons_succ]
      refine takeFirst (i := 10) (v := ?_) rfl (by kernel_rfl) (by kernel_rfl) (by kernel_rfl) (by rfl) (fun _ _ _ h => h) ?_ (by assumption) ?_
      rotate_left
      · (intro w hSw; go_simp; try (with_reducible rfl))
      try simp only [Act.put, List.setIfInBounds_toArray, List.set_cons_zero, List.set_cons_succ]
      refine takeFirst (i := 11) (v := ?_) rfl (by kernel_rfl) (by kernel_rfl) (by kernel_rfl) (by rfl) (fun _ _ _ h => h) ?_ (by assumption) ?_
      rotate_left
      · (intro w hSw; go_simp; try (with_reducible rfl))
      try simp only [Act.put, List.setIfInBounds_toArray, List.set_cons_zero, List.set_cons_succ]
      refine stepTwo (i1 := 12) (i2 := 13) (by kernel_rfl) rfl rfl (by rfl) (by rfl) (fun K hK => ?_) (fun K hK => ?_)
      · go_simp
        replace mid := mid.allocA
        try clear hNow
        have hNow := (And.intro (callC mid.low hHeld.1) (And.intro (callC mid.low hHeld.2.1) (And.intro (callC mid.low hHeld.2.2.1) (And.intro (callC mid.low hHeld.2.2.2.1) (callC mid.low hHeld.2.2.2.2)))))
        refine hK.out _ _ hNow ?_
        clear hK K
        try simp only [Act.put]
        try simp only [List.setIfInBounds_toArray, List.set_cons_zero, List.set_cons_succ]
        generalize wx.heap.size = ga at mid ⊢
        generalize wx.alloc (.cells (rowA (.slice none 0 0) false false false) 26) = wy at mid ⊢
        refine stepNext (i := 13) (by kernel_rfl) rfl (by rfl) (fun K hK => ?_)
        go_simp
        replace mid := mid.allocB
        try clear hNow
        have hNow := (And.intro (callC mid.low hHeld.1) (And.intro (callC mid.low hHeld.2.1) (And.intro (callC mid.low hHeld.2.2.1) (And.intro (callC mid.low hHeld.2.2.2.1) (callC mid.low hHeld.2.2.2.2)))))
        refine hK.out _ _ hNow ?_
        clear hK K
        try simp only [Act.put]
        try simp only [List.setIfInBounds_toArray, List.set_cons_zero, List.set_cons_succ]
        generalize wy.heap.size = gb at mid ⊢
        generalize wy.alloc (.cells zeroA 32) = wz at mid ⊢
        refine relist (l2 := #[true, true, true, true, true, true, true, true, true, true, true, true, true, true, false, false, false]) (by kernel_rfl) ?_
        exact hE _ _ _ _ _ mid
      · go_simp
        replace mid := mid.allocB
        try clear hNow
        have hNow := (And.intro (callC mid.low hHeld.1) (And.intro (callC mid.low hHeld.2.1) (And.intro (callC mid.low hHeld.2.2.1) (And.intro (callC mid.low hHeld.2.2.2.1) (callC mid.low hHeld.2.2.2.2)))))
        refine hK.out _ _ hNow ?_
        clear hK K
        try simp only [Act.put]
        try simp only [List.setIfInBounds_toArray, List.set_cons_zero, List.set_cons_succ]
        generalize wx.heap.size = gb at mid ⊢
        generalize wx.alloc (.cells zeroA 32) = wy at mid ⊢
        refine stepNext (i := 12) (by kernel_rfl) rfl (by rfl) (fun K hK => ?_)
        go_simp
        replace mid := mid.allocA
        try clear hNow
        have hNow := (And.intro (callC mid.low hHeld.1) (And.intro (callC mid.low hHeld.2.1) (And.intro (callC mid.low hHeld.2.2.1) (And.intro (callC mid.low hHeld.2.2.2.1) (callC mid.low hHeld.2.2.2.2)))))
        refine hK.out _ _ hNow ?_
        clear hK K
        try simp only [Act.put]
        try simp only [List.setIfInBounds_toArray, List.set_cons_zero, List.set_cons_succ]
        generalize wy.heap.size = ga at mid ⊢
        generalize wy.alloc (.cells (rowA (.slice none 0 0) false false false) 26) = wz at mid ⊢
        refine relist (l2 := #[true, true, true, true, true, true, true, true, true, true, true, true, true, true, false, false, false]) (by kernel_rfl) ?_
        exact hE _ _ _ _ _ mid
    · go_simp
      replace mid := mid.allocA
      try clear hNow
      have hNow := (And.intro (callC mid.low hHeld.1) (And.intro (callC mid.low hHeld.2.1) (And.intro (callC mid.low hHeld.2.2.1) (And.intro (callC mid.low hHeld.2.2.2.1) (callC mid.low hHeld.2.2.2.2)))))
      refine hK.out _ _ hNow ?_
      clear hK K
      try simp only [Act.put]
      try simp only [List.setIfInBounds_toArray, List.set_cons_zero, List.set_cons_succ]
      generalize wN.heap.size = ga at mid ⊢
      generalize wN.alloc (.cells (rowA (.slice none 0 0) false false false) 26) = wx at mid ⊢
      refine stepTwo (i1 := 7) (i2 := 13) (by kernel_rfl) rfl rfl (by rfl) (by rfl) (fun K hK => ?_) (fun K hK => ?_)
      · go_simp
        (with_reducible refine (Calls.mono (CT.out _ (WS.out.call mid.low)) ?_)); rintro e wy ⟨⟨Az, cz, rfl, frz⟩, hbz⟩
        replace mid := mid.call hbz frz
        clear hbz frz
        try clear hNow
        have hNow := (And.intro (callC mid.low hHeld.1) (And.intro (callC mid.low hHeld.2.1) (And.intro (callC mid.low hHeld.2.2.1) (And.intro (callC mid.low hHeld.2.2.2.1) (callC mid.low hHeld.2.2.2.2)))))
        refine hK.out _ _ hNow ?_
        clear hK K
        try simp only [Act.put]
        try simp only [List.setIfInBounds_toArray, List.set_cons_zero, List.set_cons_succ]
        refine takeFirst (i := 8) (v := ?_) rfl (by kernel_rfl) (by kernel_rfl) (by kernel_rfl) (by rfl) (fun _ _ _ h => h) ?_ (by assumption) ?_
        rotate_left
        · (intro w hSw; go_simp; try (with_reducible rfl))
        try simp only [Act.put, List.setIfInBounds_toArray, List.set_cons_zero, List.set_cons_succ]
        refine takeFirst (i := 9) (v := ?_) rfl (by kernel_rfl) (by kernel_rfl) (by kernel_rfl) (by rfl) (fun _ _ _ h => h) ?_ (by assumption) ?_
        rotate_left
        · (intro w hSw; go_simp; try (with_reducible rfl))
        try simp only [Act.put, List.setIfInBounds_toArray, List.set_cons_zero, List.set_cons_succ]
        refine takeFirst (i := 10) (v := ?_) rfl (by kernel_rfl) (by kernel_rfl) (by kernel_rfl) (by rfl) (fun _ _ _ h => h) ?_ (by assumption) ?_
        rotate_left
        · (intro w hSw; go_simp; try (with_reducible rfl))
        try simp only [Act.put, List.setIfInBounds_toArray, List.set_cons_zero, List.set_cons_succ]
        refine takeFirst (i := 11) (v := ?_) rfl (by kernel_rfl) (by kernel_rfl) (by kernel_rfl) (by rfl) (fun _ _ _ h => h) ?_ (by assumption) ?_
        rotate_left
        · (intro w hSw; go_simp; try (with_reducible rfl))
        try simp only [Act.put, List.setIfInBounds_toArray, List.set_cons_zero, List.set_cons_succ]
        refine stepNext (i := 13) (by kernel_rfl) rfl (by rfl) (fun K hK => ?_)
        go_simp
        replace mid := mid.allocB
        try clear hNow
        have hNow := (And.intro (callC mid.low hHeld.1) (And.intro (callC mid.low hHeld.2.1) (And.intro (callC mid.low hHeld.2.2.1) (And.intro (callC mid.low hHeld.2.2.2.1) (callC mid.low hHeld.2.2.2.2)))))
        refine hK.out _ _ hNow ?_
        clear hK K
        try simp only [Act.put]
        try simp only [List.setIfInBounds_toArray, List.set_cons_zero, List.set_cons_succ]
        generalize wy.heap.size = gb at mid ⊢
        generalize wy.alloc (.cells zeroA 32) = wz at mid ⊢
        refine relist (l2 := #[true, true, true, true, true, true, true, true, true, true, true, true, true, true, false, false, false]) (by kernel_rfl) ?_
        exact hE _ _ _ _ _ mid
      · go_simp
        replace mid := mid.allocB
        try clear hNow
        have hNow := (And.intro (callC mid.low hHeld.1) (And.intro (callC mid.low hHeld.2.1) (And.intro (callC mid.low hHeld.2.2.1) (And.intro (callC mid.low hHeld.2.2.2.1) (callC mid.low hHeld.2.2.2.2)))))
        refine hK.out _ _ hNow ?_
        clear hK K
        try simp only [Act.put]
        try simp only [List.setIfInBounds_toArray, List.set_cons_zero, List.set_cons_succ]
        generalize wx.heap.size = gb at mid ⊢
        generalize wx.alloc (.cells zeroA 32) = wy at mid ⊢
        refine stepNext (i := 7) (by kernel_rfl) rfl (by rfl) (fun K hK => ?_)
        go_simp
        (with_reducible refine (Calls.mono (CT.out _ (WS.out.call mid.low)) ?_)); rintro e wz ⟨⟨Az, cz, rfl, frz⟩, hbz⟩
        replace mid := mid.call hbz frz
        clear hbz frz
        try clear hNow
        have hNow := (And.intro (callC mid.low hHeld.1) (And.intro (callC mid.low hHeld.2.1) (And.intro (callC mid.low hHeld.2.2.1) (And.intro (callC mid.low hHeld.2.2.2.1) (callC mid.low hHeld.2.2.2.2)))))
        refine hK.out _ _ hNow ?_
        clear hK K
        try simp only [Act.put]
        try simp only [List.setIfInBounds_toArray, List.set_cons_zero, List.set_cons_succ]
        refine takeFirst (i := 8) (v := ?_) rfl (by kernel_rfl) (by kernel_rfl) (by kernel_rfl) (by rfl) (fun _ _ _ h => h) ?_ (by assumption) ?_
        rotate_left
        · (intro w hSw; go_simp; try (with_reducible rfl))
        try simp only [Act.put, List.setIfInBounds_toArray, List.set_cons_zero, List.set_cons_succ]
        refine takeFirst (i := 9) (v := ?_) rfl (by kernel_rfl) (by kernel_rfl) (by kernel_rfl) (by rfl) (fun _ _ _ h => h) ?_ (by assumption) ?_
        rotate_left
        · (intro w hSw; go_simp; try (with_reducible rfl))
        try simp only [Act.put, List.setIfInBounds_toArray, List.set_cons_zero, List.set_cons_succ]
        refine takeFirst (i := 10) (v := ?_) rfl (by kernel_rfl) (by kernel_rfl) (by kernel_rfl) (by rfl) (fun _ _ _ h => h) ?_ (by assumption) ?_
        rotate_left
        · (intro w hSw; go_simp; try (with_reducible rfl))
        try simp only [Act.put, List.setIfInBounds_toArray, List.set_cons_zero, List.set_cons_succ]
        refine takeFirst (i := 11) (v := ?_) rfl (by kernel_rfl) (by kernel_rfl) (by kernel_rfl) (by rfl) (fun _ _ _ h => h) ?_ (by assumption) ?_
        rotate_left
        · (intro w hSw; go_simp; try (with_reducible rfl))
        try simp only [Act.put, List.setIfInBounds_toArray, List.set_cons_zero, List.set_cons_succ]
        refine relist (l2 := #[true, true, true, true, true, true, true, true, true, true, true, true, true, true, false, false, false]) (by kernel_rfl) ?_
        exact hE _ _ _ _ _ mid
    · go_simp
      replace mid := mid.allocB
      try clear hNow
      have hNow := (And.intro (callC mid.low hHeld.1) (And.intro (callC mid.low hHeld.2.1) (And.intro (callC mid.low hHeld.2.2.1) (And.intro (callC mid.low hHeld.2.2.2.1) (callC mid.low hHeld.2.2.2.2)))))
      refine hK.out _ _ hNow ?_
      clear hK K
      try simp only [Act.put]
      try simp only [List.setIfInBounds_toArray, List.set_cons_zero, List.set_cons_succ]
      generalize wN.heap.size = gb at mid ⊢
      generalize wN.alloc (.cells zeroA 32) = wx at mid ⊢
      refine stepTwo (i1 := 7) (i2 := 12) (by kernel_rfl) rfl rfl (by rfl) (by rfl) (fun K hK => ?_) (fun K hK => ?_)
      · go_simp
        (with_reducible refine (Calls.mono (CT.out _ (WS.out.call mid.low)) ?_)); rintro e wy ⟨⟨Az, cz, rfl, frz⟩, hbz⟩
        replace mid := mid.call hbz frz
        clear hbz frz
        try clear hNow
        have hNow := (And.intro (callC mid.low hHeld.1) (And.intro (callC mid.low hHeld.2.1) (And.intro (callC mid.low hHeld.2.2.1) (And.intro (callC mid.low hHeld.2.2.2.1) (callC mid.low hHeld.2.2.2.2)))))
        refine hK.out _ _ hNow ?_
        clear hK K
        try simp only [Act.put]
        try simp only [List.setIfInBounds_toArray, List.set_cons_zero, List.set_cons_succ]
        refine takeFirst (i := 8) (v := ?_) rfl (by kernel_rfl) (by kernel_rfl) (by kernel_rfl) (by rfl) (fun _ _ _ h => h) ?_ (by assumption) ?_
        rotate_left
        · (intro w hSw; go_simp; try (with_reducible rfl))
        try simp only [Act.put, List.setIfInBounds_toArray, List.set_cons_zero, List.set_cons_succ]
        refine takeFirst (i := 9) (v := ?_) rfl (by kernel_rfl) (by kernel_rfl) (by kernel_rfl) (by rfl) (fun _ _ _ h => h) ?_ (by assumption) ?_
        rotate_left
        · (intro w hSw; go_simp; try (with_reducible rfl))
        try simp only [Act.put, List.setIfInBounds_toArray, List.set_cons_zero, List.set_cons_succ]
        refine takeFirst (i := 10) (v := ?_) rfl (by kernel_rfl) (by kernel_rfl) (by kernel_rfl) (by rfl) (fun _ _ _ h => h) ?_ (by assumption) ?_
        rotate_left
        · (intro w hSw; go_simp; try (with_reducible rfl))
        try simp only [Act.put, List.setIfInBounds_toArray, List.set_cons_zero, List.set_cons_succ]
        refine takeFirst (i := 11) (v := ?_) rfl (by kernel_rfl) (by kernel_rfl) (by kernel_rfl) (by rfl) (fun _ _ _ h => h) ?_ (by assumption) ?_
        rotate_left
        · (intro w hSw; go_simp; try (with_reducible rfl))
        try simp only [Act.put, List.setIfInBounds_toArray, List.set_cons_zero, List.set_cons_succ]
        refine stepNext (i := 12) (by kernel_rfl) rfl (by rfl) (fun K hK => ?_)
        go_simp
        replace mid := mid.allocA
        try clear hNow
        have hNow := (And.intro (callC mid.low hHeld.1) (And.intro (callC mid.low hHeld.2.1) (And.intro (callC mid.low hHeld.2.2.1) (And.intro (callC mid.low hHeld.2.2.2.1) (callC mid.low hHeld.2.2.2.2)))))
        refine hK.out _ _ hNow ?_
        clear hK K
        try simp only [Act.put]
        try simp only [List.setIfInBounds_toArray, List.set_cons_zero, List.set_cons_succ]
        generalize wy.heap.size = ga at mid ⊢
        generalize wy.alloc (.cells (rowA (.slice none 0 0) false false false) 26) = wz at mid ⊢
        refine relist (l2 := #[true, true, true, true, true, true, true, true, true, true, true, true, true, true, false, false, false]) (by kernel_rfl) ?_
        exact hE _ _ _ _ _ mid
      · go_simp
        replace mid := mid.allocA
        try clear hNow
        have hNow := (And.intro (callC mid.low hHeld.1) (And.intro (callC mid.low hHeld.2.1) (And.intro (callC mid.low hHeld.2.2.1) (And.intro (callC mid.low hHeld.2.2.2.1) (callC mid.low hHeld.2.2.2.2)))))
        refine hK.out _ _ hNow ?_
        clear hK K
        try simp only [Act.put]
        try simp only [List.setIfInBounds_toArray, List.set_cons_zero, List.set_cons_succ]
        generalize wx.heap.size = ga at mid ⊢
        generalize wx.alloc (.cells (rowA (.slice none 0 0) false false false) 26) = wy at mid ⊢
        refine stepNext (i := 7) (by kernel_rfl) rfl (by rfl) (fun K hK => ?_)
        go_simp
        (with_reducible refine (Calls.mono (CT.out _ (WS.out.call mid.low)) ?_)); rintro e wz ⟨⟨Az, cz, rfl, frz⟩, hbz⟩
        replace mid := mid.call hbz frz
        clear hbz frz
        try clear hNow
        have hNow := (And.intro (callC mid.low hHeld.1) (And.intro (callC mid.low hHeld.2.1) (And.intro (callC mid.low hHeld.2.2.1) (And.intro (callC mid.low hHeld.2.2.2.1) (callC mid.low hHeld.2.2.2.2)))))
        refine hK.out _ _ hNow ?_
        clear hK K
        try simp only [Act.put]
        try simp only [List.setIfInBounds_toArray, List.set_cons_zero, List.set_cons_succ]
        refine takeFirst (i := 8) (v := ?_) rfl (by kernel_rfl) (by kernel_rfl) (by kernel_rfl) (by rfl) (fun _ _ _ h => h) ?_ (by assumption) ?_
        rotate_left
        · (intro w hSw; go_simp; try (with_reducible rfl))
        try simp only [Act.put, List.setIfInBounds_toArray, List.set_cons_zero, List.set_cons_succ]
        refine takeFirst (i := 9) (v := ?_) rfl (by kernel_rfl) (by kernel_rfl) (by kernel_rfl) (by rfl) (fun _ _ _ h => h) ?_ (by assumption) ?_
        rotate_left
        · (intro w hSw; go_simp; try (with_reducible rfl))
        try simp only [Act.put, List.setIfInBounds_toArray, List.set_cons_zero, List.set_cons_succ]
        refine takeFirst (i := 10) (v := ?_) rfl (by kernel_rfl) (by kernel_rfl) (by kernel_rfl) (by rfl) (fun _ _ _ h => h) ?_ (by assumption) ?_
        rotate_left
        · (intro w hSw; go_simp; try (with_reducible rfl))
        try simp only [Act.put, List.setIfInBounds_toArray, List.set_cons_zero, List.set_cons_succ]
        refine takeFirst (i := 11) (v := ?_) rfl (by kernel_rfl) (by kernel_rfl) (by kernel_rfl) (by rfl) (fun _ _ _ h => h) ?_ (by assumption) ?_
        rotate_left
        · (intro w hSw; go_simp; try (with_reducible rfl))
        try simp only [Act.put, List.setIfInBounds_toArray, List.set_cons_zero, List.set_cons_succ]
        refine relist (l2 := #[true, true, true, true, true, true, true, true, true, true, true, true, true, true, false, false, false]) (by kernel_rfl) ?_
        exact hE _ _ _ _ _ mid
  intro ga gb Az cz w6 mid
  obtain ⟨hga, ab⟩ := mid.fa ga rfl
  obtain ⟨hgb, yb⟩ := mid.fb gb rfl
  have gne := mid.ne ga gb rfl rfl
  obtain ⟨Bz, Cz, hBz, hCz, frz, hfar⟩ := mid.fr _ _ rfl
  have fa1 := hfar ga (.inl rfl)
  have fa2 := hfar gb (.inr rfl)
  have near := mid.low
  clear hfar mid
  obtain ⟨hh0, hh1, hh2, hh3, hh4⟩ := hHeld
  have hHeld := (And.intro (callC near hh0) (And.intro (callC near hh1) (And.intro (callC near hh2) (And.intro (callC near hh3) (callC near hh4)))))
  clear hh0 hh1 hh2 hh3 hh4
  replace ob := ob.call near
  replace low := gCall low near
  refine stepNext (i := 14) (by kernel_rfl) rfl (by rfl) (fun K hK => ?_)
  refine wp_store_box 26 (.tmp 11) (.tmp 33) rfl _ _ rfl rfl ab size_row rfl (by simp [Value.oneCell']) ?_
  intro w7 ab st
  replace yb := st.box yb (by omega)
  replace ob := st.box ob (by omega)
  replace frz := st.fr frz fa1
  replace low := st.low low (by omega)
  replace near := st.low near (by omega)
  have z7 := st.size
  obtain ⟨hh0, hh1, hh2, hh3, hh4⟩ := hHeld
  have hHeld := (And.intro (st.cell (by dsimp only; omega) hh0) (And.intro (st.cell (by dsimp only; omega) hh1) (And.intro (st.cell (by dsimp only; omega) hh2) (And.intro (st.cell (by dsimp only; omega) hh3) (st.cell (by dsimp only; omega) hh4)))))
  clear hh0 hh1 hh2 hh3 hh4
  clear st
  refine hK.out _ _ hHeld ?_
  clear hK K
  try simp only [Act.put]
  try simp only [List.setIfInBounds_toArray, List.set_cons_zero, List.set_cons_succ]
  refine stepNext (i := 15) (by kernel_rfl) rfl (by rfl) (fun K hK => ?_)
  refine wp_store_box 32 (.tmp 12) (.tmp 34) rfl _ _ rfl rfl yb size_way rfl (by simp [Value.oneCell']) ?_
  intro w8 yb st
  replace ab := st.box ab (by omega)
  replace ob := st.box ob (by omega)
  replace frz := st.fr frz fa2
  replace low := st.low low (by omega)
  replace near := st.low near (by omega)
  have z8 := st.size
  obtain ⟨hh0, hh1, hh2, hh3, hh4⟩ := hHeld
  have hHeld := (And.intro (st.cell (by dsimp only; omega) hh0) (And.intro (st.cell (by dsimp only; omega) hh1) (And.intro (st.cell (by dsimp only; omega) hh2) (And.intro (st.cell (by dsimp only; omega) hh3) (st.cell (by dsimp only; omega) hh4)))))
  clear hh0 hh1 hh2 hh3 hh4
  clear st
  refine hK.out _ _ hHeld ?_
  clear hK K
  try simp only [Act.put]
  try simp only [List.setIfInBounds_toArray, List.set_cons_zero, List.set_cons_succ]
  refine stepNext (i := 16) (by kernel_rfl) rfl (by rfl) (fun K hK => ?_)
  go_simp
  refine hK.out _ _ hHeld ?_
  clear hK K
  try simp only [Act.put]
  try simp only [List.setIfInBounds_toArray, List.set_cons_zero, List.set_cons_succ]
  refine wpAnyH_done (by kernel_rfl) ?_ _
  refine NoPanic.normal ?_
  clear hHeld WS CT
  replace h := h.call near
  cases hE : (E != 0)
  rotate_left
  · have hE' : E ≠ 0 := by simpa using hE
    have ob_0 := ob.at_ 0 rfl
    have ob_1 := ob.at_ 1 rfl
    have ob_2 := ob.at_ 2 rfl
    have ob_3 := ob.at_ 3 rfl
    have ob_4 := ob.at_ 4 rfl
    have ob_5 := ob.at_ 5 rfl
    have ob_f0 := ob.frozen 0
    have ob_f1 := ob.frozen 1
    have ob_f2 := ob.frozen 2
    have ob_f3 := ob.frozen 3
    have ob_f4 := ob.frozen 4
    have ob_f5 := ob.frozen 5
    have z9 : w.heap.size + 1 < w8.heap.size := ob.lt
    go_wp2_with fail
    refine bodyPost_ret (v := .tuple #[.slice none 0 0, zeroV, .int .i64 E]) (by simp [results, Try.results17, go_sem, ob_0, ob_1, ob_2, ob_3, ob_4, ob_5]) rfl ⟨.inl ⟨hE', rfl⟩, ?_⟩
    repeat (refine gSet ?_ (by dsimp only; omega) _)
    exact low
  · obtain rfl : E = 0 := by simpa using hE
    obtain ⟨a0, a1, a2, a3⟩ := ab.rowC
    obtain ⟨y0, y1, y2, y3, y4, y5⟩ := yb.wayC
    have frB : Fr w8.drew wN.heap.size w8.drew.heap.size (.slice Az la.length cz) la := (frz.more (B' := wN.heap.size) (C' := w8.heap.size) (by omega) (by omega)).call (Below.refl _ _).drew
    have sz8 : wN.heap.size ≤ w8.drew.heap.size := near.size
    clear frz fa1 fa2
    go_wp2_with fail
    refine wp_region_noPanic ?_
    refine wp_region_held_drew (S := fun w' => w'.cell? ⟨ga, 0, none⟩ = some (.slice Az la.length cz) ∧ w'.cell? ⟨ga, 1, none⟩ = some (.bool tt.1) ∧ w'.cell? ⟨ga, 2, none⟩ = some (.bool tt.2.1) ∧ w'.cell? ⟨ga, 3, none⟩ = some (.bool tt.2.2) ∧ w'.cell? ⟨gb, 0, none⟩ = some (.int .i64 z.st) ∧ w'.cell? ⟨gb, 1, none⟩ = some (.int .i64 z.ln) ∧ w'.cell? ⟨gb, 2, none⟩ = some (.int .u64 z.a) ∧ w'.cell? ⟨gb, 3, none⟩ = some (.int .u64 z.b) ∧ w'.cell? ⟨gb, 4, none⟩ = some (.int .u64 z.c) ∧ w'.cell? ⟨gb, 5, none⟩ = some (.int .u64 z.d)) (by kernel_rfl) ⟨drewC a0, drewC a1, drewC a2, drewC a3, drewC y0, drewC y1, drewC y2, drewC y3, drewC y4, drewC y5⟩ (fun hHeld => ?_)
    clear a0 a1 a2 a3 y0 y1 y2 y3 y4 y5 ab yb
    refine takeFirst (i := 0) (v := ?_) rfl (by kernel_rfl) (by kernel_rfl) (by kernel_rfl) (by rfl) (fun _ _ _ h => h) ?_ (by assumption) ?_
    rotate_left
    · (intro w hSw; go_simp; try (with_reducible rfl))
    try simp only [Act.put, List.setIfInBounds_toArray, List.set_cons_zero, List.set_cons_succ]
    refine takeFirst (i := 1) (v := ?_) rfl (by kernel_rfl) (by kernel_rfl) (by kernel_rfl) (by rfl) (fun _ _ _ h => h) ?_ (by assumption) ?_
    rotate_left
    · (intro w hSw; go_simp; try (with_reducible rfl))
    try simp only [Act.put, List.setIfInBounds_toArray, List.set_cons_zero, List.set_cons_succ]
    refine takeFirst (i := 2) (v := ?_) rfl (by kernel_rfl) (by kernel_rfl) (by kernel_rfl) (by rfl) (fun _ _ _ h => h) ?_ (by assumption) ?_
    rotate_left
    · (intro w hSw; go_simp; try (with_reducible rfl))
    try simp only [Act.put, List.setIfInBounds_toArray, List.set_cons_zero, List.set_cons_succ]
    refine takeFirst (i := 4) (v := ?_) rfl (by kernel_rfl) (by kernel_rfl) (by kernel_rfl) (by rfl) (fun _ _ _ h => h) ?_ (by assumption) ?_
    rotate_left
    · (intro w hSw; go_simp; try (with_reducible rfl))
    try simp only [Act.put, List.setIfInBounds_toArray, List.set_cons_zero, List.set_cons_succ]
    refine stepNext (i := 3) (by kernel_rfl) rfl (by rfl) (fun K hK => ?_)
    go_simp
    (with_reducible refine (Calls.mono (cacheReplace_l _ ss k Az cz la _ _ _ _ wN.heap.size h.drew kl SM.out frB sz8) ?_)); rintro e w9 ⟨⟨A2, c2, rfl, cf⟩, hb9⟩
    replace ob := ob.drew.call hb9
    replace low := gCall low.drew hb9
    have z9 : w8.heap.size ≤ w9.heap.size := hb9.size
    obtain ⟨hh0, hh1, hh2, hh3, hh4, hh5, hh6, hh7, hh8, hh9⟩ := hHeld
    have hHeld := (And.intro (callC hb9 hh0) (And.intro (callC hb9 hh1) (And.intro (callC hb9 hh2) (And.intro (callC hb9 hh3) (And.intro (callC hb9 hh4) (And.intro (callC hb9 hh5) (And.intro (callC hb9 hh6) (And.intro (callC hb9 hh7) (And.intro (callC hb9 hh8) (callC hb9 hh9))))))))))
    clear hh0 hh1 hh2 hh3 hh4 hh5 hh6 hh7 hh8 hh9
    clear hb9
    refine hK.out _ _ hHeld ?_
    clear hK K
    try simp only [Act.put]
    try simp only [List.setIfInBounds_toArray, List.set_cons_zero, List.set_cons_succ]
    refine stepNext (i := 5) (by kernel_rfl) rfl (by rfl) (fun K hK => ?_)
    go_simp
    refine hK.out _ _ hHeld ?_
    clear hK K
    try simp only [Act.put]
    try simp only [List.setIfInBounds_toArray, List.set_cons_zero, List.set_cons_succ]
    refine stepNext (i := 6) (by kernel_rfl) rfl (by rfl) (fun K hK => ?_)
    refine wp_store_box 32 (.tmp 7) (.tmp 44) rfl _ _ rfl rfl ob size_way rfl (by simp [Value.oneCell']) ?_
    intro w10 ob st
    replace cf := cf.out st (.inl (by omega))
    replace low := st.low low (by omega)
    have z10 := st.size
    have z11 : w8.heap.size = w8.drew.heap.size := rfl
    obtain ⟨hh0, hh1, hh2, hh3, hh4, hh5, hh6, hh7, hh8, hh9⟩ := hHeld
    have hHeld := (And.intro (st.cell (by dsimp only; omega) hh0) (And.intro (st.cell (by dsimp only; omega) hh1) (And.intro (st.cell (by dsimp only; omega) hh2) (And.intro (st.cell (by dsimp only; omega) hh3) (And.intro (st.cell (by dsimp only; omega) hh4) (And.intro (st.cell (by dsimp only; omega) hh5) (And.intro (st.cell (by dsimp only; omega) hh6) (And.intro (st.cell (by dsimp only; omega) hh7) (And.intro (st.cell (by dsimp only; omega) hh8) (st.cell (by dsimp only; omega) hh9))))))))))
    clear hh0 hh1 hh2 hh3 hh4 hh5 hh6 hh7 hh8 hh9
    clear st
    refine hK.out _ _ hHeld ?_
    clear hK K
    try simp only [Act.put]
    try simp only [List.setIfInBounds_toArray, List.set_cons_zero, List.set_cons_succ]
    refine stepNext (i := 7) (by kernel_rfl) rfl (by rfl) (fun K hK => ?_)
    go_simp
    refine hK.out _ _ hHeld ?_
    clear hK K
    try simp only [Act.put]
    try simp only [List.setIfInBounds_toArray, List.set_cons_zero, List.set_cons_succ]
    refine wpAnyH_done (by kernel_rfl) ?_ _
    refine NoPanic.normal ?_
    clear hHeld
    obtain ⟨q0, q1, q2, q3, q4, q5⟩ := ob.wayC
    have CF := Lib.hid (cf.more (B' := w.heap.size) (C' := w10.heap.size) (by omega) (by omega))
    clear cf
    go_wp2_with fail
    refine bodyPost_ret (v := .tuple #[.slice A2 ss.length c2, z.val, .int .i64 0]) (by simp [results, Try.results17, go_sem, q0, q1, q2, q3, q4, q5]) rfl ⟨⟨A2, c2, rfl, CF.out⟩, low⟩

theorem cacheSet_bad (n s y b : Int) (v : Value) (ss : List St) (x : Wy) (w : World) (h : Cs w v ss) (he : wayCE n s y b ss x ≠ 0) :
    Calls Try.prog 18 #[cfg n s y b, v, x.val] w fun e w' => e = .returned (.tuple #[.slice none 0 0, .int .i64 (wayCE n s y b ss x)]) ∧ Below w.heap.size w w' := by
  have low := Below.refl w.heap.size w
  have cb := boxNext low 44 (cfgA n s y b)
  replace low := gAlloc low (.cells (cfgA n s y b) 44)
  replace h := h.alloc (.cells (cfgA n s y b) 44)
  try simp only [World.size_alloc] at cb
  have xb := boxNext low 32 x.arr
  replace low := gAlloc low (.cells x.arr 32)
  replace h := h.alloc (.cells x.arr 32)
  replace cb := cb.alloc (.cells x.arr 32)
  try simp only [World.size_alloc] at xb
  simp only [Wy.arr] at xb
  have C := Lib.hid fun w hw => setOfWay_bad n s y b v ss x w hw he
  generalize wayCE n s y b ss x = E at C he ⊢
  have he' : (E != 0) = true := by simpa using he
  clear he
  go_enter Try.func18, Try.ntmps18
  go_wp2_with fail
  (with_reducible refine (C.out _ h).mono ?_); rintro e w1 ⟨rfl, hb⟩
  replace low := gCall low hb
  clear hb
  go_wp2_with fail
  go_ret2
  exact ⟨rfl, low⟩

set_option maxRecDepth 10000 in
set_option maxHeartbeats 2000000 in
theorem cacheSet_in (n s y b : Int) (v : Value) (ss : List St) (x : Wy) (k : Nat) (t : St) (w : World) (h : Cs w v ss) (he : wayCE n s y b ss x = 0) (hk : x.ln % s = k) (ht : ss[k]? = some t) :
    ∃ la tt E, SetIs t.l t.a t.b t.c y x la tt E ∧ Calls Try.prog 18 #[cfg n s y b, v, x.val] w fun e w' =>
      ((E ≠ 0 ∧ e = .returned (.tuple #[.slice none 0 0, .int .i64 E])) ∨ (E = 0 ∧ ∃ A c, e = .returned (.tuple #[.slice A ss.length c, .int .i64 0]) ∧ CFr w' w.heap.size w'.heap.size (.slice A ss.length c) (ss.set k ⟨la, tt.1, tt.2.1, tt.2.2⟩))) ∧ Below w.heap.size w w' := by
  obtain ⟨g1, g2⟩ := wayCE_ok he
  have good := goodC_iff.1 g1
  have SM := Lib.hid good.small
  have kl := st_lt ht
  obtain ⟨A, cp, rfl, h1, h2, h3⟩ := h.ex
  obtain ⟨bb, o, rfl, hb, hc⟩ := h3 (by omega)
  obtain ⟨A', c', ra, ws⟩ := hc.at_ k t ht
  obtain ⟨la, tt, E, PI, P⟩ := set_fr (.slice A' t.l.length c') t.l t.a t.b t.c y x
  refine ⟨la, tt, E, PI, ?_⟩
  unfold GivesF2 at P
  have CT := Lib.hid P
  have C := Lib.hid fun w hw => setOfWay_ok n s y b (.slice (some ⟨bb, o, none⟩) ss.length cp) ss x w hw he
  rw [hk] at C
  have kc : (k : Int) < ss.length := by omega
  have k0 : (0 : Int) ≤ k := by omega
  clear P PI h1 h2 h3 hc good g1 g2 he hk ht
  have low := Below.refl w.heap.size w
  have cb := boxNext low 44 (cfgA n s y b)
  replace low := gAlloc low (.cells (cfgA n s y b) 44)
  replace h := h.alloc (.cells (cfgA n s y b) 44)
  try simp only [World.size_alloc] at cb
  have xb := boxNext low 32 x.arr
  replace low := gAlloc low (.cells x.arr 32)
  replace h := h.alloc (.cells x.arr 32)
  replace cb := cb.alloc (.cells x.arr 32)
  try simp only [World.size_alloc] at xb
  simp only [Wy.arr] at xb
  go_enter Try.func18, Try.ntmps18
  go_wp2_with fail
  (with_reducible refine (C.out _ h).mono ?_); rintro e w1 ⟨rfl, hb⟩
  replace cb := cb.call hb
  replace xb := xb.call hb
  replace h := h.call hb
  replace low := gCall low hb
  clear hb
  clear C
  obtain ⟨r0, r1, r2, r3⟩ := rowAt_of ra hb low
  obtain ⟨x0, x1, x2, x3, x4, x5⟩ := xb.wayC
  have q2 := cb.at_ 2 rfl
  replace ws := ws.call low
  have z1 : w.heap.size + 1 < w1.heap.size := xb.lt
  clear ra
  go_wp2_with fail
  refine wp_region_noPanic ?_
  refine wp_region_held_drew (S := fun w' => w'.cell? ⟨bb, o + k * 4, none⟩ = some (.slice A' t.l.length c') ∧ w'.cell? ⟨bb, o + k * 4 + 1, none⟩ = some (.bool t.a) ∧ w'.cell? ⟨bb, o + k * 4 + 2, none⟩ = some (.bool t.b) ∧ w'.cell? ⟨bb, o + k * 4 + 3, none⟩ = some (.bool t.c) ∧ w'.cell? ⟨w.heap.size, 2, none⟩ = some (.int .i64 y) ∧ w'.cell? ⟨w.heap.size + 1, 0, none⟩ = some (.int .i64 x.st) ∧ w'.cell? ⟨w.heap.size + 1, 1, none⟩ = some (.int .i64 x.ln) ∧ w'.cell? ⟨w.heap.size + 1, 2, none⟩ = some (.int .u64 x.a) ∧ w'.cell? ⟨w.heap.size + 1, 3, none⟩ = some (.int .u64 x.b) ∧ w'.cell? ⟨w.heap.size + 1, 4, none⟩ = some (.int .u64 x.c) ∧ w'.cell? ⟨w.heap.size + 1, 5, none⟩ = some (.int .u64 x.d)) (by kernel_rfl) ⟨drewC r0, drewC r1, drewC r2, drewC r3, drewC q2, drewC x0, drewC x1, drewC x2, drewC x3, drewC x4, drewC x5⟩ (fun hHeld => ?_)
  clear r0 r1 r2 r3 x0 x1 x2 x3 x4 x5 q2 cb xb
  have z1 : w.heap.size + 1 < w1.drew.heap.size := z1
  replace ws := ws.drew
  replace h := h.drew
  replace low := low.drew
  generalize w1.drew = wN at *
  have WS := Lib.hid ws
  clear ws
  refine takeFirst (i := 0) (v := ?_) rfl (by kernel_rfl) (by kernel_rfl) (by kernel_rfl) (by rfl) (fun _ _ _ h => h) ?_ (by assumption) ?_
  rotate_left
  · (intro w hSw; go_simp; try (with_reducible rfl))
  try simp only [Act.put, List.setIfInBounds_toArray, List.set_cons_zero, List.set_cons_succ]
  refine takeFirst (i := 1) (v := ?_) rfl (by kernel_rfl) (by kernel_rfl) (by kernel_rfl) (by rfl) (fun _ _ _ h => h) ?_ (by assumption) ?_
  rotate_left
  · (intro w hSw; go_simp; try (with_reducible rfl))
  try simp only [Act.put, List.setIfInBounds_toArray, List.set_cons_zero, List.set_cons_succ]
  refine takeFirst (i := 2) (v := ?_) rfl (by kernel_rfl) (by kernel_rfl) (by kernel_rfl) (by rfl) (fun _ _ _ h => h) ?_ (by assumption) ?_
  rotate_left
  · (intro w hSw; go_simp; try (with_reducible rfl))
  try simp only [Act.put, List.setIfInBounds_toArray, List.set_cons_zero, List.set_cons_succ]
  refine takeFirst (i := 3) (v := ?_) rfl (by kernel_rfl) (by kernel_rfl) (by kernel_rfl) (by rfl) (fun _ _ _ h => h) ?_ (by assumption) ?_
  rotate_left
  · (intro w hSw; go_simp; try (with_reducible rfl))
  try simp only [Act.put, List.setIfInBounds_toArray, List.set_cons_zero, List.set_cons_succ]
  refine takeFirst (i := 4) (v := ?_) rfl (by kernel_rfl) (by kernel_rfl) (by kernel_rfl) (by rfl) (fun _ _ _ h => h) ?_ (by assumption) ?_
  rotate_left
  · (intro w hSw; go_simp; try (with_reducible rfl))
  try simp only [Act.put, List.setIfInBounds_toArray, List.set_cons_zero, List.set_cons_succ]
  refine takeFirst (i := 5) (v := ?_) rfl (by kernel_rfl) (by kernel_rfl) (by kernel_rfl) (by rfl) (fun _ _ _ h => h) ?_ (by assumption) ?_
  rotate_left
  · (intro w hSw; go_simp; try (with_reducible rfl))
  try simp only [Act.put, List.setIfInBounds_toArray, List.set_cons_zero, List.set_cons_succ]
  refine takeFirst (i := 6) (v := ?_) rfl (by kernel_rfl) (by kernel_rfl) (by kernel_rfl) (by rfl) (fun _ _ _ h => h) ?_ (by assumption) ?_
  rotate_left
  · (intro w hSw; go_simp; try (with_reducible rfl))
  try simp only [Act.put, List.setIfInBounds_toArray, List.set_cons_zero, List.set_cons_succ]
  apply share1 (M := fun ga A c wz => Mid wN 26 (rowA (.slice none 0 0) false false false) 32 zeroA wz (some ga) none (some (.slice A la.length c, la)))
  · intro hE
    have mid := Mid.start wN 26 (rowA (.slice none 0 0) false false false) 32 zeroA
    refine stepTwo (i1 := 7) (i2 := 11) (by kernel_rfl) rfl rfl (by rfl) (by rfl) (fun K hK => ?_) (fun K hK => ?_)
    · go_simp
      (with_reducible refine (Calls.mono (CT.out _ (WS.out.call mid.low)) ?_)); rintro e wx ⟨⟨Az, cz, rfl, frz⟩, hbz⟩
      replace mid := mid.call hbz frz
      clear hbz frz
      try clear hNow
      have hNow := (And.intro (callC mid.low hHeld.1) (And.intro (callC mid.low hHeld.2.1) (And.intro (callC mid.low hHeld.2.2.1) (And.intro (callC mid.low hHeld.2.2.2.1) (And.intro (callC mid.low hHeld.2.2.2.2.1) (And.intro (callC mid.low hHeld.2.2.2.2.2.1) (And.intro (callC mid.low hHeld.2.2.2.2.2.2.1) (And.intro (callC mid.low hHeld.2.2.2.2.2.2.2.1) (And.intro (callC mid.low hHeld.2.2.2.2.2.2.2.2.1) (And.intro (callC mid.low hHeld.2.2.2.2.2.2.2.2.2.1) (callC mid.low hHeld.2.2.2.2.2.2.2.2.2.2)))))))))))
      refine hK.out _ _ hNow ?_
      clear hK K
      try simp only [Act.put]
      try simp only [List.setIfInBounds_toArray, List.set_cons_zero, List.set_cons_succ]
      refine takeFirst (i := 8) (v := ?_) rfl (by kernel_rfl) (by kernel_rfl) (by kernel_rfl) (by rfl) (fun _ _ _ h => h) ?_ (by assumption) ?_
      rotate_left
      · (intro w hSw; go_simp; try (with_reducible rfl))
      try simp only [Act.put, List.setIfInBounds_toArray, List.set_cons_zero, List.set_cons_succ]
      refine takeFirst (i := 9) (v := ?_) rfl (by kernel_rfl) (by kernel_rfl) (by kernel_rfl) (by rfl) (fun _ _ _ h => h) ?_ (by assumption) ?_
      rotate_left
      · (intro w hSw; go_simp; try (with_reducible rfl))
      try simp only [Act.put, List.setIfInBounds_toArray, List.set_cons_zero, List.set_cons_succ]
      refine takeFirst (i := 10) (v := ?_) rfl (by kernel_rfl) (by kernel_rfl) (by kernel_rfl) (by rfl) (fun _ _ _ h => h) ?_ (by assumption) ?_
      rotate_left
      · (intro w hSw; go_simp; try (with_reducible rfl))
      try simp only [Act.put, List.setIfInBounds_toArray, List.set_cons_zero, List.set_cons_succ]
      refine stepNext (i := 11) (by kernel_rfl) rfl (by rfl) (fun K hK => ?_)
      go_simp
      replace mid := mid.allocA
      try clear hNow
      have hNow := (And.intro (callC mid.low hHeld.1) (And.intro (callC mid.low hHeld.2.1) (And.intro (callC mid.low hHeld.2.2.1) (And.intro (callC mid.low hHeld.2.2.2.1) (And.intro (callC mid.low hHeld.2.2.2.2.1) (And.intro (callC mid.low hHeld.2.2.2.2.2.1) (And.intro (callC mid.low hHeld.2.2.2.2.2.2.1) (And.intro (callC mid.low hHeld.2.2.2.2.2.2.2.1) (And.intro (callC mid.low hHeld.2.2.2.2.2.2.2.2.1) (And.intro (callC mid.low hHeld.2.2.2.2.2.2.2.2.2.1) (callC mid.low hHeld.2.2.2.2.2.2.2.2.2.2)))))))))))
      refine hK.out _ _ hNow ?_
      clear hK K
      try simp only [Act.put]
      try simp only [List.setIfInBounds_toArray, List.set_cons_zero, List.set_cons_succ]
      generalize wx.heap.size = ga at mid ⊢
      generalize wx.alloc (.cells (rowA (.slice none 0 0) false false false) 26) = wy at mid ⊢
      refine relist (l2 := #[true, true, true, true, true, true, true, true, true, true, true, true, false, false]) (by kernel_rfl) ?_
      exact hE _ _ _ _ mid
    · go_simp
      replace mid := mid.allocA
      try clear hNow
      have hNow := (And.intro (callC mid.low hHeld.1) (And.intro (callC mid.low hHeld.2.1) (And.intro (callC mid.low hHeld.2.2.1) (And.intro (callC mid.low hHeld.2.2.2.1) (And.intro (callC mid.low hHeld.2.2.2.2.1) (And.intro (callC mid.low hHeld.2.2.2.2.2.1) (And.intro (callC mid.low hHeld.2.2.2.2.2.2.1) (And.intro (callC mid.low hHeld.2.2.2.2.2.2.2.1) (And.intro (callC mid.low hHeld.2.2.2.2.2.2.2.2.1) (And.intro (callC mid.low hHeld.2.2.2.2.2.2.2.2.2.1) (callC mid.low hHeld.2.2.2.2.2.2.2.2.2.2)))))))))))
      refine hK.out _ _ hNow ?_
      clear hK K
      try simp only [Act.put]
      try simp only [List.setIfInBounds_toArray, List.set_cons_zero, List.set_cons_succ]
      generalize wN.heap.size = ga at mid ⊢
      generalize wN.alloc (.cells (rowA (.slice none 0 0) false false false) 26) = wx at mid ⊢
      refine stepNext (i := 7) (by kernel_rfl) rfl (by rfl) (fun K hK => ?_)
      go_simp
      (with_reducible refine (Calls.mono (CT.out _ (WS.out.call mid.low)) ?_)); rintro e wy ⟨⟨Az, cz, rfl, frz⟩, hbz⟩
      replace mid := mid.call hbz frz
      clear hbz frz
      try clear hNow
      have hNow := (And.intro (callC mid.low hHeld.1) (And.intro (callC mid.low hHeld.2.1) (And.intro (callC mid.low hHeld.2.2.1) (And.intro (callC mid.low hHeld.2.2.2.1) (And.intro (callC mid.low hHeld.2.2.2.2.1) (And.intro (callC mid.low hHeld.2.2.2.2.2.1) (And.intro (callC mid.low hHeld.2.2.2.2.2.2.1) (And.intro (callC mid.low hHeld.2.2.2.2.2.2.2.1) (And.intro (callC mid.low hHeld.2.2.2.2.2.2.2.2.1) (And.intro (callC mid.low hHeld.2.2.2.2.2.2.2.2.2.1) (callC mid.low hHeld.2.2.2.2.2.2.2.2.2.2)))))))))))
      refine hK.out _ _ hNow ?_
      clear hK K
      try simp only [Act.put]
      try simp only [List.setIfInBounds_toArray, List.set_cons_zero, List.set_cons_succ]
      refine takeFirst (i := 8) (v := ?_) rfl (by kernel_rfl) (by kernel_rfl) (by kernel_rfl) (by rfl) (fun _ _ _ h => h) ?_ (by assumption) ?_
      rotate_left
      · (intro w hSw; go_simp; try (with_reducible rfl))
      try simp only [Act.put, List.setIfInBounds_toArray, List.set_cons_zero, List.set_cons_succ]
      refine takeFirst (i := 9) (v := ?_) rfl (by kernel_rfl) (by kernel_rfl) (by kernel_rfl) (by rfl) (fun _ _ _ h => h) ?_ (by assumption) ?_
      rotate_left
      · (intro w hSw; go_simp; try (with_reducible rfl))
      try simp only [Act.put, List.setIfInBounds_toArray, List.set_cons_zero, List.set_cons_succ]
      refine takeFirst (i := 10) (v := ?_) rfl (by kernel_rfl) (by kernel_rfl) (by kernel_rfl) (by rfl) (fun _ _ _ h => h) ?_ (by assumption) ?_
      rotate_left
      · (intro w hSw; go_simp; try (with_reducible rfl))
      try simp only [Act.put, List.setIfInBounds_toArray, List.set_cons_zero, List.set_cons_succ]
      refine relist (l2 := #[true, true, true, true, true, true, true, true, true, true, true, true, false, false]) (by kernel_rfl) ?_
      exact hE _ _ _ _ mid
  intro ga Az cz w6 mid
  obtain ⟨hga, ab⟩ := mid.fa ga rfl
  obtain ⟨Bz, Cz, hBz, hCz, frz, hfar⟩ := mid.fr _ _ rfl
  have fa1 := hfar ga (.inl rfl)
  have near := mid.low
  clear hfar mid
  obtain ⟨hh0, hh1, hh2, hh3, hh4, hh5, hh6, hh7, hh8, hh9, hh10⟩ := hHeld
  have hHeld := (And.intro (callC near hh0) (And.intro (callC near hh1) (And.intro (callC near hh2) (And.intro (callC near hh3) (And.intro (callC near hh4) (And.intro (callC near hh5) (And.intro (callC near hh6) (And.intro (callC near hh7) (And.intro (callC near hh8) (And.intro (callC near hh9) (callC near hh10)))))))))))
  clear hh0 hh1 hh2 hh3 hh4 hh5 hh6 hh7 hh8 hh9 hh10
  replace low := gCall low near
  refine stepNext (i := 12) (by kernel_rfl) rfl (by rfl) (fun K hK => ?_)
  refine wp_store_box 26 (.tmp 10) (.tmp 30) rfl _ _ rfl rfl ab size_row rfl (by simp [Value.oneCell']) ?_
  intro w7 ab st
  replace frz := st.fr frz fa1
  replace low := st.low low (by omega)
  replace near := st.low near (by omega)
  have z7 := st.size
  obtain ⟨hh0, hh1, hh2, hh3, hh4, hh5, hh6, hh7, hh8, hh9, hh10⟩ := hHeld
  have hHeld := (And.intro (st.cell (by dsimp only; omega) hh0) (And.intro (st.cell (by dsimp only; omega) hh1) (And.intro (st.cell (by dsimp only; omega) hh2) (And.intro (st.cell (by dsimp only; omega) hh3) (And.intro (st.cell (by dsimp only; omega) hh4) (And.intro (st.cell (by dsimp only; omega) hh5) (And.intro (st.cell (by dsimp only; omega) hh6) (And.intro (st.cell (by dsimp only; omega) hh7) (And.intro (st.cell (by dsimp only; omega) hh8) (And.intro (st.cell (by dsimp only; omega) hh9) (st.cell (by dsimp only; omega) hh10)))))))))))
  clear hh0 hh1 hh2 hh3 hh4 hh5 hh6 hh7 hh8 hh9 hh10
  clear st
  refine hK.out _ _ hHeld ?_
  clear hK K
  try simp only [Act.put]
  try simp only [List.setIfInBounds_toArray, List.set_cons_zero, List.set_cons_succ]
  refine stepNext (i := 13) (by kernel_rfl) rfl (by rfl) (fun K hK => ?_)
  go_simp
  refine hK.out _ _ hHeld ?_
  clear hK K
  try simp only [Act.put]
  try simp only [List.setIfInBounds_toArray, List.set_cons_zero, List.set_cons_succ]
  refine wpAnyH_done (by kernel_rfl) ?_ _
  refine NoPanic.normal ?_
  clear hHeld WS CT
  replace h := h.call near
  cases hE : (E != 0)
  rotate_left
  · have hE' : E ≠ 0 := by simpa using hE
    go_wp2_with fail
    go_ret2
    exact ⟨.inl ⟨hE', rfl⟩, low⟩
  · obtain rfl : E = 0 := by simpa using hE
    obtain ⟨a0, a1, a2, a3⟩ := ab.rowC
    have frB : Fr w7 w.heap.size w7.heap.size (.slice Az la.length cz) la := frz.more (by have := low.size; omega) (by omega)
    have CR := Lib.hid (cacheReplace_l _ ss k Az cz la tt.1 tt.2.1 tt.2.2 _ w.heap.size h kl SM.out frB low.size)
    clear frz frB
    go_wp2_with fail
    (with_reducible refine (Calls.mono CR.out ?_)); rintro e w9 ⟨⟨A2, c2, rfl, cf⟩, hb9⟩
    replace low := gCall low hb9
    have CF := Lib.hid cf
    clear cf a0 a1 a2 a3 hb9
    go_wp2_with fail
    go_ret2
    exact ⟨⟨A2, c2, rfl, CF.out⟩, low⟩
end Go.Proofs.Ytmodajmjmdigfaa
