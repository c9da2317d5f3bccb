/-
Proved: the law 'BankTells' returns true for every argument, and changes nothing that was there. No condition.
-/
import Derived.Test.YticagdfdbakbfaaBank2
import Derived.Test.YticagdfdbakbfaaRegion
import Derived.Test.YticagdfdbakbfaaRefLow
namespace Go.Proofs.Yticagdfdbakbfaa.bankTells
open Go.ChangeShapes Go.WideShapes Go.ChangeAt Go.RowKit Go.Joins

/-- What Read and Write give. -/
def LineIs (l : List Int) (k p q r s x0 x1 x2 x3 e : Int) (y : List Int) (f : Int) : Prop :=
  ((k < 0 ∨ 15 < k) ∧ x0 = 0 ∧ x1 = 0 ∧ x2 = 0 ∧ x3 = 0 ∧ e = 4 ∧ y = zeroL ∧ f = 4) ∨
  ∃ n : Nat, n < 16 ∧ k = n ∧ x0 = wd l (n * 4) ∧ x1 = wd l (n * 4 + 1) ∧ x2 = wd l (n * 4 + 2) ∧ x3 = wd l (n * 4 + 3) ∧ e = 0 ∧ y = writeL l n p q r s ∧ f = 0

/-- What Word and Poke give. -/
def WordIs (l : List Int) (a v u g : Int) (z : List Int) (h : Int) : Prop :=
  ((a < 0 ∨ 63 < a) ∧ u = 0 ∧ g = 4 ∧ z = zeroL ∧ h = 4) ∨
  ∃ n : Nat, n < 64 ∧ a = n ∧ u = wd l n ∧ g = 0 ∧ z = pokeL l n v ∧ h = 0

theorem line_is (l : List Int) (hl : l.length = 64) (k p q r s : Int) : ∃ x0 x1 x2 x3 e y f, LineIs l k p q r s x0 x1 x2 x3 e y f ∧ y.length = 64 ∧
    (∀ w, Calls Try.prog 5 #[memV l, .int .i64 k] w fun ee w' => ee = .returned (.tuple #[line x0 x1 x2 x3, .int .i64 e]) ∧ Below w.heap.size w w') ∧
    (∀ w, Calls Try.prog 6 #[memV l, .int .i64 k, line p q r s] w fun ee w' => ee = .returned (.tuple #[memV y, .int .i64 f]) ∧ Below w.heap.size w w') := by
  by_cases h : k < 0 ∨ 15 < k
  · exact ⟨0, 0, 0, 0, 4, zeroL, 4, .inl ⟨h, rfl, rfl, rfl, rfl, rfl, rfl, rfl⟩, zeroL_length, fun w => bankRead_out l k h w, fun w => bankWrite_out l k h p q r s w⟩
  · obtain ⟨n, rfl⟩ : ∃ n : Nat, k = n := ⟨k.toNat, by omega⟩
    exact ⟨_, _, _, _, 0, _, 0, .inr ⟨n, by omega, rfl, rfl, rfl, rfl, rfl, rfl, rfl, rfl⟩, by rw [writeL_length, hl], fun w => bankRead_ok l hl n (by omega) w, fun w => bankWrite_ok l hl n (by omega) p q r s w⟩

theorem word_is (l : List Int) (hl : l.length = 64) (a v : Int) : ∃ u g z h, WordIs l a v u g z h ∧ z.length = 64 ∧
    (∀ w, Calls Try.prog 7 #[memV l, .int .i64 a] w fun ee w' => ee = .returned (.tuple #[.int .u64 u, .int .i64 g]) ∧ Below w.heap.size w w') ∧
    (∀ w, Calls Try.prog 8 #[memV l, .int .i64 a, .int .u64 v] w fun ee w' => ee = .returned (.tuple #[memV z, .int .i64 h]) ∧ Below w.heap.size w w') := by
  by_cases h : a < 0 ∨ 63 < a
  · exact ⟨0, 4, zeroL, 4, .inl ⟨h, rfl, rfl, rfl, rfl⟩, zeroL_length, fun w => bankWord_out l a h w, fun w => bankPoke_out l a h v w⟩
  · obtain ⟨n, rfl⟩ : ∃ n : Nat, a = n := ⟨a.toNat, by omega⟩
    exact ⟨_, 0, _, 0, .inr ⟨n, by omega, rfl, rfl, rfl, rfl, rfl⟩, by rw [pokeL_length, hl], fun w => bankWord_ok l hl n (by omega) w, fun w => bankPoke_ok l hl n (by omega) v w⟩


set_option maxRecDepth 10000 in
set_option maxHeartbeats 4000000 in
theorem walk_all (l n : List Int) (hl : l.length = 64) (hn : n.length = 64) (k a p q r s v : Int) (w : World) :
    Calls Try.prog 3 #[memV l, memV n, .int .i64 k, .int .i64 a, line p q r s, .int .u64 v] w fun e w' => e = .returned (.bool true) ∧ Below w.heap.size w w' := by
  obtain ⟨x0, x1, x2, x3, e, y, f, LI, hy, R, Wr⟩ := line_is l hl k p q r s
  obtain ⟨u, g, z, h, WI, hz, Wo, Po⟩ := word_is l hl a v
  obtain ⟨i0, hi, hz0, hz1, hz2⟩ := info_parts info_int
  have HI := Lib.hid hi
  have HZ := Lib.hid (And.intro hz0 (And.intro hz1 hz2))
  replace LI := Lib.hid LI
  replace WI := Lib.hid WI
  replace R := Lib.hid R
  replace Wr := Lib.hid Wr
  replace Wo := Lib.hid Wo
  replace Po := Lib.hid Po
  have S := Lib.hid fun W => bankSame_any l n hl hn W
  clear hi hz0 hz1 hz2
  have low := Below.refl w.heap.size w
  have mb := boxNext low 26 (memA l)
  replace low := gAlloc low (.cells (memA l) 26)
  try simp only [World.size_alloc] at mb
  have nb := boxNext low 26 (memA n)
  replace low := gAlloc low (.cells (memA n) 26)
  replace mb := mb.alloc (.cells (memA n) 26)
  try simp only [World.size_alloc] at nb
  have wb := boxNext low 24 #[.int .u64 p, .int .u64 q, .int .u64 r, .int .u64 s]
  replace low := gAlloc low (.cells #[.int .u64 p, .int .u64 q, .int .u64 r, .int .u64 s] 24)
  replace mb := mb.alloc (.cells #[.int .u64 p, .int .u64 q, .int .u64 r, .int .u64 s] 24)
  replace nb := nb.alloc (.cells #[.int .u64 p, .int .u64 q, .int .u64 r, .int .u64 s] 24)
  try simp only [World.size_alloc] at wb
  go_enter Try.func3, Try.ntmps3
  go_wp2_with ((with_reducible refine wp_loadMem (⟨mb, hl⟩) ?_ ?_ ?_); rfl; rfl)
  refine (R.out _).mono ?_; rintro ee w1 ⟨rfl, hb⟩
  replace mb := mb.call hb
  replace nb := nb.call hb
  replace wb := wb.call hb
  replace low := gCall low hb
  clear hb R
  have xb := boxNext low 24 #[.int .u64 x0, .int .u64 x1, .int .u64 x2, .int .u64 x3]
  replace low := gAlloc low (.cells #[.int .u64 x0, .int .u64 x1, .int .u64 x2, .int .u64 x3] 24)
  replace mb := mb.alloc (.cells #[.int .u64 x0, .int .u64 x1, .int .u64 x2, .int .u64 x3] 24)
  replace nb := nb.alloc (.cells #[.int .u64 x0, .int .u64 x1, .int .u64 x2, .int .u64 x3] 24)
  replace wb := wb.alloc (.cells #[.int .u64 x0, .int .u64 x1, .int .u64 x2, .int .u64 x3] 24)
  try simp only [World.size_alloc] at xb
  have wb_0 := wb.at_ 0 rfl
  have wb_1 := wb.at_ 1 rfl
  have wb_2 := wb.at_ 2 rfl
  have wb_3 := wb.at_ 3 rfl
  go_wp2_with ((with_reducible refine wp_loadMem (⟨mb, hl⟩) ?_ ?_ ?_); rfl; rfl)
  refine (Wr.out _).mono ?_; rintro ee w2 ⟨rfl, hb⟩
  clear wb_0 wb_1 wb_2 wb_3
  replace mb := mb.call hb
  replace nb := nb.call hb
  replace wb := wb.call hb
  replace xb := xb.call hb
  replace low := gCall low hb
  clear hb Wr
  have yb := boxNext low 26 (memA y)
  replace low := gAlloc low (.cells (memA y) 26)
  replace mb := mb.alloc (.cells (memA y) 26)
  replace nb := nb.alloc (.cells (memA y) 26)
  replace wb := wb.alloc (.cells (memA y) 26)
  replace xb := xb.alloc (.cells (memA y) 26)
  try simp only [World.size_alloc] at yb
  go_wp2_with (first | (with_reducible refine wp_newMem ?_) | ((with_reducible refine wp_storeNew (zeroL_length) (hy) ?_ ?_ ?_); rfl; rfl) | ((with_reducible refine wp_loadMem (⟨mb, hl⟩) ?_ ?_ ?_); rfl; rfl))
  refine (Wo.out _).mono ?_; rintro ee w3 ⟨rfl, hb⟩
  replace mb := mb.call hb
  replace nb := nb.call hb
  replace wb := wb.call hb
  replace xb := xb.call hb
  replace yb := yb.call hb
  replace low := gCall low hb
  clear hb Wo
  go_wp2_with ((with_reducible refine wp_loadMem (⟨mb, hl⟩) ?_ ?_ ?_); rfl; rfl)
  refine (Po.out _).mono ?_; rintro ee w4 ⟨rfl, hb⟩
  replace mb := mb.call hb
  replace nb := nb.call hb
  replace wb := wb.call hb
  replace xb := xb.call hb
  replace yb := yb.call hb
  replace low := gCall low hb
  clear hb Po
  have zb := boxNext low 26 (memA z)
  replace low := gAlloc low (.cells (memA z) 26)
  replace mb := mb.alloc (.cells (memA z) 26)
  replace nb := nb.alloc (.cells (memA z) 26)
  replace wb := wb.alloc (.cells (memA z) 26)
  replace xb := xb.alloc (.cells (memA z) 26)
  replace yb := yb.alloc (.cells (memA z) 26)
  try simp only [World.size_alloc] at zb
  go_wp2_with (first | (with_reducible refine wp_newMem ?_) | ((with_reducible refine wp_storeNew (zeroL_length) (hz) ?_ ?_ ?_); rfl; rfl))
  generalize w4.alloc (.cells (memA z) 26) = wL at *
  go_loopw [21, 52] (fun s i wr => ∃ j : Nat, j ≤ 64 ∧ i = .int .i64 j ∧ wr.ownsRow wL.heap.size 3 1 s (diffL l n j).length ((diffL l n j).map (Value.int .i64)) ∧ Below wL.heap.size wL wr) (fun _ i _ => 64 - (intOf i).toNat)
  case atStart => exact ⟨0, by omega, rfl, World.ownsRow_nil _ _ _ _, Below.refl _ _⟩
  case round =>
    obtain ⟨j, hj, rfl, own, far⟩ := hrel
    have OWN := Lib.hid own
    clear own
    by_cases hlt : j < 64
    · obtain ⟨m, hm⟩ : ∃ m : Nat, j / 4 = m := ⟨_, rfl⟩
      obtain ⟨t, ht⟩ : ∃ t : Nat, j % 4 = t := ⟨_, rfl⟩
      have hmt : m * 4 + t = j := by omega
      have hq : IntKind.i64.wrap ((j : Int) / 4) = (m : Int) := by rw [wrap_i64_ediv _ _ (by omega) (by omega) (by omega)]; omega
      have hr : (j : Int) % 4 = (t : Int) := by omega
      have hm4 : (m : Int) < 16 := by omega
      have ht4 : (t : Int) < 4 := by omega
      have c0 := (mb.call far).at_ (m * 4 + t) (memA_at (l := l) (m * 4 + t) (by omega))
      have c1 := (nb.call far).at_ (m * 4 + t) (memA_at (l := n) (m * 4 + t) (by omega))
      have hlen := diffL_length l n j
      have HMT := Lib.hid hmt
      have hji : (j : Int) < 64 := by omega
      clear hm ht hmt mb nb wb xb yb zb low
      by_cases he : wd l (m * 4 + t) = wd n (m * 4 + t)
      · have E := Lib.hid (diffL_same he)
        rw [HMT.out] at E
        have he' : (wd l (m * 4 + t) != wd n (m * 4 + t)) = false := by simpa using he
        clear he
        go_wp2_with fail
        go_quiet (fail)
        go_wp2_with fail
        go_roundw
        case rel => exact ⟨j + 1, by omega, by go_num, by rw [E.out]; exact OWN.out, gDrewN far _⟩
        case measure => simp [intOf]; omega
      · have E := Lib.hid (diffL_other he)
        rw [HMT.out] at E
        have he' : (wd l (m * 4 + t) != wd n (m * 4 + t)) = true := by simpa using he
        clear he
        go_wp2_with fail
        go_quiet (fail)
        replace OWN := Lib.hid (show (wr.drewN nq).ownsRow _ _ _ _ _ _ from OWN.out)
        replace far := gDrewN far nq
        clear c0 c1 hr hq
        generalize wr.drewN nq = wx at *
        go_wp2_with (at_builtin; refine wpList_append_own _ rfl _ _ 35 rfl wL.heap.size 3 i0 (.int .i64 0) 1 8 Try.underlying35 HI.out HZ.out.1 HZ.out.2.1 HZ.out.2.2 rfl (by decide) _ _ _ rfl (OWN.out.alloc _) ⟨wx.heap.size, 0, none⟩ 1 1 [.int .i64 (j : Int)] rfl rfl ?c1 ?c2 ?c3 ?c4 ?c5 ?_)
        case c1 =>
          intro j u hj
          match j, hj with
          | 0, hj => simp at hj; subst hj; simp [Addr.add]
        case c2 => intro u hu; simp at hu; subst hu; rfl
        case c3 => unfold maxLen; omega
        case c4 => omega
        case c5 => have := far.size; simp; omega
        intro v4 w5 own4 grow4 _
        have far4 : Below wL.heap.size wL w5 := (gAlloc far _).grown grow4 (by have := far.size; simp; omega) (fun g e => (OWN.out.lt _ e).1)
        have O4 := Lib.hid own4
        clear grow4 own4 OWN far
        go_wp2_with fail
        go_roundw
        case rel =>
          refine ⟨j + 1, by omega, by go_num, ?_, far4⟩
          have := O4.out
          rw [E.out, List.map_append, List.length_append]
          exact this
        case measure => simp [intOf]; omega
    · obtain rfl : j = 64 := by omega
      replace mb := mb.call far
      replace nb := nb.call far
      replace wb := wb.call far
      replace xb := xb.call far
      replace yb := yb.call far
      replace zb := zb.call far
      replace low := gCall low far
      have sl := Sl.ofOwn OWN.out
      clear OWN far HI HZ hj hlt
      generalize diffL l n 64 = dl at *
      have SL := Lib.hid sl
      obtain ⟨A, cp, rfl⟩ : ∃ A c, u21 = .slice A dl.length c := by obtain ⟨_, A, c, e, _⟩ := sl; exact ⟨A, c, e⟩
      clear sl
      have sz : w4.heap.size < wr.heap.size := zb.lt
      have ob := boxNext low 26 (memA zeroL)
      replace low := gAlloc low (.cells (memA zeroL) 26)
      replace mb := mb.alloc (.cells (memA zeroL) 26)
      replace nb := nb.alloc (.cells (memA zeroL) 26)
      replace wb := wb.alloc (.cells (memA zeroL) 26)
      replace xb := xb.alloc (.cells (memA zeroL) 26)
      replace yb := yb.alloc (.cells (memA zeroL) 26)
      replace zb := zb.alloc (.cells (memA zeroL) 26)
      try simp only [World.size_alloc] at ob
      replace SL := Lib.hid (SL.out.call (gAlloc (Below.refl _ _) (.cells (memA zeroL) 26)))
      go_wp2_with (first | (with_reducible refine wp_newMem ?_) | (with_reducible refine wp_zeroMem ?_) | ((with_reducible refine wp_storeNew (zeroL_length) (zeroL_length) ?_ ?_ ?_); rfl; rfl))
      simp only [Act.put]
      simp only [List.setIfInBounds_toArray, List.set_cons_zero, List.set_cons_succ]
      have eqM := eqMem zeroL zeroL zeroL_length zeroL_length
      have eq1 : sameM zeroL zeroL = true := by simp [sameM]
      generalize wr.alloc (.cells (memA zeroL) 26) = wR at *
      refine wp_region_noPanic ?_
      refine wp_region_held_drew (S := fun w' => Mb w' wr.heap.size zeroL ∧ Mb w' w.heap.size l ∧ Mb w' (w.heap.size + 1) n) (by kernel_rfl) ⟨⟨ob.drew, zeroL_length⟩, ⟨mb.drew, hl⟩, ⟨nb.drew, hn⟩⟩ (fun hHeld => ?_)
      refine takeFirst (i := 1) (v := memV (zeroL)) rfl (by kernel_rfl) (by kernel_rfl) (by kernel_rfl) (by rfl) (fun _ _ _ h => h) (fun _ hSw => exec_loadMem rfl (hSw.1)) (by assumption) ?_
      try simp only [Act.put, List.setIfInBounds_toArray, List.set_cons_zero, List.set_cons_succ]
      refine stepNext (i := 0) (by kernel_rfl) rfl (by rfl) (fun K hK => ?_)
      go_simp
      (refine (bankNew_any _).mono ?_); rintro ee w6 ⟨rfl, hb⟩
      have near : Below wR.heap.size wR w6 := gCall (Below.refl _ _).drew hb
      replace hHeld := And.intro (hHeld.1.call hb) (And.intro (hHeld.2.1.call hb) (hHeld.2.2.call hb))
      clear hb
      refine hK.out _ _ hHeld ?_
      clear hK K
      try simp only [Act.put]
      try simp only [List.setIfInBounds_toArray, List.set_cons_zero, List.set_cons_succ]
      refine takeFirst (i := 2) (v := ?_) rfl (by kernel_rfl) (by kernel_rfl) (by kernel_rfl) (by rfl) (fun _ _ _ h => h) ?_ (by assumption) ?_
      rotate_left
      · (intro w hSw; go_simp; try (with_reducible rfl))
      try simp only [Act.put, List.setIfInBounds_toArray, List.set_cons_zero, List.set_cons_succ]
      refine takeFirst (i := 3) (v := ?_) rfl (by kernel_rfl) (by kernel_rfl) (by kernel_rfl) (by rfl) (fun _ _ _ h => h) ?_ (by assumption) ?_
      rotate_left
      · (intro w hSw; go_simp; try (with_reducible rfl))
      try simp only [Act.put, List.setIfInBounds_toArray, List.set_cons_zero, List.set_cons_succ]
      refine takeFirst (i := 4) (v := memV (l)) rfl (by kernel_rfl) (by kernel_rfl) (by kernel_rfl) (by rfl) (fun _ _ _ h => h) (fun _ hSw => exec_loadMem rfl (hSw.2.1)) (by assumption) ?_
      try simp only [Act.put, List.setIfInBounds_toArray, List.set_cons_zero, List.set_cons_succ]
      refine takeFirst (i := 5) (v := memV (n)) rfl (by kernel_rfl) (by kernel_rfl) (by kernel_rfl) (by rfl) (fun _ _ _ h => h) (fun _ hSw => exec_loadMem rfl (hSw.2.2)) (by assumption) ?_
      try simp only [Act.put, List.setIfInBounds_toArray, List.set_cons_zero, List.set_cons_succ]
      refine takeFirst (i := 7) (v := ?_) rfl (by kernel_rfl) (by kernel_rfl) (by kernel_rfl) (by rfl) (fun _ _ _ h => h) ?_ (by assumption) ?_
      rotate_left
      · (intro w hSw; go_simp; try (with_reducible rfl))
      try simp only [Act.put, List.setIfInBounds_toArray, List.set_cons_zero, List.set_cons_succ]
      refine stepNext (i := 6) (by kernel_rfl) rfl (by rfl) (fun K hK => ?_)
      go_simp
      (refine (S.out _).mono ?_); rintro ee w7 ⟨⟨sv, rfl, sl⟩, hb⟩
      replace near := gCall near hb
      replace hHeld := And.intro (hHeld.1.call hb) (And.intro (hHeld.2.1.call hb) (hHeld.2.2.call hb))
      replace SL := Lib.hid (SL.out.call near)
      obtain ⟨A', cp', rfl⟩ : ∃ A c, sv = .slice A dl.length c := by obtain ⟨_, A, c, e, _⟩ := sl; exact ⟨A, c, e⟩
      replace sl := Lib.hid sl
      clear hb
      refine hK.out _ _ hHeld ?_
      clear hK K
      try simp only [Act.put]
      try simp only [List.setIfInBounds_toArray, List.set_cons_zero, List.set_cons_succ]
      refine stepNext (i := 8) (by kernel_rfl) rfl (by rfl) (fun K hK => ?_)
      go_simp
      (refine (equalInts_yes _ _ _ _ _ sl.out SL.out).mono ?_); rintro ee w8 ⟨rfl, hb⟩
      replace near := gCall near hb
      replace hHeld := And.intro (hHeld.1.call hb) (And.intro (hHeld.2.1.call hb) (hHeld.2.2.call hb))
      clear hb sl SL
      refine hK.out _ _ hHeld ?_
      clear hK K
      try simp only [Act.put]
      try simp only [List.setIfInBounds_toArray, List.set_cons_zero, List.set_cons_succ]
      refine takeFirst (i := 9) (v := ?_) rfl (by kernel_rfl) (by kernel_rfl) (by kernel_rfl) (by rfl) (fun _ _ _ h => h) ?_ (by assumption) ?_
      rotate_left
      · (intro w hSw; go_simp; try (with_reducible rfl))
      try simp only [Act.put, List.setIfInBounds_toArray, List.set_cons_zero, List.set_cons_succ]
      refine takeFirst (i := 10) (v := ?_) rfl (by kernel_rfl) (by kernel_rfl) (by kernel_rfl) (by rfl) (fun _ _ _ h => h) ?_ (by assumption) ?_
      rotate_left
      · (intro w hSw; go_simp; try (with_reducible rfl))
      try simp only [Act.put, List.setIfInBounds_toArray, List.set_cons_zero, List.set_cons_succ]
      refine wpAnyH_done (by kernel_rfl) ?_ _
      refine NoPanic.normal ?_
      replace mb := mb.call near
      replace wb := wb.call near
      replace xb := xb.call near
      replace yb := yb.call near
      replace zb := zb.call near
      replace ob := ob.call near
      replace low := gCall low near
      clear nb near hHeld S eqM eq1
      rcases LI.out with ⟨hk, rfl, rfl, rfl, rfl, rfl, rfl, rfl⟩ | ⟨m, hm, rfl, rfl, rfl, rfl, rfl, rfl, rfl, rfl⟩
      · have HK := Lib.hid hk
        clear hk LI
        have eqM := eqMem zeroL zeroL zeroL_length zeroL_length
        have eqL := eqLine 0 0 0 0 0 0 0 0
        have eq1 : sameM zeroL zeroL = true := by simp [sameM]
        go_wp2_with fail
        (with_reducible refine (goodLine_no _ _ HK.out).mono ?_); rintro ee w9 ⟨rfl, rfl⟩
        have xb_0 := xb.at_ 0 rfl
        have xb_1 := xb.at_ 1 rfl
        have xb_2 := xb.at_ 2 rfl
        have xb_3 := xb.at_ 3 rfl
        go_wp2_with (first | ((with_reducible refine wp_loadMem (⟨yb, hy⟩) ?_ ?_ ?_); rfl; rfl) | ((with_reducible refine wp_loadMem (⟨ob, zeroL_length⟩) ?_ ?_ ?_); rfl; rfl))
        clear eqM eqL eq1
        clear xb_0 xb_1 xb_2 xb_3
        rcases WI.out with ⟨ha, rfl, rfl, rfl, rfl⟩ | ⟨i, hi, rfl, rfl, rfl, rfl, rfl⟩
        · have HA := Lib.hid ha
          clear ha WI
          have eqM := eqMem zeroL zeroL zeroL_length zeroL_length
          have eq1 : sameM zeroL zeroL = true := by simp [sameM]
          (with_reducible refine (goodAddr_no _ _ HA.out).mono ?_); rintro ee w11 ⟨rfl, rfl⟩
          go_wp2_with (first | ((with_reducible refine wp_loadMem (⟨zb, hz⟩) ?_ ?_ ?_); rfl; rfl) | ((with_reducible refine wp_loadMem (⟨ob, zeroL_length⟩) ?_ ?_ ?_); rfl; rfl))
          go_ret
          exact ⟨rfl, low⟩
        · have HI := Lib.hid hi
          clear WI
          obtain ⟨c, hc⟩ : ∃ c : Nat, i / 4 = c := ⟨_, rfl⟩
          obtain ⟨d, hd⟩ : ∃ d : Nat, i % 4 = d := ⟨_, rfl⟩
          have HCD := Lib.hid (show c * 4 + d = i by omega)
          have hq : IntKind.i64.wrap ((i : Int) / 4) = (c : Int) := by rw [wrap_i64_ediv _ _ (by omega) (by omega) (by omega)]; omega
          have hr : (i : Int) % 4 = (d : Int) := by omega
          have eqM := eqMem (pokeL l i v) (pokeL l i v) hz hz
          have eq1 : sameM (pokeL l i v) (pokeL l i v) = true := by simp [sameM]
          have c0 : (memA l)[c * 4 + d]? = some (.int .u64 (wd l i)) := (memA_at (l := l) (c * 4 + d) (by omega)).trans (by rw [HCD.out])
          have lc : (c : Int) < 16 := by omega
          have ld : (d : Int) < 4 := by omega
          have hi2 : (i : Int) < 64 := by omega
          clear hc hd hi
          (with_reducible refine (goodAddr_yes _ _ (by omega) (by omega)).mono ?_); rintro ee w11 ⟨rfl, rfl⟩
          have nl := mb.lt
          have zl := zb.lt
          have tb := Box.new w8 26 (memA l)
          have mb2 := mb.alloc (.cells (memA l) 26)
          replace zb := zb.alloc (.cells (memA l) 26)
          replace low := gAlloc low (.cells (memA l) 26)
          have ll := low.size
          go_wp2_with (first | ((with_reducible refine wp_loadMem (⟨mb, hl⟩) ?_ ?_ ?_); rfl; rfl) | (with_reducible refine wp_newMem ?_) | ((with_reducible refine wp_storeNew (zeroL_length) (hl) ?_ ?_ ?_); rfl; rfl) | ((with_reducible refine wp_storeWord (⟨tb, hl⟩) (c * 4 + d) (by omega) (v) ?_ ?_ ?_); rfl; rfl))
          intro w12 t2 st
          rw [HCD.out] at t2
          replace zb := st.box zb (by omega)
          replace mb2 := st.box mb2 (by omega)
          replace low := st.low low (by omega)
          have m0 := mb2.at_ (c * 4 + d) c0
          clear tb st c0 mb
          go_wp2_with (first | ((with_reducible refine wp_loadMem (⟨zb, hz⟩) ?_ ?_ ?_); rfl; rfl) | ((with_reducible refine wp_loadMem (t2) ?_ ?_ ?_); rfl; rfl))
          go_ret
          exact ⟨rfl, low⟩
      · have HM := Lib.hid hm
        have lk : (m : Int) < 16 := by omega
        have eqM := eqMem (writeL l m p q r s) (writeL l m p q r s) hy hy
        have eq1 : sameM (writeL l m p q r s) (writeL l m p q r s) = true := by simp [sameM]
        have eqL := eqLine (wd l (m * 4)) (wd l (m * 4 + 1)) (wd l (m * 4 + 2)) (wd l (m * 4 + 3)) (wd l (m * 4)) (wd l (m * 4 + 1)) (wd l (m * 4 + 2)) (wd l (m * 4 + 3))
        go_wp2_with fail
        (with_reducible refine (goodLine_yes _ _ (by omega) (by omega)).mono ?_); rintro ee w9 ⟨rfl, rfl⟩
        clear hm LI
        have lx := xb.lt
        have ly := yb.lt
        have lz := zb.lt
        have lo := ob.lt
        have ml := mb.lt
        have ll := low.size
        replace ob := ob.alloc (.cells (memA l) 26)
        replace zb := zb.alloc (.cells (memA l) 26)
        replace yb := yb.alloc (.cells (memA l) 26)
        replace xb := xb.alloc (.cells (memA l) 26)
        replace wb := wb.alloc (.cells (memA l) 26)
        have mb2 := mb.alloc (.cells (memA l) 26)
        have tb := Box.new w8 26 (memA l)
        replace low := gAlloc low (.cells (memA l) 26)
        have wb_0 := wb.at_ 0 rfl
        have wb_1 := wb.at_ 1 rfl
        have wb_2 := wb.at_ 2 rfl
        have wb_3 := wb.at_ 3 rfl
        go_wp2_with (first | ((with_reducible refine wp_loadMem (⟨mb, hl⟩) ?_ ?_ ?_); rfl; rfl) | (with_reducible refine wp_newMem ?_) | ((with_reducible refine wp_storeNew (zeroL_length) (hl) ?_ ?_ ?_); rfl; rfl) | ((with_reducible refine wp_storeLine (⟨tb, hl⟩) (m) (HM.out) p q r s ?_ ?_ ?_); rfl; rfl))
        intro w10 t2 st
        clear wb_0 wb_1 wb_2 wb_3
        clear mb
        have mb := st.box mb2 (by omega)
        replace zb := st.box zb (by omega)
        replace yb := st.box yb (by omega)
        replace xb := st.box xb (by omega)
        replace ob := st.box ob (by omega)
        replace low := st.low low (by omega)
        clear mb2 wb tb st
        have c0 := mb.at_ (m * 4) (memA_at (l := l) (m * 4) (by have := HM.out; omega))
        have c1 := mb.at_ (m * 4 + 1) (memA_at (l := l) (m * 4 + 1) (by have := HM.out; omega))
        have c2 := mb.at_ (m * 4 + 2) (memA_at (l := l) (m * 4 + 2) (by have := HM.out; omega))
        have c3 := mb.at_ (m * 4 + 3) (memA_at (l := l) (m * 4 + 3) (by have := HM.out; omega))
        have xb_0 := xb.at_ 0 rfl
        have xb_1 := xb.at_ 1 rfl
        have xb_2 := xb.at_ 2 rfl
        have xb_3 := xb.at_ 3 rfl
        go_wp2_with fail
        refine wp_region_noPanic ?_
        refine wp_region_held_drew (S := fun w' => w'.cell? ⟨w1.heap.size, 0, none⟩ = some (.int .u64 (wd l (m * 4))) ∧ w'.cell? ⟨w1.heap.size, 1, none⟩ = some (.int .u64 (wd l (m * 4 + 1))) ∧ w'.cell? ⟨w1.heap.size, 2, none⟩ = some (.int .u64 (wd l (m * 4 + 2))) ∧ w'.cell? ⟨w1.heap.size, 3, none⟩ = some (.int .u64 (wd l (m * 4 + 3))) ∧
            w'.cell? ⟨w.heap.size, m * 4, none⟩ = some (.int .u64 (wd l (m * 4))) ∧ w'.cell? ⟨w.heap.size, m * 4 + 1, none⟩ = some (.int .u64 (wd l (m * 4 + 1))) ∧ w'.cell? ⟨w.heap.size, m * 4 + 2, none⟩ = some (.int .u64 (wd l (m * 4 + 2))) ∧ w'.cell? ⟨w.heap.size, m * 4 + 3, none⟩ = some (.int .u64 (wd l (m * 4 + 3))) ∧
            Mb w' w2.heap.size (writeL l m p q r s) ∧ Mb w' w8.heap.size (writeL l m p q r s)) (by kernel_rfl) ⟨drewC xb_0, drewC xb_1, drewC xb_2, drewC xb_3, drewC c0, drewC c1, drewC c2, drewC c3, Mb.drew ⟨yb, hy⟩, t2.drew⟩ (fun hHeld => ?_)
        refine takeFirst (i := 0) (v := ?_) rfl (by kernel_rfl) (by kernel_rfl) (by kernel_rfl) (by rfl) (fun _ _ _ h => h) ?_ (by assumption) ?_
        rotate_left
        · (intro w hSw; go_simp; try (with_reducible rfl))
        try simp only [Act.put, List.setIfInBounds_toArray, List.set_cons_zero, List.set_cons_succ]
        refine takeFirst (i := 1) (v := ?_) rfl (by kernel_rfl) (by kernel_rfl) (by kernel_rfl) (by rfl) (fun _ _ _ h => h) ?_ (by assumption) ?_
        rotate_left
        · (intro w hSw; go_simp; try (with_reducible rfl))
        try simp only [Act.put, List.setIfInBounds_toArray, List.set_cons_zero, List.set_cons_succ]
        refine takeFirst (i := 2) (v := ?_) rfl (by kernel_rfl) (by kernel_rfl) (by kernel_rfl) (by rfl) (fun _ _ _ h => h) ?_ (by assumption) ?_
        rotate_left
        · (intro w hSw; go_simp; try (with_reducible rfl))
        try simp only [Act.put, List.setIfInBounds_toArray, List.set_cons_zero, List.set_cons_succ]
        refine takeFirst (i := 3) (v := ?_) rfl (by kernel_rfl) (by kernel_rfl) (by kernel_rfl) (by rfl) (fun _ _ _ h => h) ?_ (by assumption) ?_
        rotate_left
        · (intro w hSw; go_simp; try (with_reducible rfl))
        try simp only [Act.put, List.setIfInBounds_toArray, List.set_cons_zero, List.set_cons_succ]
        refine takeFirst (i := 4) (v := ?_) rfl (by kernel_rfl) (by kernel_rfl) (by kernel_rfl) (by rfl) (fun _ _ _ h => h) ?_ (by assumption) ?_
        rotate_left
        · (intro w hSw; go_simp; try (with_reducible rfl))
        try simp only [Act.put, List.setIfInBounds_toArray, List.set_cons_zero, List.set_cons_succ]
        refine takeFirst (i := 5) (v := ?_) rfl (by kernel_rfl) (by kernel_rfl) (by kernel_rfl) (by rfl) (fun _ _ _ h => h) ?_ (by assumption) ?_
        rotate_left
        · (intro w hSw; go_simp; try (with_reducible rfl))
        try simp only [Act.put, List.setIfInBounds_toArray, List.set_cons_zero, List.set_cons_succ]
        refine takeFirst (i := 6) (v := ?_) rfl (by kernel_rfl) (by kernel_rfl) (by kernel_rfl) (by rfl) (fun _ _ _ h => h) ?_ (by assumption) ?_
        rotate_left
        · (intro w hSw; go_simp; try (with_reducible rfl))
        try simp only [Act.put, List.setIfInBounds_toArray, List.set_cons_zero, List.set_cons_succ]
        refine takeFirst (i := 7) (v := ?_) rfl (by kernel_rfl) (by kernel_rfl) (by kernel_rfl) (by rfl) (fun _ _ _ h => h) ?_ (by assumption) ?_
        rotate_left
        · (intro w hSw; go_simp; try (with_reducible rfl))
        try simp only [Act.put, List.setIfInBounds_toArray, List.set_cons_zero, List.set_cons_succ]
        refine takeFirst (i := 8) (v := ?_) rfl (by kernel_rfl) (by kernel_rfl) (by kernel_rfl) (by rfl) (fun _ _ _ h => h) ?_ (by assumption) ?_
        rotate_left
        · (intro w hSw; go_simp; try (with_reducible rfl))
        try simp only [Act.put, List.setIfInBounds_toArray, List.set_cons_zero, List.set_cons_succ]
        refine takeFirst (i := 9) (v := ?_) rfl (by kernel_rfl) (by kernel_rfl) (by kernel_rfl) (by rfl) (fun _ _ _ h => h) ?_ (by assumption) ?_
        rotate_left
        · (intro w hSw; go_simp; try (with_reducible rfl))
        try simp only [Act.put, List.setIfInBounds_toArray, List.set_cons_zero, List.set_cons_succ]
        refine takeFirst (i := 10) (v := memV (writeL l m p q r s)) rfl (by kernel_rfl) (by kernel_rfl) (by kernel_rfl) (by rfl) (fun _ _ _ h => h) (fun _ hSw => exec_loadMem rfl (hSw.2.2.2.2.2.2.2.2.1)) (by assumption) ?_
        try simp only [Act.put, List.setIfInBounds_toArray, List.set_cons_zero, List.set_cons_succ]
        refine takeFirst (i := 11) (v := memV (writeL l m p q r s)) rfl (by kernel_rfl) (by kernel_rfl) (by kernel_rfl) (by rfl) (fun _ _ _ h => h) (fun _ hSw => exec_loadMem rfl (hSw.2.2.2.2.2.2.2.2.2)) (by assumption) ?_
        try simp only [Act.put, List.setIfInBounds_toArray, List.set_cons_zero, List.set_cons_succ]
        refine takeFirst (i := 12) (v := ?_) rfl (by kernel_rfl) (by kernel_rfl) (by kernel_rfl) (by rfl) (fun _ _ _ h => h) ?_ (by assumption) ?_
        rotate_left
        · (intro w hSw; go_simp; try (with_reducible rfl))
        try simp only [Act.put, List.setIfInBounds_toArray, List.set_cons_zero, List.set_cons_succ]
        refine takeFirst (i := 13) (v := ?_) rfl (by kernel_rfl) (by kernel_rfl) (by kernel_rfl) (by rfl) (fun _ _ _ h => h) ?_ (by assumption) ?_
        rotate_left
        · (intro w hSw; go_simp; try (with_reducible rfl))
        try simp only [Act.put, List.setIfInBounds_toArray, List.set_cons_zero, List.set_cons_succ]
        refine takeFirst (i := 14) (v := ?_) rfl (by kernel_rfl) (by kernel_rfl) (by kernel_rfl) (by rfl) (fun _ _ _ h => h) ?_ (by assumption) ?_
        rotate_left
        · (intro w hSw; go_simp; try (with_reducible rfl))
        try simp only [Act.put, List.setIfInBounds_toArray, List.set_cons_zero, List.set_cons_succ]
        refine takeFirst (i := 15) (v := ?_) rfl (by kernel_rfl) (by kernel_rfl) (by kernel_rfl) (by rfl) (fun _ _ _ h => h) ?_ (by assumption) ?_
        rotate_left
        · (intro w hSw; go_simp; try (with_reducible rfl))
        try simp only [Act.put, List.setIfInBounds_toArray, List.set_cons_zero, List.set_cons_succ]
        refine takeFirst (i := 16) (v := ?_) rfl (by kernel_rfl) (by kernel_rfl) (by kernel_rfl) (by rfl) (fun _ _ _ h => h) ?_ (by assumption) ?_
        rotate_left
        · (intro w hSw; go_simp; try (with_reducible rfl))
        try simp only [Act.put, List.setIfInBounds_toArray, List.set_cons_zero, List.set_cons_succ]
        refine takeFirst (i := 17) (v := ?_) rfl (by kernel_rfl) (by kernel_rfl) (by kernel_rfl) (by rfl) (fun _ _ _ h => h) ?_ (by assumption) ?_
        rotate_left
        · (intro w hSw; go_simp; try (with_reducible rfl))
        try simp only [Act.put, List.setIfInBounds_toArray, List.set_cons_zero, List.set_cons_succ]
        refine wpAnyH_done (by kernel_rfl) ?_ _
        refine NoPanic.normal ?_
        clear hHeld c0 c1 c2 c3
        clear xb_0 xb_1 xb_2 xb_3
        clear t2 eqM eq1 eqL xb yb lk
        replace mb := mb.drew
        replace zb := zb.drew
        replace ob := ob.drew
        replace low := low.drew
        generalize w10.drew = wz at *
        go_wp2_with fail
        rcases WI.out with ⟨ha, rfl, rfl, rfl, rfl⟩ | ⟨i, hi, rfl, rfl, rfl, rfl, rfl⟩
        · have HA := Lib.hid ha
          clear ha WI
          have eqM := eqMem zeroL zeroL zeroL_length zeroL_length
          have eq1 : sameM zeroL zeroL = true := by simp [sameM]
          (with_reducible refine (goodAddr_no _ _ HA.out).mono ?_); rintro ee w11 ⟨rfl, rfl⟩
          go_wp2_with (first | ((with_reducible refine wp_loadMem (⟨zb, hz⟩) ?_ ?_ ?_); rfl; rfl) | ((with_reducible refine wp_loadMem (⟨ob, zeroL_length⟩) ?_ ?_ ?_); rfl; rfl))
          go_ret
          exact ⟨rfl, low⟩
        · have HI := Lib.hid hi
          clear WI
          obtain ⟨c, hc⟩ : ∃ c : Nat, i / 4 = c := ⟨_, rfl⟩
          obtain ⟨d, hd⟩ : ∃ d : Nat, i % 4 = d := ⟨_, rfl⟩
          have HCD := Lib.hid (show c * 4 + d = i by omega)
          have hq : IntKind.i64.wrap ((i : Int) / 4) = (c : Int) := by rw [wrap_i64_ediv _ _ (by omega) (by omega) (by omega)]; omega
          have hr : (i : Int) % 4 = (d : Int) := by omega
          have eqM := eqMem (pokeL l i v) (pokeL l i v) hz hz
          have eq1 : sameM (pokeL l i v) (pokeL l i v) = true := by simp [sameM]
          have c0 : (memA l)[c * 4 + d]? = some (.int .u64 (wd l i)) := (memA_at (l := l) (c * 4 + d) (by omega)).trans (by rw [HCD.out])
          have lc : (c : Int) < 16 := by omega
          have ld : (d : Int) < 4 := by omega
          have hi2 : (i : Int) < 64 := by omega
          clear hc hd hi
          (with_reducible refine (goodAddr_yes _ _ (by omega) (by omega)).mono ?_); rintro ee w11 ⟨rfl, rfl⟩
          have nl := mb.lt
          have zl := zb.lt
          have tb := Box.new wz 26 (memA l)
          have mb2 := mb.alloc (.cells (memA l) 26)
          replace zb := zb.alloc (.cells (memA l) 26)
          replace low := gAlloc low (.cells (memA l) 26)
          have ll := low.size
          go_wp2_with (first | ((with_reducible refine wp_loadMem (⟨mb, hl⟩) ?_ ?_ ?_); rfl; rfl) | (with_reducible refine wp_newMem ?_) | ((with_reducible refine wp_storeNew (zeroL_length) (hl) ?_ ?_ ?_); rfl; rfl) | ((with_reducible refine wp_storeWord (⟨tb, hl⟩) (c * 4 + d) (by omega) (v) ?_ ?_ ?_); rfl; rfl))
          intro w12 t2 st
          rw [HCD.out] at t2
          replace zb := st.box zb (by omega)
          replace mb2 := st.box mb2 (by omega)
          replace low := st.low low (by omega)
          have m0 := mb2.at_ (c * 4 + d) c0
          clear tb st c0 mb
          go_wp2_with (first | ((with_reducible refine wp_loadMem (⟨zb, hz⟩) ?_ ?_ ?_); rfl; rfl) | ((with_reducible refine wp_loadMem (t2) ?_ ?_ ?_); rfl; rfl))
          go_ret
          exact ⟨rfl, low⟩

theorem walk (v0 v1 v2 v3 v4 v5 : Value) (w : World) (h0 : IsMem v0) (h1 : IsMem v1) (h2 : IsInt v2) (h3 : IsInt v3) (h4 : IsLine v4) (h5 : IsU64 v5) :
    Calls Try.prog 3 #[v0, v1, v2, v3, v4, v5] w fun e w' => e = .returned (.bool true) ∧ Below w.heap.size w w' := by
  obtain ⟨l, rfl, hl⟩ := h0
  obtain ⟨n, rfl, hn⟩ := h1
  obtain ⟨k, rfl, _⟩ := h2
  obtain ⟨a, rfl, _⟩ := h3
  obtain ⟨p, q, r, s, rfl, _⟩ := h4
  obtain ⟨v, rfl, _⟩ := h5
  exact walk_all l n hl hn k a p q r s v w

set_option maxRecDepth 100000 in
theorem lifted (os : Os) (started : os.Started) (H : Type) (enc : TypeId × Value → H) :
    ReturnsInHanded {} Try.checked os 3 .any (Rows.bankTellsSpec.pre6 enc Try.prog Try.f3 Rows.bankTellsRow.domain false) (Rows.bankTellsSpec.post enc Try.prog Try.f3 false true false false) := by
  refine returnsInHanded_of_change (C := Try.checked) own started (by kernel_rfl) Try.func3
    (ChangeSpec.witness6 (enc := enc) (C := Try.checked) false ⟨#[], #[memV zeroL, memV zeroL, .int .i64 0, .int .i64 0, line 1 2 3 4, .int .u64 5], []⟩ 8 (by kernel_rfl) (by kernel_rfl) (by kernel_rfl) (by kernel_rfl)) ?_
  intro W base args ds gs before hval0 hW hcnd _
  have hval : ∀ (j : Nat) t v, Try.f3.params[j]? = some t → args[j]? = some v → Value.okWide Try.prog W .any base t v := hval0
  have hW' := hW
  obtain ⟨p, q, hA0, hV, rfl, hfz, hnd⟩ := hW
  have hA : DataW.TrodAll enc Try.prog W 0 (fun _ => true) true Try.f3.params.toList args.toList ds p := hA0
  rw [Try.params3] at hA hval
  obtain ⟨v0, vs0, d0, ds0, p0, q0, hargs, rfl, rfl, h0, r0⟩ := trodAll_cons hA
  obtain ⟨v1, vs1, d1, ds1, p1, q1, rfl, rfl, rfl, h1, r1⟩ := trodAll_cons r0
  obtain ⟨v2, vs2, d2, ds2, p2, q2, rfl, rfl, rfl, h2, r2⟩ := trodAll_cons r1
  obtain ⟨v3, vs3, d3, ds3, p3, q3, rfl, rfl, rfl, h3, r3⟩ := trodAll_cons r2
  obtain ⟨v4, vs4, d4, ds4, p4, q4, rfl, rfl, rfl, h4, r4⟩ := trodAll_cons r3
  obtain ⟨v5, vs5, d5, ds5, p5, q5, rfl, rfl, rfl, h5, r5⟩ := trodAll_cons r4
  obtain ⟨rfl, rfl, rfl⟩ := trodAll_nil r5
  obtain rfl : args = #[v0, v1, v2, v3, v4, v5] := by cases args; simp_all
  have k0 := openMem (hval 0 26 v0 rfl rfl) h0
  have k1 := openMem (hval 1 26 v1 rfl rfl) h1
  have k2 := openInt (hval 2 3 v2 rfl rfl) h2
  have k3 := openInt (hval 3 3 v3 rfl rfl) h3
  have k4 := openLine (hval 4 24 v4 rfl rfl) h4
  have k5 := openU64 (hval 5 22 v5 rfl rfl) h5
  obtain ⟨rfl, rfl⟩ := trodVars_none hV
  clear hA0 hval0
  refine (walk v0 v1 v2 v3 v4 v5 W k0 k1 k2 k3 k4 k5).mono fun e W' ⟨he, bel⟩ => ⟨_, he, ?_⟩
  exact law_post (by kernel_rfl) (by kernel_rfl) rfl hW' rfl rfl rfl bel

theorem over : Rows.bankTellsRow.holds Try.pinned (OpenSpec.ofChange Rows.bankTellsSpec) :=
  OpenClaim.holds_of_wide 3 Try.f3 rfl rfl rfl rfl rfl rfl rfl ⟨rfl, rfl, rfl, rfl, rfl⟩ rfl rfl rfl rfl rfl (by kernel_rfl) Try.func3 (by kernel_rfl)
    (of_decide_eq_true (by kernel_rfl)) (by unfold Func.isWrapper; first | (rw [if_pos (by decide +kernel)]; kernel_rfl) | (rw [if_neg (by decide +kernel)]; exact ⟨rfl, rfl⟩))
    (fun os started H enc _ => lifted os started H enc)

/-- The statement. -/
theorem bankTells_holds : Rows.BankTellsSaid := over
end Go.Proofs.Yticagdfdbakbfaa.bankTells
namespace Go.Proofs.Yticagdfdbakbfaa
theorem bankTells_holds : Rows.BankTellsSaid := bankTells.bankTells_holds
#print axioms bankTells_holds
end Go.Proofs.Yticagdfdbakbfaa
