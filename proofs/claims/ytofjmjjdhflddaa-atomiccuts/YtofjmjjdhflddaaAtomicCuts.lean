/-
Proved: the law 'AtomicCuts' returns true for every argument, and changes nothing that was there. No condition.
-/
import Derived.Test.YtofjmjjdhflddaaAtomic3
import Derived.Test.YtofjmjjdhflddaaConcat
import Derived.Test.YtofjmjjdhflddaaGood
import Derived.Test.YtofjmjjdhflddaaRegion
namespace Go.Proofs.Ytofjmjjdhflddaa.atomicCuts
open Go.ChangeShapes Go.WideShapes Go.ChangeAt Go.RowKit Go.Joins

def sevenL : List Int := 7 :: List.replicate 63 0
/-- The literal 'Memory{{7}}'. -/
theorem wp_sevenMem {ops : Array Oper} {rest : List Oper} {dst : Option Tmp} {t : TypeId} {pos : String} {after : Array Edge} {a : Act} {w : World} {Q : Exit → Act → World → Prop} {x : Operand} (hx : a.eval x = line 7 0 0 0)
    (h : wpList Try.prog ops Q rest (a.put dst (memV sevenL)) w) : wpList Try.prog ops Q (⟨dst, .build 26 #[(0, x)], t, pos, after, none⟩ :: rest) a w := by
  refine wpList_plain rfl fun K hK => ?_
  have e : (Instr.build 26 #[(0, line 7 0 0 0)]).run Try.prog w = .ok (memV sevenL) w := by kernel_rfl
  unfold Oper.wp execOp
  simp only [List.map_toArray, List.map_cons, List.map_nil, hx, e, Sem.run_bind, Sem.run_pure, Result.andThen_ok]
  exact hK _ _ h

theorem atomics_yes (w : World) : Calls Try.prog 11 #[] w fun e w' => e = .returned (.bool true) ∧ Below w.heap.size w w' := by
  have D := Lib.hid fun W => atomicDo_ok sevenL (by simp [sevenL]) ⟨0, 1, 0, 0⟩ (by decide) W
  have hm : doM sevenL ⟨0, 1, 0, 0⟩ = sevenL := by decide +kernel
  have hv : doV sevenL ⟨0, 1, 0, 0⟩ = 7 := by decide +kernel
  have hl : sevenL.length = 64 := by simp [sevenL]
  rw [hm, hv] at D
  clear hm hv
  have low := Below.refl w.heap.size w
  go_enter Try.func11, Try.ntmps11
  go_wp2_with ((with_reducible refine wp_sevenMem ?_ ?_); rfl)
  refine (D.out _).mono ?_; rintro e w2 ⟨rfl, hb⟩
  replace low := gCall low hb
  clear hb
  go_wp2_with (first | (with_reducible refine wp_newMem ?_) | ((with_reducible refine wp_storeNew (zeroL_length) (hl) ?_ ?_ ?_); rfl; rfl))
  go_ret
  exact ⟨rfl, gAlloc low _⟩

/-! The first k operations of a list, and the others. -/
theorem deedsC_append (a b : List Dd) : deedsC (a ++ b) = deedsC a ++ deedsC b := List.flatMap_append

theorem ds_take {w : World} {A : Option Addr} {c : Nat} {r : List Dd} (h : Ds w (.slice A r.length c) r) (k : Nat) (hk : k ≤ r.length) : Ds w (sliced A 0 k c 4) (r.take k) := by
  obtain ⟨_, A', c', e, h1, h2, h3⟩ := h
  obtain ⟨rfl, rfl⟩ : A = A' ∧ c = c' := by injection e with e1 e2 e3; exact ⟨e1, e3⟩
  have hn : (r.take k).length = k := by rw [List.length_take]; omega
  refine ⟨deedsC_length _, _, _, by unfold sliced; rw [hn]; rfl, by rw [hn]; omega, by omega, fun h0 => ?_⟩
  rw [hn] at h0
  obtain ⟨b, o, rfl, hb, hc⟩ := h3 (by omega)
  refine ⟨b, o, by rw [if_neg (by omega)]; simp [Addr.add], hb, fun j u hu => hc j u ?_⟩
  have := (List.getElem?_eq_some_iff.1 hu).1
  rw [← List.take_append_drop k r, deedsC_append, List.getElem?_append_left this]
  exact hu

theorem ds_drop {w : World} {A : Option Addr} {c : Nat} {r : List Dd} (h : Ds w (.slice A r.length c) r) (k : Nat) (hk : k ≤ r.length) : Ds w (sliced A k r.length c 4) (r.drop k) := by
  obtain ⟨_, A', c', e, h1, h2, h3⟩ := h
  obtain ⟨rfl, rfl⟩ : A = A' ∧ c = c' := by injection e with e1 e2 e3; exact ⟨e1, e3⟩
  have hn : (r.drop k).length = r.length - k := List.length_drop
  refine ⟨deedsC_length _, _, _, by unfold sliced; rw [hn], by rw [hn]; omega, by omega, fun h0 => ?_⟩
  rw [hn] at h0
  obtain ⟨b, o, rfl, hb, hc⟩ := h3 (by omega)
  have ea : (⟨b, o, none⟩ : Addr).add (k * 4) = ⟨b, o + k * 4, none⟩ := by
    unfold Addr.add
    split
    · rename_i e; rw [e]; rfl
    · rfl
  refine ⟨b, o + k * 4, by rw [if_neg (by omega)]; exact congrArg some ea, hb, fun j u hu => ?_⟩
  rw [Nat.add_assoc]
  refine hc _ u ?_
  have e4 : (deedsC (r.take k)).length = k * 4 := by rw [deedsC_length, List.length_take]; congr 1; omega
  rw [← List.take_append_drop k r, deedsC_append, List.getElem?_append_right (by omega), e4, Nat.add_sub_cancel_left]
  exact hu

section
variable {ρ : Operand → Value} {dst : Option Tmp} {t : TypeId} {pos : String} {after : Array Edge} {gd : Option (Nat × Bool)} {x y : Operand} {A : Option Addr} {n c k : Nat} {s : Value} {w : World}
theorem exec_front (hx : ρ x = .slice A n c) (hy : ρ y = .int .i64 k) (hk : k ≤ c) (hs : sliced A 0 k c 4 = s) :
    (execOp ρ ⟨dst, .slice 30 x none (some y) none, t, pos, after, gd⟩).run Try.prog w = .ok (.value s) w := by
  have hu : Try.prog.underlying 30 = some (.slice (Try.prog.elem 30)) := by kernel_rfl
  have hz : (sizeOf (Try.prog.elem 30)).run Try.prog w = .ok 4 w := by kernel_rfl
  unfold execOp
  simp only [hx, hy, Option.map_some, Option.map_none, Sem.run_bind, run_sliceAt_slice _ _ _ _ _ _ hu, run_slice_h w 30 A n c hu .i64 (k : Int) (by omega) (by omega), hz, Result.andThen_ok, Int.toNat_natCast, hs, Sem.run_pure]
theorem exec_back (hx : ρ x = .slice A n c) (hy : ρ y = .int .i64 k) (hk : k ≤ n) (hs : sliced A k n c 4 = s) :
    (execOp ρ ⟨dst, .slice 30 x (some y) none none, t, pos, after, gd⟩).run Try.prog w = .ok (.value s) w := by
  have hu : Try.prog.underlying 30 = some (.slice (Try.prog.elem 30)) := by kernel_rfl
  have hz : (sizeOf (Try.prog.elem 30)).run Try.prog w = .ok 4 w := by kernel_rfl
  unfold execOp
  simp only [hx, hy, Option.map_some, Option.map_none, Sem.run_bind, run_sliceAt_slice _ _ _ _ _ _ hu, run_slice_l w 30 A n c hu .i64 (k : Int) (by omega) (by omega), hz, Result.andThen_ok, Int.toNat_natCast, hs, Sem.run_pure]
end

/-- Play of a list without an error. -/
theorem play_ok (l : List Int) (hl : l.length = 64) (v : Value) (r : List Dd) (w : World) (h : Ds w v r) (he : allE r = 0) : Calls Try.prog 6 #[memV l, v] w fun e w' =>
    (∃ s, e = .returned (.tuple #[memV (runM l r), s, .int .i64 0]) ∧ Told w' s r.length (runV l r)) ∧ Below w.heap.size w w' := by
  refine (play_is l hl v r w h).mono ?_
  rintro e w' ⟨⟨y, s, f, rfl, _, h1 | ⟨_, rfl, rfl, t⟩⟩, hb⟩
  · exact absurd he h1.1
  · exact ⟨⟨s, rfl, t⟩, hb⟩
theorem play_bad (l : List Int) (hl : l.length = 64) (v : Value) (r : List Dd) (w : World) (h : Ds w v r) (he : allE r ≠ 0) : Calls Try.prog 6 #[memV l, v] w fun e w' =>
    e = .returned (.tuple #[memV zeroL, .slice none 0 0, .int .i64 (allE r)]) ∧ Below w.heap.size w w' := by
  refine (play_is l hl v r w h).mono ?_
  rintro e w' ⟨⟨y, s, f, rfl, _, ⟨_, rfl, rfl, rfl⟩ | h1⟩, hb⟩
  · exact ⟨rfl, hb⟩
  · exact absurd h1.1 he

set_option maxHeartbeats 1000000 in
theorem walk_bad (l : List Int) (hl : l.length = 64) (v : Value) (r : List Dd) (k : Int) (w : World) (ds : Ds w v r) (he : allE r ≠ 0) :
    Calls Try.prog 4 #[memV l, v, .int .i64 k] w fun e w' => e = .returned (.bool true) ∧ Below w.heap.size w w' := by
  have P := Lib.hid fun W h => play_bad l hl v r W h he
  have e1 : (allE r != 0) = true := by simpa using he
  have e2 : (allE r == 0) = false := by simpa using he
  have DS := Lib.hid ds
  obtain ⟨A, c, rfl⟩ : ∃ A c, v = .slice A r.length c := by obtain ⟨_, A, c, e, _⟩ := ds; exact ⟨A, c, e⟩
  generalize allE r = E at *
  clear he ds
  have low := Below.refl w.heap.size w
  have mb := Box.new w 26 (memA l)
  replace low := gAlloc low (.cells (memA l) 26)
  go_enter Try.func4, Try.ntmps4
  go_wp2_with fail
  (with_reducible refine (atomics_yes _).mono ?_); rintro e w1 ⟨rfl, hb⟩
  replace mb := mb.call hb
  replace low := gCall low hb
  clear hb
  go_wp2_with ((with_reducible refine wp_loadMem (⟨mb, hl⟩) ?_ ?_ ?_); rfl; rfl)
  refine (P.out _ (DS.out.call low)).mono ?_; rintro e w2 ⟨rfl, hb⟩
  replace low := gCall low hb
  clear hb mb
  go_wp2_with (first | (with_reducible refine wp_newMem ?_) | ((with_reducible refine wp_storeNew (zeroL_length) (zeroL_length) ?_ ?_ ?_); rfl; rfl))
  go_ret
  exact ⟨rfl, gAlloc low _⟩

set_option maxHeartbeats 1000000 in
theorem walk_out (l : List Int) (hl : l.length = 64) (v : Value) (r : List Dd) (k : Int) (w : World) (ds : Ds w v r) (he : allE r = 0) (hk : k < 0 ∨ r.length < k) :
    Calls Try.prog 4 #[memV l, v, .int .i64 k] w fun e w' => e = .returned (.bool true) ∧ Below w.heap.size w w' := by
  have P := Lib.hid fun W h => play_ok l hl v r W h he
  have hm := runM_length hl r
  have DS := Lib.hid ds
  obtain ⟨A, c, rfl⟩ : ∃ A c, v = .slice A r.length c := by obtain ⟨_, A, c, e, _⟩ := ds; exact ⟨A, c, e⟩
  generalize runM l r = m at *
  generalize hn : r.length = n at *
  clear hn
  clear he ds
  have low := Below.refl w.heap.size w
  have mb := Box.new w 26 (memA l)
  replace low := gAlloc low (.cells (memA l) 26)
  go_enter Try.func4, Try.ntmps4
  go_wp2_with fail
  (with_reducible refine (atomics_yes _).mono ?_); rintro e w1 ⟨rfl, hb⟩
  replace mb := mb.call hb
  replace low := gCall low hb
  clear hb
  go_wp2_with ((with_reducible refine wp_loadMem (⟨mb, hl⟩) ?_ ?_ ?_); rfl; rfl)
  refine (P.out _ (DS.out.call low)).mono ?_; rintro e w2 ⟨⟨s, rfl, told⟩, hb⟩
  replace low := gCall low hb
  clear hb mb
  obtain ⟨g, rfl, -⟩ := told.some
  clear told
  by_cases h : k < 0
  · clear hk
    go_wp2_with (first | (with_reducible refine wp_newMem ?_) | ((with_reducible refine wp_storeNew (zeroL_length) (hm) ?_ ?_ ?_); rfl; rfl))
    go_ret
    exact ⟨rfl, gAlloc low _⟩
  · have h0 : 0 ≤ k := by omega
    have h1 : (n : Int) < k := by omega
    clear hk h
    go_wp2_with (first | (with_reducible refine wp_newMem ?_) | ((with_reducible refine wp_storeNew (zeroL_length) (hm) ?_ ?_ ?_); rfl; rfl))
    go_ret
    exact ⟨rfl, gAlloc low _⟩

/-- What follows is shown once, for all orders. -/
theorem shareOne {M Φ : Nat → Value → World → Prop} {G : Prop} (tree : (∀ g s w, M g s w → Φ g s w) → G) (last : ∀ g s w, M g s w → Φ g s w) : G := tree last
/-- A new memory, as an operation. -/
theorem op_newMem {dst : Option Tmp} {t : TypeId} {pos : String} {after : Array Edge} {gd : Option (Nat × Bool)} {a : Act} {w : World} {K : Act → World → Prop} {Q : Exit → Act → World → Prop}
    (h : K (a.put dst (.pointer (some ⟨w.heap.size, 0, none⟩))) (w.alloc (.cells (memA zeroL) 26))) : Oper.wp Try.prog ⟨dst, .alloc 26, t, pos, after, gd⟩ a w K Q := by
  unfold Oper.wp execOp
  simp only [Instr.alloc, Sem.run_bind, (zero_of_info mem_info).1, newVar, newRow, run_newObj_alloc, Sem.run_pure, Result.andThen_ok]
  exact h

/-- Behind a call of Play and a new memory, whichever came first. -/
structure One (w0 : World) (g : Nat) (s : Value) (w : World) (n : Nat) (xs : List Int) : Prop where
  low : Below w0.heap.size w0 w
  new : w0.heap.size ≤ g
  box : Mb w g zeroL
  told : Told w s n xs


set_option maxHeartbeats 2000000 in
theorem walk_right (l : List Int) (hl : l.length = 64) (v : Value) (r : List Dd) (k : Nat) (w : World) (ds : Ds w v r) (he : allE r = 0) (hk : k ≤ r.length) :
    Calls Try.prog 4 #[memV l, v, .int .i64 k] w fun e w' => e = .returned (.bool true) ∧ Below w.heap.size w w' := by
  have P := Lib.hid fun W h => play_ok l hl v r W h he
  have hr : r.length ≤ 200 := by
    unfold allE at he
    split at he
    · cases he
    · omega
  have hE : runE r = 0 := by unfold allE at he; rwa [if_neg (by omega)] at he
  have hE1 : runE (r.take k) = 0 := by
    rw [← List.take_append_drop k r, runE_append] at hE
    split at hE
    · assumption
    · rename_i h; exact absurd hE h
  have hE2 : runE (r.drop k) = 0 := by
    rw [← List.take_append_drop k r, runE_append, if_pos hE1] at hE
    exact hE
  have a1 : allE (r.take k) = 0 := by unfold allE; rw [if_neg (by rw [List.length_take]; omega)]; exact hE1
  have a2 : allE (r.drop k) = 0 := by unfold allE; rw [if_neg (by rw [List.length_drop]; omega)]; exact hE2
  have hm := runM_length hl r
  have hm1 := runM_length hl (r.take k)
  obtain ⟨A, c, rfl⟩ : ∃ A c, v = .slice A r.length c := by obtain ⟨_, A, c, e, _⟩ := ds; exact ⟨A, c, e⟩
  have hc : r.length ≤ c := by obtain ⟨_, A', c', e, h1, _⟩ := ds; injection e with e1 e2 e3; omega
  obtain ⟨s1, hs1⟩ : ∃ s, sliced A 0 k c 4 = s := ⟨_, rfl⟩
  obtain ⟨s2, hs2⟩ : ∃ s, sliced A k r.length c 4 = s := ⟨_, rfl⟩
  have DS := Lib.hid ds
  have DS1 := Lib.hid (fun W (h : Below w.heap.size w W) => hs1 ▸ ds_take (ds.call h) k hk)
  have DS2 := Lib.hid (fun W (h : Below w.heap.size w W) => hs2 ▸ ds_drop (ds.call h) k hk)
  have P1 := Lib.hid fun W h => play_ok l hl s1 (r.take k) W h a1
  have P2 := Lib.hid fun W h => play_ok (runM l (r.take k)) hm1 s2 (r.drop k) W h a2
  have eM : runM (runM l (r.take k)) (r.drop k) = runM l r := by rw [← runM_append, List.take_append_drop]
  have eV : runV l (r.take k) ++ runV (runM l (r.take k)) (r.drop k) = runV l r := by rw [← runV_append, List.take_append_drop]
  have l1 : (r.take k).length = k := by rw [List.length_take]; omega
  have l2 : (r.drop k).length = r.length - k := List.length_drop
  rw [eM] at P2
  rw [l1] at P1
  rw [l2] at P2
  have EV := Lib.hid eV
  have HS1 := Lib.hid hs1
  have HS2 := Lib.hid hs2
  have eqM := eqMem (runM l r) (runM l r) hm hm
  have eq1 : sameM (runM l r) (runM l r) = true := by simp [sameM]
  clear hE hE1 hE2 he a1 a2 l1 l2 eM eV hs1 hs2 ds
  generalize runV (runM l (r.take k)) (r.drop k) = v2 at *
  generalize runV l (r.take k) = v1 at *
  generalize runM l (r.take k) = m1 at *
  generalize runM l r = m at *
  generalize runV l r = v0 at *
  generalize hn : r.length = n at *
  have HN := Lib.hid hn
  have HC := Lib.hid hc
  have k1 : (k : Int) ≤ n := by omega
  have HK := Lib.hid hk
  clear hn hc hk hr
  have low := Below.refl w.heap.size w
  have mb := Box.new w 26 (memA l)
  replace low := gAlloc low (.cells (memA l) 26)
  go_enter Try.func4, Try.ntmps4
  go_wp2_with fail
  (with_reducible refine (atomics_yes _).mono ?_); rintro e w1 ⟨rfl, hb⟩
  replace mb := mb.call hb
  replace low := gCall low hb
  clear hb
  go_wp2_with ((with_reducible refine wp_loadMem (⟨mb, hl⟩) ?_ ?_ ?_); rfl; rfl)
  refine (P.out _ (DS.out.call low)).mono ?_; rintro e w2 ⟨⟨s, rfl, told⟩, hb⟩
  replace low := gCall low hb
  replace mb := mb.call hb
  clear hb P
  have nb := Mb.new (l := m) w2 hm
  replace mb := mb.alloc (.cells (memA m) 26)
  replace low := gAlloc low (.cells (memA m) 26)
  replace told := told.call (gAlloc (Below.refl _ _) (.cells (memA m) 26))
  go_wp2_with (first | (with_reducible refine wp_newMem ?_) | ((with_reducible refine wp_storeNew (zeroL_length) (hm) ?_ ?_ ?_); rfl; rfl))
  generalize w2.alloc (.cells (memA m) 26) = wR at *
  refine wp_region_noPanic ?_
  refine wp_region_held_drew (S := fun w' => Mb w' w.heap.size l) (by kernel_rfl) (Mb.drew ⟨mb, hl⟩) (fun hHeld => ?_)
  refine takeFirst (i := 0) (v := memV (l)) rfl (by kernel_rfl) (by kernel_rfl) (by kernel_rfl) (by rfl) (fun _ _ _ h => h) (fun _ hSw => exec_loadMem rfl (hSw)) (by assumption) ?_
  try simp only [Act.put, List.setIfInBounds_toArray, List.set_cons_zero, List.set_cons_succ]
  refine takeFirst (i := 1) (v := ?_) rfl (by kernel_rfl) (by kernel_rfl) (by kernel_rfl) (by rfl) (fun _ _ _ h => h) ?_ (by assumption) ?_
  rotate_left
  · (intro w hSw; go_simp; try (with_reducible rfl))
  try simp only [Act.put, List.setIfInBounds_toArray, List.set_cons_zero, List.set_cons_succ]
  refine takeFirst (i := 2) (v := ?_) rfl (by kernel_rfl) (by kernel_rfl) (by kernel_rfl) (by rfl) (fun _ _ _ h => h) ?_ (by assumption) ?_
  rotate_left
  · (intro w hSw; go_simp; try (with_reducible rfl))
  try simp only [Act.put, List.setIfInBounds_toArray, List.set_cons_zero, List.set_cons_succ]
  refine takeFirst (i := 3) (v := s1) rfl (by kernel_rfl) (by kernel_rfl) (by kernel_rfl) (by rfl) (fun _ _ _ h => h) (fun _ _ => exec_front rfl rfl (by have := HC.out; have := HK.out; omega) HS1.out) (by assumption) ?_
  try simp only [Act.put, List.setIfInBounds_toArray, List.set_cons_zero, List.set_cons_succ]
  replace nb := nb.drew
  replace told := told.call (Below.refl _ _).drew
  replace low := low.drew
  clear mb
  generalize wR.drew = wN at *
  have near := Below.refl wN.heap.size wN
  have wlt := hHeld.lt
  apply shareOne (M := fun g s' wz => One wN g s' wz k v1 ∧ Mb wz w.heap.size l)
  · intro hE
    refine stepTwo (i1 := 4) (i2 := 9) (by kernel_rfl) rfl rfl (by rfl) (by rfl) (fun K hK => ?_) (fun K hK => ?_)
    · go_simp
      (with_reducible refine (P1.out _ (DS1.out _ (gCall low near))).mono ?_); rintro e wy ⟨⟨s', rfl, told1⟩, hb⟩
      replace near := gCall near hb
      replace hHeld := hHeld.call hb
      clear hb
      refine hK.out _ _ hHeld ?_
      clear hK K
      try simp only [Act.put]
      try simp only [List.setIfInBounds_toArray, List.set_cons_zero, List.set_cons_succ]
      refine takeFirst (i := 5) (v := ?_) rfl (by kernel_rfl) (by kernel_rfl) (by kernel_rfl) (by rfl) (fun _ _ _ h => h) ?_ (by assumption) ?_
      rotate_left
      · (intro w hSw; go_simp; try (with_reducible rfl))
      try simp only [Act.put, List.setIfInBounds_toArray, List.set_cons_zero, List.set_cons_succ]
      refine takeFirst (i := 6) (v := ?_) rfl (by kernel_rfl) (by kernel_rfl) (by kernel_rfl) (by rfl) (fun _ _ _ h => h) ?_ (by assumption) ?_
      rotate_left
      · (intro w hSw; go_simp; try (with_reducible rfl))
      try simp only [Act.put, List.setIfInBounds_toArray, List.set_cons_zero, List.set_cons_succ]
      refine takeFirst (i := 7) (v := ?_) rfl (by kernel_rfl) (by kernel_rfl) (by kernel_rfl) (by rfl) (fun _ _ _ h => h) ?_ (by assumption) ?_
      rotate_left
      · (intro w hSw; go_simp; try (with_reducible rfl))
      try simp only [Act.put, List.setIfInBounds_toArray, List.set_cons_zero, List.set_cons_succ]
      refine takeFirst (i := 8) (v := ?_) rfl (by kernel_rfl) (by kernel_rfl) (by kernel_rfl) (by rfl) (fun _ _ _ h => h) ?_ (by assumption) ?_
      rotate_left
      · (intro w hSw; go_simp; try (with_reducible rfl))
      try simp only [Act.put, List.setIfInBounds_toArray, List.set_cons_zero, List.set_cons_succ]
      refine stepNext (i := 9) (by kernel_rfl) rfl (by rfl) (fun K hK => ?_)
      have sz := near.size
      have told2 := told1.call (gAlloc (Below.refl _ _) (.cells (memA zeroL) 26))
      have box := Mb.new (l := zeroL) wy zeroL_length
      refine op_newMem ?_
      replace near := gAlloc near (.cells (memA zeroL) 26)
      replace hHeld := hHeld.alloc (.cells (memA zeroL) 26)
      refine hK.out _ _ hHeld ?_
      clear hK K
      try simp only [Act.put]
      try simp only [List.setIfInBounds_toArray, List.set_cons_zero, List.set_cons_succ]
      generalize wy.alloc (.cells (memA zeroL) 26) = wz at *
      generalize wy.heap.size = ga at *
      refine relist (l2 := #[true, true, true, true, true, true, true, true, true, true, false, false, false]) (by kernel_rfl) ?_
      exact hE _ _ _ ⟨⟨near, sz, box, told2⟩, hHeld⟩
    · have box := Mb.new (l := zeroL) wN zeroL_length
      refine op_newMem ?_
      replace near := gAlloc near (.cells (memA zeroL) 26)
      replace hHeld := hHeld.alloc (.cells (memA zeroL) 26)
      refine hK.out _ _ hHeld ?_
      clear hK K
      try simp only [Act.put]
      try simp only [List.setIfInBounds_toArray, List.set_cons_zero, List.set_cons_succ]
      generalize wN.alloc (.cells (memA zeroL) 26) = wx at *
      generalize hga : wN.heap.size = ga at box ⊢
      have HGA := Lib.hid hga
      clear hga
      refine stepNext (i := 4) (by kernel_rfl) rfl (by rfl) (fun K hK => ?_)
      go_simp
      (with_reducible refine (P1.out _ (DS1.out _ (gCall low near))).mono ?_); rintro e wy ⟨⟨s', rfl, told1⟩, hb⟩
      replace near := gCall near hb
      replace hHeld := hHeld.call hb
      replace box := box.call hb
      clear hb
      refine hK.out _ _ hHeld ?_
      clear hK K
      try simp only [Act.put]
      try simp only [List.setIfInBounds_toArray, List.set_cons_zero, List.set_cons_succ]
      refine takeFirst (i := 5) (v := ?_) rfl (by kernel_rfl) (by kernel_rfl) (by kernel_rfl) (by rfl) (fun _ _ _ h => h) ?_ (by assumption) ?_
      rotate_left
      · (intro w hSw; go_simp; try (with_reducible rfl))
      try simp only [Act.put, List.setIfInBounds_toArray, List.set_cons_zero, List.set_cons_succ]
      refine takeFirst (i := 6) (v := ?_) rfl (by kernel_rfl) (by kernel_rfl) (by kernel_rfl) (by rfl) (fun _ _ _ h => h) ?_ (by assumption) ?_
      rotate_left
      · (intro w hSw; go_simp; try (with_reducible rfl))
      try simp only [Act.put, List.setIfInBounds_toArray, List.set_cons_zero, List.set_cons_succ]
      refine takeFirst (i := 7) (v := ?_) rfl (by kernel_rfl) (by kernel_rfl) (by kernel_rfl) (by rfl) (fun _ _ _ h => h) ?_ (by assumption) ?_
      rotate_left
      · (intro w hSw; go_simp; try (with_reducible rfl))
      try simp only [Act.put, List.setIfInBounds_toArray, List.set_cons_zero, List.set_cons_succ]
      refine takeFirst (i := 8) (v := ?_) rfl (by kernel_rfl) (by kernel_rfl) (by kernel_rfl) (by rfl) (fun _ _ _ h => h) ?_ (by assumption) ?_
      rotate_left
      · (intro w hSw; go_simp; try (with_reducible rfl))
      try simp only [Act.put, List.setIfInBounds_toArray, List.set_cons_zero, List.set_cons_succ]
      refine relist (l2 := #[true, true, true, true, true, true, true, true, true, true, false, false, false]) (by kernel_rfl) ?_
      exact hE _ _ _ ⟨⟨near, Nat.le_of_eq HGA.out, box, told1⟩, hHeld⟩
  clear hHeld near
  rintro g1 t1 w3 ⟨⟨near, sz1, yb, told1⟩, hHeld⟩
  refine stepNext (i := 10) (by kernel_rfl) rfl (by rfl) (fun K hK => ?_)
  refine wp_store_box 26 (.tmp 10) (.tmp 50) rfl _ (memA m1) rfl rfl yb.1 (by rw [mem_size, memA_size, hm1]) (by rw [memA_size, memA_size, zeroL_length, hm1]) (memA_one m1) ?_
  intro w4 zb st
  replace told1 := told1.out st yb.1 (by decide)
  have nlt := nb.lt
  replace hHeld := Mb.mk (st.box hHeld.1 (by omega)) hHeld.2
  replace told := (told.call near).out st yb.1 (by decide)
  replace nb := Mb.mk (st.box (nb.call near).1 (by omega)) hm
  replace low := st.low (gCall low near) (by omega)
  clear st near yb
  refine hK.out _ _ hHeld ?_
  clear hK K
  try simp only [Act.put]
  try simp only [List.setIfInBounds_toArray, List.set_cons_zero, List.set_cons_succ]
  refine takeFirst (i := 11) (v := ?_) rfl (by kernel_rfl) (by kernel_rfl) (by kernel_rfl) (by rfl) (fun _ _ _ h => h) ?_ (by assumption) ?_
  rotate_left
  · (intro w hSw; go_simp; try (with_reducible rfl))
  try simp only [Act.put, List.setIfInBounds_toArray, List.set_cons_zero, List.set_cons_succ]
  refine takeFirst (i := 12) (v := ?_) rfl (by kernel_rfl) (by kernel_rfl) (by kernel_rfl) (by rfl) (fun _ _ _ h => h) ?_ (by assumption) ?_
  rotate_left
  · (intro w hSw; go_simp; try (with_reducible rfl))
  try simp only [Act.put, List.setIfInBounds_toArray, List.set_cons_zero, List.set_cons_succ]
  refine wpAnyH_done (by kernel_rfl) ?_ _
  refine NoPanic.normal ?_
  clear hHeld
  replace zb : Mb w4 g1 m1 := ⟨zb, hm1⟩
  go_wp2_with fail
  have hg1 : w.heap.size ≤ g1 := by omega
  clear sz1 wlt nlt
  refine wp_region_noPanic ?_
  refine wp_region_held_drew (S := fun w' => Mb w' g1 m1) (by kernel_rfl) zb.drew (fun hHeld => ?_)
  refine takeFirst (i := 0) (v := memV (m1)) rfl (by kernel_rfl) (by kernel_rfl) (by kernel_rfl) (by rfl) (fun _ _ _ h => h) (fun _ hSw => exec_loadMem rfl (hSw)) (by assumption) ?_
  try simp only [Act.put, List.setIfInBounds_toArray, List.set_cons_zero, List.set_cons_succ]
  refine takeFirst (i := 1) (v := ?_) rfl (by kernel_rfl) (by kernel_rfl) (by kernel_rfl) (by rfl) (fun _ _ _ h => h) ?_ (by assumption) ?_
  rotate_left
  · (intro w hSw; go_simp; try (with_reducible rfl))
  try simp only [Act.put, List.setIfInBounds_toArray, List.set_cons_zero, List.set_cons_succ]
  refine takeFirst (i := 2) (v := ?_) rfl (by kernel_rfl) (by kernel_rfl) (by kernel_rfl) (by rfl) (fun _ _ _ h => h) ?_ (by assumption) ?_
  rotate_left
  · (intro w hSw; go_simp; try (with_reducible rfl))
  try simp only [Act.put, List.setIfInBounds_toArray, List.set_cons_zero, List.set_cons_succ]
  refine takeFirst (i := 3) (v := s2) rfl (by kernel_rfl) (by kernel_rfl) (by kernel_rfl) (by rfl) (fun _ _ _ h => h) (fun _ _ => exec_back rfl rfl HK.out HS2.out) (by assumption) ?_
  try simp only [Act.put, List.setIfInBounds_toArray, List.set_cons_zero, List.set_cons_succ]
  replace nb := nb.drew
  replace told := told.call (Below.refl _ _).drew
  replace told1 := told1.call (Below.refl _ _).drew
  replace low := low.drew
  clear zb
  generalize w4.drew = wN at *
  have near := Below.refl wN.heap.size wN
  have nlt := nb.lt
  have glt := hHeld.lt
  apply shareOne (M := fun g s' wz => One wN g s' wz (n - k) v2 ∧ Mb wz g1 m1)
  · intro hE
    refine stepTwo (i1 := 4) (i2 := 9) (by kernel_rfl) rfl rfl (by rfl) (by rfl) (fun K hK => ?_) (fun K hK => ?_)
    · go_simp
      (with_reducible refine (P2.out _ (DS2.out _ (gCall low near))).mono ?_); rintro e wy ⟨⟨s', rfl, told1⟩, hb⟩
      replace near := gCall near hb
      replace hHeld := hHeld.call hb
      clear hb
      refine hK.out _ _ hHeld ?_
      clear hK K
      try simp only [Act.put]
      try simp only [List.setIfInBounds_toArray, List.set_cons_zero, List.set_cons_succ]
      refine takeFirst (i := 5) (v := ?_) rfl (by kernel_rfl) (by kernel_rfl) (by kernel_rfl) (by rfl) (fun _ _ _ h => h) ?_ (by assumption) ?_
      rotate_left
      · (intro w hSw; go_simp; try (with_reducible rfl))
      try simp only [Act.put, List.setIfInBounds_toArray, List.set_cons_zero, List.set_cons_succ]
      refine takeFirst (i := 6) (v := ?_) rfl (by kernel_rfl) (by kernel_rfl) (by kernel_rfl) (by rfl) (fun _ _ _ h => h) ?_ (by assumption) ?_
      rotate_left
      · (intro w hSw; go_simp; try (with_reducible rfl))
      try simp only [Act.put, List.setIfInBounds_toArray, List.set_cons_zero, List.set_cons_succ]
      refine takeFirst (i := 7) (v := ?_) rfl (by kernel_rfl) (by kernel_rfl) (by kernel_rfl) (by rfl) (fun _ _ _ h => h) ?_ (by assumption) ?_
      rotate_left
      · (intro w hSw; go_simp; try (with_reducible rfl))
      try simp only [Act.put, List.setIfInBounds_toArray, List.set_cons_zero, List.set_cons_succ]
      refine takeFirst (i := 8) (v := ?_) rfl (by kernel_rfl) (by kernel_rfl) (by kernel_rfl) (by rfl) (fun _ _ _ h => h) ?_ (by assumption) ?_
      rotate_left
      · (intro w hSw; go_simp; try (with_reducible rfl))
      try simp only [Act.put, List.setIfInBounds_toArray, List.set_cons_zero, List.set_cons_succ]
      refine stepNext (i := 9) (by kernel_rfl) rfl (by rfl) (fun K hK => ?_)
      have sz := near.size
      have told2 := told1.call (gAlloc (Below.refl _ _) (.cells (memA zeroL) 26))
      have box := Mb.new (l := zeroL) wy zeroL_length
      refine op_newMem ?_
      replace near := gAlloc near (.cells (memA zeroL) 26)
      replace hHeld := hHeld.alloc (.cells (memA zeroL) 26)
      refine hK.out _ _ hHeld ?_
      clear hK K
      try simp only [Act.put]
      try simp only [List.setIfInBounds_toArray, List.set_cons_zero, List.set_cons_succ]
      generalize wy.alloc (.cells (memA zeroL) 26) = wz at *
      generalize wy.heap.size = ga at *
      refine relist (l2 := #[true, true, true, true, true, true, true, true, true, true, false, false, false]) (by kernel_rfl) ?_
      exact hE _ _ _ ⟨⟨near, sz, box, told2⟩, hHeld⟩
    · have box := Mb.new (l := zeroL) wN zeroL_length
      refine op_newMem ?_
      replace near := gAlloc near (.cells (memA zeroL) 26)
      replace hHeld := hHeld.alloc (.cells (memA zeroL) 26)
      refine hK.out _ _ hHeld ?_
      clear hK K
      try simp only [Act.put]
      try simp only [List.setIfInBounds_toArray, List.set_cons_zero, List.set_cons_succ]
      generalize wN.alloc (.cells (memA zeroL) 26) = wx at *
      generalize hga : wN.heap.size = ga at box ⊢
      have HGA := Lib.hid hga
      clear hga
      refine stepNext (i := 4) (by kernel_rfl) rfl (by rfl) (fun K hK => ?_)
      go_simp
      (with_reducible refine (P2.out _ (DS2.out _ (gCall low near))).mono ?_); rintro e wy ⟨⟨s', rfl, told1⟩, hb⟩
      replace near := gCall near hb
      replace hHeld := hHeld.call hb
      replace box := box.call hb
      clear hb
      refine hK.out _ _ hHeld ?_
      clear hK K
      try simp only [Act.put]
      try simp only [List.setIfInBounds_toArray, List.set_cons_zero, List.set_cons_succ]
      refine takeFirst (i := 5) (v := ?_) rfl (by kernel_rfl) (by kernel_rfl) (by kernel_rfl) (by rfl) (fun _ _ _ h => h) ?_ (by assumption) ?_
      rotate_left
      · (intro w hSw; go_simp; try (with_reducible rfl))
      try simp only [Act.put, List.setIfInBounds_toArray, List.set_cons_zero, List.set_cons_succ]
      refine takeFirst (i := 6) (v := ?_) rfl (by kernel_rfl) (by kernel_rfl) (by kernel_rfl) (by rfl) (fun _ _ _ h => h) ?_ (by assumption) ?_
      rotate_left
      · (intro w hSw; go_simp; try (with_reducible rfl))
      try simp only [Act.put, List.setIfInBounds_toArray, List.set_cons_zero, List.set_cons_succ]
      refine takeFirst (i := 7) (v := ?_) rfl (by kernel_rfl) (by kernel_rfl) (by kernel_rfl) (by rfl) (fun _ _ _ h => h) ?_ (by assumption) ?_
      rotate_left
      · (intro w hSw; go_simp; try (with_reducible rfl))
      try simp only [Act.put, List.setIfInBounds_toArray, List.set_cons_zero, List.set_cons_succ]
      refine takeFirst (i := 8) (v := ?_) rfl (by kernel_rfl) (by kernel_rfl) (by kernel_rfl) (by rfl) (fun _ _ _ h => h) ?_ (by assumption) ?_
      rotate_left
      · (intro w hSw; go_simp; try (with_reducible rfl))
      try simp only [Act.put, List.setIfInBounds_toArray, List.set_cons_zero, List.set_cons_succ]
      refine relist (l2 := #[true, true, true, true, true, true, true, true, true, true, false, false, false]) (by kernel_rfl) ?_
      exact hE _ _ _ ⟨⟨near, Nat.le_of_eq HGA.out, box, told1⟩, hHeld⟩
  clear hHeld near
  rintro g2 t2 w5 ⟨⟨near, sz2, yb, told2⟩, hHeld⟩
  refine stepNext (i := 10) (by kernel_rfl) rfl (by rfl) (fun K hK => ?_)
  refine wp_store_box 26 (.tmp 13) (.tmp 59) rfl _ (memA m) rfl rfl yb.1 (by rw [mem_size, memA_size, hm]) (by rw [memA_size, memA_size, zeroL_length, hm]) (memA_one m) ?_
  intro w6 zb st
  have hwN := low.size
  replace hHeld := Mb.mk (st.box hHeld.1 (by omega)) hHeld.2
  replace told := (told.call near).out st yb.1 (by decide)
  replace told1 := (told1.call near).out st yb.1 (by decide)
  replace told2 := told2.out st yb.1 (by decide)
  replace nb := Mb.mk (st.box (nb.call near).1 (by omega)) hm
  replace low := st.low (gCall low near) (by omega)
  replace zb : Mb w6 g2 m := ⟨zb, hm⟩
  clear st near yb
  refine hK.out _ _ hHeld ?_
  clear hK K
  try simp only [Act.put]
  try simp only [List.setIfInBounds_toArray, List.set_cons_zero, List.set_cons_succ]
  refine takeFirst (i := 11) (v := ?_) rfl (by kernel_rfl) (by kernel_rfl) (by kernel_rfl) (by rfl) (fun _ _ _ h => h) ?_ (by assumption) ?_
  rotate_left
  · (intro w hSw; go_simp; try (with_reducible rfl))
  try simp only [Act.put, List.setIfInBounds_toArray, List.set_cons_zero, List.set_cons_succ]
  refine takeFirst (i := 12) (v := ?_) rfl (by kernel_rfl) (by kernel_rfl) (by kernel_rfl) (by rfl) (fun _ _ _ h => h) ?_ (by assumption) ?_
  rotate_left
  · (intro w hSw; go_simp; try (with_reducible rfl))
  try simp only [Act.put, List.setIfInBounds_toArray, List.set_cons_zero, List.set_cons_succ]
  refine wpAnyH_done (by kernel_rfl) ?_ _
  refine NoPanic.normal ?_
  clear hHeld sz2 nlt glt hwN
  have o1 := gAlloc (Below.refl w6.heap.size w6) (.cells #[.int .i64 0, .int .i64 0] 31)
  replace nb := nb.call o1
  replace zb := zb.call o1
  replace low := gAlloc low (.cells #[.int .i64 0, .int .i64 0] 31)
  replace told := told.call o1
  replace told1 := told1.call o1
  replace told2 := told2.call o1
  clear o1
  go_wp2_with fail
  with_reducible refine (good_yes _ 2 _ (by omega) ?_).mono ?_
  · intro j hj
    have : j = 0 ∨ j = 1 := by omega
    rcases this with rfl | rfl <;> go_simp
  rintro e w7 ⟨rfl, rfl⟩
  have o2 := gAlloc (Below.refl _ (w6.alloc (.cells #[.int .i64 0, .int .i64 0] 31))) (.cells #[t1, t2] 34)
  have sb := Box.new (w6.alloc (.cells #[.int .i64 0, .int .i64 0] 31)) 34 #[t1, t2]
  simp only [World.size_alloc] at sb
  replace low := gCall low o2
  have TD := Lib.hid ((told.call o2).sl)
  have TD1 := Lib.hid (told1.call o2)
  have TD2 := Lib.hid (told2.call o2)
  have S0 := Lib.hid (sb.at_ 0 rfl)
  have S1 := Lib.hid (sb.at_ 1 rfl)
  have s200 : k + (n - k) ≤ 400 := by have := told.few; have := HK.out; omega
  have HKN : k + (n - k) = n := by have := HK.out; omega
  replace HKN := Lib.hid HKN
  have CW := Lib.hid (concatWords _ t1 t2 k (n - k) v1 v2 _ S0.out S1.out TD1.out TD2.out s200)
  obtain ⟨d1, e1, -⟩ := told1.some
  obtain ⟨d2, e2, -⟩ := told2.some
  obtain ⟨d0, e0, -⟩ := told.some
  subst e1 e2 e0
  clear told told1 told2 sb o2 S0 S1 TD1 TD2
  go_wp2_with (first | ((with_reducible refine wp_loadMem (nb) ?_ ?_ ?_); rfl; rfl) | ((with_reducible refine wp_loadMem (zb) ?_ ?_ ?_); rfl; rfl))
  (with_reducible refine CW.out.mono ?_); rintro e w8 ⟨⟨sv, rfl, sl⟩, hb⟩
  replace TD := Lib.hid (TD.out.call hb)
  replace low := gCall low hb
  rw [HKN.out, EV.out] at sl
  replace sl := Lib.hid sl
  obtain ⟨A', c', rfl⟩ : ∃ A c, sv = .slice A n c := by obtain ⟨_, A, c, e, _⟩ := sl.out; exact ⟨A, c, e⟩
  clear hb CW
  go_wp2_with fail
  (with_reducible refine (equalWords_yes _ _ _ _ _ TD.out sl.out).mono ?_); rintro e w9 ⟨rfl, hb⟩
  replace low := gCall low hb
  clear hb
  go_wp2_with fail
  go_ret
  exact ⟨rfl, low⟩

theorem walk (v0 v1 v2 : Value) (w : World) (h0 : IsMem v0) (h1 : IsDeeds w v1) (h2 : IsInt v2) :
    Calls Try.prog 4 #[v0, v1, v2] w fun e w' => e = .returned (.bool true) ∧ Below w.heap.size w w' := by
  obtain ⟨l, rfl, hl⟩ := h0
  obtain ⟨r, ds⟩ := h1
  obtain ⟨k, rfl, _⟩ := h2
  by_cases he : allE r = 0
  · by_cases hk : k < 0 ∨ r.length < k
    · exact walk_out l hl v1 r k w ds he hk
    · obtain ⟨i, rfl⟩ : ∃ i : Nat, k = i := ⟨k.toNat, by omega⟩
      exact walk_right l hl v1 r i w ds he (by omega)
  · exact walk_bad l hl v1 r k w ds he

set_option maxRecDepth 100000 in
theorem lifted (os : Os) (started : os.Started) (H : Type) (enc : TypeId × Value → H) :
    ReturnsInHanded {} Try.checked os 4 .any (Rows.atomicCutsSpec.pre6 enc Try.prog Try.f4 Rows.atomicCutsRow.domain false) (Rows.atomicCutsSpec.post enc Try.prog Try.f4 false true false false) := by
  refine returnsInHanded_of_change (C := Try.checked) own started (by kernel_rfl) Try.func4
    (ChangeSpec.witness6 (enc := enc) (C := Try.checked) false ⟨#[], #[memV zeroL, .slice none 0 0, .int .i64 0], []⟩ 8 (by kernel_rfl) (by kernel_rfl) (by kernel_rfl) (by kernel_rfl)) ?_
  intro W base args ds gs before hval0 hW hcnd _
  have hval : ∀ (j : Nat) t v, Try.f4.params[j]? = some t → args[j]? = some v → Value.okWide Try.prog W .any base t v := hval0
  have hW' := hW
  obtain ⟨p, q, hA0, hV, rfl, hfz, hnd⟩ := hW
  have hA : DataW.TrodAll enc Try.prog W 0 (fun _ => true) true Try.f4.params.toList args.toList ds p := hA0
  rw [Try.params4] at hA hval
  obtain ⟨v0, vs0, d0, ds0, p0, q0, hargs, rfl, rfl, h0, r0⟩ := trodAll_cons hA
  obtain ⟨v1, vs1, d1, ds1, p1, q1, rfl, rfl, rfl, h1, r1⟩ := trodAll_cons r0
  obtain ⟨v2, vs2, d2, ds2, p2, q2, rfl, rfl, rfl, h2, r2⟩ := trodAll_cons r1
  obtain ⟨rfl, rfl, rfl⟩ := trodAll_nil r2
  obtain rfl : args = #[v0, v1, v2] := by cases args; simp_all
  have k0 := openMem (hval 0 26 v0 rfl rfl) h0
  have k1 := openDeeds (hval 1 30 v1 rfl rfl) h1
  have k2 := openInt (hval 2 3 v2 rfl rfl) h2
  obtain ⟨rfl, rfl⟩ := trodVars_none hV
  clear hA0 hval0
  refine (walk v0 v1 v2 W k0 k1 k2).mono fun e W' ⟨he, bel⟩ => ⟨_, he, ?_⟩
  exact law_post (by kernel_rfl) (by kernel_rfl) rfl hW' rfl rfl rfl bel

theorem over : Rows.atomicCutsRow.holds Try.pinned (OpenSpec.ofChange Rows.atomicCutsSpec) :=
  OpenClaim.holds_of_wide 4 Try.f4 rfl rfl rfl rfl rfl rfl rfl ⟨rfl, rfl, rfl, rfl, rfl⟩ rfl rfl rfl rfl rfl (by kernel_rfl) Try.func4 (by kernel_rfl)
    (of_decide_eq_true (by kernel_rfl)) (by unfold Func.isWrapper; first | (rw [if_pos (by decide +kernel)]; kernel_rfl) | (rw [if_neg (by decide +kernel)]; exact ⟨rfl, rfl⟩))
    (fun os started H enc _ => lifted os started H enc)

/-- The statement. -/
theorem atomicCuts_holds : Rows.AtomicCutsSaid := over
end Go.Proofs.Ytofjmjjdhflddaa.atomicCuts
namespace Go.Proofs.Ytofjmjjdhflddaa
theorem atomicCuts_holds : Rows.AtomicCutsSaid := atomicCuts.atomicCuts_holds
#print axioms atomicCuts_holds
end Go.Proofs.Ytofjmjjdhflddaa
