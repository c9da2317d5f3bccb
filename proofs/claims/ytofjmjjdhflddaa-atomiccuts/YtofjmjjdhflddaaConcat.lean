/-
Proved: what slices.Grow of a nil slice and slices.Concat of two slices of words return; neither changes anything that was there. Conditions: at most 400 words in all, and each of the two lies at a block's start.
-/
import Derived.Test.YtofjmjjdhflddaaAtomic2
import Derived.Lib.AppendZeros
namespace Go.Proofs.Ytofjmjjdhflddaa
open Go.ChangeShapes Go.WideShapes Go.ChangeAt Go.RowKit Go.Joins

set_option maxHeartbeats 1000000 in
theorem growWords (n : Nat) (hn : n ≤ 400) (w : World) : Calls Try.prog 24 #[.slice none 0 0, .int .i64 n] w fun e w' =>
    (∃ v, e = .returned v ∧ w'.ownsRow w.heap.size 22 1 v 0 []) ∧ Below w.heap.size w w' := by
  by_cases h0 : n = 0
  · subst h0
    go_enter Try.func24, Try.ntmps24
    go_wp2_with fail
    go_ret
    exact ⟨⟨_, rfl, World.ownsRow_nil _ _ _ _⟩, Below.refl _ _⟩
  · obtain ⟨i0, hi, hz0, hz1, hz2⟩ := info_parts info_word
    have hr : ∀ ty, (Builtin.append_ #[34, 3] ty #[.slice none 0 0, .int .i64 n]).run Try.prog w = _ := fun ty =>
      Lib.run_append_nil_zeros w 34 3 ty 22 i0 (.int .u64 0) .i64 .i64 Try.underlying34 Try.underlying3 hi hz0 n (by omega) (by omega) (by omega) (by rw [hz2]; omega)
    have HR := Lib.hid hr
    have g1 : n ≤ grownCap w n 0 22 := grownCap_ge w _ _ _
    have g2 := grownCap_le_maxLen w n 0 22 (by unfold maxLen; omega)
    have hs : (Builtin.zeroCells (Value.int .u64 0).cells n ++ Builtin.zeroCells (Value.int .u64 0).cells (grownCap w n 0 22 - n)).size = grownCap w n 0 22 * 1 := by
      rw [Array.size_append, size_zeroCells, size_zeroCells]
      show n * 1 + (_ - n) * 1 = _
      omega
    generalize grownCap w n 0 22 = G at *
    generalize Builtin.zeroCells (Value.int .u64 0).cells n ++ Builtin.zeroCells (Value.int .u64 0).cells (G - n) = cs at *
    have O := Lib.hid (World.ownsRow_made (base := w.heap.size) (e := 22) (size := 1) w.drew cs G (Nat.le_refl _) g2 hs)
    have n0 : 0 < (n : Int) := by omega
    unfold maxLen at g2
    clear hi hz0 hz1 hz2 hr hs h0
    go_enter Try.func24, Try.ntmps24
    go_wp2_with (at_builtin; refine Lib.wpList_append_run _ rfl _ _ _ _ rfl _ _ rfl rfl _ _ (HR.out _) ?_)
    go_ret
    exact ⟨⟨_, rfl, O.out⟩, gAlloc (Below.refl _ _).drew _⟩

theorem Sl.start {w w' : World} {b n c : Nat} {xs : List Value} (h : Sl w w.heap.size 1 (.slice (some ⟨b, 0, none⟩) n c) n xs) (low : Below w.heap.size w w') : ∀ j u, xs[j]? = some u → w'.cell? ((⟨b, 0, none⟩ : Addr).add j) = some u := by
  intro j u hu
  obtain ⟨hl, A, c', e, _, _, h3⟩ := h
  have hj := (List.getElem?_eq_some_iff.1 hu).1
  obtain ⟨b', o', e', hb, hc⟩ := h3 (by omega)
  simp only [Value.slice.injEq] at e
  obtain ⟨rfl, -, -⟩ := e
  cases e'
  have := hc j u hu
  rw [Nat.zero_add] at this
  have ea : (⟨b, 0, none⟩ : Addr).add j = ⟨b, j, none⟩ := by
    cases j with
    | zero => rfl
    | succ k => simp [Addr.add]
  rw [ea]
  exact (low.cell (p := ⟨b, j, none⟩) hb).trans this

set_option maxHeartbeats 2000000 in
theorem concatWords (g : Nat) (s1 s2 : Value) (n1 n2 : Nat) (x1 x2 : List Int) (w : World) (c0 : w.cell? ⟨g, 0, none⟩ = some s1) (c1 : w.cell? ⟨g, 1, none⟩ = some s2) (t1 : Told w s1 n1 x1) (t2 : Told w s2 n2 x2) (hn : n1 + n2 ≤ 400) :
    Calls Try.prog 13 #[.slice (some ⟨g, 0, none⟩) 2 2] w fun e w' =>
      (∃ v, e = .returned v ∧ Sl w' w'.heap.size 1 v (n1 + n2) ((x1 ++ x2).map (Value.int .u64))) ∧ Below w.heap.size w w' := by
  obtain ⟨i0, hi, hz0, hz1, hz2⟩ := info_parts info_word
  have HI := Lib.hid hi
  have HZ := Lib.hid (And.intro hz0 (And.intro hz1 hz2))
  clear hi hz0 hz1 hz2
  have T1 := Lib.hid t1.sl
  have T2 := Lib.hid t2.sl
  obtain ⟨b1, rfl, -⟩ := t1.some
  obtain ⟨b2, rfl, -⟩ := t2.some
  have GW := Lib.hid fun W => growWords (n1 + n2) hn W
  have C0 := Lib.hid c0
  have C1 := Lib.hid c1
  clear t1 t2
  have l1 : (n1 : Int) ≤ 400 := by omega
  have l2 : (n2 : Int) ≤ 400 := by omega
  have l3 : (n1 : Int) + n2 ≤ 400 := by omega
  have l4 : (0 : Int) ≤ n1 := by omega
  have l5 : (0 : Int) ≤ n2 := by omega
  have GC := Lib.hid (show ((n1 + n2 : Nat) : Int) = (n1 : Int) + n2 by omega)
  have low := Below.refl w.heap.size w
  go_enter Try.func13, Try.ntmps13
  go_wp2_with fail
  refine wp_loop_rounds 3 ?_
  iterate 3 (rw [rounds_succ]; go_wp2_with fail)
  rw [← GC.out]
  (with_reducible refine (GW.out _).mono ?_); rintro e w2 ⟨⟨v, rfl, own⟩, hb⟩
  have hg := World.block_lt_of_cell? _ _ C0.out
  have d0 := (hb.cell hg).trans C0.out
  have d1 := (hb.cell (p := ⟨g, 1, none⟩) hg).trans C1.out
  replace low := gCall low hb
  have nw1 := T1.out.start low
  have NW1 := Lib.hid nw1
  have LW1 := Lib.hid T1.out.1
  clear c0 c1 nw1 hb
  go_wp2_with fail
  refine wp_loop_rounds 3 ?_
  rw [rounds_succ]
  go_wp2_with (at_builtin; refine wpList_append_own _ rfl _ _ 34 rfl w.heap.size 22 i0 (.int .u64 0) 1 8 Try.underlying34 HI.out HZ.out.1 HZ.out.2.1 HZ.out.2.2 rfl (by decide) _ _ _ rfl own ⟨b1, 0, none⟩ n1 n1 _ rfl LW1.out NW1.out ?c2 ?c3 ?c4 ?c5 ?_)
  case c2 => intro u hu; obtain ⟨_, _, rfl⟩ := List.mem_map.1 hu; rfl
  case c3 => unfold maxLen; omega
  case c4 => omega
  case c5 => exact low.size
  intro v3 w3 own3 grow3 _
  have e1 := (World.cell?_of_block (grow3.block g (by have := low.size; omega) (fun e => by have := own.lt _ e.symm; omega))).trans d1
  have low3 := low.grown grow3 low.size (fun k e => (own.lt k e).1)
  have NW2 := Lib.hid (T2.out.start low3)
  have LW2 := Lib.hid T2.out.1
  clear d0 d1 own grow3
  go_wp2_with fail
  rw [rounds_succ]
  go_wp2_with (at_builtin; refine wpList_append_own _ rfl _ _ 34 rfl w.heap.size 22 i0 (.int .u64 0) 1 8 Try.underlying34 HI.out HZ.out.1 HZ.out.2.1 HZ.out.2.2 rfl (by decide) _ _ _ rfl own3 ⟨b2, 0, none⟩ n2 n2 _ rfl LW2.out NW2.out ?c2 ?c3 ?c4 ?c5 ?_)
  case c2 => intro u hu; obtain ⟨_, _, rfl⟩ := List.mem_map.1 hu; rfl
  case c3 => unfold maxLen; omega
  case c4 => omega
  case c5 => exact low3.size
  intro v4 w4 own4 grow4 _
  have low4 := low3.grown grow4 low3.size (fun k e => (own3.lt k e).1)
  clear own3 grow4 e1
  go_wp2_with fail
  rw [rounds_succ]
  go_wp2_with fail
  go_ret
  refine ⟨⟨_, rfl, ?_⟩, low4⟩
  rw [← List.map_append] at own4
  exact Sl.ofOwn own4
end Go.Proofs.Ytofjmjjdhflddaa
