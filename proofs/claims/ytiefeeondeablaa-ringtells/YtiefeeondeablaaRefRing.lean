/-
Proved: what the reference's Under, SameRing (of rings that hold the same), RingFault and RingPut return, for every ring that can be read; they change nothing that was there. No other condition.
-/
import Derived.Test.YtiefeeondeablaaRingFacts
import Derived.Test.YtiefeeondeablaaRefLow
namespace Go.Proofs.Ytiefeeondeablaa
open Go.ChangeShapes Go.WideShapes Go.ChangeAt Go.RowKit Go.Joins

theorem eqSlot (x y : Sw) (w : World) : (Op.equalIn 10000 38 x.val y.val).run Try.prog w = .ok (eqS x y) w := by
  obtain ⟨a, b, c, d⟩ := x
  obtain ⟨a', b', c', d'⟩ := y
  have := equal_flat (P := Try.prog) 2 38 [.int .i64, .bool, .int .i64, .int .i64] (by kernel_rfl) (by kernel_rfl) 10000 (by omega) w [.int .i64 a, .bool b, .int .i64 c, .int .i64 d] [.int .i64 a', .bool b', .int .i64 c', .int .i64 d'] (.agg #[.int .i64 a, .bool b, .int .i64 c, .int .i64 d]) (.agg #[.int .i64 a', .bool b', .int .i64 c', .int .i64 d'])
    ⟨⟨a, rfl⟩, ⟨b, rfl⟩, ⟨c, rfl⟩, ⟨d, rfl⟩, trivial⟩ ⟨⟨a', rfl⟩, ⟨b', rfl⟩, ⟨c', rfl⟩, ⟨d', rfl⟩, trivial⟩ (by simp [ValIs, Try.underlying38]) (by simp [ValIs, Try.underlying38])
  simpa [eqCells, scEq, eqS] using this

theorem refUnder_any (v : Value) (l : List Sw) (node : Int) (w : World) (h : Rs w v l) :
    Calls Try.prog 16 #[v, .int .i64 node] w fun e w' => e = .returned (.bool (filB l node)) ∧ Below w.heap.size w w' := by
  obtain ⟨_, A, c, rfl, h1, h2, h3⟩ := h
  have H3 := Lib.hid h3
  unfold maxLen at h2
  generalize hF : filB l node = F
  have HF := Lib.hid hF
  clear h3 hF
  have low := Below.refl w.heap.size w
  go_enter Try.func16, Try.ntmps16
  go_wp2_with fail
  go_loopw [9] (fun i wr => ∃ k : Nat, k ≤ l.length ∧ i = .int .i64 k ∧ Hid (∀ q y, q < k → l[q]? = some y → filS node y = false) ∧ Below w.heap.size w wr) (fun i _ => l.length - (intOf i).toNat)
  case atStart => exact ⟨0, Nat.zero_le _, rfl, Lib.hid fun q y hq => absurd hq (by omega), low⟩
  case round =>
    clear low
    obtain ⟨k, hk, rfl, hno, low⟩ := hrel
    by_cases hlt : k < l.length
    · obtain ⟨bb, o, rfl, hb, hc⟩ := H3.out (by omega)
      have hx : l[k]? = some l[k] := List.getElem?_eq_getElem _
      generalize l[k] = x at hx
      obtain ⟨c0, c1, c2, c3⟩ := slotAt_of hc hb low hx
      have HX := Lib.hid hx
      obtain ⟨a, f, d, t⟩ := x
      simp only at c0 c1 c2 c3
      have k0 : (0 : Int) ≤ k := by omega
      have k1 : (k : Int) < l.length := by omega
      clear hx hc
      cases f
      · have N := Lib.hid (uptoS hno.out HX.out (show filS node ⟨a, false, d, t⟩ = false from rfl))
        go_wp2_with fail
        go_roundw
        case rel => exact ⟨k + 1, by omega, by go_num, N, gAlloc low _⟩
        case measure => simp [intOf]; omega
      · by_cases hd : d = node
        · subst hd
          obtain rfl : true = F := by
            rw [← HF.out]
            exact (filB_iff.2 ⟨_, List.mem_of_getElem? HX.out, rfl, rfl⟩).symm
          go_wp2_with fail
          go_ret
          exact ⟨rfl, gAlloc low _⟩
        · have hd' : (d == node) = false := by simpa using hd
          have N := Lib.hid (uptoS hno.out HX.out (show filS node ⟨a, true, d, t⟩ = false by unfold filS; simp only [Bool.true_and]; exact hd'))
          clear hd
          go_wp2_with fail
          go_roundw
          case rel => exact ⟨k + 1, by omega, by go_num, N, gAlloc low _⟩
          case measure => simp [intOf]; omega
    · obtain rfl : false = F := by
        rw [← HF.out]
        unfold filB
        refine (List.any_eq_false.2 fun x hx => ?_).symm
        obtain ⟨q, hq, rfl⟩ := List.getElem_of_mem hx
        rw [hno.out q _ (by omega) (List.getElem?_eq_getElem hq)]
        decide
      go_wp2_with fail
      go_ret
      exact ⟨rfl, low⟩

set_option maxHeartbeats 1000000 in
theorem sameRing_yes (v v' : Value) (l : List Sw) (w : World) (h : Rs w v l) (h' : Rs w v' l) :
    Calls Try.prog 11 #[v, v'] w fun e w' => e = .returned (.bool true) ∧ Below w.heap.size w w' := by
  obtain ⟨hl, A, cp, rfl, h1, h2, h3⟩ := h
  obtain ⟨hl', A', cp', rfl, h1', h2', h3'⟩ := h'
  have H3 := Lib.hid h3
  have H3' := Lib.hid h3'
  unfold maxLen at h2 h2'
  clear h3 h3' hl hl'
  have low := Below.refl w.heap.size w
  go_enter Try.func11, Try.ntmps11
  go_wp2_with fail
  go_loopw [13] (fun i wr => ∃ j : Nat, j ≤ l.length ∧ i = .int .i64 j ∧ Below w.heap.size w wr) (fun i _ => l.length - (intOf i).toNat)
  case atStart => exact ⟨0, Nat.zero_le _, rfl, low⟩
  case round =>
    clear low
    obtain ⟨j, hj, rfl, low⟩ := hrel
    by_cases hlt : j < l.length
    · obtain ⟨b1, o1, rfl, hb1, hc1⟩ := H3.out (by omega)
      obtain ⟨b2, o2, rfl, hb2, hc2⟩ := H3'.out (by omega)
      have hx : l[j]? = some l[j] := List.getElem?_eq_getElem _
      generalize l[j] = x at hx
      obtain ⟨p0, p1, p2, p3⟩ := slotAt_of hc1 hb1 low hx
      obtain ⟨q0, q1, q2, q3⟩ := slotAt_of hc2 hb2 low hx
      have eqx := fun w => eqSlot x x w
      rw [(eqS_iff x x).2 rfl] at eqx
      simp only [Sw.val] at eqx
      have k0 : (0 : Int) ≤ j := by omega
      have k1 : (j : Int) < l.length := by omega
      clear hx hc1 hc2
      go_wp2_with fail
      refine wp_region_noPanic ?_
      refine wp_region_held_drew (S := fun w' => w'.cell? ⟨b1, o1 + j * 4, none⟩ = some (.int .i64 x.pl) ∧ w'.cell? ⟨b1, o1 + j * 4 + 1, none⟩ = some (.bool x.fu) ∧ w'.cell? ⟨b1, o1 + j * 4 + 2, none⟩ = some (.int .i64 x.nd) ∧ w'.cell? ⟨b1, o1 + j * 4 + 3, none⟩ = some (.int .i64 x.wt) ∧ w'.cell? ⟨b2, o2 + j * 4, none⟩ = some (.int .i64 x.pl) ∧ w'.cell? ⟨b2, o2 + j * 4 + 1, none⟩ = some (.bool x.fu) ∧ w'.cell? ⟨b2, o2 + j * 4 + 2, none⟩ = some (.int .i64 x.nd) ∧ w'.cell? ⟨b2, o2 + j * 4 + 3, none⟩ = some (.int .i64 x.wt)) (by kernel_rfl) ⟨drewC p0, drewC p1, drewC p2, drewC p3, drewC q0, drewC q1, drewC q2, drewC q3⟩ (fun hHeld => ?_)
      refine takeFirst (i := 0) (v := ?_) rfl (by kernel_rfl) (by kernel_rfl) (by kernel_rfl) (by rfl) (fun _ _ _ h => h) ?_ (by assumption) ?_
      rotate_left
      · (intro w hSw; go_simp; try (with_reducible rfl))
      try simp only [Act.put, List.setIfInBounds_toArray, List.set_cons_zero, List.set_cons_succ]
      refine takeFirst (i := 1) (v := ?_) rfl (by kernel_rfl) (by kernel_rfl) (by kernel_rfl) (by rfl) (fun _ _ _ h => h) ?_ (by assumption) ?_
      rotate_left
      · (intro w hSw; go_simp; try (with_reducible rfl))
      try simp only [Act.put, List.setIfInBounds_toArray, List.set_cons_zero, List.set_cons_succ]
      refine takeFirst (i := 2) (v := ?_) rfl (by kernel_rfl) (by kernel_rfl) (by kernel_rfl) (by rfl) (fun _ _ _ h => h) ?_ (by assumption) ?_
      rotate_left
      · (intro w hSw; go_simp; try (with_reducible rfl))
      try simp only [Act.put, List.setIfInBounds_toArray, List.set_cons_zero, List.set_cons_succ]
      refine takeFirst (i := 3) (v := ?_) rfl (by kernel_rfl) (by kernel_rfl) (by kernel_rfl) (by rfl) (fun _ _ _ h => h) ?_ (by assumption) ?_
      rotate_left
      · (intro w hSw; go_simp; try (with_reducible rfl))
      try simp only [Act.put, List.setIfInBounds_toArray, List.set_cons_zero, List.set_cons_succ]
      refine takeFirst (i := 4) (v := ?_) rfl (by kernel_rfl) (by kernel_rfl) (by kernel_rfl) (by rfl) (fun _ _ _ h => h) ?_ (by assumption) ?_
      rotate_left
      · (intro w hSw; go_simp; try (with_reducible rfl))
      try simp only [Act.put, List.setIfInBounds_toArray, List.set_cons_zero, List.set_cons_succ]
      refine takeFirst (i := 5) (v := ?_) rfl (by kernel_rfl) (by kernel_rfl) (by kernel_rfl) (by rfl) (fun _ _ _ h => h) ?_ (by assumption) ?_
      rotate_left
      · (intro w hSw; go_simp; try (with_reducible rfl))
      try simp only [Act.put, List.setIfInBounds_toArray, List.set_cons_zero, List.set_cons_succ]
      refine takeFirst (i := 6) (v := ?_) rfl (by kernel_rfl) (by kernel_rfl) (by kernel_rfl) (by rfl) (fun _ _ _ h => h) ?_ (by assumption) ?_
      rotate_left
      · (intro w hSw; go_simp; try (with_reducible rfl))
      try simp only [Act.put, List.setIfInBounds_toArray, List.set_cons_zero, List.set_cons_succ]
      refine takeFirst (i := 7) (v := ?_) rfl (by kernel_rfl) (by kernel_rfl) (by kernel_rfl) (by rfl) (fun _ _ _ h => h) ?_ (by assumption) ?_
      rotate_left
      · (intro w hSw; go_simp; try (with_reducible rfl))
      try simp only [Act.put, List.setIfInBounds_toArray, List.set_cons_zero, List.set_cons_succ]
      refine takeFirst (i := 8) (v := ?_) rfl (by kernel_rfl) (by kernel_rfl) (by kernel_rfl) (by rfl) (fun _ _ _ h => h) ?_ (by assumption) ?_
      rotate_left
      · (intro w hSw; go_simp; try (with_reducible rfl))
      try simp only [Act.put, List.setIfInBounds_toArray, List.set_cons_zero, List.set_cons_succ]
      refine wpAnyH_done (by kernel_rfl) ?_ _
      refine NoPanic.normal ?_
      replace low := low.drew
      clear hHeld p0 p1 p2 p3 q0 q1 q2 q3
      go_wp2_with fail
      go_roundw
      case rel => exact ⟨j + 1, by omega, by go_num, low⟩
      case measure => simp [intOf]; omega
    · obtain rfl : j = l.length := by omega
      go_wp2_with fail
      go_ret
      exact ⟨rfl, low⟩

set_option maxHeartbeats 2000000 in
theorem refPut_any (v : Value) (l : List Sw) (node t : Int) (w : World) (h : Rs w v l) (h0 : 0 < l.length) (h8 : l.length ≤ 8) :
    Calls Try.prog 17 #[v, .int .i64 node, .int .i64 t] w fun e w' =>
      (∃ v', e = .returned (.tuple #[v', .bool (l.any (freS node))]) ∧ Rs w' v' (putR l node t)) ∧ Below w.heap.size w w' := by
  obtain ⟨i0, hi, hz0, hz1, hz2⟩ := info_parts info_slot
  have HI := Lib.hid hi
  have HZ := Lib.hid (And.intro hz0 (And.intro hz1 hz2))
  obtain ⟨hl, A, c, rfl, h1, h2, h3⟩ := h
  obtain ⟨b, o, rfl, hb, hc⟩ := h3 h0
  have HC := Lib.hid hc
  have HL := Lib.hid hl
  have IC := Lib.hid (idxS_cases (freS node) l)
  unfold putR
  rw [← idxS_any]
  generalize hF : idxS (freS node) l = F at *
  have HF := Lib.hid hF
  clear hc hl h3 hi hz0 hz1 hz2 hF
  have low := Below.refl w.heap.size w
  go_enter Try.func17, Try.ntmps17
  go_wp2_with (at_builtin; refine wpList_append_own _ rfl _ _ 25 rfl w.heap.size 38 i0 (.agg slot0) 4 32 Try.underlying25 HI.out HZ.out.1 HZ.out.2.1 HZ.out.2.2 rfl (by decide) _ 0 [] rfl (World.ownsRow_nil _ _ _ _) ⟨b, o, none⟩ l.length c (ringC l) rfl HL.out ?c1 (ringC_one l) ?c3 ?c4 ?c5 ?_)
  case c1 =>
    intro j u hu
    have k := HC.out j u hu
    have e : (⟨b, o, none⟩ : Addr).add j = ⟨b, o + j, none⟩ := by cases j <;> simp [Addr.add]
    rw [e]
    exact k
  case c3 => unfold maxLen; omega
  case c4 => omega
  case c5 => exact Nat.le_refl _
  intro v' w1 own grow _
  replace low := low.grown grow (Nat.le_refl _) (fun g e => by simp [Value.ownBlock] at e)
  try simp only [Nat.zero_add, List.nil_append] at own
  obtain ⟨o1, o2⟩ := own
  rcases o2 with ⟨_, o2⟩ | ⟨g, cap, cur, rfl, hg, hh, hn, hm, hs, ht⟩
  · omega
  have O := Lib.hid (show OwnS w1 g (.slice (some ⟨g, 0, none⟩) l.length cap) l from ⟨cap, cur, rfl, hh, hn, hm, hs, fun q y h r hr => ownS_at ht h r hr⟩)
  clear hh hs ht o1 grow
  go_wp2_with fail
  go_loopw [15] (fun i wr => ∃ k : Nat, k ≤ l.length ∧ i = .int .i64 k ∧ Hid (∀ q y, q < k → l[q]? = some y → freS node y = false) ∧ Hid (OwnS wr g (.slice (some ⟨g, 0, none⟩) l.length cap) l) ∧ Below w.heap.size w wr) (fun i _ => l.length - (intOf i).toNat)
  case atStart => exact ⟨0, Nat.zero_le _, rfl, Lib.hid fun q y hq => absurd hq (by omega), O, low⟩
  case round =>
    clear low O
    obtain ⟨k, hk, rfl, hno, O, low⟩ := hrel
    by_cases hlt : k < l.length
    · have hx : l[k]? = some l[k] := List.getElem?_eq_getElem _
      generalize l[k] = x at hx
      obtain ⟨c0, c1, c2, c3⟩ : SlotAt wr g (0 + k * 4) x := by
        obtain ⟨_, A2, c2, e2, _, _, h3⟩ := O.out.rs
        obtain ⟨b2, o2, e3, hb2, hc2⟩ := h3 (by omega)
        subst e3
        simp only [Value.slice.injEq, Option.some.injEq, Addr.mk.injEq] at e2
        obtain ⟨⟨rfl, rfl, _⟩, _⟩ := e2
        exact slotAt_of hc2 hb2 (Below.refl _ _) hx
      have HX := Lib.hid hx
      have HK := Lib.hid hlt
      obtain ⟨a, f, d, s⟩ := x
      simp only [Nat.zero_add] at c0 c1 c2 c3
      have k0 : (0 : Int) ≤ k := by omega
      have k1 : (k : Int) < l.length := by omega
      clear hx
      cases f
      · by_cases ha : a = node
        · subst ha
          have E := Lib.hid (idxS_some hno.out HX.out (show freS a ⟨a, false, d, s⟩ = true by simp [freS]))
          obtain rfl : (k : Int) = F := by rw [← HF.out, E.out]
          have k2 : ((k : Int) < 0) = False := by simp
          have O2 := Lib.hid (O.out.alloc (.cells #[.int .i64 a, .bool false, .int .i64 d, .int .i64 s] 38))
          have low2 := gAlloc low (.cells #[.int .i64 a, .bool false, .int .i64 d, .int .i64 s] 38)
          clear IC
          go_wp2_with (refine wpList_put_slot rfl (.tmp 35) (.tmp 34) rfl g _ l k ⟨a, true, a, t⟩ O2.out HK.out rfl rfl ?_)
          intro w7 own st
          have low3 := st.low low2 (by omega)
          have R := Lib.hid own.rs
          clear own st low low2 O O2
          go_wp2_with fail
          go_ret2
          exact ⟨⟨_, rfl, by simpa using R.out⟩, low3⟩
        · have ha' : (a == node) = false := by simpa using ha
          have N := Lib.hid (uptoS hno.out HX.out (show freS node ⟨a, false, d, s⟩ = false by unfold freS; simp only [Bool.not_false, Bool.true_and]; exact ha'))
          have O2 := Lib.hid (O.out.alloc (.cells #[.int .i64 a, .bool false, .int .i64 d, .int .i64 s] 38))
          clear ha O
          go_wp2_with fail
          go_roundw
          case rel => exact ⟨k + 1, by omega, by go_num, N, O2, gAlloc low _⟩
          case measure => simp [intOf]; omega
      · have N := Lib.hid (uptoS hno.out HX.out (show freS node ⟨a, true, d, s⟩ = false from rfl))
        have O2 := Lib.hid (O.out.alloc (.cells #[.int .i64 a, .bool true, .int .i64 d, .int .i64 s] 38))
        clear O
        go_wp2_with fail
        go_roundw
        case rel => exact ⟨k + 1, by omega, by go_num, N, O2, gAlloc low _⟩
        case measure => simp [intOf]; omega
    · have E := idxS_none (p := freS node) (l := l) fun q y hq => hno.out q y (by have := (List.getElem?_eq_some_iff.1 hq).1; omega) hq
      obtain rfl : -1 = F := by rw [← HF.out, E]
      have R := Lib.hid O.out.rs
      clear IC E O
      go_wp2_with fail
      go_ret2
      exact ⟨⟨_, rfl, by simpa using R.out⟩, low⟩
end Go.Proofs.Ytiefeeondeablaa
