/-
Proved: words for a slice of slices of ways; what the function 'same' of the statement WorldOwn returns where the ways that were kept are those of the world; it changes nothing that was there. No other condition.
-/
import Derived.Test.YtahoadfofleacaaWaysEqual
import Derived.Test.YtahoadfofleacaaJoined2
namespace Go.Proofs.Ytahoadfofleacaa
open Go.ChangeShapes Go.WideShapes Go.ChangeAt Go.RowKit Go.Joins

/-- The ways of all sets, one after the other. -/
def rowsL (css : List (List St)) : List (List Wy) := css.flatMap fun ss => ss.map (·.l)
/-- How many sets the first j caches have. -/
def rbN (css : List (List St)) (j : Nat) : Nat := (rowsL (css.take j)).length
theorem rbN_zero (css : List (List St)) : rbN css 0 = 0 := by simp [rbN, rowsL]
theorem rowsL_succ {css : List (List St)} {j : Nat} {ss : List St} (h : css[j]? = some ss) : rowsL (css.take (j + 1)) = rowsL (css.take j) ++ ss.map (·.l) := by
  obtain ⟨hj, rfl⟩ := List.getElem?_eq_some_iff.1 h
  unfold rowsL
  rw [List.take_succ_eq_append_getElem hj, List.flatMap_append, List.flatMap_singleton]
theorem rbN_succ {css : List (List St)} {j : Nat} {ss : List St} (h : css[j]? = some ss) : rbN css (j + 1) = rbN css j + ss.length := by
  unfold rbN
  rw [rowsL_succ h, List.length_append, List.length_map]
theorem rowsL_at {css : List (List St)} {j q : Nat} {ss : List St} {t : St} (h : css[j]? = some ss) (hq : ss[q]? = some t) : (rowsL css)[rbN css j + q]? = some t.l := by
  have e : rowsL css = rowsL (css.take (j + 1)) ++ rowsL (css.drop (j + 1)) := by
    unfold rowsL
    rw [← List.flatMap_append, List.take_append_drop]
  have hlt := st_lt hq
  rw [e, rowsL_succ h, List.append_assoc]
  unfold rbN
  rw [List.getElem?_append_right (by omega), Nat.add_sub_cancel_left, List.getElem?_append_left (by rw [List.length_map]; exact hlt), List.getElem?_map, hq]
  rfl

/-- The variable in block 'g' is a slice that holds these slices of ways. -/
structure Bs (w : World) (g : Nat) (ls : List (List Wy)) : Prop where
  ex : ∃ A c, w.cell? ⟨g, 0, none⟩ = some (.slice A ls.length c) ∧ ls.length ≤ c ∧ c ≤ maxLen ∧ (0 < ls.length → ∃ b o, A = some ⟨b, o, none⟩ ∧ b < w.heap.size ∧ ∀ (k : Nat) l, ls[k]? = some l → ∃ A' c', w.cell? ⟨b, o + k, none⟩ = some (.slice A' l.length c') ∧ Ws w (.slice A' l.length c') l)
theorem Bs.call {w w' : World} {g : Nat} {ls : List (List Wy)} (h : Bs w g ls) (hb : Below w.heap.size w w') : Bs w' g ls := by
  obtain ⟨A, c, h0, h1, h2, h3⟩ := h
  refine ⟨A, c, (hb.cell (block_lt_of_cell h0)).trans h0, h1, h2, fun h => ?_⟩
  obtain ⟨b, o, e, hlt, hl⟩ := h3 h
  refine ⟨b, o, e, Nat.lt_of_lt_of_le hlt hb.size, fun k l hk => ?_⟩
  obtain ⟨A', c', k1, k2⟩ := hl k l hk
  exact ⟨A', c', (hb.cell (p := ⟨b, o + k, none⟩) hlt).trans k1, k2.call hb⟩

set_option maxRecDepth 10000 in
set_option maxHeartbeats 1000000 in
theorem same_yes (gw gb : Nat) (v : Value) (css : List (List St)) (w : World) (h : Ks w v css) (hv : w.cell? ⟨gw, 0, none⟩ = some v) (hs : Bs w gb (rowsL css)) (hn : (rowsL css).length ≤ 1048576) :
    Calls Try.prog 24 #[.pointer (some ⟨gw, 0, none⟩), .pointer (some ⟨gb, 0, none⟩)] w fun e w' => e = .returned (.bool true) ∧ Below w.heap.size w w' := by
  obtain ⟨A, cp, rfl, h1, h2, h3⟩ := h
  obtain ⟨B, cb, s0, s1, s2, s3⟩ := hs
  have H3 := Lib.hid h3
  have S3 := Lib.hid s3
  have S0 := Lib.hid s0
  unfold maxLen at h2 s2
  have HN := Lib.hid hn
  clear h3 s3 hn
  have low := Below.refl w.heap.size w
  go_enter Try.func24, Try.ntmps24
  go_wp2_with fail
  clear s0
  go_loopw [3, 11] (fun kk a wr => ∃ j : Nat, j ≤ css.length ∧ a = .int .i64 j ∧ kk = .int .i64 (rbN css j) ∧ Below w.heap.size w wr) (fun _ a _ => css.length - (intOf a).toNat)
  case atStart => exact ⟨0, Nat.zero_le _, rfl, by rw [rbN_zero]; rfl, low⟩
  case round =>
    clear low
    obtain ⟨j, hj, rfl, rfl, low⟩ := hrel
    by_cases hlt : j < css.length
    · obtain ⟨b1, o1, rfl, hb1, hc1⟩ := H3.out (by omega)
      have hx : css[j]? = some css[j] := List.getElem?_eq_getElem _
      generalize css[j] = ss at hx
      obtain ⟨A', c', ce, cs⟩ := hc1 j ss hx
      replace ce := (low.cell (p := ⟨b1, o1 + j, none⟩) hb1).trans ce
      obtain ⟨A2, c2, e2, t1, t2, t3⟩ := cs
      simp only [Value.slice.injEq, true_and] at e2
      obtain ⟨rfl, rfl⟩ := e2
      have T3 := Lib.hid t3
      have HX := Lib.hid hx
      have RS := Lib.hid (rbN_succ hx)
      unfold maxLen at t2
      have k0 : (0 : Int) ≤ j := by omega
      have k1 : (j : Int) < css.length := by omega
      clear hx hc1 t3
      go_wp2_with fail
      clear ce
      go_loopw [3, 17] (fun kk a wx => ∃ q : Nat, q ≤ ss.length ∧ a = .int .i64 q ∧ kk = .int .i64 ((rbN css j + q : Nat) : Int) ∧ Below w.heap.size w wx) (fun _ a _ => ss.length - (intOf a).toNat)
      case atStart => exact ⟨0, Nat.zero_le _, rfl, rfl, low⟩
      case round =>
        clear low
        obtain ⟨q, hq, rfl, rfl, low⟩ := hrel
        by_cases hlt2 : q < ss.length
        · obtain ⟨b2, o2, rfl, hb2, hc2⟩ := T3.out (by omega)
          have hz : ss[q]? = some ss[q] := List.getElem?_eq_getElem _
          generalize ss[q] = z at hz
          obtain ⟨A3, c3, ra, ws⟩ := hc2.at_ q z hz
          obtain ⟨d0, d1, d2, d3⟩ := rowAt_of ra hb2 low
          have hr := rowsL_at HX.out hz
          have rl : rbN css j + q < (rowsL css).length := (List.getElem?_eq_some_iff.1 hr).1
          obtain ⟨b4, o4, e4, hb4, hc4⟩ := S3.out (by omega)
          obtain ⟨A5, c5, k5, w5⟩ := hc4 _ _ hr
          replace k5 := (low.cell (p := ⟨b4, o4 + (rbN css j + q), none⟩) hb4).trans k5
          have m0 := (low.cell (p := ⟨gb, 0, none⟩) (block_lt_of_cell S0.out)).trans S0.out
          rw [e4] at m0
          have EQ := Lib.hid (fun w1 (hb : Below w.heap.size w w1) => equalWays_yes (.slice A3 z.l.length c3) (.slice A5 z.l.length c5) z.l w1 (ws.call hb) (w5.call hb))
          generalize hk : rbN css j + q = k at *
          have HK := Lib.hid hk
          clear hk
          have q0 : (0 : Int) ≤ q := by omega
          have q1 : (q : Int) < ss.length := by omega
          have q2 : (0 : Int) ≤ k := by omega
          have q3 : (k : Int) < (rowsL css).length := by omega
          have q4 : k + 1 ≤ 1048576 := by have := HN.out; omega
          clear hz hc2 hc4 ra ws w5 hr e4
          have zb := boxNext low 78 (rowA (.slice A3 z.l.length c3) z.a z.b z.c)
          replace low := gAlloc low (.cells (rowA (.slice A3 z.l.length c3) z.a z.b z.c) 78)
          try simp only [World.size_alloc] at zb
          simp only [rowA] at zb
          have z0 := zb.at_ 0 rfl
          have m1 := allocC (.cells (rowA (.slice A3 z.l.length c3) z.a z.b z.c) 78) m0
          have k6 := allocC (.cells (rowA (.slice A3 z.l.length c3) z.a z.b z.c) 78) k5
          go_wp2_with fail
          refine wp_region_noPanic ?_
          refine wp_region_held_drew (S := fun w' => w'.cell? ⟨wr.heap.size, 0, none⟩ = some (.slice A3 z.l.length c3) ∧ w'.cell? ⟨gb, 0, none⟩ = some (.slice (some ⟨b4, o4, none⟩) (rowsL css).length cb) ∧ w'.cell? ⟨b4, o4 + k, none⟩ = some (.slice A5 z.l.length c5)) (by kernel_rfl) ⟨drewC z0, drewC m1, drewC k6⟩ (fun hHeld => ?_)
          replace low := low.drew
          clear z0 m0 m1 k5 k6 d0 d1 d2 d3
          refine takeFirst (i := 0) (v := ?_) rfl (by kernel_rfl) (by kernel_rfl) (by kernel_rfl) (by rfl) (fun _ _ _ h => h) ?_ (by assumption) ?_
          rotate_left
          · (intro w hSw; go_simp; try (with_reducible rfl))
          try simp only [Act.put, List.setIfInBounds_toArray, List.set_cons_zero, List.set_cons_succ]
          refine takeFirst (i := 1) (v := ?_) rfl (by kernel_rfl) (by kernel_rfl) (by kernel_rfl) (by rfl) (fun _ _ _ h => h) ?_ (by assumption) ?_
          rotate_left
          · (intro w hSw; go_simp; try (with_reducible rfl))
          try simp only [Act.put, List.setIfInBounds_toArray, List.set_cons_zero, List.set_cons_succ]
          refine takeFirst (i := 2) (v := ?_) rfl (by kernel_rfl) (by kernel_rfl) (by kernel_rfl) (by rfl) (fun _ _ _ h => h) ?_ (by assumption) ?_
          rotate_left
          · (intro w hSw; go_simp; try (with_reducible rfl))
          try simp only [Act.put, List.setIfInBounds_toArray, List.set_cons_zero, List.set_cons_succ]
          refine takeFirst (i := 3) (v := ?_) rfl (by kernel_rfl) (by kernel_rfl) (by kernel_rfl) (by rfl) (fun _ _ _ h => h) ?_ (by assumption) ?_
          rotate_left
          · (intro w hSw; go_simp; try (with_reducible rfl))
          try simp only [Act.put, List.setIfInBounds_toArray, List.set_cons_zero, List.set_cons_succ]
          refine takeFirst (i := 4) (v := ?_) rfl (by kernel_rfl) (by kernel_rfl) (by kernel_rfl) (by rfl) (fun _ _ _ h => h) ?_ (by assumption) ?_
          rotate_left
          · (intro w hSw; go_simp; try (with_reducible rfl))
          try simp only [Act.put, List.setIfInBounds_toArray, List.set_cons_zero, List.set_cons_succ]
          refine takeFirst (i := 5) (v := ?_) rfl (by kernel_rfl) (by kernel_rfl) (by kernel_rfl) (by rfl) (fun _ _ _ h => h) ?_ (by assumption) ?_
          rotate_left
          · (intro w hSw; go_simp; try (with_reducible rfl))
          try simp only [Act.put, List.setIfInBounds_toArray, List.set_cons_zero, List.set_cons_succ]
          refine stepNext (i := 6) (by kernel_rfl) rfl (by rfl) (fun K hK => ?_)
          go_simp
          (with_reducible refine (EQ.out _ low).mono ?_); rintro e w6 ⟨rfl, hb⟩
          replace low := gCall low hb
          obtain ⟨hh0, hh1, hh2⟩ := hHeld
          have hHeld := (And.intro (callC hb hh0) (And.intro (callC hb hh1) (callC hb hh2)))
          clear hh0 hh1 hh2
          clear hb EQ zb
          refine hK.out _ _ hHeld ?_
          clear hK K
          try simp only [Act.put]
          try simp only [List.setIfInBounds_toArray, List.set_cons_zero, List.set_cons_succ]
          refine takeFirst (i := 7) (v := ?_) rfl (by kernel_rfl) (by kernel_rfl) (by kernel_rfl) (by rfl) (fun _ _ _ h => h) ?_ (by assumption) ?_
          rotate_left
          · (intro w hSw; go_simp; try (with_reducible rfl))
          try simp only [Act.put, List.setIfInBounds_toArray, List.set_cons_zero, List.set_cons_succ]
          refine wpAnyH_done (by kernel_rfl) ?_ _
          refine NoPanic.normal ?_
          clear hHeld
          go_wp2_with fail
          go_roundw
          case rel => exact ⟨q + 1, by omega, by go_num, by rw [show rbN css j + (q + 1) = k + 1 by have := HK.out; omega]; go_num, low⟩
          case measure => simp [intOf]; omega
        · obtain rfl : q = ss.length := by omega
          go_wp2_with fail
          go_roundw
          case rel => exact ⟨j + 1, by omega, by go_num, by rw [RS.out], low⟩
          case measure => simp [intOf]; omega
    · go_wp2_with fail
      go_ret
      exact ⟨rfl, low⟩
end Go.Proofs.Ytahoadfofleacaa
