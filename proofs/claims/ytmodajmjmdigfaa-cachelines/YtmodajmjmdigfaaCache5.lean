/-
Proved: what New and Lines of package cache return, for every configuration and every cache that can be read; they change nothing that was there. No condition.
-/
import Derived.Test.YtmodajmjmdigfaaCache3
namespace Go.Proofs.Ytmodajmjmdigfaa
open Go.ChangeShapes Go.WideShapes Go.ChangeAt Go.RowKit Go.Joins

/-- Has the way a line? All such ways of a cache. -/
def heldB (x : Wy) : Bool := x.st != 0
def allW (ss : List St) : List Wy := ss.flatMap fun t => t.l.filter heldB

theorem waysC_append (l l' : List Wy) : waysC (l ++ l') = waysC l ++ waysC l' := by simp [waysC]
theorem waysC_single (x : Wy) : waysC [x] = x.cells := by simp [waysC]

theorem allW_succ {ss : List St} {k : Nat} {t : St} (h : ss[k]? = some t) : allW (ss.take (k + 1)) = allW (ss.take k) ++ t.l.filter heldB := by
  obtain ⟨hk, rfl⟩ := List.getElem?_eq_some_iff.1 h
  rw [List.take_succ_eq_append_getElem hk]
  simp only [allW, List.flatMap_append, List.flatMap_cons, List.flatMap_nil, List.append_nil]

theorem filter_succ {l : List Wy} {p : Wy → Bool} {j : Nat} {x : Wy} (h : l[j]? = some x) : (l.take (j + 1)).filter p = (l.take j).filter p ++ if p x = true then [x] else [] := by
  obtain ⟨hk, rfl⟩ := List.getElem?_eq_some_iff.1 h
  rw [List.take_succ_eq_append_getElem hk, List.filter_append]
  cases h : p l[j] <;> simp [h]

/-- A slice of empty ways that was just made. -/
def newW (n : Nat) : Array Value := madeCells zeroA (n * 6)
theorem newW_in {n q r : Nat} (h : q < n) (hr : r < 6) : (newW n)[q * 6 + r]? = wy0.cells[r]? := by
  unfold newW
  rw [Array.getElem?_eq_getElem (by rw [size_madeCells]; omega)]
  match r, hr with
  | 0, _ | 1, _ | 2, _ | 3, _ | 4, _ | 5, _ => simp [madeCells, Wy.cells, wy0]
theorem Own.new (w : World) (n : Nat) (hn : n ≤ maxLen) : Own (w.alloc (.cells (newW n) 32)) w.heap.size (.slice (some ⟨w.heap.size, 0, none⟩) n n) (List.replicate n wy0) := by
  refine ⟨n, newW n, by rw [List.length_replicate], Box.new w _ _, by rw [List.length_replicate]; exact Nat.le_refl _, hn, size_madeCells _ _, fun q y hq r hr => ?_⟩
  have hlt : q < n := by have := set_lt hq; simpa using this
  rw [List.getElem?_replicate, if_pos hlt] at hq
  cases hq
  exact newW_in hlt hr
theorem make_ways (n : Nat) (hn : n ≤ 4) (w : World) : (Instr.makeSlice 22 (.int .i64 n) (.int .i64 n)).run Try.prog w = .ok (.slice (some ⟨w.heap.size, 0, none⟩) n n) (w.alloc (.cells (newW n) 32)) := by
  obtain ⟨i0, hi, hz0, hz1, hz2⟩ := info_parts info_way
  have := run_make w 22 32 i0 wy0.val Try.underlying22 hi hz0 .i64 .i64 n n (by omega) (Int.le_refl _) (by rw [hz2]; omega) (by omega)
  rw [this, hz1]
  simp [newW, Value.cells, wy0]

/-- The ways of one set are stored anew. -/
theorem OwnC.ways {w : World} {B C g : Nat} {v u : Value} {L : List St} {k : Nat} {t : St} {l : List Wy} (own : OwnC w B C g v L) (hk : L[k]? = some t) (fr : Frx w B C g u l) : OwnC (w.setCell ⟨g, k * 4, none⟩ u) B C g v (L.set k ⟨l, t.a, t.b, t.c⟩) := by
  obtain ⟨cap, cur, rfl, hb, h2, h3, h4, h5⟩ := own
  have hlt := st_lt hk
  have st : Stored w g (w.setCell ⟨g, k * 4, none⟩ u) := Stored.cell1 w ⟨g, k * 4, none⟩ u
  refine ⟨cap, _, by rw [List.length_set], hb.set (k * 4) u, by rw [List.length_set]; exact h2, h3, by simpa using h4, fun q z hz => ?_⟩
  by_cases e : q = k
  · subst e
    rw [List.getElem?_set_self hlt] at hz
    cases hz
    obtain ⟨_, ⟨_, k1, k2, k3⟩, _⟩ := h5 q t hk
    refine ⟨u, ⟨?_, ?_, ?_, ?_⟩, fr.stored st⟩
    · simp [Array.getElem?_setIfInBounds]; omega
    · rw [Array.getElem?_setIfInBounds, if_neg (by omega)]; exact k1
    · rw [Array.getElem?_setIfInBounds, if_neg (by omega)]; exact k2
    · rw [Array.getElem?_setIfInBounds, if_neg (by omega)]; exact k3
  · rw [List.getElem?_set_ne (fun h => e h.symm)] at hz
    obtain ⟨u', ⟨k0, k1, k2, k3⟩, k4⟩ := h5 q z hz
    refine ⟨u', ⟨?_, ?_, ?_, ?_⟩, k4.stored st⟩
    · rw [Array.getElem?_setIfInBounds, if_neg (by omega)]; exact k0
    · rw [Array.getElem?_setIfInBounds, if_neg (by omega)]; exact k1
    · rw [Array.getElem?_setIfInBounds, if_neg (by omega)]; exact k2
    · rw [Array.getElem?_setIfInBounds, if_neg (by omega)]; exact k3

theorem OwnC.first {w : World} {B C g : Nat} {v : Value} {L : List St} {k : Nat} (own : OwnC w B C g v L) (hk : k < L.length) : ∃ u, w.cell? ⟨g, k * 4, none⟩ = some u ∧ w.frozen? ⟨g, k * 4, none⟩ = false := by
  obtain ⟨cap, cur, rfl, hb, h2, h3, h4, h5⟩ := own
  obtain ⟨u, ⟨k0, _⟩, _⟩ := h5 k _ (List.getElem?_eq_getElem hk)
  exact ⟨u, (hb.cell _).trans k0, hb.frozen _⟩

/-- A new cache: so many sets of so many empty ways. -/
def emptyC (p q : Nat) : List St := List.replicate p ⟨List.replicate q wy0, false, false, false⟩
theorem emptyC_at {p q k : Nat} (h : k < p) : (emptyC p q)[k]? = some ⟨List.replicate q wy0, false, false, false⟩ := by
  unfold emptyC; rw [List.getElem?_replicate, if_pos h]
theorem partL_at {L : List St} {k : Nat} (h : k < L.length) : (partL L k)[k]? = some st0 := by
  unfold partL
  rw [List.getElem?_append_right (by rw [List.length_take]; omega), List.length_take, Nat.min_eq_left (Nat.le_of_lt h), Nat.sub_self, List.getElem?_replicate, if_pos (by omega)]

theorem cacheNew_bad (n s y b : Int) (w : World) (he : cfgB n s y b = false) :
    Calls Try.prog 14 #[cfg n s y b] w fun e w' => e = .returned (.tuple #[.slice none 0 0, .int .i64 4]) ∧ Below w.heap.size w w' := by
  have low := Below.refl w.heap.size w
  have cb := boxNext low 44 (cfgA n s y b)
  replace low := gAlloc low (.cells (cfgA n s y b) 44)
  try simp only [World.size_alloc] at cb
  have C := Lib.hid fun w => check_bad n s y b w he
  clear he
  go_enter Try.func14, Try.ntmps14
  go_wp2_with fail
  (with_reducible refine (C.out _).mono ?_); rintro e w1 ⟨rfl, hb⟩
  replace low := gCall low hb
  clear hb
  go_wp2_with fail
  go_ret2
  exact ⟨rfl, low⟩

set_option maxRecDepth 10000 in
set_option maxHeartbeats 2000000 in
theorem cacheNew_ok (n b : Int) (p q : Nat) (w : World) (he : cfgB n p q b = true) :
    Calls Try.prog 14 #[cfg n p q b] w fun e w' => (∃ A c, e = .returned (.tuple #[.slice A p c, .int .i64 0]) ∧ CFr w' w.heap.size w'.heap.size (.slice A p c) (emptyC p q)) ∧ Below w.heap.size w w' := by
  have C := Lib.hid fun w => check_ok n p q b w he
  have hp4 : p ≤ 4 ∧ q ≤ 4 := by have := cfgB_iff.1 he; omega
  have MS := fun w => make_sets p hp4.1 w
  have MW := fun w => make_ways q hp4.2 w
  obtain ⟨L, hL⟩ : ∃ L, L = emptyC p q := ⟨_, rfl⟩
  rw [← hL]
  have LL := Lib.hid (show L.length = p by rw [hL]; unfold emptyC; rw [List.length_replicate])
  have LA := Lib.hid (fun k (hk : k < p) => show L[k]? = some ⟨List.replicate q wy0, false, false, false⟩ by rw [hL]; exact emptyC_at hk)
  clear he hL
  have low := Below.refl w.heap.size w
  have cb := boxNext low 44 (cfgA n p q b)
  replace low := gAlloc low (.cells (cfgA n p q b) 44)
  try simp only [World.size_alloc] at cb
  go_enter Try.func14, Try.ntmps14
  go_wp2_with fail
  (with_reducible refine (C.out _).mono ?_); rintro e w1 ⟨rfl, hb⟩
  replace cb := cb.call hb
  replace low := gCall low hb
  clear hb
  clear C
  have z1 : w.heap.size < w1.heap.size := cb.lt
  have own := OwnC.new w1 w.heap.size (w1.heap.size + 1) p (by unfold maxLen; omega)
  rw [show List.replicate p st0 = partL L 0 by rw [partL_zero, LL.out]] at own
  have cb_1 := cb.at_ 1 rfl
  have cb_2 := cb.at_ 2 rfl
  replace cb := cb.alloc (.cells (newC p) 26)
  replace low := gAlloc low (.cells (newC p) 26)
  have OW := Lib.hid own
  clear own
  go_wp2_with fail
  go_loopw [17] (fun i wr => ∃ j : Nat, j ≤ p ∧ i = .int .i64 j ∧ Hid (OwnC wr w.heap.size wr.heap.size w1.heap.size (.slice (some ⟨w1.heap.size, 0, none⟩) p p) (partL L j)) ∧
      Box wr w.heap.size 44 (cfgA n p q b) ∧ Below w.heap.size w wr) (fun i _ => p - (intOf i).toNat)
  case atStart => exact ⟨0, Nat.zero_le _, rfl, Lib.hid (OW.out.more (Nat.le_refl _) (by simp)), cb, low⟩
  case round =>
    clear cb_1 cb_2
    clear cb low OW
    obtain ⟨j, hj, rfl, own, cb, low⟩ := hrel
    simp only [cfgA] at cb
    by_cases hlt : j < p
    · have k0 : (0 : Int) ≤ j := by omega
      have k1 : (j : Int) < p := by omega
      have zr : w1.heap.size < wr.heap.size := own.out.lt
      have hjL : j < (partL L j).length := by rw [partL_length (by rw [LL.out]; omega), LL.out]; exact hlt
      have cb_2 := cb.at_ 2 rfl
      have own2 := own.out.alloc (.cells (newW q) 32)
      obtain ⟨u, cu, fu⟩ := own2.first hjL
      have fr := (fr_of_own (B := w1.heap.size + 1) (Own.new wr q (by unfold maxLen; omega)) (by omega))
      have own3 := (own2.more (B' := w.heap.size) (C' := wr.heap.size + 1) (Nat.le_refl _) (by omega)).ways (partL_at (by rw [LL.out]; exact hlt)) (.inr (fr.more (Nat.le_refl _) (by simp)))
      have e3 : (partL L j).set j ⟨List.replicate q wy0, st0.a, st0.b, st0.c⟩ = partL L (j + 1) := partL_succ (LA.out j hlt)
      rw [e3, World.setCell_alloc_past _ _ _ _ zr] at own3
      have OW := Lib.hid own3
      clear own own2 own3 fr e3 hjL
      go_wp2_with fail
      go_roundw
      case rel => exact ⟨j + 1, by omega, by go_num, Lib.hid (OW.out.more (Nat.le_refl _) (by simp)), (cb.far (by simp; omega) _).alloc _, gAlloc (gSet low (by dsimp only; omega) _) _⟩
      case measure => simp [intOf]; omega
    · obtain rfl : j = p := by omega
      have OW := own.out
      rw [← LL.out, partL_all, LL.out] at OW
      have CF := Lib.hid (show CFr wr w.heap.size wr.heap.size _ L from .inr ⟨_, by omega, OW.lt, OW⟩)
      clear OW own
      go_wp2_with fail
      go_ret2
      exact ⟨⟨_, _, rfl, CF.out⟩, low⟩

theorem cacheLines_bad (n s y b : Int) (v : Value) (ss : List St) (w : World) (h : Cs w v ss) (he : cacheE n s y b ss ≠ 0) :
    Calls Try.prog 19 #[cfg n s y b, v] w fun e w' => e = .returned (.tuple #[.slice none 0 0, .int .i64 (cacheE n s y b ss)]) ∧ Below w.heap.size w w' := by
  have low := Below.refl w.heap.size w
  have cb := boxNext low 44 (cfgA n s y b)
  replace low := gAlloc low (.cells (cfgA n s y b) 44)
  replace h := h.alloc (.cells (cfgA n s y b) 44)
  try simp only [World.size_alloc] at cb
  have C := Lib.hid fun w hw => cacheCheck_any n s y b v ss w hw
  generalize cacheE n s y b ss = E at C he ⊢
  have he' : (E != 0) = true := by simpa using he
  clear he
  go_enter Try.func19, Try.ntmps19
  go_wp2_with fail
  (with_reducible refine (C.out _ h).mono ?_); rintro e w1 ⟨rfl, hb⟩
  replace low := gCall low hb
  clear hb
  go_wp2_with fail
  go_ret2
  exact ⟨rfl, low⟩

set_option maxRecDepth 10000 in
set_option maxHeartbeats 4000000 in
theorem cacheLines_ok (n s y b : Int) (v : Value) (ss : List St) (w : World) (h : Cs w v ss) (he : cacheE n s y b ss = 0) :
    Calls Try.prog 19 #[cfg n s y b, v] w fun e w' => (∃ A c, e = .returned (.tuple #[.slice A (allW ss).length c, .int .i64 0]) ∧ Fr w' w.heap.size w'.heap.size (.slice A (allW ss).length c) (allW ss)) ∧ Below w.heap.size w w' := by
  have good := goodC_iff.1 he
  have SM := Lib.hid good.small
  have sl : 0 < ss.length := by have := good.2.1; have := cfgB_iff.1 good.1; omega
  have C := Lib.hid fun w hw => cacheCheck_any n s y b v ss w hw
  rw [he] at C
  have s4 := SM.out.1
  have H := Lib.hid h
  obtain ⟨A, cp, rfl, h1, h2, h3⟩ := h
  obtain ⟨bb, o, rfl, hb, hc⟩ := h3 sl
  have HC := Lib.hid hc
  unfold maxLen at h2
  obtain ⟨i0, hi, hz0, hz1, hz2⟩ := info_parts info_way
  have HI := Lib.hid hi
  have HZ := Lib.hid (And.intro hz0 (And.intro hz1 hz2))
  clear h3 hc good he hi hz0 hz1 hz2
  have low := Below.refl w.heap.size w
  have cb := boxNext low 44 (cfgA n s y b)
  replace low := gAlloc low (.cells (cfgA n s y b) 44)
  try simp only [World.size_alloc] at cb
  go_enter Try.func19, Try.ntmps19
  go_wp2_with fail
  (with_reducible refine (C.out _ (H.out.alloc _)).mono ?_); rintro e w1 ⟨rfl, hb⟩
  replace low := gCall low hb
  clear hb
  clear C H
  go_wp2_with fail
  go_loopw [7, 20] (fun s i wr => ∃ k m : Nat, k ≤ ss.length ∧ i = .int .i64 k ∧ m ≤ k * 4 ∧ Hid (m = (allW (ss.take k)).length) ∧ wr.ownsRow w.heap.size 32 6 s m (waysC (allW (ss.take k))) ∧ Below w.heap.size w wr) (fun _ i _ => ss.length - (intOf i).toNat)
  case atStart => exact ⟨0, 0, Nat.zero_le _, rfl, Nat.zero_le _, Lib.hid rfl, World.ownsRow_nil _ _ _ _, low⟩
  case round =>
    clear low
    obtain ⟨k, m, hk, rfl, mk, hm, own, low⟩ := hrel
    obtain ⟨As, cs, rfl⟩ := own_shape own
    by_cases hlt : k < ss.length
    · have hx : ss[k]? = some ss[k] := List.getElem?_eq_getElem _
      generalize ss[k] = t at hx
      obtain ⟨A', c', ra, ws⟩ := HC.out.at_ k t hx
      obtain ⟨c0, c1, c2, c3⟩ := rowAt_of ra hb low
      obtain ⟨t0, t4⟩ := SM.out.2 k t hx
      obtain ⟨hl, A2, cx, e2, g1, g2, g3⟩ := ws
      cases e2
      obtain ⟨b2, o2, rfl, hb2, hc2⟩ := g3 t0
      have HC2 := Lib.hid hc2
      have AS := Lib.hid (allW_succ hx)
      have k0 : (0 : Int) ≤ k := by omega
      have k1 : (k : Int) < ss.length := by omega
      unfold maxLen at g2
      clear hx ra hl g3 hc2
      have rb := boxNext low 26 (rowA (.slice (some ⟨b2, o2, none⟩) t.l.length c') t.a t.b t.c)
      replace low := gAlloc low (.cells (rowA (.slice (some ⟨b2, o2, none⟩) t.l.length c') t.a t.b t.c) 26)
      try simp only [World.size_alloc] at rb
      simp only [rowA] at rb
      replace own := own.alloc (.cells (rowA (.slice (some ⟨b2, o2, none⟩) t.l.length c') t.a t.b t.c) 26)
      have rb_0 := rb.at_ 0 rfl
      go_wp2_with fail
      go_loopw [7, 27] (fun s i wx => ∃ j p : Nat, j ≤ t.l.length ∧ i = .int .i64 j ∧ p ≤ k * 4 + j ∧ Hid (p = (allW (ss.take k) ++ (t.l.take j).filter heldB).length) ∧ wx.ownsRow w.heap.size 32 6 s p (waysC (allW (ss.take k) ++ (t.l.take j).filter heldB)) ∧ Below w.heap.size w wx) (fun _ i _ => t.l.length - (intOf i).toNat)
      case atStart => exact ⟨0, m, Nat.zero_le _, rfl, by omega, Lib.hid (by simpa using hm.out), by simpa using own, low⟩
      case round =>
        clear rb_0
        clear own low rb
        obtain ⟨j, p, hj, rfl, pk, hp, own, low⟩ := hrel
        obtain ⟨Ap, cq, rfl⟩ := own_shape own
        by_cases hlt2 : j < t.l.length
        · have hz : t.l[j]? = some t.l[j] := List.getElem?_eq_getElem _
          generalize t.l[j] = z at hz
          obtain ⟨x0, x1, x2, x3, x4, x5⟩ := wayAt_of HC2.out hb2 low hz
          have FSuc := Lib.hid (filter_succ (p := heldB) hz)
          clear hz
          have j0 : (0 : Int) ≤ j := by omega
          have j1 : (j : Int) < t.l.length := by omega
          have lz := low.size
          have zb := boxNext low 32 z.arr
          replace low := gAlloc low (.cells z.arr 32)
          try simp only [World.size_alloc] at zb
          simp only [Wy.arr] at zb
          replace own := own.alloc (.cells z.arr 32)
          have zb_0 := zb.at_ 0 rfl
          have zb_1 := zb.at_ 1 rfl
          have zb_2 := zb.at_ 2 rfl
          have zb_3 := zb.at_ 3 rfl
          have zb_4 := zb.at_ 4 rfl
          have zb_5 := zb.at_ 5 rfl
          cases hzs : (z.st != 0)
          · replace FSuc := FSuc.out
            rw [if_neg (by unfold heldB; rw [hzs]; decide), List.append_nil] at FSuc
            replace FSuc := Lib.hid FSuc
            go_wp2_with fail
            go_roundw
            case rel => exact ⟨j + 1, p, by omega, by go_num, by omega, Lib.hid (by rw [FSuc.out]; exact hp.out), by rw [FSuc.out]; exact own, low⟩
            case measure => simp [intOf]; omega
          · replace FSuc := FSuc.out
            rw [if_pos (by unfold heldB; exact hzs)] at FSuc
            replace FSuc := Lib.hid FSuc
            go_wp2_with (at_builtin; refine wpList_append_own _ rfl _ _ 22 rfl w.heap.size 32 i0 wy0.val 6 48 Try.underlying22 HI.out HZ.out.1 HZ.out.2.1 HZ.out.2.2 rfl (by decide) _ _ _ rfl (own.alloc _) ⟨wr.heap.size + 1, 0, none⟩ 1 1 z.cells rfl rfl ?e1 (waysC_one1 z) ?e3 ?e4 ?e5 ?_)
            case e1 => exact fun q u hq => new_cells _ _ z _ q u (by simp) hq
            case e3 => unfold maxLen; omega
            case e4 => omega
            case e5 => simp; omega
            intro v4 w4 own4 grow4 _
            obtain ⟨A4, c4', rfl⟩ := own_shape own4
            replace low : Below w.heap.size w w4 := (gAlloc low (.cells z.arr 32)).grown grow4 (by simp; omega) (fun g e => by have := own.lt _ e; omega)
            clear zb_0 zb_1 zb_2 zb_3 zb_4 zb_5
            clear grow4 own x0 x1 x2 x3 x4 x5 zb
            rw [← waysC_single, ← waysC_append, List.append_assoc, ← FSuc.out] at own4
            go_wp2_with fail
            go_roundw
            case rel => exact ⟨j + 1, p + 1, by omega, by go_num, by omega, Lib.hid (by rw [FSuc.out, ← List.append_assoc, List.length_append, ← hp.out]; rfl), own4, low⟩
            case measure => simp [intOf]; omega
        · obtain rfl : j = t.l.length := by omega
          have hp' := hp.out
          rw [List.take_length, ← AS.out] at hp' own
          have HP := Lib.hid hp'
          clear hp hp'
          go_wp2_with fail
          go_roundw
          case rel => exact ⟨k + 1, p, by omega, by go_num, by omega, HP, own, low⟩
          case measure => simp [intOf]; omega
    · obtain rfl : k = ss.length := by omega
      have hm' := hm.out
      rw [List.take_length] at hm' own
      clear hm
      subst hm'
      have FR := Lib.hid (fr_own own rfl rfl)
      clear own
      go_wp2_with fail
      go_ret2
      exact ⟨⟨_, _, rfl, FR.out⟩, low⟩
end Go.Proofs.Ytmodajmjmdigfaa
