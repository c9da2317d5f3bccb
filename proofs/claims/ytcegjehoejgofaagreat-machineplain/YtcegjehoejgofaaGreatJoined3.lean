/-
Proved: what the texts below say at the head of each. No condition but theirs.
-/
import Derived.Test.YtcegjehoejgofaaGreatJoined2
import Derived.Test.YtcegjehoejgofaaGreatJoined1
import Derived.Deep.WholeRow
import Derived.Laws.MakeOwn
import Derived.Deep.RegionHeld3
/- Cache5: Proved: what New and Lines of package cache return, for every configuration and every cache that can be read; they change nothing that was there. No condition. -/
namespace Go.Proofs.YtcegjehoejgofaaGreat
open Go.ChangeShapes Go.WideShapes Go.ChangeAt Go.RowKit Go.Joins

/-- Has the way a line? All such ways of a cache. -/
def heldB (x : Wy) : Bool := x.st != 0
def allW (ss : List St) : List Wy := ss.flatMap fun t => t.l.filter heldB

theorem waysC_append (l l' : List Wy) : waysC (l ++ l') = waysC l ++ waysC l' := by simp [waysC]
theorem waysC_single (x : Wy) : waysC [x] = x.cells := by simp [waysC]

theorem allW_succ {ss : List St} {k : Nat} {t : St} (h : ss[k]? = some t) : allW (ss.take (k + 1)) = allW (ss.take k) ++ t.l.filter heldB := by
  obtain ⟨hk, rfl⟩ := List.getElem?_eq_some_iff.1 h
  rw [List.take_succ_eq_append_getElem hk]
  simp only [allW, List.flatMap_append, List.flatMap_cons, List.flatMap_nil, List.append_nil]

theorem filter_succ {l : List Wy} {p : Wy → Bool} {j : Nat} {x : Wy} (h : l[j]? = some x) : (l.take (j + 1)).filter p = (l.take j).filter p ++ if p x = true then [x] else [] := by
  obtain ⟨hk, rfl⟩ := List.getElem?_eq_some_iff.1 h
  rw [List.take_succ_eq_append_getElem hk, List.filter_append]
  cases h : p l[j] <;> simp [h]

/-- A slice of empty ways that was just made. -/
def newW (n : Nat) : Array Value := madeCells zeroA (n * 6)
theorem newW_in {n q r : Nat} (h : q < n) (hr : r < 6) : (newW n)[q * 6 + r]? = wy0.cells[r]? := by
  unfold newW
  rw [Array.getElem?_eq_getElem (by rw [size_madeCells]; omega)]
  match r, hr with
  | 0, _ | 1, _ | 2, _ | 3, _ | 4, _ | 5, _ => simp [madeCells, Wy.cells, wy0]
theorem Own.new (w : World) (n : Nat) (hn : n ≤ maxLen) : Own (w.alloc (.cells (newW n) 114)) w.heap.size (.slice (some ⟨w.heap.size, 0, none⟩) n n) (List.replicate n wy0) := by
  refine ⟨n, newW n, by rw [List.length_replicate], Box.new w _ _, by rw [List.length_replicate]; exact Nat.le_refl _, hn, size_madeCells _ _, fun q y hq r hr => ?_⟩
  have hlt : q < n := by have := set_lt hq; simpa using this
  rw [List.getElem?_replicate, if_pos hlt] at hq
  cases hq
  exact newW_in hlt hr
theorem make_ways (n : Nat) (hn : n ≤ 4) (w : World) : (Instr.makeSlice 165 (.int .i64 n) (.int .i64 n)).run Tryz.prog w = .ok (.slice (some ⟨w.heap.size, 0, none⟩) n n) (w.alloc (.cells (newW n) 114)) := by
  obtain ⟨i0, hi, hz0, hz1, hz2⟩ := info_parts info_way
  have := run_make w 165 114 i0 wy0.val Tryz.underlying165 hi hz0 .i64 .i64 n n (by omega) (Int.le_refl _) (by rw [hz2]; omega) (by omega)
  rw [this, hz1]
  simp [newW, Value.cells, wy0]

/-- The ways of one set are stored anew. -/
theorem OwnC.ways {w : World} {B C g : Nat} {v u : Value} {L : List St} {k : Nat} {t : St} {l : List Wy} (own : OwnC w B C g v L) (hk : L[k]? = some t) (fr : Frx w B C g u l) : OwnC (w.setCell ⟨g, k * 4, none⟩ u) B C g v (L.set k ⟨l, t.a, t.b, t.c⟩) := by
  obtain ⟨cap, cur, rfl, hb, h2, h3, h4, h5⟩ := own
  have hlt := st_lt hk
  have st : Stored w g (w.setCell ⟨g, k * 4, none⟩ u) := Stored.cell1 w ⟨g, k * 4, none⟩ u
  refine ⟨cap, _, by rw [List.length_set], hb.set (k * 4) u, by rw [List.length_set]; exact h2, h3, by simpa using h4, fun q z hz => ?_⟩
  by_cases e : q = k
  · subst e
    rw [List.getElem?_set_self hlt] at hz
    cases hz
    obtain ⟨_, ⟨_, k1, k2, k3⟩, _⟩ := h5 q t hk
    refine ⟨u, ⟨?_, ?_, ?_, ?_⟩, fr.stored st⟩
    · simp [Array.getElem?_setIfInBounds]; omega
    · rw [Array.getElem?_setIfInBounds, if_neg (by omega)]; exact k1
    · rw [Array.getElem?_setIfInBounds, if_neg (by omega)]; exact k2
    · rw [Array.getElem?_setIfInBounds, if_neg (by omega)]; exact k3
  · rw [List.getElem?_set_ne (fun h => e h.symm)] at hz
    obtain ⟨u', ⟨k0, k1, k2, k3⟩, k4⟩ := h5 q z hz
    refine ⟨u', ⟨?_, ?_, ?_, ?_⟩, k4.stored st⟩
    · rw [Array.getElem?_setIfInBounds, if_neg (by omega)]; exact k0
    · rw [Array.getElem?_setIfInBounds, if_neg (by omega)]; exact k1
    · rw [Array.getElem?_setIfInBounds, if_neg (by omega)]; exact k2
    · rw [Array.getElem?_setIfInBounds, if_neg (by omega)]; exact k3

theorem OwnC.first {w : World} {B C g : Nat} {v : Value} {L : List St} {k : Nat} (own : OwnC w B C g v L) (hk : k < L.length) : ∃ u, w.cell? ⟨g, k * 4, none⟩ = some u ∧ w.frozen? ⟨g, k * 4, none⟩ = false := by
  obtain ⟨cap, cur, rfl, hb, h2, h3, h4, h5⟩ := own
  obtain ⟨u, ⟨k0, _⟩, _⟩ := h5 k _ (List.getElem?_eq_getElem hk)
  exact ⟨u, (hb.cell _).trans k0, hb.frozen _⟩

/-- A new cache: so many sets of so many empty ways. -/
def emptyC (p q : Nat) : List St := List.replicate p ⟨List.replicate q wy0, false, false, false⟩
theorem emptyC_at {p q k : Nat} (h : k < p) : (emptyC p q)[k]? = some ⟨List.replicate q wy0, false, false, false⟩ := by
  unfold emptyC; rw [List.getElem?_replicate, if_pos h]
theorem partL_at {L : List St} {k : Nat} (h : k < L.length) : (partL L k)[k]? = some st0 := by
  unfold partL
  rw [List.getElem?_append_right (by rw [List.length_take]; omega), List.length_take, Nat.min_eq_left (Nat.le_of_lt h), Nat.sub_self, List.getElem?_replicate, if_pos (by omega)]

set_option maxRecDepth 10000 in
set_option maxHeartbeats 2000000 in
theorem cacheNew_ok (n b : Int) (p q : Nat) (w : World) (he : cfgB n p q b = true) :
    Calls Tryz.prog 73 #[cfg n p q b] w fun e w' => (∃ A c, e = .returned (.tuple #[.slice A p c, .int .i64 0]) ∧ CFr w' w.heap.size w'.heap.size (.slice A p c) (emptyC p q)) ∧ Below w.heap.size w w' := by
  have C := Lib.hid fun w => check_ok n p q b w he
  have hp4 : p ≤ 4 ∧ q ≤ 4 := by have := cfgB_iff.1 he; omega
  have MS := fun w => make_sets p hp4.1 w
  have MW := fun w => make_ways q hp4.2 w
  obtain ⟨L, hL⟩ : ∃ L, L = emptyC p q := ⟨_, rfl⟩
  rw [← hL]
  have LL := Lib.hid (show L.length = p by rw [hL]; unfold emptyC; rw [List.length_replicate])
  have LA := Lib.hid (fun k (hk : k < p) => show L[k]? = some ⟨List.replicate q wy0, false, false, false⟩ by rw [hL]; exact emptyC_at hk)
  clear he hL
  have low := Below.refl w.heap.size w
  have cb := boxNext low 23 (cfgA n p q b)
  replace low := gAlloc low (.cells (cfgA n p q b) 23)
  try simp only [World.size_alloc] at cb
  go_enter Tryz.func73, Tryz.ntmps73
  go_wp2_with fail
  (with_reducible refine (C.out _).mono ?_); rintro e w1 ⟨rfl, hb⟩
  replace cb := cb.call hb
  replace low := gCall low hb
  clear hb
  clear C
  have z1 : w.heap.size < w1.heap.size := cb.lt
  have own := OwnC.new w1 w.heap.size (w1.heap.size + 1) p (by unfold maxLen; omega)
  rw [show List.replicate p st0 = partL L 0 by rw [partL_zero, LL.out]] at own
  have cb_1 := cb.at_ 1 rfl
  have cb_2 := cb.at_ 2 rfl
  replace cb := cb.alloc (.cells (newC p) 193)
  replace low := gAlloc low (.cells (newC p) 193)
  have OW := Lib.hid own
  clear own
  go_wp2_with fail
  go_loopw [17] (fun i wr => ∃ j : Nat, j ≤ p ∧ i = .int .i64 j ∧ Hid (OwnC wr w.heap.size wr.heap.size w1.heap.size (.slice (some ⟨w1.heap.size, 0, none⟩) p p) (partL L j)) ∧
      Box wr w.heap.size 23 (cfgA n p q b) ∧ Below w.heap.size w wr) (fun i _ => p - (intOf i).toNat)
  case atStart => exact ⟨0, Nat.zero_le _, rfl, Lib.hid (OW.out.more (Nat.le_refl _) (by simp)), cb, low⟩
  case round =>
    clear cb_1 cb_2
    clear cb low OW
    obtain ⟨j, hj, rfl, own, cb, low⟩ := hrel
    simp only [cfgA] at cb
    by_cases hlt : j < p
    · have k0 : (0 : Int) ≤ j := by omega
      have k1 : (j : Int) < p := by omega
      have zr : w1.heap.size < wr.heap.size := own.out.lt
      have hjL : j < (partL L j).length := by rw [partL_length (by rw [LL.out]; omega), LL.out]; exact hlt
      have cb_2 := cb.at_ 2 rfl
      have own2 := own.out.alloc (.cells (newW q) 114)
      obtain ⟨u, cu, fu⟩ := own2.first hjL
      have fr := (fr_of_own (B := w1.heap.size + 1) (Own.new wr q (by unfold maxLen; omega)) (by omega))
      have own3 := (own2.more (B' := w.heap.size) (C' := wr.heap.size + 1) (Nat.le_refl _) (by omega)).ways (partL_at (by rw [LL.out]; exact hlt)) (.inr (fr.more (Nat.le_refl _) (by simp)))
      have e3 : (partL L j).set j ⟨List.replicate q wy0, st0.a, st0.b, st0.c⟩ = partL L (j + 1) := partL_succ (LA.out j hlt)
      rw [e3, World.setCell_alloc_past _ _ _ _ zr] at own3
      have OW := Lib.hid own3
      clear own own2 own3 fr e3 hjL
      go_wp2_with fail
      go_roundw
      case rel => exact ⟨j + 1, by omega, by go_num, Lib.hid (OW.out.more (Nat.le_refl _) (by simp)), (cb.far (by simp; omega) _).alloc _, gAlloc (gSet low (by dsimp only; omega) _) _⟩
      case measure => simp [intOf]; omega
    · obtain rfl : j = p := by omega
      have OW := own.out
      rw [← LL.out, partL_all, LL.out] at OW
      have CF := Lib.hid (show CFr wr w.heap.size wr.heap.size _ L from .inr ⟨_, by omega, OW.lt, OW⟩)
      clear OW own
      go_wp2_with fail
      go_ret2
      exact ⟨⟨_, _, rfl, CF.out⟩, low⟩

set_option maxRecDepth 10000 in
set_option maxHeartbeats 4000000 in
theorem cacheLines_ok (n s y b : Int) (v : Value) (ss : List St) (w : World) (h : Cs w v ss) (he : cacheE n s y b ss = 0) :
    Calls Tryz.prog 76 #[cfg n s y b, v] w fun e w' => (∃ A c, e = .returned (.tuple #[.slice A (allW ss).length c, .int .i64 0]) ∧ Fr w' w.heap.size w'.heap.size (.slice A (allW ss).length c) (allW ss)) ∧ Below w.heap.size w w' := by
  have good := goodC_iff.1 he
  have SM := Lib.hid good.small
  have sl : 0 < ss.length := by have := good.2.1; have := cfgB_iff.1 good.1; omega
  have C := Lib.hid fun w hw => cacheCheck_any n s y b v ss w hw
  rw [he] at C
  have s4 := SM.out.1
  have H := Lib.hid h
  obtain ⟨A, cp, rfl, h1, h2, h3⟩ := h
  obtain ⟨bb, o, rfl, hb, hc⟩ := h3 sl
  have HC := Lib.hid hc
  unfold maxLen at h2
  obtain ⟨i0, hi, hz0, hz1, hz2⟩ := info_parts info_way
  have HI := Lib.hid hi
  have HZ := Lib.hid (And.intro hz0 (And.intro hz1 hz2))
  clear h3 hc good he hi hz0 hz1 hz2
  have low := Below.refl w.heap.size w
  have cb := boxNext low 23 (cfgA n s y b)
  replace low := gAlloc low (.cells (cfgA n s y b) 23)
  try simp only [World.size_alloc] at cb
  go_enter Tryz.func76, Tryz.ntmps76
  go_wp2_with fail
  (with_reducible refine (C.out _ (H.out.alloc _)).mono ?_); rintro e w1 ⟨rfl, hb⟩
  replace low := gCall low hb
  clear hb
  clear C H
  go_wp2_with fail
  go_loopw [7, 20] (fun s i wr => ∃ k m : Nat, k ≤ ss.length ∧ i = .int .i64 k ∧ m ≤ k * 4 ∧ Hid (m = (allW (ss.take k)).length) ∧ wr.ownsRow w.heap.size 114 6 s m (waysC (allW (ss.take k))) ∧ Below w.heap.size w wr) (fun _ i _ => ss.length - (intOf i).toNat)
  case atStart => exact ⟨0, 0, Nat.zero_le _, rfl, Nat.zero_le _, Lib.hid rfl, World.ownsRow_nil _ _ _ _, low⟩
  case round =>
    clear low
    obtain ⟨k, m, hk, rfl, mk, hm, own, low⟩ := hrel
    obtain ⟨As, cs, rfl⟩ := own_shape own
    by_cases hlt : k < ss.length
    · have hx : ss[k]? = some ss[k] := List.getElem?_eq_getElem _
      generalize ss[k] = t at hx
      obtain ⟨A', c', ra, ws⟩ := HC.out.at_ k t hx
      obtain ⟨c0, c1, c2, c3⟩ := rowAt_of ra hb low
      obtain ⟨t0, t4⟩ := SM.out.2 k t hx
      obtain ⟨hl, A2, cx, e2, g1, g2, g3⟩ := ws
      cases e2
      obtain ⟨b2, o2, rfl, hb2, hc2⟩ := g3 t0
      have HC2 := Lib.hid hc2
      have AS := Lib.hid (allW_succ hx)
      have k0 : (0 : Int) ≤ k := by omega
      have k1 : (k : Int) < ss.length := by omega
      unfold maxLen at g2
      clear hx ra hl g3 hc2
      have rb := boxNext low 193 (rowA (.slice (some ⟨b2, o2, none⟩) t.l.length c') t.a t.b t.c)
      replace low := gAlloc low (.cells (rowA (.slice (some ⟨b2, o2, none⟩) t.l.length c') t.a t.b t.c) 193)
      try simp only [World.size_alloc] at rb
      simp only [rowA] at rb
      replace own := own.alloc (.cells (rowA (.slice (some ⟨b2, o2, none⟩) t.l.length c') t.a t.b t.c) 193)
      have rb_0 := rb.at_ 0 rfl
      go_wp2_with fail
      go_loopw [7, 27] (fun s i wx => ∃ j p : Nat, j ≤ t.l.length ∧ i = .int .i64 j ∧ p ≤ k * 4 + j ∧ Hid (p = (allW (ss.take k) ++ (t.l.take j).filter heldB).length) ∧ wx.ownsRow w.heap.size 114 6 s p (waysC (allW (ss.take k) ++ (t.l.take j).filter heldB)) ∧ Below w.heap.size w wx) (fun _ i _ => t.l.length - (intOf i).toNat)
      case atStart => exact ⟨0, m, Nat.zero_le _, rfl, by omega, Lib.hid (by simpa using hm.out), by simpa using own, low⟩
      case round =>
        clear rb_0
        clear own low rb
        obtain ⟨j, p, hj, rfl, pk, hp, own, low⟩ := hrel
        obtain ⟨Ap, cq, rfl⟩ := own_shape own
        by_cases hlt2 : j < t.l.length
        · have hz : t.l[j]? = some t.l[j] := List.getElem?_eq_getElem _
          generalize t.l[j] = z at hz
          obtain ⟨x0, x1, x2, x3, x4, x5⟩ := wayAt_of HC2.out hb2 low hz
          have FSuc := Lib.hid (filter_succ (p := heldB) hz)
          clear hz
          have j0 : (0 : Int) ≤ j := by omega
          have j1 : (j : Int) < t.l.length := by omega
          have lz := low.size
          have zb := boxNext low 114 z.arr
          replace low := gAlloc low (.cells z.arr 114)
          try simp only [World.size_alloc] at zb
          simp only [Wy.arr] at zb
          replace own := own.alloc (.cells z.arr 114)
          have zb_0 := zb.at_ 0 rfl
          have zb_1 := zb.at_ 1 rfl
          have zb_2 := zb.at_ 2 rfl
          have zb_3 := zb.at_ 3 rfl
          have zb_4 := zb.at_ 4 rfl
          have zb_5 := zb.at_ 5 rfl
          cases hzs : (z.st != 0)
          · replace FSuc := FSuc.out
            rw [if_neg (by unfold heldB; rw [hzs]; decide), List.append_nil] at FSuc
            replace FSuc := Lib.hid FSuc
            go_wp2_with fail
            go_roundw
            case rel => exact ⟨j + 1, p, by omega, by go_num, by omega, Lib.hid (by rw [FSuc.out]; exact hp.out), by rw [FSuc.out]; exact own, low⟩
            case measure => simp [intOf]; omega
          · replace FSuc := FSuc.out
            rw [if_pos (by unfold heldB; exact hzs)] at FSuc
            replace FSuc := Lib.hid FSuc
            go_wp2_with (at_builtin; refine wpList_append_own _ rfl _ _ 165 rfl w.heap.size 114 i0 wy0.val 6 48 Tryz.underlying165 HI.out HZ.out.1 HZ.out.2.1 HZ.out.2.2 rfl (by decide) _ _ _ rfl (own.alloc _) ⟨wr.heap.size + 1, 0, none⟩ 1 1 z.cells rfl rfl ?e1 (waysC_one1 z) ?e3 ?e4 ?e5 ?_)
            case e1 => exact fun q u hq => new_cells _ _ z _ q u (by simp) hq
            case e3 => unfold maxLen; omega
            case e4 => omega
            case e5 => simp; omega
            intro v4 w4 own4 grow4 _
            obtain ⟨A4, c4', rfl⟩ := own_shape own4
            replace low : Below w.heap.size w w4 := (gAlloc low (.cells z.arr 114)).grown grow4 (by simp; omega) (fun g e => by have := own.lt _ e; omega)
            clear zb_0 zb_1 zb_2 zb_3 zb_4 zb_5
            clear grow4 own x0 x1 x2 x3 x4 x5 zb
            rw [← waysC_single, ← waysC_append, List.append_assoc, ← FSuc.out] at own4
            go_wp2_with fail
            go_roundw
            case rel => exact ⟨j + 1, p + 1, by omega, by go_num, by omega, Lib.hid (by rw [FSuc.out, ← List.append_assoc, List.length_append, ← hp.out]; rfl), own4, low⟩
            case measure => simp [intOf]; omega
        · obtain rfl : j = t.l.length := by omega
          have hp' := hp.out
          rw [List.take_length, ← AS.out] at hp' own
          have HP := Lib.hid hp'
          clear hp hp'
          go_wp2_with fail
          go_roundw
          case rel => exact ⟨k + 1, p, by omega, by go_num, by omega, HP, own, low⟩
          case measure => simp [intOf]; omega
    · obtain rfl : k = ss.length := by omega
      have hm' := hm.out
      rw [List.take_length] at hm' own
      clear hm
      subst hm'
      have FR := Lib.hid (fr_own own rfl rfl)
      clear own
      go_wp2_with fail
      go_ret2
      exact ⟨⟨_, _, rfl, FR.out⟩, low⟩
end Go.Proofs.YtcegjehoejgofaaGreat

/- DeedCopy: Proved: what copyCache and withState of package deed return; they change nothing that was there, and what they return is new. Condition: the cache is right. -/
namespace Go.Proofs.YtcegjehoejgofaaGreat
open Go.ChangeShapes Go.WideShapes Go.ChangeAt Go.RowKit Go.Joins

set_option maxRecDepth 10000 in
set_option maxHeartbeats 1000000 in
theorem copyCache_any (v : Value) (ss : List St) (w : World) (h : Cs w v ss) (h0 : 0 < ss.length) (hn : ss.length ≤ 4) (hl : ∀ (q : Nat) t, ss[q]? = some t → 0 < t.l.length ∧ t.l.length ≤ 4) :
    Calls Tryz.prog 118 #[v] w fun e w' => (e = .returned (.slice (some ⟨w.heap.size, 0, none⟩) ss.length ss.length) ∧ OwnC w' w.heap.size w'.heap.size w.heap.size (.slice (some ⟨w.heap.size, 0, none⟩) ss.length ss.length) ss) ∧ Below w.heap.size w w' := by
  have HL := Lib.hid hl
  obtain ⟨Ah, cp, rfl, h1, h2, h3⟩ := h
  obtain ⟨bb, o, rfl, hb, hc⟩ := h3 h0
  have HC := Lib.hid hc
  have MS := fun w => make_sets ss.length hn w
  unfold maxLen at h2
  clear hl h3 hc
  have low := Below.refl w.heap.size w
  have own := OwnC.new w w.heap.size (w.heap.size + 1) ss.length (by unfold maxLen; omega)
  rw [show List.replicate ss.length st0 = partL ss 0 by rw [partL_zero]] at own
  replace low := gAlloc low (.cells (newC ss.length) 193)
  have OW := Lib.hid own
  clear own
  go_enter Tryz.func118, Tryz.ntmps118
  go_wp2_with fail
  go_loopw [11] (fun i wr => ∃ j : Nat, j ≤ ss.length ∧ i = .int .i64 j ∧ Hid (OwnC wr w.heap.size wr.heap.size w.heap.size (.slice (some ⟨w.heap.size, 0, none⟩) ss.length ss.length) (partL ss j)) ∧ Below w.heap.size w wr) (fun i _ => ss.length - (intOf i).toNat)
  case atStart => exact ⟨0, Nat.zero_le _, rfl, Lib.hid (OW.out.more (Nat.le_refl _) (by simp)), low⟩
  case round =>
    clear low OW
    obtain ⟨j, hj, rfl, own, low⟩ := hrel
    by_cases hlt : j < ss.length
    · have hx : ss[j]? = some ss[j] := List.getElem?_eq_getElem _
      generalize ss[j] = z at hx
      obtain ⟨A', c', ra, ws⟩ := HC.out.at_ j z hx
      obtain ⟨c0, c1, c2, c3⟩ := rowAt_of ra hb low
      replace ws := ws.call low
      obtain ⟨z0, z4⟩ := HL.out j z hx
      have HX := Lib.hid hx
      have jp := Lib.hid (show j < (partL ss j).length by rw [partL_length (by omega)]; omega)
      clear hx ra
      have k0 : (0 : Int) ≤ j := by omega
      have k1 : (j : Int) < ss.length := by omega
      have zr : w.heap.size < wr.heap.size := own.out.lt
      have zb := boxNext low 193 (rowA (.slice A' z.l.length c') z.a z.b z.c)
      replace low := gAlloc low (.cells (rowA (.slice A' z.l.length c') z.a z.b z.c) 193)
      replace ws := ws.alloc (.cells (rowA (.slice A' z.l.length c') z.a z.b z.c) 193)
      try simp only [World.size_alloc] at zb
      simp only [rowA] at zb
      obtain ⟨s0, s1, s2, s3⟩ := zb.rowC
      have CL := Lib.hid fun w hw => clone_any (.slice A' z.l.length c') z.l w hw z0 z4
      go_wp2_with fail
      refine wp_region_noPanic ?_
      refine wp_region_held_drew (S := fun w' => w'.cell? ⟨wr.heap.size, 0, none⟩ = some (.slice A' z.l.length c') ∧ w'.cell? ⟨wr.heap.size, 1, none⟩ = some (.bool z.a) ∧ w'.cell? ⟨wr.heap.size, 2, none⟩ = some (.bool z.b) ∧ w'.cell? ⟨wr.heap.size, 3, none⟩ = some (.bool z.c)) (by kernel_rfl) ⟨drewC s0, drewC s1, drewC s2, drewC s3⟩ (fun hHeld => ?_)
      refine takeFirst (i := 0) (v := ?_) rfl (by kernel_rfl) (by kernel_rfl) (by kernel_rfl) (by rfl) (fun _ _ _ h => h) ?_ (by assumption) ?_
      rotate_left
      · (intro w hSw; go_simp; try (with_reducible rfl))
      try simp only [Act.put, List.setIfInBounds_toArray, List.set_cons_zero, List.set_cons_succ]
      refine takeFirst (i := 1) (v := ?_) rfl (by kernel_rfl) (by kernel_rfl) (by kernel_rfl) (by rfl) (fun _ _ _ h => h) ?_ (by assumption) ?_
      rotate_left
      · (intro w hSw; go_simp; try (with_reducible rfl))
      try simp only [Act.put, List.setIfInBounds_toArray, List.set_cons_zero, List.set_cons_succ]
      refine takeFirst (i := 2) (v := ?_) rfl (by kernel_rfl) (by kernel_rfl) (by kernel_rfl) (by rfl) (fun _ _ _ h => h) ?_ (by assumption) ?_
      rotate_left
      · (intro w hSw; go_simp; try (with_reducible rfl))
      try simp only [Act.put, List.setIfInBounds_toArray, List.set_cons_zero, List.set_cons_succ]
      refine takeFirst (i := 3) (v := ?_) rfl (by kernel_rfl) (by kernel_rfl) (by kernel_rfl) (by rfl) (fun _ _ _ h => h) ?_ (by assumption) ?_
      rotate_left
      · (intro w hSw; go_simp; try (with_reducible rfl))
      try simp only [Act.put, List.setIfInBounds_toArray, List.set_cons_zero, List.set_cons_succ]
      refine takeFirst (i := 5) (v := ?_) rfl (by kernel_rfl) (by kernel_rfl) (by kernel_rfl) (by rfl) (fun _ _ _ h => h) ?_ (by assumption) ?_
      rotate_left
      · (intro w hSw; go_simp; try (with_reducible rfl))
      try simp only [Act.put, List.setIfInBounds_toArray, List.set_cons_zero, List.set_cons_succ]
      refine takeFirst (i := 6) (v := ?_) rfl (by kernel_rfl) (by kernel_rfl) (by kernel_rfl) (by rfl) (fun _ _ _ h => h) ?_ (by assumption) ?_
      rotate_left
      · (intro w hSw; go_simp; try (with_reducible rfl))
      try simp only [Act.put, List.setIfInBounds_toArray, List.set_cons_zero, List.set_cons_succ]
      refine stepNext (i := 4) (by kernel_rfl) rfl (by rfl) (fun K hK => ?_)
      go_simp
      (with_reducible refine (CL.out _ ws.drew).mono ?_); rintro e w2 ⟨v', g', rfl, own', hg', hb2⟩
      have frz := fr_of_own own' hg'
      obtain ⟨Az, cz, rfl⟩ := frz.shape
      have own2 := (own.out.alloc (.cells (rowA (.slice A' z.l.length c') z.a z.b z.c) 193)).drew.call hb2
      have sz2 : wr.heap.size + 1 ≤ w2.heap.size := by have := hb2.size; simpa using this
      simp only [World.size_drew, World.size_alloc] at frz
      replace low := gCall low.drew hb2
      obtain ⟨hh0, hh1, hh2, hh3⟩ := hHeld
      have hHeld := (And.intro (callC hb2 hh0) (And.intro (callC hb2 hh1) (And.intro (callC hb2 hh2) (callC hb2 hh3))))
      clear hh0 hh1 hh2 hh3
      clear hb2 own'
      refine hK.out _ _ hHeld ?_
      clear hK K
      try simp only [Act.put]
      try simp only [List.setIfInBounds_toArray, List.set_cons_zero, List.set_cons_succ]
      refine takeFirst (i := 7) (v := ?_) rfl (by kernel_rfl) (by kernel_rfl) (by kernel_rfl) (by rfl) (fun _ _ _ h => h) ?_ (by assumption) ?_
      rotate_left
      · (intro w hSw; go_simp; try (with_reducible rfl))
      try simp only [Act.put, List.setIfInBounds_toArray, List.set_cons_zero, List.set_cons_succ]
      refine takeFirst (i := 8) (v := ?_) rfl (by kernel_rfl) (by kernel_rfl) (by kernel_rfl) (by rfl) (fun _ _ _ h => h) ?_ (by assumption) ?_
      rotate_left
      · (intro w hSw; go_simp; try (with_reducible rfl))
      try simp only [Act.put, List.setIfInBounds_toArray, List.set_cons_zero, List.set_cons_succ]
      refine stepNext (i := 9) (by kernel_rfl) rfl (by rfl) (fun K hK => ?_)
      refine wp_put_set (.tmp 24) (.tmp 23) rfl w.heap.size w2.heap.size w.heap.size _ (partL ss j) j Az cz z (own2.more (Nat.le_refl _) (by omega)) jp.out (.inr (frz.more (by omega) (Nat.le_refl _))) rfl rfl ?_
      intro w3 own3 st
      rw [partL_succ HX.out] at own3
      replace low := st.low low (by omega)
      have z3 := st.size
      have OW := Lib.hid own3
      obtain ⟨hh0, hh1, hh2, hh3⟩ := hHeld
      have hHeld := (And.intro (st.cell (by dsimp only; omega) hh0) (And.intro (st.cell (by dsimp only; omega) hh1) (And.intro (st.cell (by dsimp only; omega) hh2) (st.cell (by dsimp only; omega) hh3))))
      clear hh0 hh1 hh2 hh3
      clear st own3 own2 frz
      refine hK.out _ _ hHeld ?_
      clear hK K
      try simp only [Act.put]
      try simp only [List.setIfInBounds_toArray, List.set_cons_zero, List.set_cons_succ]
      refine wpAnyH_done (by kernel_rfl) ?_ _
      refine NoPanic.normal ?_
      clear hHeld s0 s1 s2 s3 c0 c1 c2 c3 zb ws
      go_wp2_with fail
      go_roundw
      case rel => exact ⟨j + 1, by omega, by go_num, Lib.hid (OW.out.more (Nat.le_refl _) (by omega)), low⟩
      case measure => simp [intOf]; omega
    · obtain rfl : j = ss.length := by omega
      have OW := own.out
      rw [partL_all] at OW
      have CF := Lib.hid OW
      clear OW own
      go_wp2_with fail
      go_ret
      exact ⟨⟨rfl, CF.out⟩, low⟩

/-- The way with another state. -/
abbrev Wy.as (x : Wy) (s : Int) : Wy := ⟨s, x.ln, x.a, x.b, x.c, x.d⟩

/-- Block 'g' holds the sets, as the array 'cur' has them; their ways are new. -/
structure OwnX (w : World) (B C g : Nat) (cur : Array Value) (ss : List St) : Prop where
  box : Box w g 193 cur
  size : cur.size = ss.length * 4
  sets : ∀ (q : Nat) (t : St), ss[q]? = some t → ∃ u, SetIn cur q u t ∧ Frx w B C g u t.l
section
variable {w w' : World} {B C g : Nat} {cur : Array Value} {ss : List St}
theorem OwnX.call (h : OwnX w B C g cur ss) (hb : Below w.heap.size w w') : OwnX w' B C g cur ss :=
  ⟨h.box.call hb, h.size, fun q t hq => by obtain ⟨u, h1, h2⟩ := h.sets q t hq; exact ⟨u, h1, h2.call hb⟩⟩
theorem OwnX.alloc (h : OwnX w B C g cur ss) (o : Obj) : OwnX (w.alloc o) B C g cur ss := h.call (gAlloc (Below.refl _ _) o)
theorem OwnX.ownC (h : OwnX w B C g cur ss) (hn : ss.length ≤ maxLen) : OwnC w B C g (.slice (some ⟨g, 0, none⟩) ss.length ss.length) ss :=
  ⟨ss.length, cur, rfl, h.box, Nat.le_refl _, hn, h.size, h.sets⟩
theorem OwnC.ownX (h : OwnC w B C g (.slice (some ⟨g, 0, none⟩) ss.length ss.length) ss) : ∃ cur, OwnX w B C g cur ss := by
  obtain ⟨cap, cur, e, h1, h2, h3, h4, h5⟩ := h
  cases e
  exact ⟨cur, h1, h4, h5⟩
/-- Set q's ways lie in one block. -/
theorem OwnX.at_ (h : OwnX w B C g cur ss) {q : Nat} {t : St} (hq : ss[q]? = some t) (h0 : 0 < t.l.length) : ∃ g' cap, SetIn cur q (.slice (some ⟨g', 0, none⟩) t.l.length cap) t ∧ g' ≠ g ∧ (B ≤ g' ∨ g < g') ∧ Own w g' (.slice (some ⟨g', 0, none⟩) t.l.length cap) t.l := by
  obtain ⟨u, h1, h2⟩ := h.sets q t hq
  have key : ∀ B' C', Fr w B' C' u t.l → ∃ g' cap, u = .slice (some ⟨g', 0, none⟩) t.l.length cap ∧ B' ≤ g' ∧ g' < C' ∧ Own w g' u t.l := by
    rintro B' C' (⟨_, e⟩ | ⟨g', hB, hC, own⟩)
    · rw [e] at h0; simp at h0
    · have := own
      obtain ⟨cap, _, e, _⟩ := this
      exact ⟨g', cap, e, hB, hC, own⟩
  rcases h2 with h2 | h2
  · obtain ⟨g', cap, rfl, k1, k2, k3⟩ := key _ _ h2
    exact ⟨g', cap, h1, by omega, .inl k1, k3⟩
  · obtain ⟨g', cap, rfl, k1, k2, k3⟩ := key _ _ h2
    exact ⟨g', cap, h1, by omega, .inr (by omega), k3⟩

theorem Own.state {g' : Nat} {v : Value} {l : List Wy} (h : Own w g' v l) {j : Nat} {x : Wy} (hj : l[j]? = some x) (s : Int) : Own (w.setCell ⟨g', j * 6, none⟩ (.int .i64 s)) g' v (l.set j (x.as s)) := by
  obtain ⟨cap, cur, rfl, hb, hn, hm, hs, ht⟩ := h
  have hk := (List.getElem?_eq_some_iff.1 hj).1
  refine ⟨cap, _, by rw [List.length_set], hb.set (j * 6) (.int .i64 s), by rw [List.length_set]; exact hn, hm, by simpa using hs, fun q y hy r hr6 => ?_⟩
  by_cases e : q = j
  · subst e
    rw [List.getElem?_set_self hk] at hy
    cases hy
    have hsz : q * 6 + 5 < cur.size := by omega
    have := ht q x hj r hr6
    match r, hr6 with
    | 0, _ => simp [Array.getElem?_setIfInBounds, Wy.cells]; omega
    | 1, _ | 2, _ | 3, _ | 4, _ | 5, _ =>
      rw [Array.getElem?_setIfInBounds, if_neg (by omega), this]
      rfl
  · rw [List.getElem?_set_ne (fun h => e h.symm)] at hy
    have := ht q y hy r hr6
    rw [Array.getElem?_setIfInBounds, if_neg (by omega)]
    exact this

theorem Fr.unless {v : Value} {l : List Wy} (h : Fr w B C v l) {g' : Nat} (hne : ∀ v', Own w g' v' l → False) (o : Nat) (u : Value) : Fr (w.setCell ⟨g', o, none⟩ u) B C v l := by
  rcases h with h | ⟨x, hx, hc, own⟩
  · exact .inl h
  · refine .inr ⟨x, hx, hc, own.far ?_ u⟩
    rintro rfl
    exact hne _ own
theorem Frx.unless {v : Value} {l : List Wy} (h : Frx w B C g v l) {g' : Nat} (hne : ∀ v', Own w g' v' l → False) (o : Nat) (u : Value) : Frx (w.setCell ⟨g', o, none⟩ u) B C g v l :=
  h.imp (·.unless hne o u) (·.unless hne o u)

/-- The state of one way is stored anew: no other set has it. -/
theorem OwnX.state (h : OwnX w B C g cur ss) {r j g' cap : Nat} {t : St} {x : Wy} (hr : ss[r]? = some t) (hu : cur[r * 4]? = some (.slice (some ⟨g', 0, none⟩) t.l.length cap)) (hj : t.l[j]? = some x)
    (hg : g' ≠ g) (own : Own w g' (.slice (some ⟨g', 0, none⟩) t.l.length cap) t.l) (hne : ∀ (q : Nat) t', q ≠ r → ss[q]? = some t' → ∃ x', t'.l[j]? = some x' ∧ x' ≠ x) (s : Int) :
    OwnX (w.setCell ⟨g', j * 6, none⟩ (.int .i64 s)) B C g cur (ss.set r ⟨t.l.set j (x.as s), t.a, t.b, t.c⟩) := by
  refine ⟨h.box.far (Ne.symm hg) _, by rw [List.length_set]; exact h.size, fun q z hz => ?_⟩
  by_cases e : q = r
  · subst e
    rw [List.getElem?_set_self (st_lt hr)] at hz
    cases hz
    obtain ⟨u, ⟨k0, k1, k2, k3⟩, k4⟩ := h.sets q t hr
    rw [hu] at k0
    cases k0
    refine ⟨_, ⟨hu, k1, k2, k3⟩, ?_⟩
    have key : ∀ B' C', Fr w B' C' (.slice (some ⟨g', 0, none⟩) t.l.length cap) t.l → Fr (w.setCell ⟨g', j * 6, none⟩ (.int .i64 s)) B' C' (.slice (some ⟨g', 0, none⟩) t.l.length cap) (t.l.set j (x.as s)) := by
      rintro B' C' (⟨e, _⟩ | ⟨g2, hB, hC, own2⟩)
      · cases e
      · have e2 : g2 = g' := by obtain ⟨_, _, e, _⟩ := own2; cases e; rfl
        subst e2
        exact .inr ⟨g2, hB, hC, own2.state hj s⟩
    exact k4.imp (key _ _) (key _ _)
  · rw [List.getElem?_set_ne (fun h => e h.symm)] at hz
    obtain ⟨u, k1, k4⟩ := h.sets q z hz
    refine ⟨u, k1, k4.unless (fun v' own2 => ?_) _ _⟩
    obtain ⟨x', hx', hxx⟩ := hne q z e hz
    obtain ⟨_, c1, _, b1, _, _, _, f1⟩ := own
    obtain ⟨_, c2, _, b2, _, _, _, f2⟩ := own2
    have ec : c1 = c2 := by
      have := b1.symm.trans b2
      simpa using this
    subst ec
    apply hxx
    have f : ∀ i, i < 6 → x'.cells[i]? = x.cells[i]? := fun i hi => (f2 j x' hx' i hi).symm.trans (f1 j x hj i hi)
    have g0 := f 0 (by omega)
    have g1 := f 1 (by omega)
    have g2 := f 2 (by omega)
    have g3 := f 3 (by omega)
    have g4 := f 4 (by omega)
    have g5 := f 5 (by omega)
    simp [Wy.cells] at g0 g1 g2 g3 g4 g5
    obtain ⟨a1, a2, a3, a4, a5, a6⟩ := x
    obtain ⟨b1, b2, b3, b4, b5, b6⟩ := x'
    simp_all
end
end Go.Proofs.YtcegjehoejgofaaGreat

/- DeedState: Proved: what withState of package deed returns; it changes nothing that was there, and what it returns is new. Conditions: the cache is right, and has the line in one place. -/
namespace Go.Proofs.YtcegjehoejgofaaGreat
open Go.ChangeShapes Go.WideShapes Go.ChangeAt Go.RowKit Go.Joins

theorem Own.alloc_ {w : World} {g : Nat} {v : Value} {l : List Wy} (h : Own w g v l) (o : Obj) : Own (w.alloc o) g v l := by
  obtain ⟨cap, cur, e, hb, r⟩ := h
  exact ⟨cap, cur, e, hb.alloc o, r⟩
theorem allocF {w : World} {p : Addr} {z : Value} (o : Obj) (h : w.cell? p = some z) : (w.alloc o).frozen? p = w.frozen? p := (gAlloc (Below.refl _ _) o).frozen (block_lt_of_cell h)
theorem Own.wayAt {w : World} {g : Nat} {v : Value} {l : List Wy} (h : Own w g v l) {i : Nat} {x : Wy} (hx : l[i]? = some x) : WayAt w g (i * 6) x ∧ w.frozen? ⟨g, i * 6, none⟩ = false := by
  obtain ⟨cap, cur, rfl, hb, _, _, _, ht⟩ := h
  have f : ∀ r u, r < 6 → x.cells[r]? = some u → w.cell? ⟨g, i * 6 + r, none⟩ = some u := fun r u hr hu => by rw [hb.cell, ht i x hx r hr, hu]
  exact ⟨⟨f 0 _ (by omega) rfl, f 1 _ (by omega) rfl, f 2 _ (by omega) rfl, f 3 _ (by omega) rfl, f 4 _ (by omega) rfl, f 5 _ (by omega) rfl⟩, hb.frozen _⟩

/-- One way's state is another. -/
def relS (ss : List St) (r : Nat) (t : St) (j : Nat) (x : Wy) (s : Int) : List St := ss.set r ⟨t.l.set j (x.as s), t.a, t.b, t.c⟩
/-- The sets while set q, way i is looked at. -/
def contS (ss ss' : List St) (r j q i : Nat) : List St := if q < r ∨ (q = r ∧ i ≤ j) then ss else ss'
section
variable {ss : List St} {r j q i : Nat} {t z : St} {x : Wy} {s : Int}
theorem contS_at (hr : ss[r]? = some t) (hz : ss[q]? = some z) (hi : ¬ (q = r ∧ i = j)) : ∃ z', (contS ss (relS ss r t j x s) r j q i)[q]? = some z' ∧ z'.l.length = z.l.length ∧ z'.l[i]? = z.l[i]? := by
  unfold contS
  by_cases h : q < r ∨ (q = r ∧ i ≤ j)
  · rw [if_pos h]; exact ⟨z, hz, rfl, rfl⟩
  · rw [if_neg h]
    unfold relS
    by_cases e : q = r
    · subst e
      rw [hr] at hz
      cases hz
      rw [List.getElem?_set_self (st_lt hr)]
      exact ⟨_, rfl, by simp, by rw [List.getElem?_set_ne (by omega)]⟩
    · rw [List.getElem?_set_ne (fun h => e h.symm)]
      exact ⟨z, hz, rfl, rfl⟩
theorem contS_step (hi : ¬ (q = r ∧ i = j)) (ss' : List St) : contS ss ss' r j q (i + 1) = contS ss ss' r j q i := by
  unfold contS
  by_cases h : q < r ∨ (q = r ∧ i ≤ j)
  · rw [if_pos h, if_pos (by omega)]
  · rw [if_neg h, if_neg (by omega)]
theorem contS_next (ss' : List St) {n : Nat} (hn : j < n) : contS ss ss' r j q n = contS ss ss' r j (q + 1) 0 := by
  unfold contS
  by_cases h : q < r
  · rw [if_pos (.inl h), if_pos (by omega)]
  · rw [if_neg (by omega), if_neg (by omega)]
theorem contS_start (ss' : List St) : contS ss ss' r j 0 0 = ss := by unfold contS; rw [if_pos (by omega)]
theorem contS_here (ss' : List St) : contS ss ss' r j r j = ss := by unfold contS; rw [if_pos (by omega)]
theorem contS_past (ss' : List St) : contS ss ss' r j r (j + 1) = ss' := by unfold contS; rw [if_neg (by omega)]
theorem contS_end (ss' : List St) (hq : r < q) : contS ss ss' r j q 0 = ss' := by unfold contS; rw [if_neg (by omega)]
theorem contS_first (hz : ss[q]? = some z) : (contS ss (relS ss r t j x s) r j q 0)[q]? = some z := by
  unfold contS
  by_cases h : q < r ∨ (q = r ∧ 0 ≤ j)
  · rw [if_pos h]; exact hz
  · rw [if_neg h]
    unfold relS
    rw [List.getElem?_set_ne (by omega)]
    exact hz
end

set_option maxRecDepth 10000 in
set_option maxHeartbeats 2000000 in
theorem withState_ok (v : Value) (ss : List St) (m s : Int) (r : Nat) (t : St) (j : Nat) (x0 : Wy) (w : World) (h : Cs w v ss) (hn : ss.length ≤ 4) (hl : ∀ (q : Nat) t, ss[q]? = some t → 0 < t.l.length ∧ t.l.length ≤ 4)
    (hlen : ∀ (q : Nat) z, ss[q]? = some z → z.l.length = t.l.length) (hr : ss[r]? = some t) (hj : t.l[j]? = some x0) (hx0 : hasW m x0 = true) (hu : ∀ (q : Nat) z (i : Nat) x, ss[q]? = some z → z.l[i]? = some x → hasW m x = true → q = r ∧ i = j) :
    Calls Tryz.prog 162 #[v, .int .i64 m, .int .i64 s] w fun e w' => (e = .returned (.slice (some ⟨w.heap.size, 0, none⟩) ss.length ss.length) ∧ CFr w' w.heap.size w'.heap.size (.slice (some ⟨w.heap.size, 0, none⟩) ss.length ss.length) (relS ss r t j x0 s)) ∧ Below w.heap.size w w' := by
  have h0 : 0 < ss.length := Nat.lt_of_le_of_lt (Nat.zero_le _) (st_lt hr)
  have CC := Lib.hid (copyCache_any v ss w h h0 hn hl)
  have jt : j < t.l.length := (List.getElem?_eq_some_iff.1 hj).1
  have rs := st_lt hr
  obtain ⟨S', hS'⟩ : ∃ S', S' = relS ss r t j x0 s := ⟨_, rfl⟩
  have HL := Lib.hid hl
  have HN := Lib.hid hlen
  have HR := Lib.hid hr
  have HJ := Lib.hid hj
  have HU := Lib.hid hu
  have HS := Lib.hid hS'
  have HX0 := Lib.hid hx0
  have HNE := Lib.hid (fun (q : Nat) z (i : Nat) x (hz : ss[q]? = some z) (hx : z.l[i]? = some x) (hw : hasW m x = true) (q' : Nat) (z' : St) (hne : q' ≠ q) (hz' : ss[q']? = some z') =>
    show ∃ x', z'.l[i]? = some x' ∧ x' ≠ x from by
      have hi : i < z'.l.length := by
        have h1 := hlen q z hz
        have h2 := hlen q' z' hz'
        have := (List.getElem?_eq_some_iff.1 hx).1
        omega
      refine ⟨z'.l[i], List.getElem?_eq_getElem hi, fun e => hne ?_⟩
      have h1 := hu q' z' i x hz' (by rw [List.getElem?_eq_getElem hi, e]) hw
      have h2 := hu q z i x hz hx hw
      omega)
  have sl : (relS ss r t j x0 s).length = ss.length := by unfold relS; rw [List.length_set]
  have SL := Lib.hid (show S'.length = ss.length by rw [hS', sl])
  rw [← hS']
  clear hl hlen hr hj hu hx0 hS' sl h
  have low := Below.refl w.heap.size w
  go_enter Tryz.func162, Tryz.ntmps162
  go_wp2_with fail
  (with_reducible refine CC.out.mono ?_); rintro e w1 ⟨⟨rfl, own⟩, hb⟩
  replace low := gCall low hb
  obtain ⟨cur, ox⟩ := own.ownX
  have OX := Lib.hid ox
  clear hb own ox CC
  go_wp2_with fail
  go_loopw [16] (fun a wr => ∃ q : Nat, q ≤ ss.length ∧ a = .int .i64 q ∧ Hid (OwnX wr w.heap.size w1.heap.size w.heap.size cur (contS ss S' r j q 0)) ∧ Hid (w1.heap.size ≤ wr.heap.size) ∧ Below w.heap.size w wr) (fun a _ => ss.length - (intOf a).toNat)
  case atStart => exact ⟨0, Nat.zero_le _, rfl, Lib.hid (by rw [contS_start]; exact OX.out), Lib.hid (Nat.le_refl _), low⟩
  case round =>
    clear low OX
    obtain ⟨q, hq, rfl, ox, ZW, low⟩ := hrel
    by_cases hlt : q < ss.length
    · have hz : ss[q]? = some ss[q] := List.getElem?_eq_getElem _
      generalize ss[q] = z at hz
      obtain ⟨z0, z4⟩ := HL.out q z hz
      have ZL := Lib.hid (HN.out q z hz)
      have HZ := Lib.hid hz
      have hz1 : (contS ss S' r j q 0)[q]? = some z := by rw [HS.out]; exact contS_first hz
      obtain ⟨g', cap, ⟨si0, si1, si2, si3⟩, gne, gB, ow⟩ := ox.out.at_ hz1 z0
      have gl := ow.lt
      have bx := ox.out.box
      have d0 := bx.at_ _ si0
      have d1 := bx.at_ _ si1
      have d2 := bx.at_ _ si2
      have d3 := bx.at_ _ si3
      have SI := Lib.hid si0
      clear hz hz1 si0 si1 si2 si3 bx ow
      have q0 : (0 : Int) ≤ q := by omega
      have q1 : (q : Int) < ss.length := by omega
      have zr : w.heap.size < wr.heap.size := ox.out.box.lt
      have OX := Lib.hid (ox.out.alloc (.cells (rowA (.slice (some ⟨g', 0, none⟩) z.l.length cap) z.a z.b z.c) 193))
      clear ox
      have zb := boxNext low 193 (rowA (.slice (some ⟨g', 0, none⟩) z.l.length cap) z.a z.b z.c)
      replace low := gAlloc low (.cells (rowA (.slice (some ⟨g', 0, none⟩) z.l.length cap) z.a z.b z.c) 193)
      try simp only [World.size_alloc] at zb
      simp only [rowA] at zb
      go_wp2_with fail
      go_loopw [23] (fun a wx => ∃ i : Nat, i ≤ z.l.length ∧ a = .int .i64 i ∧ Hid (OwnX wx w.heap.size w1.heap.size w.heap.size cur (contS ss S' r j q i)) ∧ Box wx wr.heap.size 193 (rowA (.slice (some ⟨g', 0, none⟩) z.l.length cap) z.a z.b z.c) ∧ Below w.heap.size w wx) (fun a _ => z.l.length - (intOf a).toNat)
      case atStart => exact ⟨0, Nat.zero_le _, rfl, OX, zb, low⟩
      case round =>
        clear OX zb low d0 d1 d2 d3
        obtain ⟨i, hi, rfl, ox, zb, low⟩ := hrel
        simp only [rowA] at zb
        by_cases hlt2 : i < z.l.length
        · have hx : z.l[i]? = some z.l[i] := List.getElem?_eq_getElem _
          generalize z.l[i] = x at hx
          have i0 : (0 : Int) ≤ i := by omega
          have i1 : (i : Int) < z.l.length := by omega
          have zx := zb.lt
          by_cases hqi : q = r ∧ i = j
          · obtain ⟨rfl, rfl⟩ := hqi
            have hzt : z = t := by have := HZ.out.symm.trans HR.out; simpa using this
            subst hzt
            have hxx : x = x0 := by have := hx.symm.trans HJ.out; simpa using this
            subst hxx
            have oy := ox.out
            rw [contS_here] at oy
            obtain ⟨g2, cap2, ⟨si0, _⟩, _, _, own⟩ := oy.at_ HZ.out (by omega)
            have e2 := si0.symm.trans SI.out
            simp only [Option.some.injEq, Value.slice.injEq, Addr.mk.injEq, and_true, true_and] at e2
            obtain ⟨rfl, rfl⟩ := e2
            obtain ⟨⟨c0, c1, c2, c3, c4, c5⟩, cf⟩ := own.wayAt hx
            have hxs : (x.st != 0) = true ∧ (x.ln == m) = true := by have := HX0.out; unfold hasW at this; rwa [Bool.and_eq_true] at this
            obtain ⟨hs, hm⟩ := hxs
            have OY := Lib.hid ((oy.alloc (.cells x.arr 114)).state HZ.out SI.out hx gne (own.alloc_ (.cells x.arr 114)) (HNE.out q z i x HZ.out hx HX0.out) s)
            rw [← relS, ← HS.out, ← contS_past (ss := ss) (r := q) (j := i) S'] at OY
            clear ox oy own si0
            have xb := boxNext low 114 x.arr
            replace low := gAlloc low (.cells x.arr 114)
            replace zb := zb.alloc (.cells x.arr 114)
            try simp only [World.size_alloc] at xb
            simp only [Wy.arr] at xb
            have xb_0 := xb.at_ 0 rfl
            have xb_1 := xb.at_ 1 rfl
            have zb_0 := zb.at_ 0 rfl
            have cg := allocC (.cells x.arr 114) c0
            have cf2 := (allocF (.cells x.arr 114) c0).trans cf
            go_wp2_with fail
            have zb4 := zb.far (p := ⟨g2, i * 6, none⟩) (by dsimp only; omega) (.int .i64 s)
            have low4 := gSet low (p := ⟨g2, i * 6, none⟩) (by dsimp only; omega) (.int .i64 s)
            go_roundw
            case rel => exact ⟨i + 1, by omega, by go_num, OY, zb4, low4⟩
            case measure => simp [intOf]; omega
          · obtain ⟨z', hz', hzl, hzx⟩ := contS_at (i := i) (x := x0) (s := s) HR.out HZ.out hqi
            rw [← HS.out] at hz'
            obtain ⟨g2, cap2, ⟨si0, _⟩, _, _, own⟩ := ox.out.at_ hz' (by omega)
            have e2 := si0.symm.trans SI.out
            simp only [Option.some.injEq, Value.slice.injEq, Addr.mk.injEq, and_true] at e2
            obtain ⟨rfl, -, rfl⟩ := e2
            obtain ⟨⟨c0, c1, c2, c3, c4, c5⟩, _⟩ := own.wayAt (hzx.trans hx)
            have OY := Lib.hid (ox.out.alloc (.cells x.arr 114))
            rw [← contS_step hqi] at OY
            have hno : hasW m x = false := by
              cases e : hasW m x
              · rfl
              · exact absurd (HU.out q z i x HZ.out hx e) hqi
            clear ox own si0 hz' hzl hzx hx
            have xb := boxNext low 114 x.arr
            replace low := gAlloc low (.cells x.arr 114)
            replace zb := zb.alloc (.cells x.arr 114)
            try simp only [World.size_alloc] at xb
            simp only [Wy.arr] at xb
            have xb_0 := xb.at_ 0 rfl
            have xb_1 := xb.at_ 1 rfl
            cases hs : (x.st != 0)
            · clear hno
              go_wp2_with fail
              go_roundw
              case rel => exact ⟨i + 1, by omega, by go_num, OY, zb, low⟩
              case measure => simp [intOf]; omega
            · have hm : (x.ln == m) = false := by unfold hasW at hno; rwa [hs, Bool.true_and] at hno
              clear hno
              go_wp2_with fail
              go_roundw
              case rel => exact ⟨i + 1, by omega, by go_num, OY, zb, low⟩
              case measure => simp [intOf]; omega
        · obtain rfl : i = z.l.length := by omega
          have OY := Lib.hid (ox.out)
          rw [contS_next (ss := ss) S' (by have := ZL.out; omega)] at OY
          clear ox
          go_wp2_with fail
          go_roundw
          case rel => exact ⟨q + 1, by omega, by go_num, OY, Lib.hid (by have := ZW.out; have := zb.lt; omega), low⟩
          case measure => simp [intOf]; omega
    · obtain rfl : q = ss.length := by omega
      have oy := ox.out
      rw [contS_end S' rs] at oy
      have CF := Lib.hid (show CFr wr w.heap.size wr.heap.size (.slice (some ⟨w.heap.size, 0, none⟩) ss.length ss.length) S' by
        have := oy.ownC (by rw [SL.out]; unfold maxLen; omega)
        rw [SL.out] at this
        exact .inr ⟨_, Nat.le_refl _, oy.box.lt, this.more (Nat.le_refl _) ZW.out⟩)
      clear oy ox
      go_wp2_with fail
      go_ret
      exact ⟨⟨rfl, CF.out⟩, low⟩
end Go.Proofs.YtcegjehoejgofaaGreat

/- Words: Proved: what Load, Store and Swap of package words return, for every argument; none of them changes anything that was there. No condition. -/
namespace Go.Proofs.YtcegjehoejgofaaGreat
open Go.ChangeShapes Go.WideShapes Go.ChangeAt Go.RowKit Go.Joins


/-- '==' on lines. -/
theorem eqLine (a b c d a' b' c' d' : Int) (w : World) : (Op.equalIn 10000 27 (line a b c d) (line a' b' c' d')).run Tryz.prog w = .ok (a == a' && (b == b' && (c == c' && d == d'))) w := by
  have := equal_flat (P := Tryz.prog) 2 27 [.int .u64, .int .u64, .int .u64, .int .u64] (by kernel_rfl) (by kernel_rfl) 10000 (by omega) w [.int .u64 a, .int .u64 b, .int .u64 c, .int .u64 d] [.int .u64 a', .int .u64 b', .int .u64 c', .int .u64 d'] (line a b c d) (line a' b' c' d')
    ⟨⟨a, rfl⟩, ⟨b, rfl⟩, ⟨c, rfl⟩, ⟨d, rfl⟩, trivial⟩ ⟨⟨a', rfl⟩, ⟨b', rfl⟩, ⟨c', rfl⟩, ⟨d', rfl⟩, trivial⟩ (by simp [ValIs, Tryz.underlying27]) (by simp [ValIs, Tryz.underlying27])
  simpa [eqCells, scEq] using this

end Go.Proofs.YtcegjehoejgofaaGreat

/- Bank: Proved: what the functions of package bank return, for every argument; none of them changes anything that was there. No condition. -/
namespace Go.Proofs.YtcegjehoejgofaaGreat
open Go.ChangeShapes Go.WideShapes Go.ChangeAt Go.RowKit Go.Joins

/-- The words of a memory as cells. -/
def memA (l : List Int) : Array Value := (l.map (Value.int .u64)).toArray
/-- A memory as a value. -/
abbrev memV (l : List Int) : Value := .agg (memA l)
/-- The memory of zeros. -/
def zeroL : List Int := List.replicate 64 0

/-- Word i of a memory. -/
def wd (l : List Int) (i : Nat) : Int := l.getD i 0

theorem memA_at {l : List Int} (i : Nat) (h : i < l.length) : (memA l)[i]? = some (.int .u64 (wd l i)) := by
  simp [memA, wd, List.getD, h]
theorem memA_size (l : List Int) : (memA l).size = l.length := by simp [memA]
theorem memA_one (l : List Int) : (memA l).all (·.oneCell') = true := all_oneCell_toArray fun v hv => by
  obtain ⟨x, _, rfl⟩ := List.mem_map.1 hv
  rfl
theorem memA_list (l : List Int) : (memA l).toList = l.map (Value.int .u64) := by simp [memA]
theorem zeroL_length : zeroL.length = 64 := by simp [zeroL]
theorem mem_info : (Tryz.prog.info? 29).map (fun i => (i.zero, i.size)) = some (some (memV zeroL), 64) := by kernel_rfl
theorem mem_size : (Tryz.prog.info? 29).map (·.size) = some 64 := (zero_of_info mem_info).2

/-- A memory that lies in a block of its own. -/
structure Mb (w : World) (g : Nat) (l : List Int) : Prop where
  box : Box w g 29 (memA l)
  len : l.length = 64

section
variable {w w' : World} {g : Nat} {l : List Int}
theorem Mb.range (h : Mb w g l) : w.rangeAt g 0 (l.map (Value.int .u64)) := fun j v hv => by
  rw [Nat.zero_add, h.1.cell, ← hv, memA, List.getElem?_toArray]
theorem Mb.load (h : Mb w g l) : (loadVar 29 ⟨g, 0, none⟩).run Tryz.prog w = .ok (memV l) w :=
  run_loadVar_mid w g 0 29 _ _ h.range Tryz.underlying29 rfl (by rw [mem_size, List.length_map, h.2])
theorem Mb.new (w : World) (hl : l.length = 64) : Mb (w.alloc (.cells (memA l) 29)) w.heap.size l := ⟨Box.new w _ _, hl⟩
theorem Mb.alloc (h : Mb w g l) (o : Obj) : Mb (w.alloc o) g l := ⟨h.1.alloc o, h.2⟩
theorem Mb.call (h : Mb w g l) (hb : Below w.heap.size w w') : Mb w' g l := ⟨h.1.call hb, h.2⟩
theorem Mb.far (h : Mb w g l) {p : Addr} (hp : g ≠ p.block) (u : Value) : Mb (w.setCell p u) g l := ⟨h.1.far hp u, h.2⟩
theorem Mb.drew (h : Mb w g l) : Mb w.drew g l := ⟨h.1.drew, h.2⟩
theorem Mb.lt (h : Mb w g l) : g < w.heap.size := h.1.lt
end

section
variable {ops : Array Oper} {rest : List Oper} {dst : Option Tmp} {t : TypeId} {pos : String} {after : Array Edge} {a : Act} {w : World} {Q : Exit → Act → World → Prop}

/-- A new memory. -/
theorem wp_newMem (h : wpList Tryz.prog ops Q rest (a.put dst (.pointer (some ⟨w.heap.size, 0, none⟩))) (w.alloc (.cells (memA zeroL) 29))) :
    wpList Tryz.prog ops Q (⟨dst, .alloc 29, t, pos, after, none⟩ :: rest) a w := by
  refine wpList_plain rfl fun K hK => ?_
  unfold Oper.wp execOp
  simp only [Instr.alloc, Sem.run_bind, (zero_of_info mem_info).1, newVar, newRow, run_newObj_alloc, Sem.run_pure, Result.andThen_ok]
  exact hK _ _ h

/-- The literal 'Memory{}'. -/
theorem wp_zeroMem (h : wpList Tryz.prog ops Q rest (a.put dst (memV zeroL)) w) :
    wpList Tryz.prog ops Q (⟨dst, .build 29 #[], t, pos, after, none⟩ :: rest) a w := by
  refine wpList_plain rfl fun K hK => ?_
  have e : (Instr.build 29 #[]).run Tryz.prog w = .ok (memV zeroL) w := by kernel_rfl
  unfold Oper.wp execOp
  simp only [Array.map_empty, e, Sem.run_bind, Sem.run_pure, Result.andThen_ok]
  exact hK _ _ h

/-- A memory is read whole. -/
theorem wp_loadMem {gd : Option (Nat × Bool)} {x : Operand} {g : Nat} {l : List Int} (hb : Mb w g l) (hw : Region.wanted ⟨dst, .load 29 x, t, pos, after, gd⟩ (yielded ops a.tmps) = true) (hx : a.eval x = .pointer (some ⟨g, 0, none⟩)) (h : wpList Tryz.prog ops Q rest (a.put dst (memV l)) w) :
    wpList Tryz.prog ops Q (⟨dst, .load 29 x, t, pos, after, gd⟩ :: rest) a w := by
  unfold wpList
  rw [if_pos hw]
  refine .inl ?_
  unfold Oper.wp execOp
  simp only [hx, Instr.loadAt, Instr.sureAddr, Sem.run_bind, Sem.run_pure, Result.andThen_ok, hb.load]
  exact h

/-- A memory is stored whole. -/
theorem wp_storeMem {x y : Operand} {g : Nat} {l m : List Int} (hb : Mb w g l) (hm : m.length = 64) (hx : a.eval x = .pointer (some ⟨g, 0, none⟩)) (hy : a.eval y = memV m)
    (h : ∀ w', Mb w' g m → Stored w g w' → wpList Tryz.prog ops Q rest (a.put dst undef) w') :
    wpList Tryz.prog ops Q (⟨dst, .store 29 x y, t, pos, after, none⟩ :: rest) a w := by
  refine wpList_plain rfl fun K hK => ?_
  refine wp_store_row 29 x y rfl g (memA m) hx hy 29 (memA l) hb.1 (by rw [mem_size, memA_size, hm]) (by rw [memA_size, memA_size, hb.2, hm]) (memA_one m) ?_
  have := Stored.row w hb.1 (memA m)
  exact hK _ _ (h _ ⟨this.1, hm⟩ this.2)

/-- A memory is stored whole into the block that was made last. -/
theorem wp_storeNew {x y : Operand} {l m : List Int} (hl : l.length = 64) (hm : m.length = 64) (hx : a.eval x = .pointer (some ⟨w.heap.size, 0, none⟩)) (hy : a.eval y = memV m)
    (h : wpList Tryz.prog ops Q rest (a.put dst undef) (w.alloc (.cells (memA m) 29))) :
    wpList Tryz.prog ops Q (⟨dst, .store 29 x y, t, pos, after, none⟩ :: rest) a (w.alloc (.cells (memA l) 29)) := by
  refine wpList_plain rfl fun K hK => ?_
  unfold Oper.wp execOp
  simp only [hx, hy, Sem.run_bind, run_storeAt_new w 29 (memA l) (memA m) (by rw [mem_size, memA_size, hm]) (by rw [memA_size, memA_size, hl, hm]) (memA_one m), Sem.run_pure, Result.andThen_ok]
  exact hK _ _ h
end

/-- A memory is read whole, in a region that draws. -/
theorem exec_loadMem {ρ : Operand → Value} {dst : Option Tmp} {t : TypeId} {pos : String} {after : Array Edge} {gd : Option (Nat × Bool)} {x : Operand} {g : Nat} {l : List Int} {w : World} (hx : ρ x = .pointer (some ⟨g, 0, none⟩)) (hb : Mb w g l) :
    (execOp ρ ⟨dst, .load 29 x, t, pos, after, gd⟩).run Tryz.prog w = .ok (.value (memV l)) w := by
  unfold execOp
  simp only [hx, Instr.loadAt, Instr.sureAddr, Sem.run_bind, Sem.run_pure, Result.andThen_ok, hb.load]

theorem results_mem {fn : Func} {tmps : Array Value} {i g : Nat} {l : List Int} {w : World} (hr : fn.results = #[.cell i 29]) (hi : tmps.getD i undef = .pointer (some ⟨g, 0, none⟩)) (hb : Mb w g l) :
    (results fn tmps).run Tryz.prog w = .ok (memV l) w := by
  rw [Array.getD_eq_getD_getElem?] at hi
  simp [results, hr, hi, asAddr, hb.load]

theorem results_mem2 {fn : Func} {tmps : Array Value} {i j g : Nat} {l : List Int} {v : Value} {w : World} (hr : fn.results = #[.cell i 29, .tmp j]) (hi : tmps.getD i undef = .pointer (some ⟨g, 0, none⟩)) (hj : tmps.getD j undef = v) (hb : Mb w g l) :
    (results fn tmps).run Tryz.prog w = .ok (.tuple #[memV l, v]) w := by
  rw [Array.getD_eq_getD_getElem?] at hi hj
  simp [results, hr, hi, hj, asAddr, hb.load]

/-- A memory with another word, with another line. -/
def pokeL (l : List Int) (i : Nat) (v : Int) : List Int := l.set i v
def writeL (l : List Int) (k : Nat) (a b c d : Int) : List Int := (((l.set (k * 4) a).set (k * 4 + 1) b).set (k * 4 + 2) c).set (k * 4 + 3) d
theorem pokeL_length (l : List Int) (i : Nat) (v : Int) : (pokeL l i v).length = l.length := by simp [pokeL]
theorem writeL_length (l : List Int) (k : Nat) (a b c d : Int) : (writeL l k a b c d).length = l.length := by simp [writeL]
theorem memA_set (l : List Int) (i : Nat) (v : Int) : (memA l).setIfInBounds i (.int .u64 v) = memA (l.set i v) := by
  simp [memA, List.map_set]

theorem Mb.there {w : World} {g : Nat} {l : List Int} (h : Mb w g l) (o n : Nat) (hn : o + n ≤ 64) : w.there g o n := fun j hj => by
  refine ⟨?_, h.1.frozen _⟩
  rw [h.1.cell, memA_at (o + j) (by have := h.2; omega)]
  rfl

theorem Mb.poke {w : World} {g : Nat} {l : List Int} (h : Mb w g l) (i : Nat) (v : Int) : Mb (w.setCell ⟨g, i, none⟩ (.int .u64 v)) g (pokeL l i v) := by
  refine ⟨?_, by rw [pokeL_length, h.2]⟩
  have := h.1.set i (.int .u64 v)
  rwa [memA_set] at this

theorem Mb.write {w : World} {g : Nat} {l : List Int} (h : Mb w g l) (k : Nat) (a b c d : Int) : Mb (w.setCells g (k * 4) [.int .u64 a, .int .u64 b, .int .u64 c, .int .u64 d]) g (writeL l k a b c d) := by
  have := (((h.poke (k * 4) a).poke (k * 4 + 1) b).poke (k * 4 + 2) c).poke (k * 4 + 3) d
  exact this

theorem setCells_stored (g : Nat) : ∀ (vs : List Value) (o : Nat) (w : World), Stored w g (w.setCells g o vs)
  | [], _, _ => ⟨fun _ => rfl, rfl, fun b _ => b⟩
  | v :: vs, o, w => (Stored.cell1 w ⟨g, o, none⟩ v).trans (setCells_stored g vs (o + 1) _)

theorem run_storeWord {w : World} {g : Nat} {l : List Int} (h : Mb w g l) (i : Nat) (hi : i < 64) (v : Int) :
    (storeVar 25 ⟨g, i, none⟩ (.int .u64 v)).run Tryz.prog w = .ok () (w.setCell ⟨g, i, none⟩ (.int .u64 v)) := by
  have c := h.1.cell i
  rw [memA_at i (by rw [h.2]; exact hi)] at c
  have f := h.1.frozen i
  have z : (Tryz.prog.info? 25).map (·.size) = some 1 := by kernel_rfl
  have := run_storeCells_cells (P := Tryz.prog) g i [.int .u64 v] 0 w (fun j hj => by obtain rfl : j = 0 := (by simpa using hj); simp [c]) (fun j hj => by obtain rfl : j = 0 := (by simpa using hj); simp [f]) (fun u hu => by simp at hu; subst hu; rfl)
  cases hq : Tryz.prog.info? 25 with
  | none => rw [hq] at z; cases z
  | some y =>
    have hs : y.size = 1 := by rw [hq] at z; simpa using z
    simp only [Nat.add_zero] at this
    simp [storeVar, sizeOf, typeInfo, hq, Value.cells, hs, this, World.setCells]

section
variable {ops : Array Oper} {rest : List Oper} {dst : Option Tmp} {t : TypeId} {pos : String} {after : Array Edge} {a : Act} {w : World} {Q : Exit → Act → World → Prop}

/-- A word is stored into a memory. -/
theorem wp_storeWord {x y : Operand} {g : Nat} {l : List Int} (hb : Mb w g l) (i : Nat) (hi : i < 64) (v : Int) (hx : a.eval x = .pointer (some ⟨g, i, none⟩)) (hy : a.eval y = .int .u64 v)
    (h : ∀ w', Mb w' g (pokeL l i v) → Stored w g w' → wpList Tryz.prog ops Q rest (a.put dst undef) w') :
    wpList Tryz.prog ops Q (⟨dst, .store 25 x y, t, pos, after, none⟩ :: rest) a w := by
  refine wpList_plain rfl fun K hK => ?_
  unfold Oper.wp execOp
  simp only [hx, hy, Instr.storeAt, Instr.sureAddr, Sem.run_bind, Sem.run_pure, Result.andThen_ok, run_storeWord hb i hi v]
  exact hK _ _ (h _ (hb.poke i v) (Stored.cell1 w ⟨g, i, none⟩ _))

/-- A line is stored into a memory. -/
theorem wp_storeLine {x y : Operand} {g : Nat} {l : List Int} (hb : Mb w g l) (k : Nat) (hk : k < 16) (p q r s : Int) (hx : a.eval x = .pointer (some ⟨g, k * 4, none⟩)) (hy : a.eval y = line p q r s)
    (h : ∀ w', Mb w' g (writeL l k p q r s) → Stored w g w' → wpList Tryz.prog ops Q rest (a.put dst undef) w') :
    wpList Tryz.prog ops Q (⟨dst, .store 27 x y, t, pos, after, none⟩ :: rest) a w := by
  refine wpList_store_mid rfl 27 x y rfl g (k * 4) _ hx hy (hb.there _ _ (by simp; omega)) (by kernel_rfl) (by simp [Value.oneCell']) ?_
  exact h _ (hb.write k p q r s) (setCells_stored g _ _ w)
end

/-- A line of a memory. -/
abbrev lineAt (l : List Int) (k : Nat) : Value := line (wd l (k * 4)) (wd l (k * 4 + 1)) (wd l (k * 4 + 2)) (wd l (k * 4 + 3))

theorem bankLine_in (k : Nat) (w : World) (h1 : k < 16) : Calls Tryz.prog 154 #[.int .i64 k] w fun e w' => e = .returned (.bool true) ∧ w = w' := by
  have h2 : (k : Int) < 16 := by omega
  go_enter Tryz.func154, Tryz.ntmps154
  go_wp2
  go_ret
  exact ⟨rfl, rfl⟩

set_option maxHeartbeats 1000000 in
theorem bankRead_ok (l : List Int) (hl : l.length = 64) (k : Nat) (hk : k < 16) (w : World) : Calls Tryz.prog 133 #[memV l, .int .i64 k] w fun e w' =>
    e = .returned (.tuple #[lineAt l k, .int .i64 0]) ∧ Below w.heap.size w w' := by
  have B := Lib.hid fun W => bankLine_in k W hk
  have m0 := memA_at (l := l) (k * 4) (by omega)
  have m1 := memA_at (l := l) (k * 4 + 1) (by omega)
  have m2 := memA_at (l := l) (k * 4 + 2) (by omega)
  have m3 := memA_at (l := l) (k * 4 + 3) (by omega)
  clear hl
  go_enter Tryz.func133, Tryz.ntmps133
  go_wp2_with fail
  refine (B.out _).mono ?_; rintro e w' ⟨rfl, rfl⟩
  go_wp2_with fail
  refine bodyPost_ret (v := .tuple #[lineAt l k, .int .i64 0]) (by simp [results, Tryz.results133, go_sem]) rfl ⟨rfl, ?_⟩
  exact gAlloc (gAlloc (Below.refl _ _) _) _

set_option maxHeartbeats 1000000 in
theorem bankWrite_ok (l : List Int) (hl : l.length = 64) (k : Nat) (hk : k < 16) (a b c d : Int) (w : World) : Calls Tryz.prog 139 #[memV l, .int .i64 k, line a b c d] w fun e w' =>
    e = .returned (.tuple #[memV (writeL l k a b c d), .int .i64 0]) ∧ Below w.heap.size w w' := by
  have B := Lib.hid fun W => bankLine_in k W hk
  have low := Below.refl w.heap.size w
  have mb := boxNext low 29 (memA l)
  replace low := gAlloc low (.cells (memA l) 29)
  try simp only [World.size_alloc] at mb
  have xb := boxNext low 27 #[.int .u64 a, .int .u64 b, .int .u64 c, .int .u64 d]
  replace low := gAlloc low (.cells #[.int .u64 a, .int .u64 b, .int .u64 c, .int .u64 d] 27)
  replace mb := mb.alloc (.cells #[.int .u64 a, .int .u64 b, .int .u64 c, .int .u64 d] 27)
  try simp only [World.size_alloc] at xb
  have ob := boxNext low 29 (memA zeroL)
  replace low := gAlloc low (.cells (memA zeroL) 29)
  replace mb := mb.alloc (.cells (memA zeroL) 29)
  replace xb := xb.alloc (.cells (memA zeroL) 29)
  try simp only [World.size_alloc] at ob
  go_enter Tryz.func139, Tryz.ntmps139
  go_wp2_with (with_reducible refine wp_newMem ?_)
  refine (B.out _).mono ?_; rintro e w' ⟨rfl, rfl⟩
  go_wp2_with ((with_reducible refine wp_storeLine (⟨mb, hl⟩) (k) (hk) a b c d ?_ ?_ ?_); rfl; rfl)
  intro w2 m2 st
  replace ob := st.box ob (by omega)
  replace low := st.low low (Nat.le_refl _)
  clear mb xb st
  have hl2 := m2.2
  go_wp2_with (first | ((with_reducible refine wp_loadMem (m2) ?_ ?_ ?_); rfl; rfl) | ((with_reducible refine wp_storeMem (⟨ob, zeroL_length⟩) (hl2) ?_ ?_ ?_); rfl; rfl))
  intro w3 m3 st
  replace low := st.low low (by omega)
  clear m2 st ob
  go_wp2_with fail
  refine bodyPost_ret (v := .tuple #[memV (writeL l k a b c d), .int .i64 0]) (results_mem2 Tryz.results139 rfl rfl m3) rfl ⟨rfl, low⟩

theorem bankNew_any (w : World) : Calls Tryz.prog 13 #[] w fun e w' => e = .returned (memV zeroL) ∧ Below w.heap.size w w' := by
  have low := Below.refl w.heap.size w
  have ob := boxNext low 29 (memA zeroL)
  replace low := gAlloc low (.cells (memA zeroL) 29)
  try simp only [World.size_alloc] at ob
  go_enter Tryz.func13, Tryz.ntmps13
  go_wp2_with (first | (with_reducible refine wp_newMem ?_) | (with_reducible refine wp_zeroMem ?_) | ((with_reducible refine wp_storeMem (⟨ob, zeroL_length⟩) (zeroL_length) ?_ ?_ ?_); rfl; rfl))
  intro w3 m3 st
  replace low := st.low low (Nat.le_refl _)
  clear st ob
  go_wp2_with fail
  refine bodyPost_ret (v := memV zeroL) (results_mem Tryz.results13 rfl m3) rfl ⟨rfl, low⟩

theorem addrLine_at (q r : Nat) (w : World) (hq : q < 16) (hr : r < 4) :
    Calls Tryz.prog 91 #[.int .i64 ((q * 4 + r : Nat) : Int)] w fun e w' => e = .returned (.tuple #[.int .i64 q, .int .i64 r, .int .i64 0]) ∧ w = w' := by
  have := line_ok ((q * 4 + r : Nat) : Int) w (by omega) (by omega)
  rwa [show ((q * 4 + r : Nat) : Int) / 4 = q by omega, show ((q * 4 + r : Nat) : Int) % 4 = r by omega] at this

theorem bankWord_at (l : List Int) (hl : l.length = 64) (q r : Nat) (hq : q < 16) (hr : r < 4) (w : World) : Calls Tryz.prog 56 #[memV l, .int .i64 ((q * 4 + r : Nat) : Int)] w fun e w' =>
    e = .returned (.tuple #[.int .u64 (wd l (q * 4 + r)), .int .i64 0]) ∧ Below w.heap.size w w' := by
  have B := Lib.hid fun W => addrLine_at q r W hq hr
  have m0 := memA_at (l := l) (q * 4 + r) (by omega)
  generalize ((q * 4 + r : Nat) : Int) = i at *
  clear hl
  go_enter Tryz.func56, Tryz.ntmps56
  go_wp2_with fail
  refine (B.out _).mono ?_; rintro e w' ⟨rfl, rfl⟩
  go_wp2_with fail
  go_ret2
  exact ⟨rfl, gAlloc (Below.refl _ _) _⟩

theorem bankWord_ok (l : List Int) (hl : l.length = 64) (i : Nat) (hi : i < 64) (w : World) : Calls Tryz.prog 56 #[memV l, .int .i64 i] w fun e w' =>
    e = .returned (.tuple #[.int .u64 (wd l i), .int .i64 0]) ∧ Below w.heap.size w w' := by
  have := bankWord_at l hl (i / 4) (i % 4) (by omega) (by omega) w
  rwa [show i / 4 * 4 + i % 4 = i by omega] at this

set_option maxHeartbeats 1000000 in
theorem bankPoke_at (l : List Int) (hl : l.length = 64) (q r : Nat) (hq : q < 16) (hr : r < 4) (v : Int) (w : World) : Calls Tryz.prog 58 #[memV l, .int .i64 ((q * 4 + r : Nat) : Int), .int .u64 v] w fun e w' =>
    e = .returned (.tuple #[memV (pokeL l (q * 4 + r) v), .int .i64 0]) ∧ Below w.heap.size w w' := by
  have B := Lib.hid fun W => addrLine_at q r W hq hr
  generalize ((q * 4 + r : Nat) : Int) = i at *
  have low := Below.refl w.heap.size w
  have mb := boxNext low 29 (memA l)
  replace low := gAlloc low (.cells (memA l) 29)
  try simp only [World.size_alloc] at mb
  have ob := boxNext low 29 (memA zeroL)
  replace low := gAlloc low (.cells (memA zeroL) 29)
  replace mb := mb.alloc (.cells (memA zeroL) 29)
  try simp only [World.size_alloc] at ob
  go_enter Tryz.func58, Tryz.ntmps58
  go_wp2_with (with_reducible refine wp_newMem ?_)
  refine (B.out _).mono ?_; rintro e w' ⟨rfl, rfl⟩
  go_wp2_with ((with_reducible refine wp_storeWord (⟨mb, hl⟩) (q * 4 + r) (by omega) (v) ?_ ?_ ?_); rfl; rfl)
  intro w2 m2 st
  replace ob := st.box ob (by omega)
  replace low := st.low low (Nat.le_refl _)
  clear mb st
  have hl2 := m2.2
  go_wp2_with (first | ((with_reducible refine wp_loadMem (m2) ?_ ?_ ?_); rfl; rfl) | ((with_reducible refine wp_storeMem (⟨ob, zeroL_length⟩) (hl2) ?_ ?_ ?_); rfl; rfl))
  intro w3 m3 st
  replace low := st.low low (by omega)
  clear m2 st ob
  go_wp2_with fail
  refine bodyPost_ret (v := .tuple #[memV (pokeL l (q * 4 + r) v), .int .i64 0]) (results_mem2 Tryz.results58 rfl rfl m3) rfl ⟨rfl, low⟩

theorem bankPoke_ok (l : List Int) (hl : l.length = 64) (i : Nat) (hi : i < 64) (v : Int) (w : World) : Calls Tryz.prog 58 #[memV l, .int .i64 i, .int .u64 v] w fun e w' =>
    e = .returned (.tuple #[memV (pokeL l i v), .int .i64 0]) ∧ Below w.heap.size w w' := by
  have := bankPoke_at l hl (i / 4) (i % 4) (by omega) (by omega) v w
  rwa [show i / 4 * 4 + i % 4 = i by omega] at this

end Go.Proofs.YtcegjehoejgofaaGreat

/- Copies: Proved: words for copies of a line (a node and its way) and slices of them; what ownerOf and valueOf of package agree return, for every slice that can be read. No condition. -/
namespace Go.Proofs.YtcegjehoejgofaaGreat
open Go.ChangeShapes Go.WideShapes Go.ChangeAt Go.RowKit Go.Joins

/-- The four words of a line. -/
structure L4 where
  a : Int
  b : Int
  c : Int
  d : Int
abbrev L4.val (x : L4) : Value := line x.a x.b x.c x.d
def eq4 (x y : L4) : Bool := x.a == y.a && (x.b == y.b && (x.c == y.c && x.d == y.d))
theorem eq4_iff {x y : L4} : eq4 x y = true ↔ x = y := by
  obtain ⟨a, b, c, d⟩ := x
  obtain ⟨a', b', c', d'⟩ := y
  simp [eq4]
theorem eq4_refl (x : L4) : eq4 x x = true := eq4_iff.2 rfl
theorem eqL4 (x y : L4) (w : World) : (Op.equalIn 10000 27 (line x.a x.b x.c x.d) (line y.a y.b y.c y.d)).run Tryz.prog w = .ok (eq4 x y) w := eqLine _ _ _ _ _ _ _ _ w
def Wy.dat (x : Wy) : L4 := ⟨x.a, x.b, x.c, x.d⟩
/-- A line of a memory. -/
def l4 (m : List Int) (k : Nat) : L4 := ⟨wd m (k * 4), wd m (k * 4 + 1), wd m (k * 4 + 2), wd m (k * 4 + 3)⟩

/-- A line in the cache of a node. -/
structure Cp where
  nd : Int
  x : Wy
def Cp.cells (c : Cp) : List Value := [.int .i64 c.nd, .int .i64 c.x.st, .int .i64 c.x.ln, .int .u64 c.x.a, .int .u64 c.x.b, .int .u64 c.x.c, .int .u64 c.x.d]
abbrev Cp.box (c : Cp) : Array Value := #[.int .i64 c.nd, .int .i64 c.x.st, .int .i64 c.x.ln, .int .u64 c.x.a, .int .u64 c.x.b, .int .u64 c.x.c, .int .u64 c.x.d]
def cpsC (l : List Cp) : List Value := l.flatMap Cp.cells

theorem cpsC_at {l : List Cp} {k : Nat} {x : Cp} (h : l[k]? = some x) (j : Nat) (hj : j < 7) : (cpsC l)[k * 7 + j]? = x.cells[j]? := by
  induction l generalizing k with
  | nil => simp at h
  | cons y r ih =>
    have hy : y.cells.length = 7 := rfl
    simp only [cpsC, List.flatMap_cons] at *
    cases k with
    | zero =>
      simp at h
      subst h
      rw [List.getElem?_append_left (by omega)]
      simp
    | succ k =>
      rw [List.getElem?_append_right (by omega), hy]
      have : (k + 1) * 7 + j - 7 = k * 7 + j := by omega
      rw [this]
      exact ih (by simpa using h)
theorem cpsC_snoc (l : List Cp) (c : Cp) : cpsC (l ++ [c]) = cpsC l ++ c.cells := by simp [cpsC]

/-- The slice holds the copies. -/
structure Cps (w : World) (v : Value) (l : List Cp) : Prop where
  sl : Sl w w.heap.size 7 v l.length (cpsC l)
theorem Cps.call {w w' : World} {v : Value} {l : List Cp} (h : Cps w v l) (hb : Below w.heap.size w w') : Cps w' v l := ⟨Sl.call h.sl hb⟩
theorem Cps.alloc {w : World} {v : Value} {l : List Cp} (h : Cps w v l) (o : Obj) : Cps (w.alloc o) v l := h.call (gAlloc (Below.refl _ _) o)
theorem Cps.drew {w : World} {v : Value} {l : List Cp} (h : Cps w v l) : Cps w.drew v l := h.call (Below.refl _ _).drew
def CpAt (w : World) (b o : Nat) (c : Cp) : Prop :=
  w.cell? ⟨b, o, none⟩ = some (.int .i64 c.nd) ∧ w.cell? ⟨b, o + 1, none⟩ = some (.int .i64 c.x.st) ∧ w.cell? ⟨b, o + 2, none⟩ = some (.int .i64 c.x.ln) ∧
  w.cell? ⟨b, o + 3, none⟩ = some (.int .u64 c.x.a) ∧ w.cell? ⟨b, o + 4, none⟩ = some (.int .u64 c.x.b) ∧ w.cell? ⟨b, o + 5, none⟩ = some (.int .u64 c.x.c) ∧ w.cell? ⟨b, o + 6, none⟩ = some (.int .u64 c.x.d)

theorem cpAt_of {w w' : World} {b o B : Nat} {l : List Cp} {k : Nat} {x : Cp} (hc : ∀ j u, (cpsC l)[j]? = some u → w.cell? ⟨b, o + j, none⟩ = some u) (hb : b < B) (low : Below B w w') (h : l[k]? = some x) : CpAt w' b (o + k * 7) x := by
  have f : ∀ j u, j < 7 → x.cells[j]? = some u → w'.cell? ⟨b, o + k * 7 + j, none⟩ = some u := by
    intro j u hj hu
    refine (low.cell (p := ⟨b, o + k * 7 + j, none⟩) hb).trans ?_
    rw [Nat.add_assoc]
    exact hc _ _ ((cpsC_at h j hj).trans hu)
  exact ⟨f 0 _ (by omega) rfl, f 1 _ (by omega) rfl, f 2 _ (by omega) rfl, f 3 _ (by omega) rfl, f 4 _ (by omega) rfl, f 5 _ (by omega) rfl, f 6 _ (by omega) rfl⟩

/-- The node that owns the line, or -1; the line as every node would read it. -/
def ownN (l : List Cp) : Int := match l.find? (fun c => owB c.x.st) with | some c => c.nd | none => -1
def valL (l : List Cp) (d : L4) : L4 := match l with | [] => d | c :: _ => c.x.dat

theorem ownN_none {l : List Cp} (h : ∀ (j : Nat) c, l[j]? = some c → owB c.x.st = false) : ownN l = -1 := by
  have : l.find? (fun c => owB c.x.st) = none := by
    rw [List.find?_eq_none]
    intro c hc
    obtain ⟨k, hk, e⟩ := List.getElem_of_mem hc
    have := h k c (by rw [List.getElem?_eq_getElem hk, e])
    simp [this]
  rw [ownN, this]
theorem ownN_some {l : List Cp} {k : Nat} {c : Cp} (h : ∀ j y, j < k → l[j]? = some y → owB y.x.st = false) (hk : l[k]? = some c) (hp : owB c.x.st = true) : ownN l = c.nd := by
  have : l.find? (fun c => owB c.x.st) = some c := by
    rw [List.find?_eq_some_iff_getElem]
    obtain ⟨hlt, e⟩ := List.getElem?_eq_some_iff.1 hk
    refine ⟨hp, k, hlt, e, fun j hj => ?_⟩
    rw [h j _ hj (List.getElem?_eq_getElem (by omega))]
    decide
  rw [ownN, this]

set_option maxHeartbeats 1000000 in
theorem ownerOf_any (v : Value) (l : List Cp) (w : World) (h : Cps w v l) :
    Calls Tryz.prog 78 #[v] w fun e w' => e = .returned (.int .i64 (ownN l)) ∧ Below w.heap.size w w' := by
  obtain ⟨hl, A, c, rfl, h1, h2, h3⟩ := h
  have H3 := Lib.hid h3
  unfold maxLen at h2
  clear hl h3
  generalize hE : ownN l = E
  have HE := Lib.hid hE
  clear hE
  go_enter Tryz.func78, Tryz.ntmps78
  go_wp2_with fail
  go_loopw [7] (fun i wr => ∃ k : Nat, k ≤ l.length ∧ i = .int .i64 k ∧ Hid (∀ j x, j < k → l[j]? = some x → owB x.x.st = false) ∧ Below w.heap.size w wr) (fun i _ => l.length - (intOf i).toNat)
  case atStart => exact ⟨0, Nat.zero_le _, rfl, Lib.hid fun j x hj => absurd hj (by omega), Below.refl _ _⟩
  case round =>
    obtain ⟨k, hk, rfl, hno, low⟩ := hrel
    by_cases hlt : k < l.length
    · obtain ⟨bb, o, rfl, hb, hc⟩ := H3.out (by omega)
      have hx : l[k]? = some l[k] := List.getElem?_eq_getElem _
      generalize l[k] = x at hx
      obtain ⟨c0, c1, c2, c3, c4, c5, c6⟩ := cpAt_of hc hb low hx
      have HX := Lib.hid hx
      have OW := Lib.hid fun w => owns_any x.x.st w
      clear hx hc
      cases ho : owB x.x.st
      · rw [ho] at OW
        have HO := Lib.hid ho
        clear ho
        go_wp2_with fail
        (with_reducible refine (OW.out _).mono ?_); rintro e w2 ⟨rfl, rfl⟩
        go_wp2_with fail
        go_roundw
        case rel => exact ⟨k + 1, by omega, by go_num, Lib.hid fun j y hj hy => by
          by_cases e : j < k
          · exact hno.out j y e hy
          · obtain rfl : j = k := by omega
            rw [HX.out] at hy
            cases hy
            exact HO.out, gAlloc low _⟩
        case measure => simp [intOf]; omega
      · rw [ho] at OW
        obtain rfl : x.nd = E := (ownN_some hno.out HX.out ho).symm.trans HE.out
        clear ho
        go_wp2_with fail
        (with_reducible refine (OW.out _).mono ?_); rintro e w2 ⟨rfl, rfl⟩
        go_wp2_with fail
        go_ret
        exact ⟨rfl, gAlloc low _⟩
    · obtain rfl : -1 = E := (ownN_none (fun j c hj => hno.out j c (by have := (List.getElem?_eq_some_iff.1 hj).1; omega) hj)).symm.trans HE.out
      go_wp2_with fail
      go_ret
      exact ⟨rfl, low⟩

theorem valueOf_any (v : Value) (l : List Cp) (d : L4) (w : World) (h : Cps w v l) :
    Calls Tryz.prog 20 #[v, line d.a d.b d.c d.d] w fun e w' => e = .returned (line (valL l d).a (valL l d).b (valL l d).c (valL l d).d) ∧ Below w.heap.size w w' := by
  obtain ⟨hl, A, c, rfl, h1, h2, h3⟩ := h
  have low := Below.refl w.heap.size w
  cases l with
  | nil =>
    clear h3
    simp only [List.length_nil] at *
    go_enter Tryz.func20, Tryz.ntmps20
    go_wp2_with fail
    refine bodyPost_ret (v := line d.a d.b d.c d.d) (by simp [results, Tryz.results20, go_sem]) rfl ⟨rfl, ?_⟩
    exact gAlloc (gAlloc low _) _
  | cons x r =>
    obtain ⟨bb, o, rfl, hb, hc⟩ := h3 (by simp)
    obtain ⟨c0, c1, c2, c3, c4, c5, c6⟩ := cpAt_of hc hb low (k := 0) (x := x) rfl
    simp only [Nat.zero_mul, Nat.add_zero] at c0 c1 c2 c3 c4 c5 c6
    have hn : ((x :: r).length == 0) = false := by simp
    have hn1 : 0 < (x :: r).length := by simp
    generalize (x :: r).length = n at *
    clear hc hl h3
    show Calls _ _ _ _ fun e w' => e = .returned (line x.x.a x.x.b x.x.c x.x.d) ∧ _
    go_enter Tryz.func20, Tryz.ntmps20
    go_wp2_with fail
    refine bodyPost_ret (v := line x.x.a x.x.b x.x.c x.x.d) (by simp [results, Tryz.results20, go_sem]) rfl ⟨rfl, ?_⟩
    exact gAlloc (gAlloc low _) _
end Go.Proofs.YtcegjehoejgofaaGreat

/- Copies2: Proved: what checkLine of package agree returns, for every slice of copies that can be read; it changes nothing that was there. No condition. -/
namespace Go.Proofs.YtcegjehoejgofaaGreat
open Go.ChangeShapes Go.WideShapes Go.ChangeAt Go.RowKit Go.Joins

/-- The state, the data of copy i. -/
def stA (l : List Cp) (i : Nat) : Int := ((l[i]?).map (fun c => c.x.st)).getD 0
def datA (l : List Cp) (i : Nat) : L4 := ((l[i]?).map (fun c => c.x.dat)).getD ⟨0, 0, 0, 0⟩
theorem stA_at {l : List Cp} {i : Nat} {c : Cp} (h : l[i]? = some c) : stA l i = c.x.st := by simp [stA, h]
theorem datA_at {l : List Cp} {i : Nat} {c : Cp} (h : l[i]? = some c) : datA l i = c.x.dat := by simp [datA, h]

/-- May all of them be beside one another? Have all the same data? -/
def pairsB (l : List Cp) : Bool := (List.range l.length).all fun i => (List.range i).all fun j => bsB (stA l i) (stA l j)
def sameD (l : List Cp) : Bool := (List.range l.length).all fun i => eq4 (datA l i) (datA l 0)
/-- The error of a line with these copies and these data in memory. -/
def lnE (l : List Cp) (d : L4) : Int := if pairsB l = false then 8 else if sameD l = false then 3 else if ownN l < 0 ∧ eq4 (valL l d) d = false then 3 else 0

theorem pairsB_iff {l : List Cp} : pairsB l = true ↔ ∀ i j, i < l.length → j < i → bsB (stA l i) (stA l j) = true := by
  simp only [pairsB, List.all_eq_true, List.mem_range]
  exact ⟨fun h i j hi hj => h i hi j hj, fun h i hi j hj => h i j hi hj⟩
theorem sameD_iff {l : List Cp} : sameD l = true ↔ ∀ i, i < l.length → eq4 (datA l i) (datA l 0) = true := by
  simp only [sameD, List.all_eq_true, List.mem_range]
theorem pairsB_no {l : List Cp} {i j : Nat} (hi : i < l.length) (hj : j < i) (h : bsB (stA l i) (stA l j) = false) : pairsB l = false := by
  cases hp : pairsB l
  · rfl
  · have := pairsB_iff.1 hp i j hi hj
    rw [h] at this
    cases this
theorem sameD_no {l : List Cp} {i : Nat} (hi : i < l.length) (h : eq4 (datA l i) (datA l 0) = false) : sameD l = false := by
  cases hp : sameD l
  · rfl
  · have := sameD_iff.1 hp i hi
    rw [h] at this
    cases this

set_option maxRecDepth 10000 in
set_option maxHeartbeats 4000000 in
theorem checkLine_any (v : Value) (l : List Cp) (d : L4) (w : World) (h : Cps w v l) :
    Calls Tryz.prog 43 #[v, line d.a d.b d.c d.d] w fun e w' => e = .returned (.int .i64 (lnE l d)) ∧ Below w.heap.size w w' := by
  have H := Lib.hid h
  obtain ⟨hl, A, cp, rfl, h1, h2, h3⟩ := h
  have H3 := Lib.hid h3
  unfold maxLen at h2
  clear hl h3
  generalize hE : lnE l d = E
  unfold lnE at hE
  have HE := Lib.hid hE
  clear hE
  have low := Below.refl w.heap.size w
  have db := boxNext low 27 #[.int .u64 d.a, .int .u64 d.b, .int .u64 d.c, .int .u64 d.d]
  replace low := gAlloc low (.cells #[.int .u64 d.a, .int .u64 d.b, .int .u64 d.c, .int .u64 d.d] 27)
  try simp only [World.size_alloc] at db
  go_enter Tryz.func43, Tryz.ntmps43
  go_wp2_with fail
  go_loopw [13] (fun i wr => ∃ k : Nat, k ≤ l.length ∧ i = .int .i64 k ∧ Hid (∀ i j, i < k → j < i → bsB (stA l i) (stA l j) = true) ∧ Box wr w.heap.size 27 #[.int .u64 d.a, .int .u64 d.b, .int .u64 d.c, .int .u64 d.d] ∧ Below w.heap.size w wr) (fun i _ => l.length - (intOf i).toNat)
  case atStart => exact ⟨0, Nat.zero_le _, rfl, Lib.hid fun i j hi => absurd hi (by omega), db, low⟩
  case round =>
    clear db low
    obtain ⟨k, hk, rfl, hno, db, low⟩ := hrel
    by_cases hlt : k < l.length
    · obtain ⟨bb, o, rfl, hb, hc⟩ := H3.out (by omega)
      have hx : l[k]? = some l[k] := List.getElem?_eq_getElem _
      generalize l[k] = x at hx
      obtain ⟨c0, c1, c2, c3, c4, c5, c6⟩ := cpAt_of hc hb low hx
      have HX := Lib.hid (stA_at hx)
      have HC := Lib.hid hc
      clear hx hc
      have xb := boxNext low 116 x.box
      replace low := gAlloc low (.cells x.box 116)
      replace db := db.alloc (.cells x.box 116)
      try simp only [World.size_alloc] at xb
      simp only [Cp.box] at xb
      have k0 : (0 : Int) ≤ k := by omega
      have k1 : (k : Int) ≤ cp := by omega
      have k2 : (k : Int) < l.length := by omega
      have WH := Lib.hid (Nat.le_refl wr.heap.size)
      go_wp2_with fail
      go_loopw [22] (fun i wx => ∃ q : Nat, q ≤ k ∧ i = .int .i64 q ∧ Hid (∀ j, j < q → bsB x.x.st (stA l j) = true) ∧ Box wx wr.heap.size 116 x.box ∧ Box wx w.heap.size 27 #[.int .u64 d.a, .int .u64 d.b, .int .u64 d.c, .int .u64 d.d] ∧ Below w.heap.size w wx) (fun i _ => k - (intOf i).toNat)
      case atStart => exact ⟨0, Nat.zero_le _, rfl, Lib.hid fun j hj => absurd hj (by omega), xb, db, low⟩
      case round =>
        clear xb db low c0 c1 c2 c3 c4 c5 c6
        obtain ⟨q, hq, rfl, hyes, xb, db, low⟩ := hrel
        simp only [Cp.box] at xb
        by_cases hlt2 : q < k
        · have hy : l[q]? = some (l[q]'(by omega)) := List.getElem?_eq_getElem _
          generalize l[q]'(by omega) = y at hy
          obtain ⟨c0, c1, c2, c3, c4, c5, c6⟩ := cpAt_of HC.out hb low hy
          have HY := Lib.hid (stA_at hy)
          have BS := Lib.hid fun w => beside_any x.x.st y.x.st w
          clear hy
          have q0 : (0 : Int) ≤ q := by omega
          have q1 : (q : Int) < k := by omega
          have yb := boxNext low 116 y.box
          replace low := gAlloc low (.cells y.box 116)
          replace xb := xb.alloc (.cells y.box 116)
          replace db := db.alloc (.cells y.box 116)
          try simp only [World.size_alloc] at yb
          simp only [Cp.box] at yb
          have xb_1 := xb.at_ 1 rfl
          cases hbs : bsB x.x.st y.x.st
          · rw [hbs] at BS
            obtain rfl : 8 = E := by
              have := HE.out
              rwa [if_pos (pairsB_no hlt hlt2 (by rw [HX.out, HY.out]; exact hbs))] at this
            clear hbs
            go_wp2_with fail
            (with_reducible refine (BS.out _).mono ?_); rintro e w2 ⟨rfl, rfl⟩
            go_wp2_with fail
            go_ret
            exact ⟨rfl, low⟩
          · rw [hbs] at BS
            have HB := Lib.hid hbs
            clear hbs
            go_wp2_with fail
            (with_reducible refine (BS.out _).mono ?_); rintro e w2 ⟨rfl, rfl⟩
            go_wp2_with fail
            go_roundw
            case rel => exact ⟨q + 1, by omega, by go_num, Lib.hid fun j hj => by
              by_cases e : j < q
              · exact hyes.out j e
              · obtain rfl : j = q := by omega
                rw [HY.out]
                exact HB.out, xb, db, low⟩
            case measure => simp [intOf]; omega
        · obtain rfl : q = k := by omega
          go_wp2_with fail
          go_roundw
          case rel => exact ⟨q + 1, by omega, by go_num, Lib.hid fun i j hi hj => by
            by_cases e : i < q
            · exact hno.out i j e hj
            · obtain rfl : i = q := by omega
              rw [HX.out]
              exact hyes.out j hj, db, low⟩
          case measure => simp [intOf]; omega
    · have PB := Lib.hid (pairsB_iff.2 (fun i j hi hj => hno.out i j (by omega) hj))
      replace HE := Lib.hid (HE.out.symm.trans (if_neg (by rw [PB.out]; decide))).symm
      clear hno
      go_wp2_with fail
      clear hlt hk
      go_loopw [38] (fun i wr => ∃ k : Nat, k ≤ l.length ∧ i = .int .i64 k ∧ Hid (∀ i, i < k → eq4 (datA l i) (datA l 0) = true) ∧ Box wr w.heap.size 27 #[.int .u64 d.a, .int .u64 d.b, .int .u64 d.c, .int .u64 d.d] ∧ Below w.heap.size w wr) (fun i _ => l.length - (intOf i).toNat)
      case atStart => exact ⟨0, Nat.zero_le _, rfl, Lib.hid fun i hi => absurd hi (by omega), db, low⟩
      case round =>
        clear db low
        obtain ⟨k, hk, rfl, hno, db, low⟩ := hrel
        by_cases hlt : k < l.length
        · obtain ⟨bb, o, rfl, hb, hc⟩ := H3.out (by omega)
          have hx : l[k]? = some l[k] := List.getElem?_eq_getElem _
          generalize l[k] = x at hx
          have hz : l[0]? = some (l[0]'(by omega)) := List.getElem?_eq_getElem _
          generalize l[0]'(by omega) = z at hz
          obtain ⟨c0, c1, c2, c3, c4, c5, c6⟩ := cpAt_of hc hb low hx
          have HX := Lib.hid (show datA l k = x.x.dat from datA_at hx)
          have HZ := Lib.hid (show datA l 0 = z.x.dat from datA_at hz)
          have xb := boxNext low 116 x.box
          replace low := gAlloc low (.cells x.box 116)
          replace db := db.alloc (.cells x.box 116)
          try simp only [World.size_alloc] at xb
          simp only [Cp.box] at xb
          obtain ⟨z0, z1, z2, z3, z4, z5, z6⟩ := cpAt_of hc hb low hz
          simp only [Nat.zero_mul, Nat.add_zero] at z0 z1 z2 z3 z4 z5 z6
          clear hx hc hz z0 z1 z2
          have k2 : (k : Int) < l.length := by omega
          have k3 : (0 : Int) < l.length := by omega
          have eqL := fun w => eqL4 x.x.dat z.x.dat w
          simp only [Wy.dat] at eqL
          have xb_3 := xb.at_ 3 rfl
          have xb_4 := xb.at_ 4 rfl
          have xb_5 := xb.at_ 5 rfl
          have xb_6 := xb.at_ 6 rfl
          have HQ := Lib.hid (show eq4 (datA l k) (datA l 0) = eq4 x.x.dat z.x.dat by rw [HX.out, HZ.out])
          simp only [Wy.dat] at HQ
          generalize eq4 ⟨x.x.a, x.x.b, x.x.c, x.x.d⟩ ⟨z.x.a, z.x.b, z.x.c, z.x.d⟩ = Z at eqL HQ
          cases Z
          · obtain rfl : 3 = E := by
              have := HE.out
              rwa [if_pos (sameD_no hlt HQ.out)] at this
            go_wp2_with fail
            go_quiet (fail)
            go_wp2_with fail
            go_ret
            exact ⟨rfl, gDrewN low _⟩
          · go_wp2_with fail
            go_quiet (fail)
            go_wp2_with fail
            go_roundw
            case rel => exact ⟨k + 1, by omega, by go_num, Lib.hid fun i hi => by
              by_cases e : i < k
              · exact hno.out i e
              · obtain rfl : i = k := by omega
                exact HQ.out, db.drewN _, gDrewN low _⟩
            case measure => simp [intOf]; omega
        · have SB := Lib.hid (sameD_iff.2 (fun i hi => hno.out i (by omega)))
          replace HE := Lib.hid (HE.out.symm.trans (if_neg (by rw [SB.out]; decide))).symm
          clear hno
          go_wp2_with fail
          clear hlt hk
          have cps := H.out.call low
          have OW := Lib.hid fun w hw => ownerOf_any (.slice A l.length cp) l w hw
          have VA := Lib.hid fun w hw => valueOf_any (.slice A l.length cp) l d w hw
          generalize ownN l = O at OW HE
          have eqL := fun w => eqL4 (valL l d) d w
          generalize valL l d = z at VA HE eqL
          have d0 := db.at_ 0 rfl
          have d1 := db.at_ 1 rfl
          have d2 := db.at_ 2 rfl
          have d3 := db.at_ 3 rfl
          refine wp_region_noPanic ?_
          refine wp_region_held_drew (S := fun w' => w'.cell? ⟨w.heap.size, 0, none⟩ = some (.int .u64 d.a) ∧ w'.cell? ⟨w.heap.size, 1, none⟩ = some (.int .u64 d.b) ∧ w'.cell? ⟨w.heap.size, 2, none⟩ = some (.int .u64 d.c) ∧ w'.cell? ⟨w.heap.size, 3, none⟩ = some (.int .u64 d.d)) (by kernel_rfl) ⟨drewC d0, drewC d1, drewC d2, drewC d3⟩ (fun hHeld => ?_)
          clear db d0 d1 d2 d3
          refine takeFirst (i := 0) (v := ?_) rfl (by kernel_rfl) (by kernel_rfl) (by kernel_rfl) (by rfl) (fun _ _ _ h => h) ?_ (by assumption) ?_
          rotate_left
          · (intro w hSw; go_simp; try (with_reducible rfl))
          try simp only [Act.put, List.setIfInBounds_toArray, List.set_cons_zero, List.set_cons_succ]
          refine stepNext (i := 1) (by kernel_rfl) rfl (by rfl) (fun K hK => ?_)
          go_simp
          (with_reducible refine (OW.out _ cps.drew).mono ?_); rintro e w1 ⟨rfl, hb1⟩
          replace cps := cps.drew.call hb1
          replace low := gCall low.drew hb1
          obtain ⟨hh0, hh1, hh2, hh3⟩ := hHeld
          have hHeld := (And.intro (callC hb1 hh0) (And.intro (callC hb1 hh1) (And.intro (callC hb1 hh2) (callC hb1 hh3))))
          clear hh0 hh1 hh2 hh3
          refine hK.out _ _ hHeld ?_
          clear hK K
          try simp only [Act.put]
          try simp only [List.setIfInBounds_toArray, List.set_cons_zero, List.set_cons_succ]
          cases ho : decide (O < 0)
          · obtain rfl : 0 = E := by have := HE.out; rwa [if_neg (by have := of_decide_eq_false ho; omega)] at this
            refine takeFirst (i := 2) (v := ?_) rfl (by kernel_rfl) (by kernel_rfl) (by kernel_rfl) (by rfl) (fun _ _ _ h => h) ?_ (by assumption) ?_
            rotate_left
            · (intro w hSw; go_simp; try (with_reducible rfl))
            try simp only [Act.put, List.setIfInBounds_toArray, List.set_cons_zero, List.set_cons_succ]
            refine takeFirst (i := 3) (v := ?_) rfl (by kernel_rfl) (by kernel_rfl) (by kernel_rfl) (by rfl) (fun _ _ _ h => h) ?_ (by assumption) ?_
            rotate_left
            · (intro w hSw; go_simp; try (with_reducible rfl))
            try simp only [Act.put, List.setIfInBounds_toArray, List.set_cons_zero, List.set_cons_succ]
            refine skipFirst (i := 4) rfl (by kernel_rfl) (by kernel_rfl) (by kernel_rfl) (by rfl) (fun _ _ _ h => h) (by assumption) ?_
            try simp only [Act.put, List.setIfInBounds_toArray, List.set_cons_zero, List.set_cons_succ]
            refine skipFirst (i := 5) rfl (by kernel_rfl) (by kernel_rfl) (by kernel_rfl) (by rfl) (fun _ _ _ h => h) (by assumption) ?_
            try simp only [Act.put, List.setIfInBounds_toArray, List.set_cons_zero, List.set_cons_succ]
            refine skipFirst (i := 6) rfl (by kernel_rfl) (by kernel_rfl) (by kernel_rfl) (by rfl) (fun _ _ _ h => h) (by assumption) ?_
            try simp only [Act.put, List.setIfInBounds_toArray, List.set_cons_zero, List.set_cons_succ]
            refine skipFirst (i := 7) rfl (by kernel_rfl) (by kernel_rfl) (by kernel_rfl) (by rfl) (fun _ _ _ h => h) (by assumption) ?_
            try simp only [Act.put, List.setIfInBounds_toArray, List.set_cons_zero, List.set_cons_succ]
            refine skipFirst (i := 8) rfl (by kernel_rfl) (by kernel_rfl) (by kernel_rfl) (by rfl) (fun _ _ _ h => h) (by assumption) ?_
            try simp only [Act.put, List.setIfInBounds_toArray, List.set_cons_zero, List.set_cons_succ]
            refine takeFirst (i := 9) (v := ?_) rfl (by kernel_rfl) (by kernel_rfl) (by kernel_rfl) (by rfl) (fun _ _ _ h => h) ?_ (by assumption) ?_
            rotate_left
            · (intro w hSw; go_simp; try (with_reducible rfl))
            try simp only [Act.put, List.setIfInBounds_toArray, List.set_cons_zero, List.set_cons_succ]
            refine wpAnyH_done (by kernel_rfl) ?_ _
            refine NoPanic.normal ?_
            go_wp2_with fail
            go_ret
            exact ⟨rfl, low⟩
          · refine takeFirst (i := 2) (v := ?_) rfl (by kernel_rfl) (by kernel_rfl) (by kernel_rfl) (by rfl) (fun _ _ _ h => h) ?_ (by assumption) ?_
            rotate_left
            · (intro w hSw; go_simp; try (with_reducible rfl))
            try simp only [Act.put, List.setIfInBounds_toArray, List.set_cons_zero, List.set_cons_succ]
            refine takeFirst (i := 3) (v := ?_) rfl (by kernel_rfl) (by kernel_rfl) (by kernel_rfl) (by rfl) (fun _ _ _ h => h) ?_ (by assumption) ?_
            rotate_left
            · (intro w hSw; go_simp; try (with_reducible rfl))
            try simp only [Act.put, List.setIfInBounds_toArray, List.set_cons_zero, List.set_cons_succ]
            refine takeFirst (i := 4) (v := ?_) rfl (by kernel_rfl) (by kernel_rfl) (by kernel_rfl) (by rfl) (fun _ _ _ h => h) ?_ (by assumption) ?_
            rotate_left
            · (intro w hSw; go_simp; try (with_reducible rfl))
            try simp only [Act.put, List.setIfInBounds_toArray, List.set_cons_zero, List.set_cons_succ]
            refine takeFirst (i := 5) (v := ?_) rfl (by kernel_rfl) (by kernel_rfl) (by kernel_rfl) (by rfl) (fun _ _ _ h => h) ?_ (by assumption) ?_
            rotate_left
            · (intro w hSw; go_simp; try (with_reducible rfl))
            try simp only [Act.put, List.setIfInBounds_toArray, List.set_cons_zero, List.set_cons_succ]
            refine takeFirst (i := 7) (v := ?_) rfl (by kernel_rfl) (by kernel_rfl) (by kernel_rfl) (by rfl) (fun _ _ _ h => h) ?_ (by assumption) ?_
            rotate_left
            · (intro w hSw; go_simp; try (with_reducible rfl))
            try simp only [Act.put, List.setIfInBounds_toArray, List.set_cons_zero, List.set_cons_succ]
            refine stepNext (i := 6) (by kernel_rfl) rfl (by rfl) (fun K hK => ?_)
            go_simp
            (with_reducible refine (VA.out _ cps).mono ?_); rintro e w2 ⟨rfl, hb2⟩
            replace low := gCall low hb2
            obtain ⟨hh0, hh1, hh2, hh3⟩ := hHeld
            have hHeld := (And.intro (callC hb2 hh0) (And.intro (callC hb2 hh1) (And.intro (callC hb2 hh2) (callC hb2 hh3))))
            clear hh0 hh1 hh2 hh3
            refine hK.out _ _ hHeld ?_
            clear hK K
            try simp only [Act.put]
            try simp only [List.setIfInBounds_toArray, List.set_cons_zero, List.set_cons_succ]
            cases hz : eq4 z d
            · obtain rfl : 3 = E := by have := HE.out; rwa [if_pos ⟨of_decide_eq_true ho, hz⟩] at this
              simp only [hz] at eqL
              refine takeFirst (i := 8) (v := ?_) rfl (by kernel_rfl) (by kernel_rfl) (by kernel_rfl) (by rfl) (fun _ _ _ h => h) ?_ (by assumption) ?_
              rotate_left
              · (intro w hSw; go_simp; try (with_reducible rfl))
              try simp only [Act.put, List.setIfInBounds_toArray, List.set_cons_zero, List.set_cons_succ]
              refine takeFirst (i := 9) (v := ?_) rfl (by kernel_rfl) (by kernel_rfl) (by kernel_rfl) (by rfl) (fun _ _ _ h => h) ?_ (by assumption) ?_
              rotate_left
              · (intro w hSw; go_simp; try (with_reducible rfl))
              try simp only [Act.put, List.setIfInBounds_toArray, List.set_cons_zero, List.set_cons_succ]
              refine wpAnyH_done (by kernel_rfl) ?_ _
              refine NoPanic.normal ?_
              go_wp2_with fail
              go_ret
              exact ⟨rfl, low⟩
            · obtain rfl : 0 = E := by have := HE.out; rwa [if_neg (by rw [hz]; simp)] at this
              simp only [hz] at eqL
              refine takeFirst (i := 8) (v := ?_) rfl (by kernel_rfl) (by kernel_rfl) (by kernel_rfl) (by rfl) (fun _ _ _ h => h) ?_ (by assumption) ?_
              rotate_left
              · (intro w hSw; go_simp; try (with_reducible rfl))
              try simp only [Act.put, List.setIfInBounds_toArray, List.set_cons_zero, List.set_cons_succ]
              refine takeFirst (i := 9) (v := ?_) rfl (by kernel_rfl) (by kernel_rfl) (by kernel_rfl) (by rfl) (fun _ _ _ h => h) ?_ (by assumption) ?_
              rotate_left
              · (intro w hSw; go_simp; try (with_reducible rfl))
              try simp only [Act.put, List.setIfInBounds_toArray, List.set_cons_zero, List.set_cons_succ]
              refine wpAnyH_done (by kernel_rfl) ?_ _
              refine NoPanic.normal ?_
              go_wp2_with fail
              go_ret
              exact ⟨rfl, low⟩
end Go.Proofs.YtcegjehoejgofaaGreat

/- Worlds: Proved: words for slices of caches and for worlds; what Form of package agree returns, for every world that can be read; it changes nothing that was there. No condition. -/
namespace Go.Proofs.YtcegjehoejgofaaGreat
open Go.ChangeShapes Go.WideShapes Go.ChangeAt Go.RowKit Go.Joins

/-- The cells of a world: its slice of caches, then the words of its memory. -/
def wldA (v : Value) (m : List Int) : Array Value := (v :: m.map (Value.int .u64)).toArray
abbrev wldV (v : Value) (m : List Int) : Value := .agg (wldA v m)
theorem wldA_size (v : Value) (m : List Int) : (wldA v m).size = m.length + 1 := by simp [wldA]
theorem wldA_zero (v : Value) (m : List Int) : (wldA v m)[0]? = some v := by simp [wldA]
theorem wldA_one {A : Option Addr} {n c : Nat} (m : List Int) : (wldA (.slice A n c) m).all (·.oneCell') = true := all_oneCell_toArray fun v hv => by
  rcases List.mem_cons.1 hv with rfl | hv
  · rfl
  · obtain ⟨x, _, rfl⟩ := List.mem_map.1 hv
    rfl
theorem tyWorld : Ty 31 (wldA (.slice none 0 0) zeroL) := ⟨by kernel_rfl, ⟨_, Tryz.underlying31, rfl⟩, fun w => by kernel_rfl⟩
theorem tyMem : Ty 29 (memA zeroL) := ⟨by kernel_rfl, ⟨_, Tryz.underlying29, rfl⟩, fun w => by kernel_rfl⟩
/-- Its memory's cells lie behind the first. -/
theorem wld_mem {w : World} {g : Nat} {t : TypeId} {v : Value} {m : List Int} (h : Box w g t (wldA v m)) : w.rangeAt g 1 (memA m).toList := fun j u hu => by
  rw [h.cell, wldA, List.getElem?_toArray, Nat.add_comm, List.getElem?_cons_succ, ← hu, memA_list]
theorem zero_size : (wldA (.slice none 0 0) zeroL).size = 65 := by rw [wldA_size, zeroL_length]
theorem wld_size {v : Value} {m : List Int} (h : m.length = 64) : (wldA v m).size = (wldA (.slice none 0 0) zeroL).size := by rw [wldA_size, wldA_size, zeroL_length, h]
theorem mem_zsize {m : List Int} (h : m.length = 64) : (memA m).size = (memA zeroL).size := by rw [memA_size, memA_size, zeroL_length, h]

/-- The slice holds the caches. -/
structure Ks (w : World) (v : Value) (css : List (List St)) : Prop where
  ex : ∃ A c, v = .slice A css.length c ∧ css.length ≤ c ∧ c ≤ maxLen ∧ (0 < css.length → ∃ b o, A = some ⟨b, o, none⟩ ∧ b < w.heap.size ∧ ∀ (k : Nat) ss, css[k]? = some ss → ∃ A' c', w.cell? ⟨b, o + k, none⟩ = some (.slice A' ss.length c') ∧ Cs w (.slice A' ss.length c') ss)
theorem Ks.call {w w' : World} {v : Value} {css : List (List St)} (h : Ks w v css) (hb : Below w.heap.size w w') : Ks w' v css := by
  obtain ⟨A, c, e, h1, h2, h3⟩ := h
  refine ⟨A, c, e, h1, h2, fun h0 => ?_⟩
  obtain ⟨b, o, eA, hlt, hl⟩ := h3 h0
  refine ⟨b, o, eA, Nat.lt_of_lt_of_le hlt hb.size, fun k ss hk => ?_⟩
  obtain ⟨A', c', k1, k2⟩ := hl k ss hk
  exact ⟨A', c', (hb.cell (p := ⟨b, o + k, none⟩) hlt).trans k1, k2.call hb⟩
theorem Ks.alloc {w : World} {v : Value} {css : List (List St)} (h : Ks w v css) (o : Obj) : Ks (w.alloc o) v css := h.call (gAlloc (Below.refl _ _) o)
theorem Ks.drew {w : World} {v : Value} {css : List (List St)} (h : Ks w v css) : Ks w.drew v css := h.call (Below.refl _ _).drew

/-- The first error of the caches, of the structure of a world. -/
def cachesE (n s y b : Int) : List (List St) → Int
  | [] => 0
  | ss :: r => if cacheE n s y b ss ≠ 0 then cacheE n s y b ss else cachesE n s y b r
def formE (n s y b : Int) (css : List (List St)) : Int := if cfgB n s y b = false then 4 else if (css.length : Int) ≠ n then 3 else cachesE n s y b css
theorem cachesE_at {n s y b : Int} {css : List (List St)} {k : Nat} {ss : List St} (h : css[k]? = some ss) : cachesE n s y b (css.drop k) =
    if cacheE n s y b ss ≠ 0 then cacheE n s y b ss else cachesE n s y b (css.drop (k + 1)) := by
  obtain ⟨hk, rfl⟩ := List.getElem?_eq_some_iff.1 h
  rw [List.drop_eq_getElem_cons hk, cachesE]

set_option maxHeartbeats 1000000 in
theorem form_any (n s y b : Int) (v : Value) (m : List Int) (css : List (List St)) (w : World) (h : Ks w v css) :
    Calls Tryz.prog 75 #[cfg n s y b, wldV v m] w fun e w' => e = .returned (.int .i64 (formE n s y b css)) ∧ Below w.heap.size w w' := by
  have H := Lib.hid h
  obtain ⟨A, cp, rfl, h1, h2, h3⟩ := h
  have H3 := Lib.hid h3
  unfold maxLen at h2
  clear h3
  generalize hE : formE n s y b css = E
  unfold formE at hE
  have HE := Lib.hid hE
  clear hE
  have low := Below.refl w.heap.size w
  have cb := boxNext low 23 (cfgA n s y b)
  replace low := gAlloc low (.cells (cfgA n s y b) 23)
  try simp only [World.size_alloc] at cb
  have wb := boxNext low 31 (wldA (.slice A css.length cp) m)
  replace low := gAlloc low (.cells (wldA (.slice A css.length cp) m) 31)
  replace cb := cb.alloc (.cells (wldA (.slice A css.length cp) m) 31)
  try simp only [World.size_alloc] at wb
  cases hcf : cfgB n s y b
  · obtain rfl : 4 = E := by have := HE.out; rwa [if_pos hcf] at this
    have HC := Lib.hid hcf
    clear hcf
    go_enter Tryz.func75, Tryz.ntmps75
    go_wp2_with fail
    (with_reducible refine (check_bad _ _ _ _ _ HC.out).mono ?_); rintro e w1 ⟨rfl, hb⟩
    replace cb := cb.call hb
    replace low := gCall low hb
    clear hb
    go_wp2_with fail
    go_ret
    exact ⟨rfl, low⟩
  replace HE := Lib.hid (HE.out.symm.trans (if_neg (by simp [hcf]))).symm
  have HC := Lib.hid hcf
  clear hcf
  cases hn : ((css.length : Int) != n)
  rotate_left
  · obtain rfl : 3 = E := by have := HE.out; rwa [if_pos (by simpa using hn)] at this
    go_enter Tryz.func75, Tryz.ntmps75
    go_wp2_with fail
    (with_reducible refine (check_ok _ _ _ _ _ HC.out).mono ?_); rintro e w1 ⟨rfl, hb⟩
    replace cb := cb.call hb
    replace wb := wb.call hb
    replace low := gCall low hb
    clear hb
    have cb_0 := cb.at_ 0 rfl
    have cb_1 := cb.at_ 1 rfl
    have cb_2 := cb.at_ 2 rfl
    have cb_3 := cb.at_ 3 rfl
    have wb0 := wb.at_ 0 (wldA_zero _ _)
    go_wp2_with fail
    go_ret
    exact ⟨rfl, low⟩
  replace HE := Lib.hid (HE.out.symm.trans (if_neg (by simpa using hn))).symm
  go_enter Tryz.func75, Tryz.ntmps75
  go_wp2_with fail
  (with_reducible refine (check_ok _ _ _ _ _ HC.out).mono ?_); rintro e w1 ⟨rfl, hb⟩
  replace cb := cb.call hb
  replace wb := wb.call hb
  replace low := gCall low hb
  clear hb
  have cb_0 := cb.at_ 0 rfl
  have cb_1 := cb.at_ 1 rfl
  have cb_2 := cb.at_ 2 rfl
  have cb_3 := cb.at_ 3 rfl
  have wb0 := wb.at_ 0 (wldA_zero _ _)
  go_wp2_with fail
  go_loopw [23] (fun j wr => ∃ k : Nat, k ≤ css.length ∧ j = .int .i64 k ∧ Hid (cachesE n s y b (css.drop k) = E) ∧ Box wr w.heap.size 23 (cfgA n s y b) ∧ Below w.heap.size w wr) (fun j _ => css.length - (intOf j).toNat)
  case atStart => exact ⟨0, Nat.zero_le _, rfl, Lib.hid (by rw [List.drop_zero]; exact HE.out), cb, low⟩
  case round =>
    clear cb_0 cb_1 cb_2 cb_3
    clear cb wb low wb0
    obtain ⟨k, hk, rfl, hno, cb, low⟩ := hrel
    simp only [cfgA] at cb
    by_cases hlt : k < css.length
    · obtain ⟨bb, o, rfl, hb, hc⟩ := H3.out (by omega)
      have hx : css[k]? = some css[k] := List.getElem?_eq_getElem _
      generalize css[k] = ss at hx
      obtain ⟨A', c', ce, cs⟩ := hc k ss hx
      replace ce := (low.cell (p := ⟨bb, o + k, none⟩) hb).trans ce
      replace cs := cs.call low
      have hs := hno.out
      rw [cachesE_at hx] at hs
      have HS := Lib.hid hs
      have CW := Lib.hid fun w hw => cacheCheck_any n s y b (.slice A' ss.length c') ss w hw
      clear hx hc hs
      generalize cacheE n s y b ss = f at CW HS
      have cb_0 := cb.at_ 0 rfl
      have cb_1 := cb.at_ 1 rfl
      have cb_2 := cb.at_ 2 rfl
      have cb_3 := cb.at_ 3 rfl
      go_wp2_with fail
      (with_reducible refine (CW.out _ cs).mono ?_); rintro e w2 ⟨rfl, hb2⟩
      clear cb_0 cb_1 cb_2 cb_3
      replace cb := cb.call hb2
      replace low := gCall low hb2
      clear hb2 ce cs
      cases hf : (f != 0)
      rotate_left
      · obtain rfl : f = E := by have := HS.out; rwa [if_pos (by simpa using hf)] at this
        go_wp2_with fail
        go_ret
        exact ⟨rfl, low⟩
      obtain rfl : f = 0 := by simpa using hf
      replace HS := Lib.hid (HS.out.symm.trans (if_neg (by simp)))
      clear hf
      go_wp2_with fail
      go_roundw
      case rel => exact ⟨k + 1, by omega, by go_num, Lib.hid HS.out.symm, cb, low⟩
      case measure => simp [intOf]; omega
    · obtain rfl : k = css.length := by omega
      obtain rfl : 0 = E := by have := hno.out; rwa [List.drop_length] at this
      go_wp2_with fail
      go_ret
      exact ⟨rfl, low⟩
end Go.Proofs.YtcegjehoejgofaaGreat

/- Owned: Proved: rows and ints that a call owns, from world to world, beside blocks of another type. No condition. -/
namespace Go.Proofs.YtcegjehoejgofaaGreat
open Go.ChangeShapes Go.WideShapes Go.ChangeAt Go.RowKit Go.Joins

theorem own_ne {w : World} {base size n g : Nat} {e t : TypeId} {v : Value} {xs : List Value} {cs : Array Value} (h : w.ownsRow base e size v n xs) (b : Box w g t cs) (ht : t ≠ e) : some g ≠ v.ownBlock := by
  rcases h.2 with ⟨rfl, _⟩ | ⟨g', cap, cur, rfl, _, hh, _⟩
  · simp [Value.ownBlock]
  · simp only [Value.ownBlock]
    intro e'
    cases e'
    unfold Box at b
    rw [hh] at b
    simp only [Option.some.injEq, Obj.cells.injEq] at b
    exact ht b.2.1.symm
theorem own_stored {w w' : World} {base size n g : Nat} {e : TypeId} {v : Value} {xs : List Value} (h : w.ownsRow base e size v n xs) (st : Stored w g w') (hne : some g ≠ v.ownBlock) : w'.ownsRow base e size v n xs := by
  refine ⟨h.1, ?_⟩
  rcases h.2 with hn | ⟨g', cap, cur, rfl, hb, hgg, rest⟩
  · exact .inl hn
  · exact .inr ⟨g', cap, cur, rfl, hb, (st.heap (fun e => hne (by simp [Value.ownBlock, e]))).trans hgg, rest⟩

section
variable {w w' : World} {g : Nat} {v : Value} {l : List Int}
theorem OwnI.call (h : OwnI w g v l) (hb : Below w.heap.size w w') : OwnI w' g v l := by
  obtain ⟨cap, cur, rfl, h1, h2⟩ := h
  exact ⟨cap, cur, rfl, h1.call hb, h2⟩
theorem OwnI.sl (h : OwnI w g v l) : Sl w w.heap.size 1 v l.length (l.map (Value.int .i64)) := Sl.ofOwn (h.row (Nat.le_refl g))
end

theorem info_int1 : (Tryz.prog.info? 3).map (fun i => (i.zero, i.size, i.bytes)) = some (some (.int .i64 0), 1, 8) := by kernel_rfl
end Go.Proofs.YtcegjehoejgofaaGreat

/- Agree: Proved: words for the copies of all lines; what collect of package agree returns, for every world that can be read; it changes nothing that was there. No condition. -/
namespace Go.Proofs.YtcegjehoejgofaaGreat
open Go.ChangeShapes Go.WideShapes Go.ChangeAt Go.RowKit Go.Joins

/-- The lines that a node has; those of the first nodes; the copies of one line among them. -/
def cpsOf (i : Nat) (ss : List St) : List Cp := (allW ss).map fun x => ⟨i, x⟩
def copN (css : List (List St)) : Nat → List Cp
  | 0 => []
  | k + 1 => copN css k ++ cpsOf k (css.getD k [])
def onL (k : Nat) (P : List Cp) : List Cp := P.filter fun c => c.x.ln == (k : Int)

theorem copN_succ {css : List (List St)} {k : Nat} {ss : List St} (h : css[k]? = some ss) : copN css (k + 1) = copN css k ++ cpsOf k ss := by
  simp [copN, List.getD, h]
theorem onL_ln {k : Nat} {P : List Cp} {c : Cp} (h : c ∈ onL k P) : c.x.ln = k := by
  simpa using (List.mem_filter.1 h).2
theorem onL_same {k : Nat} (P : List Cp) {c : Cp} (h : c.x.ln = (k : Int)) : onL k (P ++ [c]) = onL k P ++ [c] := by
  simp [onL, List.filter_append, h]
theorem onL_other {k : Nat} (P : List Cp) {c : Cp} (h : c.x.ln ≠ (k : Int)) : onL k (P ++ [c]) = onL k P := by
  simp [onL, List.filter_append, h]
theorem onL_length (k : Nat) (P : List Cp) : (onL k P).length ≤ P.length := List.length_filter_le _ _

theorem allW_length {ss : List St} (h : ∀ t ∈ ss, t.l.length ≤ 4) : (allW ss).length ≤ ss.length * 4 := by
  induction ss with
  | nil => simp [allW]
  | cons t r ih =>
    have h1 := h t (by simp)
    have h2 := ih (fun u hu => h u (by simp [hu]))
    have h3 : (t.l.filter heldB).length ≤ t.l.length := List.length_filter_le _ _
    simp only [allW, List.flatMap_cons, List.length_append, List.length_cons] at *
    omega
theorem allW_16 {n s y b : Int} {ss : List St} (h : cacheE n s y b ss = 0) : (allW ss).length ≤ 16 := by
  obtain ⟨h1, h2⟩ := (goodC_iff.1 h).small
  have := allW_length (ss := ss) (fun t ht => by
    obtain ⟨k, hk, e⟩ := List.getElem_of_mem ht
    exact (h2 k t (by rw [List.getElem?_eq_getElem hk, e])).2)
  omega
theorem allW_line {n s y b : Int} {ss : List St} (h : cacheE n s y b ss = 0) {x : Wy} (hx : x ∈ allW ss) : 0 ≤ x.ln ∧ x.ln ≤ 15 := by
  obtain ⟨t, ht, hm⟩ := List.mem_flatMap.1 hx
  obtain ⟨k, hk, e⟩ := List.getElem_of_mem ht
  obtain ⟨j, hj, e'⟩ := List.getElem_of_mem (List.mem_filter.1 hm).1
  exact rowE_line ((goodC_iff.1 h).2.2 k t (by rw [List.getElem?_eq_getElem hk, e])).1 (k := j) (by rw [List.getElem?_eq_getElem hj, e'])

/-- No copies at all. -/
def nil16 : Array Value := (List.replicate 16 (.slice none 0 0)).toArray
theorem nil16_size : nil16.size = 16 := by simp [nil16]
theorem tyCopies : Ty 73 nil16 := ⟨by kernel_rfl, ⟨_, Tryz.underlying73, rfl⟩, fun w => by kernel_rfl⟩

theorem Own.grown {w w' : World} {g : Nat} {v : Value} {l : List Wy} {row : Option Nat} (h : Own w g v l) (hg : w.grownBy w' row) (hne : some g ≠ row) : Own w' g v l := by
  obtain ⟨cap, cur, rfl, hb, r⟩ := h
  exact ⟨cap, cur, rfl, hb.grown hg hne, r⟩
theorem Fr.grown {w w' : World} {B C base size n : Nat} {v u : Value} {l : List Wy} {e : TypeId} {xs : List Value} (h : Fr w B C v l) (own : w.ownsRow base e size u n xs) (he : 114 ≠ e) (hg : w.grownBy w' u.ownBlock) : Fr w' B C v l := by
  rcases h with h | ⟨g, h1, h2, h3⟩
  · exact .inl h
  · refine .inr ⟨g, h1, h2, h3.grown hg ?_⟩
    obtain ⟨cap, cur, _, hb, _⟩ := h3
    exact own_ne own hb he
theorem Fr.stored {w w' : World} {B C g : Nat} {v : Value} {l : List Wy} {t : TypeId} {cs : Array Value} (h : Fr w B C v l) (b : Box w g t cs) (ht : 114 ≠ t) (st : Stored w g w') : Fr w' B C v l := by
  rcases h with h | ⟨g', h1, h2, cap, cur, e, hb, r⟩
  · exact .inl h
  · refine .inr ⟨g', h1, h2, cap, cur, e, st.box hb ?_, r⟩
    intro e'
    subst e'
    unfold Box at b hb
    rw [hb] at b
    simp only [Option.some.injEq, Obj.cells.injEq] at b
    exact ht b.2.1

/-- The slices of copies, line by line. -/
structure Held (w : World) (base : Nat) (us : List Value) (P : List Cp) : Prop where
  len : us.length = 16
  own : ∀ (k : Nat) u, us[k]? = some u → w.ownsRow base 116 7 u (onL k P).length (cpsC (onL k P)) ∧ (u = .slice none 0 0 ∨ onL k P ≠ [])

theorem Held.start (w : World) (base : Nat) : Held w base (List.replicate 16 (.slice none 0 0)) [] := by
  refine ⟨by simp, fun k u hu => ?_⟩
  have : u = .slice none 0 0 := List.eq_of_mem_replicate (List.mem_of_getElem? hu)
  subst this
  exact ⟨World.ownsRow_nil _ _ _ _, .inl rfl⟩
theorem Held.call {w w' : World} {base : Nat} {us : List Value} {P : List Cp} (h : Held w base us P) (hb : Below w.heap.size w w') : Held w' base us P :=
  ⟨h.len, fun k u hu => ⟨own_below (h.own k u hu).1 hb, (h.own k u hu).2⟩⟩
theorem Held.alloc {w : World} {base : Nat} {us : List Value} {P : List Cp} (h : Held w base us P) (o : Obj) : Held (w.alloc o) base us P := h.call (gAlloc (Below.refl _ _) o)
theorem Held.drew {w : World} {base : Nat} {us : List Value} {P : List Cp} (h : Held w base us P) : Held w.drew base us P := h.call (Below.refl _ _).drew
theorem Held.stored {w w' : World} {base g : Nat} {us : List Value} {P : List Cp} {t : TypeId} {cs : Array Value} (h : Held w base us P) (b : Box w g t cs) (ht : t ≠ 116) (st : Stored w g w') : Held w' base us P :=
  ⟨h.len, fun k u hu => ⟨own_stored (h.own k u hu).1 st (own_ne (h.own k u hu).1 b ht), (h.own k u hu).2⟩⟩

/-- The line of the first copy that a slice holds. -/
theorem Held.first {w : World} {base : Nat} {us : List Value} {P : List Cp} (h : Held w base us P) {k g : Nat} {u : Value} (hu : us[k]? = some u) (hg : u.ownBlock = some g) : w.cell? ⟨g, 2, none⟩ = some (.int .i64 k) := by
  obtain ⟨h1, h2⟩ := h.own k u hu
  rcases h2 with rfl | h2
  · simp [Value.ownBlock] at hg
  · have e : (⟨g, 0, none⟩ : Addr).add 2 = ⟨g, 2, none⟩ := by simp [Addr.add]
    rw [← e]
    refine h1.cells hg 2 _ ?_
    cases hl : onL k P with
    | nil => exact absurd hl h2
    | cons c r =>
      have hc : c.x.ln = k := onL_ln (P := P) (by rw [hl]; simp)
      have := cpsC_at (l := c :: r) (k := 0) (x := c) rfl 2 (by omega)
      simp only [Nat.zero_mul, Nat.zero_add] at this
      rw [this]
      simp [Cp.cells, hc]

/-- One copy more. -/
theorem Held.push {w w' : World} {base : Nat} {us : List Value} {P : List Cp} (h : Held w base us P) {k : Nat} {u v' : Value} (hu : us[k]? = some u) {c : Cp} (hc : c.x.ln = (k : Int))
    (own : w'.ownsRow base 116 7 v' ((onL k P).length + 1) (cpsC (onL k P) ++ c.cells)) (grow : w.grownBy w' u.ownBlock) : Held w' base (us.set k v') (P ++ [c]) := by
  have hk := (List.getElem?_eq_some_iff.1 hu).1
  refine ⟨by rw [List.length_set]; exact h.len, fun j z hz => ?_⟩
  by_cases e : j = k
  · subst e
    rw [List.getElem?_set_self hk] at hz
    cases hz
    rw [onL_same P hc, cpsC_snoc, List.length_append]
    exact ⟨own, .inr (by simp)⟩
  · rw [List.getElem?_set_ne (fun h => e h.symm)] at hz
    rw [onL_other P (by rw [hc]; omega)]
    refine ⟨(h.own j z hz).1.kept grow ?_, (h.own j z hz).2⟩
    cases hzb : z.ownBlock with
    | none => exact .inl rfl
    | some g =>
      refine .inr fun e' => ?_
      have a1 := h.first hz hzb
      have a2 := h.first hu e'.symm
      rw [a1] at a2
      simp at a2
      omega

/-- What a caller may read. -/
theorem Held.cps {w : World} {base : Nat} {us : List Value} {P : List Cp} (h : Held w base us P) {k : Nat} {u : Value} (hu : us[k]? = some u) : Cps w u (onL k P) := ⟨Sl.ofOwn (h.own k u hu).1⟩
end Go.Proofs.YtcegjehoejgofaaGreat

/- Agree2: Proved: what collect of package agree returns, for every world that can be read; it changes nothing that was there. No condition. -/
namespace Go.Proofs.YtcegjehoejgofaaGreat
open Go.ChangeShapes Go.WideShapes Go.ChangeAt Go.RowKit Go.Joins

abbrev cp0 : Value := .agg #[.int .i64 0, .int .i64 0, .int .i64 0, .int .u64 0, .int .u64 0, .int .u64 0, .int .u64 0]
theorem info_copy : (Tryz.prog.info? 116).map (fun i => (i.zero, i.size, i.bytes)) = some (some cp0, 7, 56) := by kernel_rfl
theorem us_one {w : World} {base : Nat} {us : List Value} {P : List Cp} (h : Held w base us P) : us.toArray.all (·.oneCell') = true := all_oneCell_toArray fun v hv => by
  obtain ⟨k, hk, e⟩ := List.getElem_of_mem hv
  obtain ⟨A, c, rfl⟩ := own_shape (h.own k v (by rw [List.getElem?_eq_getElem hk, e])).1
  rfl
theorem nil16_one : nil16.all (·.oneCell') = true := by kernel_rfl
theorem cells_one (c : Cp) : ∀ u ∈ c.cells, u.oneCell' = true := by
  intro u hu
  simp [Cp.cells] at hu
  rcases hu with rfl | rfl | rfl | rfl | rfl | rfl | rfl <;> rfl
theorem cells_new (w : World) (t : TypeId) (x : Cp) (g q : Nat) (u : Value) (hg : g = w.heap.size) (h : x.cells[q]? = some u) : (w.alloc (.cells x.box t)).cell? ((⟨g, 0, none⟩ : Addr).add q) = some u := by
  subst hg
  have e : (⟨w.heap.size, 0, none⟩ : Addr).add q = ⟨w.heap.size, q, none⟩ := by cases q <;> simp [Addr.add]
  rw [e, (Box.new w t x.box).cell, ← h]
  simp [Cp.cells]
theorem cachesE_all {n s y b : Int} {css : List (List St)} (h : cachesE n s y b css = 0) : ∀ ss ∈ css, cacheE n s y b ss = 0 := by
  induction css with
  | nil => simp
  | cons t r ih =>
    rw [cachesE] at h
    by_cases h1 : cacheE n s y b t ≠ 0
    · rw [if_pos h1] at h; exact absurd h h1
    · rw [if_neg h1] at h
      intro ss hs
      rcases List.mem_cons.1 hs with rfl | hs
      · simpa using h1
      · exact ih h ss hs
theorem formE_ok {n s y b : Int} {css : List (List St)} (h : formE n s y b css = 0) : cfgB n s y b = true ∧ (css.length : Int) = n ∧ ∀ ss ∈ css, cacheE n s y b ss = 0 := by
  unfold formE at h
  by_cases h1 : cfgB n s y b = false
  · rw [if_pos h1] at h; omega
  · rw [if_neg h1] at h
    by_cases h2 : (css.length : Int) ≠ n
    · rw [if_pos h2] at h; omega
    · rw [if_neg h2] at h
      exact ⟨by simpa using h1, by omega, cachesE_all h⟩

set_option maxHeartbeats 1000000 in
theorem collect_bad (n s y b : Int) (v : Value) (m : List Int) (css : List (List St)) (w : World) (h : Ks w v css) (hm : m.length = 64) (he : formE n s y b css ≠ 0) :
    Calls Tryz.prog 42 #[cfg n s y b, wldV v m] w fun e w' => e = .returned (.tuple #[.agg nil16, .int .i64 (formE n s y b css)]) ∧ Below w.heap.size w w' := by
  have F := Lib.hid fun w hw => form_any n s y b v m css w hw
  generalize formE n s y b css = E at F he ⊢
  have he' : (E != 0) = true := by simpa using he
  clear he
  have low := Below.refl w.heap.size w
  have cb := boxNext low 23 (cfgA n s y b)
  replace low := gAlloc low (.cells (cfgA n s y b) 23)
  replace h := h.alloc (.cells (cfgA n s y b) 23)
  try simp only [World.size_alloc] at cb
  have wb := boxNext low 31 (wldA v m)
  replace low := gAlloc low (.cells (wldA v m) 31)
  replace cb := cb.alloc (.cells (wldA v m) 31)
  replace h := h.alloc (.cells (wldA v m) 31)
  try simp only [World.size_alloc] at wb
  have ob := boxNext low 73 nil16
  replace low := gAlloc low (.cells nil16 73)
  replace cb := cb.alloc (.cells nil16 73)
  replace wb := wb.alloc (.cells nil16 73)
  replace h := h.alloc (.cells nil16 73)
  try simp only [World.size_alloc] at ob
  have wr := wb.range
  go_enter Tryz.func42, Tryz.ntmps42
  go_wp2_with (first | (with_reducible refine wp_newW (tyCopies) ?_) | ((with_reducible refine wp_loadW (tyWorld) (wr) (wld_size hm) ?_ ?_ ?_); rfl; rfl))
  (with_reducible refine (F.out _ h).mono ?_); rintro e w1 ⟨rfl, hb⟩
  replace ob := ob.call hb
  replace low := gCall low hb
  clear hb cb wb wr
  go_wp2_with (first | (with_reducible refine wp_zeroW (tyCopies) ?_) | ((with_reducible refine wp_storeW (tyCopies) (ob) (rfl) (rfl) (nil16_one) ?_ ?_ ?_); rfl; rfl))
  intro w2 ob2 st
  replace low := st.low low (by omega)
  clear ob st
  go_wp2_with fail
  refine bodyPost_ret (v := .tuple #[.agg nil16, .int .i64 E]) (results_first tyCopies Tryz.results42 rfl rfl ob2 rfl) rfl ⟨rfl, low⟩

set_option maxRecDepth 10000 in
set_option maxHeartbeats 4000000 in
theorem collect_ok (n s y b : Int) (v : Value) (m : List Int) (css : List (List St)) (w : World) (h : Ks w v css) (hm : m.length = 64) (he : formE n s y b css = 0) :
    Calls Tryz.prog 42 #[cfg n s y b, wldV v m] w fun e w' => (∃ us, e = .returned (.tuple #[.agg us.toArray, .int .i64 0]) ∧ Held w' w.heap.size us (copN css css.length)) ∧ Below w.heap.size w w' := by
  have F := Lib.hid fun w hw => form_any n s y b v m css w hw
  rw [he] at F
  obtain ⟨hcf, hn, hall⟩ := formE_ok he
  have n8 : css.length ≤ 8 := by have := cfgB_iff.1 hcf; omega
  have ALL := Lib.hid hall
  have H := Lib.hid h
  obtain ⟨A, cp, rfl, h1, h2, h3⟩ := h
  have H3 := Lib.hid h3
  unfold maxLen at h2
  obtain ⟨i0, hi, hz0, hz1, hz2⟩ := info_parts info_copy
  have HI := Lib.hid hi
  have HZ := Lib.hid (And.intro hz0 (And.intro hz1 hz2))
  clear h3 hall he hcf hn hi hz0 hz1 hz2
  have low := Below.refl w.heap.size w
  have cb := boxNext low 23 (cfgA n s y b)
  replace low := gAlloc low (.cells (cfgA n s y b) 23)
  try simp only [World.size_alloc] at cb
  have wb := boxNext low 31 (wldA (.slice A css.length cp) m)
  replace low := gAlloc low (.cells (wldA (.slice A css.length cp) m) 31)
  replace cb := cb.alloc (.cells (wldA (.slice A css.length cp) m) 31)
  try simp only [World.size_alloc] at wb
  have ob := boxNext low 73 nil16
  replace low := gAlloc low (.cells nil16 73)
  replace cb := cb.alloc (.cells nil16 73)
  replace wb := wb.alloc (.cells nil16 73)
  try simp only [World.size_alloc] at ob
  have wr := wb.range
  go_enter Tryz.func42, Tryz.ntmps42
  go_wp2_with (first | (with_reducible refine wp_newW (tyCopies) ?_) | ((with_reducible refine wp_loadW (tyWorld) (wr) (wld_size hm) ?_ ?_ ?_); rfl; rfl))
  (with_reducible refine (F.out _ (H.out.call low)).mono ?_); rintro e w1 ⟨rfl, hb⟩
  replace cb := cb.call hb
  replace wb := wb.call hb
  replace ob := ob.call hb
  replace low := gCall low hb
  clear hb wr F
  have z1 : w.heap.size + 1 + 1 < w1.heap.size := ob.lt
  have hb := boxNext low 73 nil16
  replace low := gAlloc low (.cells nil16 73)
  replace cb := cb.alloc (.cells nil16 73)
  replace wb := wb.alloc (.cells nil16 73)
  replace ob := ob.alloc (.cells nil16 73)
  try simp only [World.size_alloc] at hb
  have wb0 := wb.at_ 0 (wldA_zero _ _)
  have hld := Held.start (w1.alloc (.cells nil16 73)) w.heap.size
  go_wp2_with (with_reducible refine wp_newW (tyCopies) ?_)
  go_loopw [24] (fun i wr => ∃ k : Nat, k ≤ css.length ∧ i = .int .i64 k ∧ Hid (∃ us, Box wr w1.heap.size 73 us.toArray ∧ Held wr w.heap.size us (copN css k) ∧ (copN css k).length ≤ k * 16) ∧ Box wr w.heap.size 23 (cfgA n s y b) ∧ Box wr (w.heap.size + 1 + 1) 73 nil16 ∧ Below w.heap.size w wr) (fun i _ => css.length - (intOf i).toNat)
  case atStart => exact ⟨0, Nat.zero_le _, rfl, Lib.hid ⟨_, hb, hld, Nat.zero_le _⟩, cb, ob, low⟩
  case round =>
    clear cb wb ob hb hld low wb0
    obtain ⟨k, hk, rfl, hus, cb, ob, low⟩ := hrel
    simp only [cfgA] at cb
    by_cases hlt : k < css.length
    · obtain ⟨us, hb, hld, plen⟩ := hus.out
      clear hus
      obtain ⟨bb, o, rfl, hbb, hc⟩ := H3.out (by omega)
      have hx : css[k]? = some css[k] := List.getElem?_eq_getElem _
      generalize css[k] = ss at hx
      obtain ⟨A', c', ce, cs⟩ := hc k ss hx
      replace ce := (low.cell (p := ⟨bb, o + k, none⟩) hbb).trans ce
      replace cs := cs.call low
      have he := ALL.out ss (List.mem_of_getElem? hx)
      have L16 := Lib.hid (allW_16 he)
      have LN := Lib.hid fun x hx => allW_line (x := x) he hx
      have CL := Lib.hid fun w hw => cacheLines_ok n s y b (.slice A' ss.length c') ss w hw he
      have CN := Lib.hid (copN_succ hx)
      have HLD := Lib.hid hld
      clear hx hc he hld
      have zr := low.size
      have cb_0 := cb.at_ 0 rfl
      have cb_1 := cb.at_ 1 rfl
      have cb_2 := cb.at_ 2 rfl
      have cb_3 := cb.at_ 3 rfl
      go_wp2_with fail
      (with_reducible refine (CL.out _ cs).mono ?_); rintro e w2 ⟨⟨A2, c2, rfl, fr⟩, hb2⟩
      clear cb_0 cb_1 cb_2 cb_3
      replace cb := cb.call hb2
      replace ob := ob.call hb2
      replace hb := hb.call hb2
      replace HLD := Lib.hid (HLD.out.call hb2)
      replace low := gCall low hb2
      clear hb2 ce cs CL
      generalize hW : allW ss = W at *
      have CC := Lib.hid (show cpsOf k ss = W.map (fun x => (⟨(k : Int), x⟩ : Cp)) by rw [cpsOf, hW])
      clear hW
      go_wp2_with fail
      go_loopw [41] (fun i wx => ∃ j : Nat, j ≤ W.length ∧ i = .int .i64 j ∧ Hid (∃ us, Box wx w1.heap.size 73 us.toArray ∧ Held wx w.heap.size us (copN css k ++ (W.take j).map (fun x => ⟨(k : Int), x⟩)) ∧ Fr wx w.heap.size wx.heap.size (.slice A2 W.length c2) W) ∧ Box wx w.heap.size 23 (cfgA n s y b) ∧ Box wx (w.heap.size + 1 + 1) 73 nil16 ∧ Below w.heap.size w wx) (fun i _ => W.length - (intOf i).toNat)
      case atStart => exact ⟨0, Nat.zero_le _, rfl, Lib.hid ⟨us, hb, by simpa using HLD.out, fr.more (by omega) (by omega)⟩, cb, ob, low⟩
      case round =>
        clear cb ob hb low HLD fr
        obtain ⟨j, hj, rfl, hus, cb, ob, low⟩ := hrel
        obtain ⟨us, hb, hld, fr⟩ := hus.out
        clear hus
        by_cases hlt2 : j < W.length
        · have hz : W[j]? = some W[j] := List.getElem?_eq_getElem _
          generalize W[j] = z at hz
          have ML := LN.out z (List.mem_of_getElem? hz)
          generalize hP : copN css k ++ (W.take j).map (fun x => (⟨(k : Int), x⟩ : Cp)) = P at hld
          have hzt : copN css k ++ (W.take (j + 1)).map (fun x => (⟨(k : Int), x⟩ : Cp)) = P ++ [⟨(k : Int), z⟩] := by
            obtain ⟨hj', rfl⟩ := List.getElem?_eq_some_iff.1 hz
            rw [← hP, List.take_succ_eq_append_getElem hj', List.map_append, List.append_assoc]
            rfl
          have hPl : P.length ≤ 128 := by
            have := L16.out
            rw [← hP, List.length_append, List.length_map, List.length_take]
            omega
          have PL0 := Lib.hid hPl
          clear hP hPl
          obtain ⟨hl, A3, cx, e3, g1, g2, g3⟩ := fr.ws
          cases e3
          obtain ⟨b3, o3, rfl, hb3, hc3⟩ := g3 (by omega)
          obtain ⟨x0, x1, x2, x3, x4, x5⟩ := wayAt_of hc3 hb3 (Below.refl _ _) hz
          obtain ⟨q, hq⟩ : ∃ q : Nat, z.ln = q := ⟨z.ln.toNat, by omega⟩
          obtain ⟨st, ln, wa, wb', wc, wd'⟩ := z
          simp only at hq x0 x1 x2 x3 x4 x5 ML
          subst hq
          have hq16 : q < us.length := by have := hld.len; omega
          have hu : us[q]? = some us[q] := List.getElem?_eq_getElem _
          generalize us[q] = u at hu
          have HZT := Lib.hid hzt
          have HU := Lib.hid hu
          have hcu : us.toArray[q]? = some u := by rw [List.getElem?_toArray]; exact hu
          unfold maxLen at g2
          have PL := Lib.hid (Nat.le_trans (onL_length q P) PL0.out)
          have q15 : (q : Int) < 16 := by omega
          have j0 : (0 : Int) ≤ j := by omega
          have j1 : (j : Int) < W.length := by omega
          have lz := low.size
          have hbl := hb.lt
          clear hl g3 hc3 hz hzt hu ML
          have HLD := Lib.hid (hld.alloc (.cells #[.int .i64 st, .int .i64 (q : Int), .int .u64 wa, .int .u64 wb', .int .u64 wc, .int .u64 wd'] 114))
          have FR := Lib.hid (fr.alloc (.cells #[.int .i64 st, .int .i64 (q : Int), .int .u64 wa, .int .u64 wb', .int .u64 wc, .int .u64 wd'] 114))
          clear hld fr
          have xb := boxNext low 114 #[.int .i64 st, .int .i64 (q : Int), .int .u64 wa, .int .u64 wb', .int .u64 wc, .int .u64 wd']
          replace low := gAlloc low (.cells #[.int .i64 st, .int .i64 (q : Int), .int .u64 wa, .int .u64 wb', .int .u64 wc, .int .u64 wd'] 114)
          replace cb := cb.alloc (.cells #[.int .i64 st, .int .i64 (q : Int), .int .u64 wa, .int .u64 wb', .int .u64 wc, .int .u64 wd'] 114)
          replace ob := ob.alloc (.cells #[.int .i64 st, .int .i64 (q : Int), .int .u64 wa, .int .u64 wb', .int .u64 wc, .int .u64 wd'] 114)
          replace hb := hb.alloc (.cells #[.int .i64 st, .int .i64 (q : Int), .int .u64 wa, .int .u64 wb', .int .u64 wc, .int .u64 wd'] 114)
          try simp only [World.size_alloc] at xb
          go_wp2_with fail
          clear x0 x1 x2 x3 x4 x5
          have hqc := hb.at_ q hcu
          generalize wr.alloc (.cells #[.int .i64 st, .int .i64 (q : Int), .int .u64 wa, .int .u64 wb', .int .u64 wc, .int .u64 wd'] 114) = wy at *
          generalize wr.heap.size = gx at *
          have x0 : wy.cell? ⟨gx, 0, none⟩ = some (.int .i64 st) := xb.at_ 0 rfl
          have x1 : wy.cell? ⟨gx, 1, none⟩ = some (.int .i64 (q : Int)) := xb.at_ 1 rfl
          have x2 : wy.cell? ⟨gx, 2, none⟩ = some (.int .u64 wa) := xb.at_ 2 rfl
          have x3 : wy.cell? ⟨gx, 3, none⟩ = some (.int .u64 wb') := xb.at_ 3 rfl
          have x4 : wy.cell? ⟨gx, 4, none⟩ = some (.int .u64 wc) := xb.at_ 4 rfl
          have x5 : wy.cell? ⟨gx, 5, none⟩ = some (.int .u64 wd') := xb.at_ 5 rfl
          refine wp_region_noPanic ?_
          refine wp_region_held_drew (S := fun w' => w'.cell? ⟨gx, 0, none⟩ = some (.int .i64 st) ∧ w'.cell? ⟨gx, 1, none⟩ = some (.int .i64 (q : Int)) ∧ w'.cell? ⟨gx, 2, none⟩ = some (.int .u64 wa) ∧ w'.cell? ⟨gx, 3, none⟩ = some (.int .u64 wb') ∧ w'.cell? ⟨gx, 4, none⟩ = some (.int .u64 wc) ∧ w'.cell? ⟨gx, 5, none⟩ = some (.int .u64 wd')) (by kernel_rfl) ⟨drewC x0, drewC x1, drewC x2, drewC x3, drewC x4, drewC x5⟩ (fun hHeld => ?_)
          clear x0 x1 x2 x3 x4 x5
          refine takeFirst (i := 0) (v := ?_) rfl (by kernel_rfl) (by kernel_rfl) (by kernel_rfl) (by rfl) (fun _ _ _ h => h) ?_ (by assumption) ?_
          rotate_left
          · (intro w hSw; go_simp; try (with_reducible rfl))
          try simp only [Act.put, List.setIfInBounds_toArray, List.set_cons_zero, List.set_cons_succ]
          refine takeFirst (i := 1) (v := ?_) rfl (by kernel_rfl) (by kernel_rfl) (by kernel_rfl) (by rfl) (fun _ _ _ h => h) ?_ (by assumption) ?_
          rotate_left
          · (intro w hSw; go_simp; try (with_reducible rfl))
          try simp only [Act.put, List.setIfInBounds_toArray, List.set_cons_zero, List.set_cons_succ]
          refine takeFirst (i := 2) (v := ?_) rfl (by kernel_rfl) (by kernel_rfl) (by kernel_rfl) (by rfl) (fun _ _ _ h => h) ?_ (by assumption) ?_
          rotate_left
          · (intro w hSw; go_simp; try (with_reducible rfl))
          try simp only [Act.put, List.setIfInBounds_toArray, List.set_cons_zero, List.set_cons_succ]
          refine takeFirst (i := 3) (v := ?_) rfl (by kernel_rfl) (by kernel_rfl) (by kernel_rfl) (by rfl) (fun _ _ _ h => h) ?_ (by assumption) ?_
          rotate_left
          · (intro w hSw; go_simp; try (with_reducible rfl))
          try simp only [Act.put, List.setIfInBounds_toArray, List.set_cons_zero, List.set_cons_succ]
          refine takeFirst (i := 4) (v := ?_) rfl (by kernel_rfl) (by kernel_rfl) (by kernel_rfl) (by rfl) (fun _ _ _ h => h) ?_ (by assumption) ?_
          rotate_left
          · (intro w hSw; go_simp; try (with_reducible rfl))
          try simp only [Act.put, List.setIfInBounds_toArray, List.set_cons_zero, List.set_cons_succ]
          refine takeFirst (i := 6) (v := ?_) rfl (by kernel_rfl) (by kernel_rfl) (by kernel_rfl) (by rfl) (fun _ _ _ h => h) ?_ (by assumption) ?_
          rotate_left
          · (intro w hSw; go_simp; try (with_reducible rfl))
          try simp only [Act.put, List.setIfInBounds_toArray, List.set_cons_zero, List.set_cons_succ]
          refine takeFirst (i := 7) (v := ?_) rfl (by kernel_rfl) (by kernel_rfl) (by kernel_rfl) (by rfl) (fun _ _ _ h => h) ?_ (by assumption) ?_
          rotate_left
          · (intro w hSw; go_simp; try (with_reducible rfl))
          try simp only [Act.put, List.setIfInBounds_toArray, List.set_cons_zero, List.set_cons_succ]
          refine takeFirst (i := 8) (v := ?_) rfl (by kernel_rfl) (by kernel_rfl) (by kernel_rfl) (by rfl) (fun _ _ _ h => h) ?_ (by assumption) ?_
          rotate_left
          · (intro w hSw; go_simp; try (with_reducible rfl))
          try simp only [Act.put, List.setIfInBounds_toArray, List.set_cons_zero, List.set_cons_succ]
          have hld := (HLD.out.alloc (.cells #[.int .i64 (k : Int), .int .i64 st, .int .i64 (q : Int), .int .u64 wa, .int .u64 wb', .int .u64 wc, .int .u64 wd'] 116)).drew
          have own := (hld.own q u HU.out).1
          have FR2 := Lib.hid ((FR.out.alloc (.cells #[.int .i64 (k : Int), .int .i64 st, .int .i64 (q : Int), .int .u64 wa, .int .u64 wb', .int .u64 wc, .int .u64 wd'] 116)).call (Below.refl _ _).drew)
          have hb2 := (hb.alloc (.cells #[.int .i64 (k : Int), .int .i64 st, .int .i64 (q : Int), .int .u64 wa, .int .u64 wb', .int .u64 wc, .int .u64 wd'] 116)).drew
          have cb2 := (cb.alloc (.cells #[.int .i64 (k : Int), .int .i64 st, .int .i64 (q : Int), .int .u64 wa, .int .u64 wb', .int .u64 wc, .int .u64 wd'] 116)).drew
          have ob2 := (ob.alloc (.cells #[.int .i64 (k : Int), .int .i64 st, .int .i64 (q : Int), .int .u64 wa, .int .u64 wb', .int .u64 wc, .int .u64 wd'] 116)).drew
          have xb2 := (xb.alloc (.cells #[.int .i64 (k : Int), .int .i64 st, .int .i64 (q : Int), .int .u64 wa, .int .u64 wb', .int .u64 wc, .int .u64 wd'] 116)).drew
          have low2 := (gAlloc low (.cells #[.int .i64 (k : Int), .int .i64 st, .int .i64 (q : Int), .int .u64 wa, .int .u64 wb', .int .u64 wc, .int .u64 wd'] 116)).drew
          have news := Lib.hid fun i u' h => cells_new wy 116 ⟨(k : Int), ⟨st, q, wa, wb', wc, wd'⟩⟩ wy.heap.size i u' rfl h
          have lo2 := low2.size
          have e2 : us.toArray.size = 16 := by rw [List.size_toArray]; exact hld.len
          clear HLD FR hb cb ob xb low
          refine stepTwo (i1 := 5) (i2 := 9) (by kernel_rfl) rfl rfl (by rfl) (by rfl) (fun K hK => ?_) (fun K hK => ?_)
          · go_simp
            refine hK.out _ _ hHeld ?_
            clear hK K
            try simp only [Act.put]
            try simp only [List.setIfInBounds_toArray, List.set_cons_zero, List.set_cons_succ]
            refine stepNext (i := 9) (by kernel_rfl) rfl (by rfl) (fun K hK => ?_)
            go_simp
            obtain ⟨hh0, hh1, hh2, hh3, hh4, hh5⟩ := hHeld
            have hHeld := (And.intro (drewC (allocC (.cells #[.int .i64 (k : Int), .int .i64 st, .int .i64 (q : Int), .int .u64 wa, .int .u64 wb', .int .u64 wc, .int .u64 wd'] 116) hh0)) (And.intro (drewC (allocC (.cells #[.int .i64 (k : Int), .int .i64 st, .int .i64 (q : Int), .int .u64 wa, .int .u64 wb', .int .u64 wc, .int .u64 wd'] 116) hh1)) (And.intro (drewC (allocC (.cells #[.int .i64 (k : Int), .int .i64 st, .int .i64 (q : Int), .int .u64 wa, .int .u64 wb', .int .u64 wc, .int .u64 wd'] 116) hh2)) (And.intro (drewC (allocC (.cells #[.int .i64 (k : Int), .int .i64 st, .int .i64 (q : Int), .int .u64 wa, .int .u64 wb', .int .u64 wc, .int .u64 wd'] 116) hh3)) (And.intro (drewC (allocC (.cells #[.int .i64 (k : Int), .int .i64 st, .int .i64 (q : Int), .int .u64 wa, .int .u64 wb', .int .u64 wc, .int .u64 wd'] 116) hh4)) (drewC (allocC (.cells #[.int .i64 (k : Int), .int .i64 st, .int .i64 (q : Int), .int .u64 wa, .int .u64 wb', .int .u64 wc, .int .u64 wd'] 116) hh5)))))))
            clear hh0 hh1 hh2 hh3 hh4 hh5
            refine hK.out _ _ hHeld ?_
            clear hK K
            try simp only [Act.put]
            try simp only [List.setIfInBounds_toArray, List.set_cons_zero, List.set_cons_succ]
            refine stepNext (i := 10) (by kernel_rfl) rfl (by rfl) (fun K hK => ?_)
            refine wp_append_own _ (.tmp 50) (.tmp 54) 71 rfl w.heap.size 116 i0 cp0 7 56 Tryz.underlying71 HI.out HZ.out.1 HZ.out.2.1 HZ.out.2.2 rfl (by decide) _ _ _ rfl own ⟨wy.heap.size, 0, none⟩ 1 1 (Cp.cells ⟨(k : Int), ⟨st, q, wa, wb', wc, wd'⟩⟩) rfl rfl news.out (cells_one _) ?f3 ?f4 ?f5 ?_
            case f3 => have := PL.out; unfold maxLen; omega
            case f4 => have := PL.out; omega
            case f5 => omega
            intro v4 w4 own4 grow4 _
            obtain ⟨A4, c4, rfl⟩ := own_shape own4
            have hb4 := hb2.grown grow4 (own_ne own hb2 (by decide))
            have cb4 := cb2.grown grow4 (own_ne own cb2 (by decide))
            have ob4 := ob2.grown grow4 (own_ne own ob2 (by decide))
            have fr4 := FR2.out.grown own (by decide) grow4
            have hld4 := hld.push HU.out (c := ⟨(k : Int), ⟨st, q, wa, wb', wc, wd'⟩⟩) rfl own4 grow4
            have low4 : Below w.heap.size w w4 := low2.grown grow4 (by omega) (fun g e => by have := own.lt _ e; omega)
            obtain ⟨hh0, hh1, hh2, hh3, hh4, hh5⟩ := hHeld
            have hHeld := (And.intro (grow4.cell hh0 (own_ne own xb2 (by decide))) (And.intro (grow4.cell hh1 (own_ne own xb2 (by decide))) (And.intro (grow4.cell hh2 (own_ne own xb2 (by decide))) (And.intro (grow4.cell hh3 (own_ne own xb2 (by decide))) (And.intro (grow4.cell hh4 (own_ne own xb2 (by decide))) (grow4.cell hh5 (own_ne own xb2 (by decide))))))))
            clear hh0 hh1 hh2 hh3 hh4 hh5
            refine hK.out _ _ hHeld ?_
            clear hK K
            try simp only [Act.put]
            try simp only [List.setIfInBounds_toArray, List.set_cons_zero, List.set_cons_succ]
            refine takeFirst (i := 11) (v := ?_) rfl (by kernel_rfl) (by kernel_rfl) (by kernel_rfl) (by rfl) (fun _ _ _ h => h) ?_ (by assumption) ?_
            rotate_left
            · (intro w hSw; go_simp; try (with_reducible rfl))
            try simp only [Act.put, List.setIfInBounds_toArray, List.set_cons_zero, List.set_cons_succ]
            refine stepNext (i := 12) (by kernel_rfl) rfl (by rfl) (fun K hK => ?_)
            have hq4 := hb4.at_ q hcu
            have hf4 := hb4.frozen q
            go_simp
            have st5 : Stored w4 w1.heap.size (w4.setCell ⟨w1.heap.size, q, none⟩ (.slice A4 ((onL q P).length + 1) c4)) := Stored.cell1 w4 ⟨w1.heap.size, q, none⟩ _
            have hb5 := hb4.set q (.slice A4 ((onL q P).length + 1) c4)
            rw [List.setIfInBounds_toArray] at hb5
            have cb5 := st5.box cb4 (by omega)
            have ob5 := st5.box ob4 (by omega)
            have HLD5 := Lib.hid (hld4.stored hb4 (by decide) st5)
            have FR5 := Lib.hid (fr4.stored hb4 (by decide) st5)
            have low5 := st5.low low4 (by omega)
            have sz5 := st5.size
            have zx := Nat.lt_of_lt_of_le xb2.lt grow4.size
            obtain ⟨hh0, hh1, hh2, hh3, hh4, hh5⟩ := hHeld
            have hHeld := (And.intro (st5.cell (by dsimp only; omega) hh0) (And.intro (st5.cell (by dsimp only; omega) hh1) (And.intro (st5.cell (by dsimp only; omega) hh2) (And.intro (st5.cell (by dsimp only; omega) hh3) (And.intro (st5.cell (by dsimp only; omega) hh4) (st5.cell (by dsimp only; omega) hh5))))))
            clear hh0 hh1 hh2 hh3 hh4 hh5
            clear st5 hld4 fr4 hb4 cb4 ob4 low4 hq4 hf4 grow4 own4 own hld hb2 cb2 ob2 xb2 low2 FR2
            generalize w4.setCell ⟨w1.heap.size, q, none⟩ (.slice A4 ((onL q P).length + 1) c4) = w5 at *
            refine hK.out _ _ hHeld ?_
            clear hK K
            try simp only [Act.put]
            try simp only [List.setIfInBounds_toArray, List.set_cons_zero, List.set_cons_succ]
            clear hHeld
            refine wpAnyH_done (by kernel_rfl) ?_ _
            refine NoPanic.normal ?_
            go_wp2_with fail
            go_roundw
            case rel => exact ⟨j + 1, by omega, by go_num, Lib.hid ⟨_, hb5, by rw [HZT.out]; exact HLD5.out, FR5.out.more (Nat.le_refl _) (by omega)⟩, cb5, ob5, low5⟩
            case measure => simp [intOf]; omega
          · go_simp
            obtain ⟨hh0, hh1, hh2, hh3, hh4, hh5⟩ := hHeld
            have hHeld := (And.intro (drewC (allocC (.cells #[.int .i64 (k : Int), .int .i64 st, .int .i64 (q : Int), .int .u64 wa, .int .u64 wb', .int .u64 wc, .int .u64 wd'] 116) hh0)) (And.intro (drewC (allocC (.cells #[.int .i64 (k : Int), .int .i64 st, .int .i64 (q : Int), .int .u64 wa, .int .u64 wb', .int .u64 wc, .int .u64 wd'] 116) hh1)) (And.intro (drewC (allocC (.cells #[.int .i64 (k : Int), .int .i64 st, .int .i64 (q : Int), .int .u64 wa, .int .u64 wb', .int .u64 wc, .int .u64 wd'] 116) hh2)) (And.intro (drewC (allocC (.cells #[.int .i64 (k : Int), .int .i64 st, .int .i64 (q : Int), .int .u64 wa, .int .u64 wb', .int .u64 wc, .int .u64 wd'] 116) hh3)) (And.intro (drewC (allocC (.cells #[.int .i64 (k : Int), .int .i64 st, .int .i64 (q : Int), .int .u64 wa, .int .u64 wb', .int .u64 wc, .int .u64 wd'] 116) hh4)) (drewC (allocC (.cells #[.int .i64 (k : Int), .int .i64 st, .int .i64 (q : Int), .int .u64 wa, .int .u64 wb', .int .u64 wc, .int .u64 wd'] 116) hh5)))))))
            clear hh0 hh1 hh2 hh3 hh4 hh5
            refine hK.out _ _ hHeld ?_
            clear hK K
            try simp only [Act.put]
            try simp only [List.setIfInBounds_toArray, List.set_cons_zero, List.set_cons_succ]
            have hqc2 := hb2.at_ q hcu
            refine stepNext (i := 5) (by kernel_rfl) rfl (by rfl) (fun K hK => ?_)
            go_simp
            refine hK.out _ _ hHeld ?_
            clear hK K
            try simp only [Act.put]
            try simp only [List.setIfInBounds_toArray, List.set_cons_zero, List.set_cons_succ]
            refine stepNext (i := 10) (by kernel_rfl) rfl (by rfl) (fun K hK => ?_)
            refine wp_append_own _ (.tmp 50) (.tmp 54) 71 rfl w.heap.size 116 i0 cp0 7 56 Tryz.underlying71 HI.out HZ.out.1 HZ.out.2.1 HZ.out.2.2 rfl (by decide) _ _ _ rfl own ⟨wy.heap.size, 0, none⟩ 1 1 (Cp.cells ⟨(k : Int), ⟨st, q, wa, wb', wc, wd'⟩⟩) rfl rfl news.out (cells_one _) ?f3 ?f4 ?f5 ?_
            case f3 => have := PL.out; unfold maxLen; omega
            case f4 => have := PL.out; omega
            case f5 => omega
            intro v4 w4 own4 grow4 _
            obtain ⟨A4, c4, rfl⟩ := own_shape own4
            have hb4 := hb2.grown grow4 (own_ne own hb2 (by decide))
            have cb4 := cb2.grown grow4 (own_ne own cb2 (by decide))
            have ob4 := ob2.grown grow4 (own_ne own ob2 (by decide))
            have fr4 := FR2.out.grown own (by decide) grow4
            have hld4 := hld.push HU.out (c := ⟨(k : Int), ⟨st, q, wa, wb', wc, wd'⟩⟩) rfl own4 grow4
            have low4 : Below w.heap.size w w4 := low2.grown grow4 (by omega) (fun g e => by have := own.lt _ e; omega)
            obtain ⟨hh0, hh1, hh2, hh3, hh4, hh5⟩ := hHeld
            have hHeld := (And.intro (grow4.cell hh0 (own_ne own xb2 (by decide))) (And.intro (grow4.cell hh1 (own_ne own xb2 (by decide))) (And.intro (grow4.cell hh2 (own_ne own xb2 (by decide))) (And.intro (grow4.cell hh3 (own_ne own xb2 (by decide))) (And.intro (grow4.cell hh4 (own_ne own xb2 (by decide))) (grow4.cell hh5 (own_ne own xb2 (by decide))))))))
            clear hh0 hh1 hh2 hh3 hh4 hh5
            refine hK.out _ _ hHeld ?_
            clear hK K
            try simp only [Act.put]
            try simp only [List.setIfInBounds_toArray, List.set_cons_zero, List.set_cons_succ]
            refine takeFirst (i := 11) (v := ?_) rfl (by kernel_rfl) (by kernel_rfl) (by kernel_rfl) (by rfl) (fun _ _ _ h => h) ?_ (by assumption) ?_
            rotate_left
            · (intro w hSw; go_simp; try (with_reducible rfl))
            try simp only [Act.put, List.setIfInBounds_toArray, List.set_cons_zero, List.set_cons_succ]
            refine stepNext (i := 12) (by kernel_rfl) rfl (by rfl) (fun K hK => ?_)
            have hq4 := hb4.at_ q hcu
            have hf4 := hb4.frozen q
            go_simp
            have st5 : Stored w4 w1.heap.size (w4.setCell ⟨w1.heap.size, q, none⟩ (.slice A4 ((onL q P).length + 1) c4)) := Stored.cell1 w4 ⟨w1.heap.size, q, none⟩ _
            have hb5 := hb4.set q (.slice A4 ((onL q P).length + 1) c4)
            rw [List.setIfInBounds_toArray] at hb5
            have cb5 := st5.box cb4 (by omega)
            have ob5 := st5.box ob4 (by omega)
            have HLD5 := Lib.hid (hld4.stored hb4 (by decide) st5)
            have FR5 := Lib.hid (fr4.stored hb4 (by decide) st5)
            have low5 := st5.low low4 (by omega)
            have sz5 := st5.size
            have zx := Nat.lt_of_lt_of_le xb2.lt grow4.size
            obtain ⟨hh0, hh1, hh2, hh3, hh4, hh5⟩ := hHeld
            have hHeld := (And.intro (st5.cell (by dsimp only; omega) hh0) (And.intro (st5.cell (by dsimp only; omega) hh1) (And.intro (st5.cell (by dsimp only; omega) hh2) (And.intro (st5.cell (by dsimp only; omega) hh3) (And.intro (st5.cell (by dsimp only; omega) hh4) (st5.cell (by dsimp only; omega) hh5))))))
            clear hh0 hh1 hh2 hh3 hh4 hh5
            clear st5 hld4 fr4 hb4 cb4 ob4 low4 hq4 hf4 grow4 own4 own hld hb2 cb2 ob2 xb2 low2 FR2
            generalize w4.setCell ⟨w1.heap.size, q, none⟩ (.slice A4 ((onL q P).length + 1) c4) = w5 at *
            refine hK.out _ _ hHeld ?_
            clear hK K
            try simp only [Act.put]
            try simp only [List.setIfInBounds_toArray, List.set_cons_zero, List.set_cons_succ]
            clear hHeld
            refine wpAnyH_done (by kernel_rfl) ?_ _
            refine NoPanic.normal ?_
            go_wp2_with fail
            go_roundw
            case rel => exact ⟨j + 1, by omega, by go_num, Lib.hid ⟨_, hb5, by rw [HZT.out]; exact HLD5.out, FR5.out.more (Nat.le_refl _) (by omega)⟩, cb5, ob5, low5⟩
            case measure => simp [intOf]; omega
        · obtain rfl : j = W.length := by omega
          rw [List.take_length, ← CC.out, ← CN.out] at hld
          have PLN := Lib.hid (show (copN css (k + 1)).length ≤ (k + 1) * 16 by
            have := L16.out
            rw [CN.out, CC.out, List.length_append, List.length_map]
            omega)
          have HLD := Lib.hid hld
          clear hld fr
          go_wp2_with fail
          go_roundw
          case rel => exact ⟨k + 1, by omega, by go_num, Lib.hid ⟨_, hb, HLD.out, PLN.out⟩, cb, ob, low⟩
          case measure => simp [intOf]; omega
    · obtain rfl : k = css.length := by omega
      obtain ⟨us, hb, hld, _⟩ := hus.out
      have u16 : us.toArray.size = nil16.size := by rw [List.size_toArray, hld.len, nil16_size]
      have one := us_one hld
      have HLD := Lib.hid hld
      have hbr := hb.range
      clear hus hld
      go_wp2_with (first | ((with_reducible refine wp_loadW (tyCopies) (hbr) (u16) ?_ ?_ ?_); rfl; rfl) | ((with_reducible refine wp_storeW (tyCopies) (ob) (rfl) (u16) (one) ?_ ?_ ?_); rfl; rfl))
      intro w3 ob3 st
      have HL3 := Lib.hid (HLD.out.stored ob (by decide) st)
      replace low := st.low low (by omega)
      clear ob st hb cb HLD
      go_wp2_with fail
      exact bodyPost_ret (v := .tuple #[.agg us.toArray, .int .i64 0]) (results_first tyCopies Tryz.results42 rfl rfl ob3 u16) rfl ⟨⟨us, rfl, HL3.out⟩, low⟩
end Go.Proofs.YtcegjehoejgofaaGreat

/- Agree3: Proved: what coherent of package agree returns, for every world that can be read; it changes nothing that was there. No condition. -/
namespace Go.Proofs.YtcegjehoejgofaaGreat
open Go.ChangeShapes Go.WideShapes Go.ChangeAt Go.RowKit Go.Joins

/-- The first line that is not coherent; the error of a world, and its line. -/
def badL (P : List Cp) (m : List Int) : Option Nat := (List.range 16).find? fun k => lnE (onL k P) (l4 m k) != 0
def cohE (n s y b : Int) (css : List (List St)) (m : List Int) : Int :=
  if formE n s y b css ≠ 0 then formE n s y b css else match badL (copN css css.length) m with | some k => lnE (onL k (copN css css.length)) (l4 m k) | none => 0
def cohL (n s y b : Int) (css : List (List St)) (m : List Int) : Int :=
  if formE n s y b css ≠ 0 then 0 else match badL (copN css css.length) m with | some k => (k : Int) | none => 0

theorem badL_some {P : List Cp} {m : List Int} {k : Nat} (hk : k < 16) (h0 : ∀ j, j < k → lnE (onL j P) (l4 m j) = 0) (h : lnE (onL k P) (l4 m k) ≠ 0) : badL P m = some k := by
  unfold badL
  rw [List.find?_eq_some_iff_getElem]
  refine ⟨by simpa using h, k, by simpa using hk, by simp, fun j hj => ?_⟩
  simp [h0 j hj]
theorem badL_none {P : List Cp} {m : List Int} (h : ∀ j, j < 16 → lnE (onL j P) (l4 m j) = 0) : badL P m = none := by
  unfold badL
  rw [List.find?_eq_none]
  intro k hk
  simp [h k (by simpa using hk)]
theorem badL_all {P : List Cp} {m : List Int} (h : badL P m = none) : ∀ j, j < 16 → lnE (onL j P) (l4 m j) = 0 := by
  unfold badL at h
  rw [List.find?_eq_none] at h
  intro j hj
  have := h j (by simpa using hj)
  simpa using this
theorem badL_ne {P : List Cp} {m : List Int} {k : Nat} (h : badL P m = some k) : lnE (onL k P) (l4 m k) ≠ 0 := by
  unfold badL at h
  have := List.find?_some h
  simpa using this
theorem cohE_ok {n s y b : Int} {css : List (List St)} {m : List Int} (h : cohE n s y b css m = 0) : formE n s y b css = 0 ∧ ∀ j, j < 16 → lnE (onL j (copN css css.length)) (l4 m j) = 0 := by
  unfold cohE at h
  by_cases h1 : formE n s y b css ≠ 0
  · rw [if_pos h1] at h; exact absurd h h1
  · rw [if_neg h1] at h
    refine ⟨by simpa using h1, ?_⟩
    cases e : badL (copN css css.length) m with
    | none => exact badL_all e
    | some k => rw [e] at h; exact absurd h (badL_ne e)

/-- A line out of a memory's value. -/
theorem index_mem (m : List Int) (hm : m.length = 64) (k : Nat) (hk : k < 16) (w : World) : (Instr.index 29 (memV m) (.int .i64 k)).run Tryz.prog w = .ok (lineAt m k) w := by
  have hx : (memA m).extract (k * 4) (k * 4 + 4) = #[.int .u64 (wd m (k * 4)), .int .u64 (wd m (k * 4 + 1)), .int .u64 (wd m (k * 4 + 2)), .int .u64 (wd m (k * 4 + 3))] := by
    refine Array.ext_getElem? fun i => ?_
    rw [Array.getElem?_extract]
    match i with
    | 0 => rw [if_pos (by rw [memA_size]; omega), memA_at _ (by omega)]; simp
    | 1 => rw [if_pos (by rw [memA_size]; omega), memA_at _ (by omega)]; simp
    | 2 => rw [if_pos (by rw [memA_size]; omega), memA_at _ (by omega)]; simp
    | 3 => rw [if_pos (by rw [memA_size]; omega), memA_at _ (by omega)]; simp
    | i + 4 => rw [if_neg (by omega)]; simp
  have hu : (underlying 29).run Tryz.prog w = .ok (.array 16 27) w := by kernel_rfl
  have hs : (sizeOf 27).run Tryz.prog w = .ok 4 w := by kernel_rfl
  have h1 : (0 : Int) ≤ k ∧ (k : Int) < (16 : Nat) := by omega
  simp [Instr.index, asIntOf, Sem.run_bind, hu, hs, part, h1, hx]
  omega

set_option maxHeartbeats 1000000 in
theorem coherent_form (n s y b : Int) (v : Value) (m : List Int) (css : List (List St)) (w : World) (h : Ks w v css) (hm : m.length = 64) (he : formE n s y b css ≠ 0) :
    Calls Tryz.prog 19 #[cfg n s y b, wldV v m] w fun e w' => e = .returned (.tuple #[.agg nil16, .int .i64 (formE n s y b css), .int .i64 0]) ∧ Below w.heap.size w w' := by
  have F := Lib.hid fun w hw => collect_bad n s y b v m css w hw hm he
  generalize formE n s y b css = E at F he ⊢
  have he' : (E != 0) = true := by simpa using he
  clear he
  have low := Below.refl w.heap.size w
  have cb := boxNext low 23 (cfgA n s y b)
  replace low := gAlloc low (.cells (cfgA n s y b) 23)
  replace h := h.alloc (.cells (cfgA n s y b) 23)
  try simp only [World.size_alloc] at cb
  have wb := boxNext low 31 (wldA v m)
  replace low := gAlloc low (.cells (wldA v m) 31)
  replace cb := cb.alloc (.cells (wldA v m) 31)
  replace h := h.alloc (.cells (wldA v m) 31)
  try simp only [World.size_alloc] at wb
  have ob := boxNext low 73 nil16
  replace low := gAlloc low (.cells nil16 73)
  replace cb := cb.alloc (.cells nil16 73)
  replace wb := wb.alloc (.cells nil16 73)
  replace h := h.alloc (.cells nil16 73)
  try simp only [World.size_alloc] at ob
  have wr := wb.range
  go_enter Tryz.func19, Tryz.ntmps19
  go_wp2_with (first | (with_reducible refine wp_newW (tyCopies) ?_) | ((with_reducible refine wp_loadW (tyWorld) (wr) (wld_size hm) ?_ ?_ ?_); rfl; rfl))
  (with_reducible refine (F.out _ h).mono ?_); rintro e w1 ⟨rfl, hb⟩
  replace ob := ob.call hb
  replace low := gCall low hb
  clear hb cb wb wr
  have z1 := ob.lt
  have hb := boxNext low 73 nil16
  replace low := gAlloc low (.cells nil16 73)
  replace ob := ob.alloc (.cells nil16 73)
  try simp only [World.size_alloc] at hb
  go_wp2_with (first | (with_reducible refine wp_newW (tyCopies) ?_) | ((with_reducible refine wp_freshW (tyCopies) (rfl) (rfl) (nil16_one) ?_ ?_ ?_); rfl; rfl) | (with_reducible refine wp_zeroW (tyCopies) ?_) | ((with_reducible refine wp_storeW (tyCopies) (ob) (rfl) (rfl) (nil16_one) ?_ ?_ ?_); rfl; rfl))
  intro w2 ob2 st
  replace low := st.low low (by omega)
  clear ob st
  go_wp2_with fail
  refine bodyPost_ret (v := .tuple #[.agg nil16, .int .i64 E, .int .i64 0]) (results_first3 tyCopies Tryz.results19 rfl rfl rfl ob2 rfl) rfl ⟨rfl, low⟩

/-- The slices of copies, for a reader. -/
structure Hds (w : World) (us : List Value) (P : List Cp) : Prop where
  len : us.length = 16
  cps : ∀ (k : Nat) u, us[k]? = some u → Cps w u (onL k P)
theorem Hds.call {w w' : World} {us : List Value} {P : List Cp} (h : Hds w us P) (hb : Below w.heap.size w w') : Hds w' us P := ⟨h.len, fun k u hu => (h.cps k u hu).call hb⟩
theorem Hds.alloc {w : World} {us : List Value} {P : List Cp} (h : Hds w us P) (o : Obj) : Hds (w.alloc o) us P := h.call (gAlloc (Below.refl _ _) o)
theorem Hds.one {w : World} {us : List Value} {P : List Cp} (h : Hds w us P) : us.toArray.all (·.oneCell') = true := all_oneCell_toArray fun v hv => by
  obtain ⟨k, hk, e⟩ := List.getElem_of_mem hv
  obtain ⟨_, A, c, rfl, _⟩ := h.cps k v (by rw [List.getElem?_eq_getElem hk, e])
  rfl
theorem Hds.size {w : World} {us : List Value} {P : List Cp} (h : Hds w us P) : us.toArray.size = nil16.size := by rw [List.size_toArray, h.len, nil16_size]
theorem Held.hds {w : World} {base : Nat} {us : List Value} {P : List Cp} (h : Held w base us P) : Hds w us P := ⟨h.len, fun _ _ hu => h.cps hu⟩

/-- What coherent gives where the structure is right. -/
def CohIs (w : World) (P : List Cp) (m : List Int) (e : Ending) : Prop :=
  (∃ k : Nat, k < 16 ∧ (∀ j, j < k → lnE (onL j P) (l4 m j) = 0) ∧ lnE (onL k P) (l4 m k) ≠ 0 ∧ e = .returned (.tuple #[.agg nil16, .int .i64 (lnE (onL k P) (l4 m k)), .int .i64 k])) ∨
  ((∀ j, j < 16 → lnE (onL j P) (l4 m j) = 0) ∧ ∃ us, e = .returned (.tuple #[.agg us.toArray, .int .i64 0, .int .i64 0]) ∧ Hds w us P)

set_option maxRecDepth 10000 in
set_option maxHeartbeats 4000000 in
theorem coherent_is (n s y b : Int) (v : Value) (m : List Int) (css : List (List St)) (w : World) (h : Ks w v css) (hm : m.length = 64) (he : formE n s y b css = 0) :
    Calls Tryz.prog 19 #[cfg n s y b, wldV v m] w fun e w' => CohIs w' (copN css css.length) m e ∧ Below w.heap.size w w' := by
  have F := Lib.hid fun w hw => collect_ok n s y b v m css w hw hm he
  generalize copN css css.length = P at F ⊢
  have low := Below.refl w.heap.size w
  have cb := boxNext low 23 (cfgA n s y b)
  replace low := gAlloc low (.cells (cfgA n s y b) 23)
  replace h := h.alloc (.cells (cfgA n s y b) 23)
  try simp only [World.size_alloc] at cb
  have wb := boxNext low 31 (wldA v m)
  replace low := gAlloc low (.cells (wldA v m) 31)
  replace cb := cb.alloc (.cells (wldA v m) 31)
  replace h := h.alloc (.cells (wldA v m) 31)
  try simp only [World.size_alloc] at wb
  have ob := boxNext low 73 nil16
  replace low := gAlloc low (.cells nil16 73)
  replace cb := cb.alloc (.cells nil16 73)
  replace wb := wb.alloc (.cells nil16 73)
  replace h := h.alloc (.cells nil16 73)
  try simp only [World.size_alloc] at ob
  have wr := wb.range
  go_enter Tryz.func19, Tryz.ntmps19
  go_wp2_with (first | (with_reducible refine wp_newW (tyCopies) ?_) | ((with_reducible refine wp_loadW (tyWorld) (wr) (wld_size hm) ?_ ?_ ?_); rfl; rfl))
  (with_reducible refine (F.out _ h).mono ?_); rintro e w1 ⟨⟨us, rfl, hld⟩, hb⟩
  replace ob := ob.call hb
  replace wb := wb.call hb
  replace low := gCall low hb
  clear hb cb wr F
  have z1 := ob.lt
  have u16 : us.toArray.size = nil16.size := by rw [List.size_toArray, hld.len, nil16_size]
  have one := us_one hld
  replace hld := hld.alloc (.cells us.toArray 73)
  have hb := boxNext low 73 us.toArray
  replace low := gAlloc low (.cells us.toArray 73)
  replace ob := ob.alloc (.cells us.toArray 73)
  replace wb := wb.alloc (.cells us.toArray 73)
  try simp only [World.size_alloc] at hb
  have HLD := Lib.hid hld
  have wm := wld_mem wb
  clear hld
  go_wp2_with (first | (with_reducible refine wp_newW (tyCopies) ?_) | ((with_reducible refine wp_freshW (tyCopies) (rfl) (u16) (one) ?_ ?_ ?_); rfl; rfl) | ((with_reducible refine wp_loadW (tyMem) (wm) (mem_zsize hm) ?_ ?_ ?_); rfl; rfl))
  generalize (((w.alloc (.cells (cfgA n s y b) 23)).alloc (.cells (wldA v m) 31)).alloc (.cells nil16 73)).heap.size = base at HLD
  go_loopw [24] (fun i wr => ∃ k : Nat, k ≤ 16 ∧ i = .int .i64 k ∧ Hid (∀ j, j < k → lnE (onL j P) (l4 m j) = 0) ∧ Hid (Held wr base us P) ∧ Box wr w1.heap.size 73 us.toArray ∧ Box wr (w.heap.size + 1 + 1) 73 nil16 ∧ Below w.heap.size w wr) (fun i _ => 16 - (intOf i).toNat)
  case atStart => exact ⟨0, by omega, rfl, Lib.hid fun j hj => absurd hj (by omega), HLD, hb, ob, low⟩
  case round =>
    clear h wb hb ob low HLD wm
    obtain ⟨k, hk, rfl, hno, HLD, hb, ob, low⟩ := hrel
    by_cases hlt : k < 16
    · have ix := fun w => index_mem m hm k hlt w
      have k0 : (0 : Int) ≤ k := by omega
      have k1 : (k : Int) < 16 := by omega
      have hu : us[k]? = some (us[k]'(by have := HLD.out.len; omega)) := List.getElem?_eq_getElem _
      generalize us[k]'(by have := HLD.out.len; omega) = u at hu
      have cps := HLD.out.cps hu
      have hcu : us.toArray[k]? = some u := by rw [List.getElem?_toArray]; exact hu
      obtain ⟨A, c, rfl⟩ : ∃ A c, u = .slice A (onL k P).length c := by obtain ⟨_, A, c, e, _⟩ := cps; exact ⟨A, c, e⟩
      have CK := Lib.hid fun w hw => checkLine_any (.slice A (onL k P).length c) (onL k P) (l4 m k) w hw
      have HF := Lib.hid (show lnE (onL k P) (l4 m k) = lnE (onL k P) (l4 m k) from rfl)
      generalize hf : lnE (onL k P) (l4 m k) = f at CK
      replace HF := Lib.hid hf
      clear hf hu
      simp only [l4] at CK
      replace HLD := Lib.hid (HLD.out.alloc (.cells #[.int .u64 (wd m (k * 4)), .int .u64 (wd m (k * 4 + 1)), .int .u64 (wd m (k * 4 + 2)), .int .u64 (wd m (k * 4 + 3))] 27))
      replace cps := cps.alloc (.cells #[.int .u64 (wd m (k * 4)), .int .u64 (wd m (k * 4 + 1)), .int .u64 (wd m (k * 4 + 2)), .int .u64 (wd m (k * 4 + 3))] 27)
      have lb := boxNext low 27 #[.int .u64 (wd m (k * 4)), .int .u64 (wd m (k * 4 + 1)), .int .u64 (wd m (k * 4 + 2)), .int .u64 (wd m (k * 4 + 3))]
      replace low := gAlloc low (.cells #[.int .u64 (wd m (k * 4)), .int .u64 (wd m (k * 4 + 1)), .int .u64 (wd m (k * 4 + 2)), .int .u64 (wd m (k * 4 + 3))] 27)
      replace hb := hb.alloc (.cells #[.int .u64 (wd m (k * 4)), .int .u64 (wd m (k * 4 + 1)), .int .u64 (wd m (k * 4 + 2)), .int .u64 (wd m (k * 4 + 3))] 27)
      replace ob := ob.alloc (.cells #[.int .u64 (wd m (k * 4)), .int .u64 (wd m (k * 4 + 1)), .int .u64 (wd m (k * 4 + 2)), .int .u64 (wd m (k * 4 + 3))] 27)
      try simp only [World.size_alloc] at lb
      have hc0 := hb.at_ k hcu
      have l0 := lb.at_ 0 rfl
      have l1 := lb.at_ 1 rfl
      have l2 := lb.at_ 2 rfl
      have l3 := lb.at_ 3 rfl
      go_wp2_with fail
      refine wp_region_noPanic ?_
      refine wp_region_held_drew (S := fun w' => w'.cell? ⟨w1.heap.size, k, none⟩ = some (.slice A (onL k P).length c) ∧ w'.cell? ⟨wr.heap.size, 0, none⟩ = some (.int .u64 (wd m (k * 4))) ∧ w'.cell? ⟨wr.heap.size, 1, none⟩ = some (.int .u64 (wd m (k * 4 + 1))) ∧ w'.cell? ⟨wr.heap.size, 2, none⟩ = some (.int .u64 (wd m (k * 4 + 2))) ∧ w'.cell? ⟨wr.heap.size, 3, none⟩ = some (.int .u64 (wd m (k * 4 + 3)))) (by kernel_rfl) ⟨drewC hc0, drewC l0, drewC l1, drewC l2, drewC l3⟩ (fun hHeld => ?_)
      clear hc0 l0 l1 l2 l3 lb
      refine takeFirst (i := 0) (v := ?_) rfl (by kernel_rfl) (by kernel_rfl) (by kernel_rfl) (by rfl) (fun _ _ _ h => h) ?_ (by assumption) ?_
      rotate_left
      · (intro w hSw; go_simp; try (with_reducible rfl))
      try simp only [Act.put, List.setIfInBounds_toArray, List.set_cons_zero, List.set_cons_succ]
      refine takeFirst (i := 1) (v := ?_) rfl (by kernel_rfl) (by kernel_rfl) (by kernel_rfl) (by rfl) (fun _ _ _ h => h) ?_ (by assumption) ?_
      rotate_left
      · (intro w hSw; go_simp; try (with_reducible rfl))
      try simp only [Act.put, List.setIfInBounds_toArray, List.set_cons_zero, List.set_cons_succ]
      refine takeFirst (i := 2) (v := ?_) rfl (by kernel_rfl) (by kernel_rfl) (by kernel_rfl) (by rfl) (fun _ _ _ h => h) ?_ (by assumption) ?_
      rotate_left
      · (intro w hSw; go_simp; try (with_reducible rfl))
      try simp only [Act.put, List.setIfInBounds_toArray, List.set_cons_zero, List.set_cons_succ]
      refine takeFirst (i := 3) (v := ?_) rfl (by kernel_rfl) (by kernel_rfl) (by kernel_rfl) (by rfl) (fun _ _ _ h => h) ?_ (by assumption) ?_
      rotate_left
      · (intro w hSw; go_simp; try (with_reducible rfl))
      try simp only [Act.put, List.setIfInBounds_toArray, List.set_cons_zero, List.set_cons_succ]
      refine stepNext (i := 4) (by kernel_rfl) rfl (by rfl) (fun K hK => ?_)
      go_simp
      (with_reducible refine (CK.out _ cps.drew).mono ?_); rintro e w4 ⟨rfl, hb4⟩
      replace hb := hb.drew.call hb4
      replace ob := ob.drew.call hb4
      replace HLD := Lib.hid (HLD.out.drew.call hb4)
      replace low := gCall low.drew hb4
      obtain ⟨hh0, hh1, hh2, hh3, hh4⟩ := hHeld
      have hHeld := (And.intro (callC hb4 hh0) (And.intro (callC hb4 hh1) (And.intro (callC hb4 hh2) (And.intro (callC hb4 hh3) (callC hb4 hh4)))))
      clear hh0 hh1 hh2 hh3 hh4
      clear hb4 cps CK
      refine hK.out _ _ hHeld ?_
      clear hK K
      try simp only [Act.put]
      try simp only [List.setIfInBounds_toArray, List.set_cons_zero, List.set_cons_succ]
      refine takeFirst (i := 5) (v := ?_) rfl (by kernel_rfl) (by kernel_rfl) (by kernel_rfl) (by rfl) (fun _ _ _ h => h) ?_ (by assumption) ?_
      rotate_left
      · (intro w hSw; go_simp; try (with_reducible rfl))
      try simp only [Act.put, List.setIfInBounds_toArray, List.set_cons_zero, List.set_cons_succ]
      clear hHeld
      refine wpAnyH_done (by kernel_rfl) ?_ _
      refine NoPanic.normal ?_
      cases hf : (f != 0)
      · obtain rfl : f = 0 := by simpa using hf
        clear hf
        go_wp2_with fail
        go_roundw
        case rel => exact ⟨k + 1, by omega, by go_num, Lib.hid fun j hj => by
          by_cases e : j < k
          · exact hno.out j e
          · obtain rfl : j = k := by omega
            exact HF.out, HLD, hb, ob, low⟩
        case measure => simp [intOf]; omega
      · have fne : f ≠ 0 := by simpa using hf
        have zb := ob.lt
        go_wp2_with (first | (with_reducible refine wp_zeroW (tyCopies) ?_) | ((with_reducible refine wp_storeW (tyCopies) (ob) (rfl) (rfl) (nil16_one) ?_ ?_ ?_); rfl; rfl))
        intro w5 ob5 st
        replace low := st.low low (by omega)
        clear st
        go_wp2_with fail
        exact bodyPost_ret (v := .tuple #[.agg nil16, .int .i64 f, .int .i64 k]) (results_first3 tyCopies Tryz.results19 rfl rfl rfl ob5 rfl) rfl ⟨.inl ⟨k, hlt, hno.out, by rw [HF.out]; exact fne, by rw [HF.out]⟩, low⟩
    · obtain rfl : k = 16 := by omega
      have hbr := hb.range
      go_wp2_with (first | ((with_reducible refine wp_loadW (tyCopies) (hbr) (u16) ?_ ?_ ?_); rfl; rfl) | ((with_reducible refine wp_storeW (tyCopies) (ob) (rfl) (u16) (one) ?_ ?_ ?_); rfl; rfl))
      intro w3 ob3 st
      have HL3 := Lib.hid (HLD.out.stored ob (by decide) st)
      replace low := st.low low (by omega)
      clear ob st hb HLD hbr
      go_wp2_with fail
      exact bodyPost_ret (v := .tuple #[.agg us.toArray, .int .i64 0, .int .i64 0]) (results_first3 tyCopies Tryz.results19 rfl rfl rfl ob3 u16) rfl ⟨.inr ⟨hno.out, us, rfl, HL3.out.hds⟩, low⟩

theorem coherent_bad (n s y b : Int) (v : Value) (m : List Int) (css : List (List St)) (w : World) (h : Ks w v css) (hm : m.length = 64) (he : cohE n s y b css m ≠ 0) :
    Calls Tryz.prog 19 #[cfg n s y b, wldV v m] w fun e w' => e = .returned (.tuple #[.agg nil16, .int .i64 (cohE n s y b css m), .int .i64 (cohL n s y b css m)]) ∧ Below w.heap.size w w' := by
  by_cases hf : formE n s y b css ≠ 0
  · have := coherent_form n s y b v m css w h hm hf
    unfold cohE cohL
    rwa [if_pos hf, if_pos hf]
  · refine (coherent_is n s y b v m css w h hm (by simpa using hf)).mono ?_
    rintro e w' ⟨hc, hb⟩
    refine ⟨?_, hb⟩
    unfold cohE cohL at *
    rw [if_neg hf] at *
    rw [if_neg hf]
    rcases hc with ⟨k, hk, h0, h1, rfl⟩ | ⟨h0, us, rfl, _⟩
    · rw [badL_some hk h0 h1]
    · rw [badL_none h0] at he
      exact absurd rfl he

theorem coherent_ok (n s y b : Int) (v : Value) (m : List Int) (css : List (List St)) (w : World) (h : Ks w v css) (hm : m.length = 64) (he : cohE n s y b css m = 0) :
    Calls Tryz.prog 19 #[cfg n s y b, wldV v m] w fun e w' => (∃ us, e = .returned (.tuple #[.agg us.toArray, .int .i64 0, .int .i64 0]) ∧ Hds w' us (copN css css.length)) ∧ Below w.heap.size w w' := by
  obtain ⟨h1, h2⟩ := cohE_ok he
  refine (coherent_is n s y b v m css w h hm h1).mono ?_
  rintro e w' ⟨hc, hb⟩
  refine ⟨?_, hb⟩
  rcases hc with ⟨k, hk, _, h3, _⟩ | ⟨_, us, e, h3⟩
  · exact absurd (h2 k hk) h3
  · exact ⟨us, e, h3⟩
end Go.Proofs.YtcegjehoejgofaaGreat

/- IntsEqual: Proved: slices.Equal of two slices that hold the same ints returns true, and changes nothing that was there. No other condition. -/
namespace Go.Proofs.YtcegjehoejgofaaGreat
open Go.ChangeShapes Go.WideShapes Go.ChangeAt Go.RowKit Go.Joins

end Go.Proofs.YtcegjehoejgofaaGreat

/- Bank2: Proved: what Same of package bank returns; '==' on memories; an argument that is a memory. No condition. -/
namespace Go.Proofs.YtcegjehoejgofaaGreat
open Go.ChangeShapes Go.WideShapes Go.ChangeAt Go.RowKit Go.Joins

theorem words_of : ∀ {n : Nat} {cs : List Value}, AllOk (List.replicate n (.int .u64)) cs → ∃ l : List Int, cs = l.map (Value.int .u64) ∧ l.length = n
  | 0, [], _ => ⟨[], rfl, rfl⟩
  | 0, _ :: _, h => h.elim
  | n + 1, [], h => h.elim
  | n + 1, c :: cs, h => by
    obtain ⟨⟨a, rfl, _⟩, h2⟩ := h
    obtain ⟨l, rfl, hl⟩ := words_of h2
    exact ⟨a :: l, rfl, by simp [hl]⟩


/-- Two memories are the same. -/
def sameM (l m : List Int) : Bool := decide (l = m)

theorem eqCells_words : ∀ (l m : List Int), l.length = m.length → eqCells (l.map (Value.int .u64)) (m.map (Value.int .u64)) = sameM l m
  | [], [], _ => rfl
  | [], _ :: _, h => by cases h
  | _ :: _, [], h => by cases h
  | a :: l, b :: m, h => by
    have ih := eqCells_words l m (by simpa using h)
    simp only [List.map_cons, eqCells, scEq, ih, sameM]
    rw [Bool.eq_iff_iff]
    simp

theorem allK_words : ∀ (l : List Int), AllK (List.replicate l.length (.int .u64)) (l.map (Value.int .u64))
  | [] => trivial
  | a :: l => ⟨⟨a, rfl⟩, allK_words l⟩

/-- '==' on memories. -/
theorem eqMem (l m : List Int) (hl : l.length = 64) (hm : m.length = 64) (w : World) : (Op.equalIn 10000 29 (memV l) (memV m)).run Tryz.prog w = .ok (sameM l m) w := by
  have al := allK_words l
  have am := allK_words m
  rw [hl] at al
  rw [hm] at am
  have := equal_flat (P := Tryz.prog) 3 29 (List.replicate 64 (.int .u64)) (by kernel_rfl) (by kernel_rfl) 10000 (by omega) w _ _ (memV l) (memV m) al am (by simp [ValIs, Tryz.underlying29, memA]) (by simp [ValIs, Tryz.underlying29, memA])
  rwa [eqCells_words l m (by rw [hl, hm])] at this

theorem info_int : (Tryz.prog.info? 3).map (fun i => (i.zero, i.size, i.bytes)) = some (some (.int .i64 0), 1, 8) := by kernel_rfl

end Go.Proofs.YtcegjehoejgofaaGreat

/- Agree4: Proved: what Value, Holders and Flat of package agree return, for every world that can be read; they change nothing that was there. No condition. -/
namespace Go.Proofs.YtcegjehoejgofaaGreat
open Go.ChangeShapes Go.WideShapes Go.ChangeAt Go.RowKit Go.Joins

abbrev lnA (x : L4) : Array Value := #[.int .u64 x.a, .int .u64 x.b, .int .u64 x.c, .int .u64 x.d]
abbrev ln0 : Array Value := #[.int .u64 0, .int .u64 0, .int .u64 0, .int .u64 0]
theorem tyLine : Ty 27 ln0 := ⟨by kernel_rfl, ⟨_, Tryz.underlying27, rfl⟩, fun w => by kernel_rfl⟩

theorem lnA_one (x : L4) : (lnA x).all (·.oneCell') = true := by simp [Value.oneCell']

end Go.Proofs.YtcegjehoejgofaaGreat

/- Agree5: Proved: what Holders and Flat of package agree return, for every world that can be read; they change nothing that was there. No condition. -/
namespace Go.Proofs.YtcegjehoejgofaaGreat
open Go.ChangeShapes Go.WideShapes Go.ChangeAt Go.RowKit Go.Joins

/-- The nodes of the copies. -/
def nodesL (l : List Cp) : List Int := l.map fun c => c.nd
theorem nodesL_succ {l : List Cp} {j : Nat} {c : Cp} (h : l[j]? = some c) : nodesL (l.take (j + 1)) = nodesL (l.take j) ++ [c.nd] := by
  obtain ⟨hj, rfl⟩ := List.getElem?_eq_some_iff.1 h
  unfold nodesL
  rw [List.take_succ_eq_append_getElem hj, List.map_append]
  rfl
theorem nodesL_length (l : List Cp) : (nodesL l).length = l.length := by simp [nodesL]

set_option maxRecDepth 10000 in
set_option maxHeartbeats 2000000 in
theorem holders_ok (n s y b : Int) (v : Value) (m : List Int) (css : List (List St)) (k : Nat) (w : World) (h : Ks w v css) (hm : m.length = 64) (he : cohE n s y b css m = 0) (hk : k < 16) (h128 : (onL k (copN css css.length)).length ≤ 128) :
    Calls Tryz.prog 131 #[cfg n s y b, wldV v m, .int .i64 k] w fun e w' => (∃ A c, e = .returned (.tuple #[.slice A (nodesL (onL k (copN css css.length))).length c, .int .i64 (ownN (onL k (copN css css.length))), .int .i64 0]) ∧
      Sl w' w'.heap.size 1 (.slice A (nodesL (onL k (copN css css.length))).length c) (nodesL (onL k (copN css css.length))).length ((nodesL (onL k (copN css css.length))).map (Value.int .i64))) ∧ Below w.heap.size w w' := by
  have F := Lib.hid fun w hw => coherent_ok n s y b v m css w hw hm he
  have R := Lib.hid fun w => bankRead_ok m hm k hk w
  clear he
  generalize copN css css.length = P at F h128 ⊢
  generalize hl0 : onL k P = l at h128 ⊢
  have HL := Lib.hid hl0
  clear hl0
  obtain ⟨i0, hi, hz0, hz1, hz2⟩ := info_parts info_int
  have HI := Lib.hid hi
  have HZ := Lib.hid (And.intro hz0 (And.intro hz1 hz2))
  clear hi hz0 hz1 hz2
  have low := Below.refl w.heap.size w
  have cb := boxNext low 23 (cfgA n s y b)
  replace low := gAlloc low (.cells (cfgA n s y b) 23)
  replace h := h.alloc (.cells (cfgA n s y b) 23)
  try simp only [World.size_alloc] at cb
  have wb := boxNext low 31 (wldA v m)
  replace low := gAlloc low (.cells (wldA v m) 31)
  replace cb := cb.alloc (.cells (wldA v m) 31)
  replace h := h.alloc (.cells (wldA v m) 31)
  try simp only [World.size_alloc] at wb
  have wr := wb.range
  go_enter Tryz.func131, Tryz.ntmps131
  go_wp2_with (first | ((with_reducible refine wp_loadW (tyWorld) (wr) (wld_size hm) ?_ ?_ ?_); rfl; rfl))
  (with_reducible refine (F.out _ h).mono ?_); rintro e w1 ⟨⟨us, rfl, hds⟩, hb⟩
  replace wb := wb.call hb
  replace low := gCall low hb
  clear hb cb wr
  have u16 := hds.size
  have one := hds.one
  have hb := boxNext low 73 us.toArray
  replace low := gAlloc low (.cells us.toArray 73)
  replace wb := wb.alloc (.cells us.toArray 73)
  replace hds := hds.alloc (.cells us.toArray 73)
  try simp only [World.size_alloc] at hb
  have wm := wld_mem wb
  go_wp2_with (first | (with_reducible refine wp_newW (tyCopies) ?_) | ((with_reducible refine wp_freshW (tyCopies) (rfl) (u16) (one) ?_ ?_ ?_); rfl; rfl) | ((with_reducible refine wp_loadW (tyMem) (wm) (mem_zsize hm) ?_ ?_ ?_); rfl; rfl))
  (with_reducible refine (R.out _).mono ?_); rintro e w2 ⟨rfl, hb2⟩
  replace hb := hb.call hb2
  replace hds := hds.call hb2
  replace low := gCall low hb2
  clear hb2 wm wb
  have hu : us[k]? = some (us[k]'(by have := hds.len; omega)) := List.getElem?_eq_getElem _
  generalize us[k]'(by have := hds.len; omega) = u at hu
  have cps := hds.cps k u hu
  rw [HL.out] at cps
  have hcu : us.toArray[k]? = some u := by rw [List.getElem?_toArray]; exact hu
  obtain ⟨A, c, rfl⟩ : ∃ A c, u = .slice A l.length c := by obtain ⟨_, A, c, e, _⟩ := cps; exact ⟨A, c, e⟩
  have OW := Lib.hid fun w hw => ownerOf_any (.slice A l.length c) l w hw
  clear hu hds R F
  have z2 := hb.lt
  have lb := boxNext low 27 #[.int .u64 (wd m (k * 4)), .int .u64 (wd m (k * 4 + 1)), .int .u64 (wd m (k * 4 + 2)), .int .u64 (wd m (k * 4 + 3))]
  replace low := gAlloc low (.cells #[.int .u64 (wd m (k * 4)), .int .u64 (wd m (k * 4 + 1)), .int .u64 (wd m (k * 4 + 2)), .int .u64 (wd m (k * 4 + 3))] 27)
  replace hb := hb.alloc (.cells #[.int .u64 (wd m (k * 4)), .int .u64 (wd m (k * 4 + 1)), .int .u64 (wd m (k * 4 + 2)), .int .u64 (wd m (k * 4 + 3))] 27)
  replace cps := cps.alloc (.cells #[.int .u64 (wd m (k * 4)), .int .u64 (wd m (k * 4 + 1)), .int .u64 (wd m (k * 4 + 2)), .int .u64 (wd m (k * 4 + 3))] 27)
  try simp only [World.size_alloc] at lb
  have hc0 := hb.at_ k hcu
  have k0 : (0 : Int) ≤ k := by omega
  have k1 : (k : Int) < 16 := by omega
  have CPS := Lib.hid cps
  obtain ⟨hl, A2, cx, e2, h1, h2, h3⟩ := cps
  cases e2
  have H3 := Lib.hid h3
  unfold maxLen at h2
  clear hl h3
  go_wp2_with fail
  clear hc0
  generalize hW : w2.alloc (.cells #[.int .u64 (wd m (k * 4)), .int .u64 (wd m (k * 4 + 1)), .int .u64 (wd m (k * 4 + 2)), .int .u64 (wd m (k * 4 + 3))] 27) = W at *
  have z3 : w1.heap.size < W.heap.size := hb.lt
  have LOW := Lib.hid low
  have lo := low.size
  go_loopw [14, 41] (fun s i wr => ∃ j : Nat, j ≤ l.length ∧ i = .int .i64 j ∧ wr.ownsRow W.heap.size 3 1 s j ((nodesL (l.take j)).map (Value.int .i64)) ∧ Below W.heap.size W wr) (fun _ i _ => l.length - (intOf i).toNat)
  case atStart => exact ⟨0, Nat.zero_le _, rfl, World.ownsRow_nil _ _ _ _, Below.refl _ _⟩
  case round =>
    clear low
    obtain ⟨j, hj, rfl, own, low⟩ := hrel
    obtain ⟨As, cs, rfl⟩ := own_shape own
    by_cases hlt : j < l.length
    · obtain ⟨bb, o, rfl, hbb, hc⟩ := H3.out (by omega)
      have hx : l[j]? = some l[j] := List.getElem?_eq_getElem _
      generalize l[j] = x at hx
      obtain ⟨c0, c1, c2, c3, c4, c5, c6⟩ := cpAt_of hc hbb low hx
      have NS := Lib.hid (nodesL_succ hx)
      clear hx hc
      have j1 : (j : Int) < l.length := by omega
      have lz := low.size
      have xb := boxNext low 116 x.box
      replace low := gAlloc low (.cells x.box 116)
      try simp only [World.size_alloc] at xb
      simp only [Cp.box] at xb
      replace own := own.alloc (.cells x.box 116)
      simp only [Cp.box] at own
      have xb_0 := xb.at_ 0 rfl
      go_wp2_with (at_builtin; refine wpList_append_own _ rfl _ _ 35 rfl W.heap.size 3 i0 (.int .i64 0) 1 8 Tryz.underlying35 HI.out HZ.out.1 HZ.out.2.1 HZ.out.2.2 rfl (by decide) _ _ _ rfl (own.alloc _) ⟨wr.heap.size + 1, 0, none⟩ 1 1 [.int .i64 x.nd] rfl rfl ?c1 ?c2 ?c3 ?c4 ?c5 ?_)
      case c1 =>
        intro q u hq
        match q, hq with
        | 0, hq => simp at hq; subst hq; simp [Addr.add]
      case c2 => intro u hu; simp at hu; subst hu; rfl
      case c3 => unfold maxLen; omega
      case c4 => omega
      case c5 => simp; omega
      intro v4 w4 own4 grow4 _
      obtain ⟨A4, c4', rfl⟩ := own_shape own4
      have low4 : Below W.heap.size W w4 := (gAlloc low _).grown grow4 (by simp; omega) (fun g e => by have := own.lt _ e; omega)
      clear xb_0
      clear grow4 own c0 c1 c2 c3 c4 c5 c6 xb low
      have O4 := Lib.hid own4
      clear own4
      go_wp2_with fail
      go_roundw
      case rel => exact ⟨j + 1, by omega, by go_num, by rw [NS.out, List.map_append]; exact O4.out, low4⟩
      case measure => simp [intOf]; omega
    · obtain rfl : j = l.length := by omega
      rw [List.take_length] at own
      have hc1 := (hb.call low).at_ k hcu
      have OWN := Lib.hid own
      clear own
      go_wp2_with fail
      (with_reducible refine (OW.out _ (CPS.out.call low)).mono ?_); rintro e w5 ⟨rfl, hb5⟩
      have sl := Lib.hid ((Sl.ofOwn OWN.out).call hb5)
      have LO := Lib.hid (gCall (gCall LOW.out low) hb5)
      clear OWN hc1 low hb5
      go_wp2_with fail
      go_ret3
      rw [nodesL_length]
      exact ⟨⟨_, _, rfl, sl.out⟩, LO.out⟩

/-- The memory whose first lines are as every node would read them. -/
def flatN (P : List Cp) (m : List Int) : Nat → List Int
  | 0 => zeroL
  | k + 1 => writeL (flatN P m k) k (valL (onL k P) (l4 m k)).a (valL (onL k P) (l4 m k)).b (valL (onL k P) (l4 m k)).c (valL (onL k P) (l4 m k)).d
theorem flatN_length (P : List Cp) (m : List Int) : ∀ k, (flatN P m k).length = 64
  | 0 => zeroL_length
  | k + 1 => by rw [flatN, writeL_length]; exact flatN_length P m k
theorem wd_set (l : List Int) (i j : Nat) (x : Int) (hi : i < l.length) : wd (l.set i x) j = if i = j then x else wd l j := by
  unfold wd
  by_cases e : i = j
  · subst e; rw [if_pos rfl]; simp [List.getD, hi]
  · rw [if_neg e]; simp [List.getD, List.getElem?_set_ne e]
theorem wd_write (l : List Int) (hl : l.length = 64) (k : Nat) (hk : k < 16) (a b c d : Int) (i : Nat) : wd (writeL l k a b c d) i = if k * 4 + 3 = i then d else if k * 4 + 2 = i then c else if k * 4 + 1 = i then b else if k * 4 = i then a else wd l i := by
  unfold writeL
  rw [wd_set _ _ _ _ (by simp only [List.length_set]; omega), wd_set _ _ _ _ (by simp only [List.length_set]; omega), wd_set _ _ _ _ (by simp only [List.length_set]; omega), wd_set _ _ _ _ (by omega)]
theorem l4_write (l : List Int) (hl : l.length = 64) (k : Nat) (hk : k < 16) (x : L4) (j : Nat) : l4 (writeL l k x.a x.b x.c x.d) j = if j = k then x else l4 l j := by
  unfold l4
  rw [wd_write l hl k hk, wd_write l hl k hk, wd_write l hl k hk, wd_write l hl k hk]
  by_cases e : j = k
  · subst e
    rw [if_pos rfl, if_neg (by omega), if_neg (by omega), if_neg (by omega), if_pos rfl, if_neg (by omega), if_neg (by omega), if_pos rfl, if_neg (by omega), if_pos rfl, if_pos rfl]
  · rw [if_neg e, if_neg (by omega), if_neg (by omega), if_neg (by omega), if_neg (by omega), if_neg (by omega), if_neg (by omega), if_neg (by omega), if_neg (by omega), if_neg (by omega), if_neg (by omega), if_neg (by omega), if_neg (by omega), if_neg (by omega), if_neg (by omega), if_neg (by omega), if_neg (by omega)]
theorem flatN_at (P : List Cp) (m : List Int) : ∀ k, k ≤ 16 → ∀ j, j < k → l4 (flatN P m k) j = valL (onL j P) (l4 m j)
  | 0, _, j, hj => absurd hj (by omega)
  | k + 1, hk, j, hj => by
    rw [flatN, l4_write _ (flatN_length P m k) k (by omega)]
    by_cases e : j = k
    · subst e; rw [if_pos rfl]
    · rw [if_neg e]; exact flatN_at P m k (by omega) j (by omega)

set_option maxHeartbeats 1000000 in
theorem flat_bad (n s y b : Int) (v : Value) (m : List Int) (css : List (List St)) (w : World) (h : Ks w v css) (hm : m.length = 64) (he : cohE n s y b css m ≠ 0) :
    Calls Tryz.prog 7 #[cfg n s y b, wldV v m] w fun e w' => e = .returned (.tuple #[memV zeroL, .int .i64 (cohE n s y b css m)]) ∧ Below w.heap.size w w' := by
  have F := Lib.hid fun w hw => coherent_bad n s y b v m css w hw hm he
  generalize cohE n s y b css m = E at F he ⊢
  generalize cohL n s y b css m = L at F
  have he' : (E != 0) = true := by simpa using he
  clear he
  have low := Below.refl w.heap.size w
  have cb := boxNext low 23 (cfgA n s y b)
  replace low := gAlloc low (.cells (cfgA n s y b) 23)
  replace h := h.alloc (.cells (cfgA n s y b) 23)
  try simp only [World.size_alloc] at cb
  have wb := boxNext low 31 (wldA v m)
  replace low := gAlloc low (.cells (wldA v m) 31)
  replace cb := cb.alloc (.cells (wldA v m) 31)
  replace h := h.alloc (.cells (wldA v m) 31)
  try simp only [World.size_alloc] at wb
  have ob := boxNext low 29 (memA zeroL)
  replace low := gAlloc low (.cells (memA zeroL) 29)
  replace cb := cb.alloc (.cells (memA zeroL) 29)
  replace wb := wb.alloc (.cells (memA zeroL) 29)
  replace h := h.alloc (.cells (memA zeroL) 29)
  try simp only [World.size_alloc] at ob
  have wr := wb.range
  go_enter Tryz.func7, Tryz.ntmps7
  go_wp2_with (first | (with_reducible refine wp_newW (tyMem) ?_) | ((with_reducible refine wp_loadW (tyWorld) (wr) (wld_size hm) ?_ ?_ ?_); rfl; rfl))
  (with_reducible refine (F.out _ h).mono ?_); rintro e w1 ⟨rfl, hb⟩
  replace ob := ob.call hb
  replace low := gCall low hb
  clear hb cb wb wr
  have z1 := ob.lt
  have hb := boxNext low 73 nil16
  replace low := gAlloc low (.cells nil16 73)
  replace ob := ob.alloc (.cells nil16 73)
  try simp only [World.size_alloc] at hb
  go_wp2_with (first | (with_reducible refine wp_newW (tyCopies) ?_) | ((with_reducible refine wp_freshW (tyCopies) (rfl) (rfl) (nil16_one) ?_ ?_ ?_); rfl; rfl) | (with_reducible refine wp_zeroW (tyMem) ?_) | ((with_reducible refine wp_storeW (tyMem) (ob) (rfl) (rfl) (memA_one _) ?_ ?_ ?_); rfl; rfl))
  intro w2 ob2 st
  replace low := st.low low (by omega)
  clear ob st
  go_wp2_with fail
  exact bodyPost_ret (v := .tuple #[memV zeroL, .int .i64 E]) (results_first tyMem Tryz.results7 rfl rfl ob2 rfl) rfl ⟨rfl, low⟩

set_option maxRecDepth 10000 in
set_option maxHeartbeats 2000000 in
theorem flat_ok (n s y b : Int) (v : Value) (m : List Int) (css : List (List St)) (w : World) (h : Ks w v css) (hm : m.length = 64) (he : cohE n s y b css m = 0) :
    Calls Tryz.prog 7 #[cfg n s y b, wldV v m] w fun e w' => e = .returned (.tuple #[memV (flatN (copN css css.length) m 16), .int .i64 0]) ∧ Below w.heap.size w w' := by
  have F := Lib.hid fun w hw => coherent_ok n s y b v m css w hw hm he
  clear he
  generalize copN css css.length = P at F ⊢
  have low := Below.refl w.heap.size w
  have cb := boxNext low 23 (cfgA n s y b)
  replace low := gAlloc low (.cells (cfgA n s y b) 23)
  replace h := h.alloc (.cells (cfgA n s y b) 23)
  try simp only [World.size_alloc] at cb
  have wb := boxNext low 31 (wldA v m)
  replace low := gAlloc low (.cells (wldA v m) 31)
  replace cb := cb.alloc (.cells (wldA v m) 31)
  replace h := h.alloc (.cells (wldA v m) 31)
  try simp only [World.size_alloc] at wb
  have ob := boxNext low 29 (memA zeroL)
  replace low := gAlloc low (.cells (memA zeroL) 29)
  replace cb := cb.alloc (.cells (memA zeroL) 29)
  replace wb := wb.alloc (.cells (memA zeroL) 29)
  replace h := h.alloc (.cells (memA zeroL) 29)
  try simp only [World.size_alloc] at ob
  have wr := wb.range
  go_enter Tryz.func7, Tryz.ntmps7
  go_wp2_with (first | (with_reducible refine wp_newW (tyMem) ?_) | ((with_reducible refine wp_loadW (tyWorld) (wr) (wld_size hm) ?_ ?_ ?_); rfl; rfl))
  (with_reducible refine (F.out _ h).mono ?_); rintro e w1 ⟨⟨us, rfl, hds⟩, hb⟩
  replace ob := ob.call hb
  replace wb := wb.call hb
  replace low := gCall low hb
  clear hb cb wr F
  have z0 := ob.lt
  have u16 := hds.size
  have one := hds.one
  have hb := boxNext low 73 us.toArray
  replace low := gAlloc low (.cells us.toArray 73)
  replace ob := ob.alloc (.cells us.toArray 73)
  replace wb := wb.alloc (.cells us.toArray 73)
  replace hds := hds.alloc (.cells us.toArray 73)
  try simp only [World.size_alloc] at hb
  have HDS := Lib.hid hds
  have fb := boxNext low 29 (memA zeroL)
  replace low := gAlloc low (.cells (memA zeroL) 29)
  replace ob := ob.alloc (.cells (memA zeroL) 29)
  replace wb := wb.alloc (.cells (memA zeroL) 29)
  replace hb := hb.alloc (.cells (memA zeroL) 29)
  try simp only [World.size_alloc] at fb
  have wm := wld_mem wb
  clear hds
  go_wp2_with (first | (with_reducible refine wp_newW (tyCopies) ?_) | ((with_reducible refine wp_freshW (tyCopies) (rfl) (u16) (one) ?_ ?_ ?_); rfl; rfl) | (with_reducible refine wp_newW (tyMem) ?_) | ((with_reducible refine wp_loadW (tyMem) (wm) (mem_zsize hm) ?_ ?_ ?_); rfl; rfl))
  have b1 := (Below.refl (w1.alloc (.cells us.toArray 73)).heap.size (w1.alloc (.cells us.toArray 73))).alloc (Nat.le_refl _) (.cells (memA zeroL) 29)
  generalize hW : w1.alloc (.cells us.toArray 73) = W at *
  have zW : W.heap.size = w1.heap.size + 1 := by rw [← hW]; simp
  clear hW
  go_loopw [25] (fun i wr => ∃ k : Nat, k ≤ 16 ∧ i = .int .i64 k ∧ Box wr (w1.heap.size + 1) 29 (memA (flatN P m k)) ∧ Box wr w1.heap.size 73 us.toArray ∧ Box wr (w.heap.size + 1 + 1) 29 (memA zeroL) ∧ Below W.heap.size W wr ∧ Below w.heap.size w wr) (fun i _ => 16 - (intOf i).toNat)
  case atStart => exact ⟨0, by omega, rfl, fb, hb, ob, b1, low⟩
  case round =>
    clear h wb hb ob fb low wm b1
    obtain ⟨k, hk, rfl, fb, hb, ob, b1, low⟩ := hrel
    by_cases hlt : k < 16
    · have ix := fun w => index_mem m hm k hlt w
      have k0 : (0 : Int) ≤ k := by omega
      have k1 : (k : Int) < 16 := by omega
      have hu : us[k]? = some (us[k]'(by have := HDS.out.len; omega)) := List.getElem?_eq_getElem _
      generalize us[k]'(by have := HDS.out.len; omega) = u at hu
      have cps := (HDS.out.cps k u hu).call b1
      have hcu : us.toArray[k]? = some u := by rw [List.getElem?_toArray]; exact hu
      obtain ⟨A, c, rfl⟩ : ∃ A c, u = .slice A (onL k P).length c := by obtain ⟨_, A, c, e, _⟩ := cps; exact ⟨A, c, e⟩
      have VA := Lib.hid fun w hw => valueOf_any (.slice A (onL k P).length c) (onL k P) (l4 m k) w hw
      have HF := Lib.hid (show flatN P m (k + 1) = writeL (flatN P m k) k (valL (onL k P) (l4 m k)).a (valL (onL k P) (l4 m k)).b (valL (onL k P) (l4 m k)).c (valL (onL k P) (l4 m k)).d from rfl)
      generalize valL (onL k P) (l4 m k) = z at VA HF
      clear hu
      simp only [l4] at VA
      have zr := fb.lt
      have zo := ob.lt
      replace b1 := b1.alloc b1.size (.cells #[.int .u64 (wd m (k * 4)), .int .u64 (wd m (k * 4 + 1)), .int .u64 (wd m (k * 4 + 2)), .int .u64 (wd m (k * 4 + 3))] 27)
      have lb := boxNext low 27 #[.int .u64 (wd m (k * 4)), .int .u64 (wd m (k * 4 + 1)), .int .u64 (wd m (k * 4 + 2)), .int .u64 (wd m (k * 4 + 3))]
      replace low := gAlloc low (.cells #[.int .u64 (wd m (k * 4)), .int .u64 (wd m (k * 4 + 1)), .int .u64 (wd m (k * 4 + 2)), .int .u64 (wd m (k * 4 + 3))] 27)
      replace hb := hb.alloc (.cells #[.int .u64 (wd m (k * 4)), .int .u64 (wd m (k * 4 + 1)), .int .u64 (wd m (k * 4 + 2)), .int .u64 (wd m (k * 4 + 3))] 27)
      replace ob := ob.alloc (.cells #[.int .u64 (wd m (k * 4)), .int .u64 (wd m (k * 4 + 1)), .int .u64 (wd m (k * 4 + 2)), .int .u64 (wd m (k * 4 + 3))] 27)
      replace fb := fb.alloc (.cells #[.int .u64 (wd m (k * 4)), .int .u64 (wd m (k * 4 + 1)), .int .u64 (wd m (k * 4 + 2)), .int .u64 (wd m (k * 4 + 3))] 27)
      replace cps := cps.alloc (.cells #[.int .u64 (wd m (k * 4)), .int .u64 (wd m (k * 4 + 1)), .int .u64 (wd m (k * 4 + 2)), .int .u64 (wd m (k * 4 + 3))] 27)
      try simp only [World.size_alloc] at lb
      have hc0 := hb.at_ k hcu
      have l0 := lb.at_ 0 rfl
      have l1 := lb.at_ 1 rfl
      have l2 := lb.at_ 2 rfl
      have l3 := lb.at_ 3 rfl
      go_wp2_with fail
      refine wp_region_noPanic ?_
      refine wp_region_held_drew (S := fun w' => w'.cell? ⟨w1.heap.size, k, none⟩ = some (.slice A (onL k P).length c) ∧ w'.cell? ⟨wr.heap.size, 0, none⟩ = some (.int .u64 (wd m (k * 4))) ∧ w'.cell? ⟨wr.heap.size, 1, none⟩ = some (.int .u64 (wd m (k * 4 + 1))) ∧ w'.cell? ⟨wr.heap.size, 2, none⟩ = some (.int .u64 (wd m (k * 4 + 2))) ∧ w'.cell? ⟨wr.heap.size, 3, none⟩ = some (.int .u64 (wd m (k * 4 + 3)))) (by kernel_rfl) ⟨drewC hc0, drewC l0, drewC l1, drewC l2, drewC l3⟩ (fun hHeld => ?_)
      clear hc0 l0 l1 l2 l3 lb
      refine takeFirst (i := 0) (v := ?_) rfl (by kernel_rfl) (by kernel_rfl) (by kernel_rfl) (by rfl) (fun _ _ _ h => h) ?_ (by assumption) ?_
      rotate_left
      · (intro w hSw; go_simp; try (with_reducible rfl))
      try simp only [Act.put, List.setIfInBounds_toArray, List.set_cons_zero, List.set_cons_succ]
      refine takeFirst (i := 1) (v := ?_) rfl (by kernel_rfl) (by kernel_rfl) (by kernel_rfl) (by rfl) (fun _ _ _ h => h) ?_ (by assumption) ?_
      rotate_left
      · (intro w hSw; go_simp; try (with_reducible rfl))
      try simp only [Act.put, List.setIfInBounds_toArray, List.set_cons_zero, List.set_cons_succ]
      refine takeFirst (i := 2) (v := ?_) rfl (by kernel_rfl) (by kernel_rfl) (by kernel_rfl) (by rfl) (fun _ _ _ h => h) ?_ (by assumption) ?_
      rotate_left
      · (intro w hSw; go_simp; try (with_reducible rfl))
      try simp only [Act.put, List.setIfInBounds_toArray, List.set_cons_zero, List.set_cons_succ]
      refine takeFirst (i := 3) (v := ?_) rfl (by kernel_rfl) (by kernel_rfl) (by kernel_rfl) (by rfl) (fun _ _ _ h => h) ?_ (by assumption) ?_
      rotate_left
      · (intro w hSw; go_simp; try (with_reducible rfl))
      try simp only [Act.put, List.setIfInBounds_toArray, List.set_cons_zero, List.set_cons_succ]
      refine takeFirst (i := 4) (v := ?_) rfl (by kernel_rfl) (by kernel_rfl) (by kernel_rfl) (by rfl) (fun _ _ _ h => h) ?_ (by assumption) ?_
      rotate_left
      · (intro w hSw; go_simp; try (with_reducible rfl))
      try simp only [Act.put, List.setIfInBounds_toArray, List.set_cons_zero, List.set_cons_succ]
      refine stepNext (i := 5) (by kernel_rfl) rfl (by rfl) (fun K hK => ?_)
      go_simp
      (with_reducible refine (VA.out _ cps.drew).mono ?_); rintro e w4 ⟨rfl, hb4⟩
      replace hb := hb.drew.call hb4
      replace ob := ob.drew.call hb4
      replace fb := fb.drew.call hb4
      replace b1 := gCall b1.drew hb4
      replace low := gCall low.drew hb4
      obtain ⟨hh0, hh1, hh2, hh3, hh4⟩ := hHeld
      have hHeld := (And.intro (callC hb4 hh0) (And.intro (callC hb4 hh1) (And.intro (callC hb4 hh2) (And.intro (callC hb4 hh3) (callC hb4 hh4)))))
      clear hh0 hh1 hh2 hh3 hh4
      clear hb4 cps VA
      refine hK.out _ _ hHeld ?_
      clear hK K
      try simp only [Act.put]
      try simp only [List.setIfInBounds_toArray, List.set_cons_zero, List.set_cons_succ]
      refine takeFirst (i := 6) (v := ?_) rfl (by kernel_rfl) (by kernel_rfl) (by kernel_rfl) (by rfl) (fun _ _ _ h => h) ?_ (by assumption) ?_
      rotate_left
      · (intro w hSw; go_simp; try (with_reducible rfl))
      try simp only [Act.put, List.setIfInBounds_toArray, List.set_cons_zero, List.set_cons_succ]
      refine stepNext (i := 7) (by kernel_rfl) rfl (by rfl) (fun K hK => ?_)
      have th := (Mb.mk fb (flatN_length P m k)).there (k * 4) 4 (by omega)
      refine wp_store_mid 27 (.tmp 35) (.tmp 34) rfl _ _ (lnA z) rfl rfl th tyLine.size (lnA_one z) ?_
      have st5 := setCells_stored (w1.heap.size + 1) (lnA z).toList (k * 4) w4
      have fb5 := ((Mb.mk fb (flatN_length P m k)).write k z.a z.b z.c z.d).box
      rw [← HF.out] at fb5
      have hb5 := st5.box hb (by omega)
      have ob5 := st5.box ob (by omega)
      have b5 := st5.low b1 (by omega)
      have low5 := st5.low low (by omega)
      obtain ⟨hh0, hh1, hh2, hh3, hh4⟩ := hHeld
      have hHeld := (And.intro (st5.cell (by dsimp only; omega) hh0) (And.intro (st5.cell (by dsimp only; omega) hh1) (And.intro (st5.cell (by dsimp only; omega) hh2) (And.intro (st5.cell (by dsimp only; omega) hh3) (st5.cell (by dsimp only; omega) hh4)))))
      clear hh0 hh1 hh2 hh3 hh4
      clear st5 hb ob fb b1 low th
      change Box (w4.setCells (w1.heap.size + 1) (k * 4) (lnA z).toList) _ _ _ at fb5
      generalize w4.setCells (w1.heap.size + 1) (k * 4) (lnA z).toList = w5 at *
      refine hK.out _ _ hHeld ?_
      clear hK K
      try simp only [Act.put]
      try simp only [List.setIfInBounds_toArray, List.set_cons_zero, List.set_cons_succ]
      clear hHeld
      refine wpAnyH_done (by kernel_rfl) ?_ _
      refine NoPanic.normal ?_
      go_wp2_with fail
      go_roundw
      case rel => exact ⟨k + 1, by omega, by go_num, fb5, hb5, ob5, b5, low5⟩
      case measure => simp [intOf]; omega
    · obtain rfl : k = 16 := by omega
      have fr := fb.range
      have s1 := mem_zsize (flatN_length P m 16)
      go_wp2_with (first | ((with_reducible refine wp_loadW (tyMem) (fr) (s1) ?_ ?_ ?_); rfl; rfl) | ((with_reducible refine wp_storeW (tyMem) (ob) (rfl) (s1) (memA_one _) ?_ ?_ ?_); rfl; rfl))
      intro w3 ob3 st
      replace low := st.low low (by omega)
      clear ob st hb fb fr b1
      go_wp2_with fail
      exact bodyPost_ret (v := .tuple #[memV (flatN P m 16), .int .i64 0]) (results_first tyMem Tryz.results7 rfl rfl ob3 s1) rfl ⟨rfl, low⟩
end Go.Proofs.YtcegjehoejgofaaGreat

/- CacheFacts: Proved: what Find of package cache returns, in one form for every case; facts on lists of sets: what putting a line changes. No condition. -/
namespace Go.Proofs.YtcegjehoejgofaaGreat
open Go.ChangeShapes Go.WideShapes Go.ChangeAt Go.RowKit Go.Joins

/-- What Find gives. -/
def FindCIs (n s y b : Int) (ss : List St) (m : Int) (z : Wy) (p : Bool) (E : Int) : Prop :=
  E = lineE n s y b ss m ∧ ((E ≠ 0 ∧ z = wy0 ∧ p = false) ∨ (E = 0 ∧ ∃ (k : Nat) (t : St), m % s = k ∧ ss[k]? = some t ∧
    ((idxP (hasW m) t.l < 0 ∧ z = wy0 ∧ p = false) ∨ ∃ j : Nat, idxP (hasW m) t.l = j ∧ t.l[j]? = some z ∧ p = true)))

theorem cacheFind_is (n s y b : Int) (v : Value) (ss : List St) (m : Int) : ∃ z p E, FindCIs n s y b ss m z p E ∧ ∀ w, Cs w v ss →
    Calls Tryz.prog 130 #[cfg n s y b, v, .int .i64 m] w fun e w' => e = .returned (.tuple #[z.val, .bool p, .int .i64 E]) ∧ Below w.heap.size w w' := by
  by_cases he : lineE n s y b ss m = 0
  · obtain ⟨g1, g2, g3⟩ := lineE_ok he
    obtain ⟨k, t, hk, ht⟩ := (goodC_iff.1 g1).set_ m
    by_cases hf : idxP (hasW m) t.l < 0
    · exact ⟨wy0, false, 0, ⟨he.symm, .inr ⟨rfl, k, t, hk, ht, .inl ⟨hf, rfl, rfl⟩⟩⟩, fun w h => cacheFind_none n s y b v ss m k t w h he hk ht hf⟩
    · obtain ⟨j, x, hj, hx, _⟩ := idxP_there (Int.not_lt.1 hf)
      exact ⟨x, true, 0, ⟨he.symm, .inr ⟨rfl, k, t, hk, ht, .inr ⟨j, hj, hx, rfl⟩⟩⟩, fun w h => cacheFind_some n s y b v ss m k t j x w h he hk ht hj hx⟩
  · exact ⟨wy0, false, _, ⟨rfl, .inl ⟨he, rfl, rfl⟩⟩, fun w h => cacheFind_bad n s y b v ss m w h he⟩

theorem st_get {ss : List St} {k q : Nat} {t u : St} (h : (ss.set k u)[q]? = some t) : (q = k ∧ t = u) ∨ (q ≠ k ∧ ss[q]? = some t) := by
  by_cases e : q = k
  · subst e
    have := st_lt h
    rw [List.length_set] at this
    rw [List.getElem?_set_self this] at h
    cases h
    exact .inl ⟨rfl, rfl⟩
  · rw [List.getElem?_set_ne (fun h => e h.symm)] at h
    exact .inr ⟨e, h⟩

theorem lineE_zero {n s y b : Int} {ss : List St} (h : cacheE n s y b ss = 0) (m : Int) : lineE n s y b ss m = if lnB m = false then 4 else 0 := by
  unfold lineE
  rw [if_neg (by simp [h])]

theorem FindCIs.ok {n s y b : Int} {ss : List St} {m : Int} {z : Wy} {p : Bool} {E : Int} (h : FindCIs n s y b ss m z p E) {k : Nat} {t : St} (he : lineE n s y b ss m = 0) (hk : m % s = k) (ht : ss[k]? = some t) :
    E = 0 ∧ ((idxP (hasW m) t.l < 0 ∧ z = wy0 ∧ p = false) ∨ ∃ j : Nat, idxP (hasW m) t.l = j ∧ t.l[j]? = some z ∧ p = true) := by
  obtain ⟨h1, h2⟩ := h
  rw [he] at h1
  rcases h2 with ⟨h2, _⟩ | ⟨_, k', t', hk', ht', h3⟩
  · exact absurd h1 h2
  · have : k' = k := by omega
    subst this
    rw [ht] at ht'
    cases ht'
    exact ⟨h1, h3⟩

/-- Find gives one answer. -/
theorem FindCIs.only {n s y b : Int} {ss : List St} {m : Int} {z z' : Wy} {p p' : Bool} {E E' : Int} (h : FindCIs n s y b ss m z p E) (h' : FindCIs n s y b ss m z' p' E') : z' = z ∧ p' = p ∧ E' = E := by
  obtain ⟨rfl, h1⟩ := h
  obtain ⟨rfl, h2⟩ := h'
  rcases h1 with ⟨e1, rfl, rfl⟩ | ⟨e1, k, t, hk, ht, h1⟩
  · rcases h2 with ⟨_, rfl, rfl⟩ | ⟨e2, _⟩
    · exact ⟨rfl, rfl, rfl⟩
    · exact absurd e2 e1
  · rcases h2 with ⟨e2, _⟩ | ⟨_, k', t', hk', ht', h2⟩
    · exact absurd e1 e2
    · obtain rfl : k' = k := by omega
      rw [ht] at ht'
      cases ht'
      rcases h1 with ⟨a1, rfl, rfl⟩ | ⟨j, a1, a2, rfl⟩
      · rcases h2 with ⟨b1, rfl, rfl⟩ | ⟨j', b1, b2, rfl⟩
        · exact ⟨rfl, rfl, rfl⟩
        · omega
      · rcases h2 with ⟨b1, rfl, rfl⟩ | ⟨j', b1, b2, rfl⟩
        · omega
        · obtain rfl : j' = j := by omega
          rw [a2] at b2
          cases b2
          exact ⟨rfl, rfl, rfl⟩

/-- A set is replaced by one that is right and holds no line of another set. -/
theorem GoodC.replace_ {n s y b : Int} {ss : List St} (h : GoodC n s y b ss) {k : Nat} {u : St} (hr : rowE u.l u.a u.b u.c y = 0) (ho : ∀ (j : Nat) x, u.l[j]? = some x → x.st ≠ 0 → x.ln % s = k) : GoodC n s y b (ss.set k u) := by
  obtain ⟨h1, h2, h3⟩ := h
  refine ⟨h1, by rw [List.length_set]; exact h2, fun q t hq => ?_⟩
  rcases st_get hq with ⟨rfl, rfl⟩ | ⟨_, hq⟩
  · exact ⟨hr, ho⟩
  · exact h3 q t hq

end Go.Proofs.YtcegjehoejgofaaGreat

/- AgreeFacts: Proved: facts on the copies of a line in a world that is right: which node has one, who owns it, who may write. No walk. No condition. -/
namespace Go.Proofs.YtcegjehoejgofaaGreat
open Go.ChangeShapes Go.WideShapes Go.ChangeAt Go.RowKit Go.Joins

theorem filter_one {α : Type} {p : α → Bool} : ∀ {l : List α} {j : Nat} {z : α}, l[j]? = some z → p z = true → (∀ (i : Nat) y, l[i]? = some y → p y = true → i = j) → l.filter p = [z]
  | [], j, z, h, _, _ => by simp at h
  | a :: r, 0, z, h, hp, hu => by
    simp only [List.getElem?_cons_zero, Option.some.injEq] at h
    subst h
    rw [List.filter_cons_of_pos hp, List.filter_eq_nil_iff.2]
    intro y hy hpy
    obtain ⟨i, hi, e⟩ := List.getElem_of_mem hy
    have := hu (i + 1) y (by rw [List.getElem?_cons_succ, List.getElem?_eq_getElem hi, e]) hpy
    omega
  | a :: r, j + 1, z, h, hp, hu => by
    have ha : ¬ p a = true := fun hpa => by have := hu 0 a rfl hpa; omega
    rw [List.filter_cons_of_neg ha]
    refine filter_one (by simpa using h) hp fun i y hi hy => ?_
    have := hu (i + 1) y (by simpa using hi) hy
    omega
theorem flatMap_one {α β : Type} {f : α → List β} : ∀ {l : List α} {r : Nat} {t : α}, l[r]? = some t → (∀ (q : Nat) u, l[q]? = some u → q ≠ r → f u = []) → l.flatMap f = f t
  | [], r, t, h, _ => by simp at h
  | a :: l, 0, t, h, hu => by
    simp only [List.getElem?_cons_zero, Option.some.injEq] at h
    subst h
    have : l.flatMap f = [] := by
      rw [List.flatMap_eq_nil_iff]
      intro u hm
      obtain ⟨i, hi, e⟩ := List.getElem_of_mem hm
      exact hu (i + 1) u (by rw [List.getElem?_cons_succ, List.getElem?_eq_getElem hi, e]) (by omega)
    rw [List.flatMap_cons, this, List.append_nil]
  | a :: l, r + 1, t, h, hu => by
    rw [List.flatMap_cons, hu 0 a rfl (by omega), List.nil_append]
    exact flatMap_one (by simpa using h) fun q u hq hne => hu (q + 1) u (by simpa using hq) (by omega)

theorem onW (ss : List St) (k : Int) : (allW ss).filter (fun x => x.ln == k) = ss.flatMap fun t => t.l.filter (hasW k) := by
  unfold allW
  rw [List.filter_flatMap]
  congr 1
  funext t
  rw [List.filter_filter]
  congr 1
  funext x
  unfold hasW heldB
  rw [Bool.and_comm]

/-- The copies that one node has of a line are what Find finds. -/
theorem onL_node {n s y b : Int} {ss : List St} {k i : Nat} (he : cacheE n s y b ss = 0) (hk : k < 16) {z : Wy} {p : Bool} {E : Int} (hf : FindCIs n s y b ss k z p E) :
    E = 0 ∧ (p = false → z = wy0) ∧ onL k (cpsOf i ss) = if p = true then [⟨(i : Int), z⟩] else [] := by
  have good := goodC_iff.1 he
  have hl : lineE n s y b ss k = 0 := by rw [lineE_zero he, if_neg (by simp [lnB]; omega)]
  obtain ⟨r, t, hr, ht⟩ := good.set_ k
  obtain ⟨h0, h1⟩ := hf.ok hl hr ht
  have e1 : onL k (cpsOf i ss) = ((allW ss).filter (fun x => x.ln == (k : Int))).map fun x => (⟨(i : Int), x⟩ : Cp) := by
    unfold onL cpsOf
    rw [List.filter_map]
    rfl
  have hrow := good.2.2
  have e2 : ss.flatMap (fun t => t.l.filter (hasW k)) = t.l.filter (hasW k) := flatMap_one (f := fun t : St => t.l.filter (hasW k)) ht fun q u hq hne => by
    rw [List.filter_eq_nil_iff]
    intro x hx hw
    obtain ⟨j, hj, e⟩ := List.getElem_of_mem hx
    obtain ⟨w1, w2⟩ := hasW_iff.1 hw
    have := (hrow q u hq).2 j x (by rw [List.getElem?_eq_getElem hj, e]) w1
    rw [w2] at this
    omega
  have gw := (goodW_iff t.l).1 (rowE_ok (hrow r t ht).1).2.2
  rw [e1, onW, e2]
  rcases h1 with ⟨h1, rfl, rfl⟩ | ⟨j, h1, h2, rfl⟩
  · refine ⟨h0, fun _ => rfl, ?_⟩
    rw [List.filter_eq_nil_iff.2]
    · rfl
    · intro x hx hw
      have := idxP_neg.1 (Int.not_le.2 h1) x hx
      rw [this] at hw
      cases hw
  · refine ⟨h0, (fun h => (by cases h)), ?_⟩
    obtain ⟨j', y', h3, h4, h5⟩ := idxP_there (p := hasW k) (l := t.l) (by rw [h1]; omega)
    obtain rfl : j' = j := by omega
    rw [h2] at h4
    cases h4
    rw [filter_one h2 h5 fun q y hq hy => by have := gw.at_ hq hy; omega]
    rfl

theorem onL_append (k : Nat) (P P' : List Cp) : onL k (P ++ P') = onL k P ++ onL k P' := by simp [onL]
theorem copN_get {css : List (List St)} : ∀ {j : Nat} {c : Cp}, j ≤ css.length → c ∈ copN css j → ∃ (i : Nat) (ss : List St), i < j ∧ css[i]? = some ss ∧ c ∈ cpsOf i ss
  | 0, c, _, h => by simp [copN] at h
  | j + 1, c, hj, h => by
    have hx : css[j]? = some css[j] := List.getElem?_eq_getElem _
    rw [copN_succ hx] at h
    rcases List.mem_append.1 h with h | h
    · obtain ⟨i, ss, h1, h2, h3⟩ := copN_get (by omega) h
      exact ⟨i, ss, by omega, h2, h3⟩
    · exact ⟨j, _, by omega, hx, h⟩
theorem copN_length {n s y b : Int} {css : List (List St)} (h : ∀ ss ∈ css, cacheE n s y b ss = 0) : ∀ {j : Nat}, j ≤ css.length → (copN css j).length ≤ j * 16
  | 0, _ => by simp [copN]
  | j + 1, hj => by
    have hx : css[j]? = some css[j] := List.getElem?_eq_getElem _
    have h1 := copN_length h (j := j) (by omega)
    have h2 := allW_16 (h _ (List.mem_of_getElem? hx))
    rw [copN_succ hx, List.length_append]
    unfold cpsOf
    rw [List.length_map]
    omega

/-- What a line without error is. -/
theorem lnE_ok {l : List Cp} {d : L4} (h : lnE l d = 0) : pairsB l = true ∧ sameD l = true ∧ (ownN l < 0 → valL l d = d) := by
  unfold lnE at h
  cases h1 : pairsB l
  · rw [if_pos h1] at h; omega
  · rw [if_neg (by rw [h1]; decide)] at h
    cases h2 : sameD l
    · rw [if_pos h2] at h; omega
    · rw [if_neg (by rw [h2]; decide)] at h
      refine ⟨rfl, rfl, fun ho => ?_⟩
      by_cases h3 : ownN l < 0 ∧ eq4 (valL l d) d = false
      · rw [if_pos h3] at h; omega
      · cases h4 : eq4 (valL l d) d
        · exact absurd ⟨ho, h4⟩ h3
        · exact eq4_iff.1 h4
theorem val_of {l : List Cp} {d : L4} (h : sameD l = true) {c : Cp} (hc : c ∈ l) : c.x.dat = valL l d := by
  obtain ⟨i, hi, e⟩ := List.getElem_of_mem hc
  have h1 := eq4_iff.1 (sameD_iff.1 h i hi)
  rw [datA_at (c := c) (by rw [List.getElem?_eq_getElem hi, e])] at h1
  rw [h1]
  cases l with
  | nil => simp at hi
  | cons a r => rfl
end Go.Proofs.YtcegjehoejgofaaGreat
