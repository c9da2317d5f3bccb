/-
Proved: what the reference's SameRow and RowWith return, for every set that can be read; they change nothing that was there. Condition: RowWith is asked of a set of at most four ways.
-/
import Derived.Test.YtmodajmjmdigfaaRefRow
namespace Go.Proofs.Ytmodajmjmdigfaa
open Go.ChangeShapes Go.WideShapes Go.ChangeAt Go.RowKit Go.Joins

/-- Are the sets the same? -/
def sameB (l : List Wy) (a b c : Bool) (l' : List Wy) (a' b' c' : Bool) : Bool := (a == a' && (b == b' && c == c')) && decide (l = l')

theorem sameB_refl (l : List Wy) (a b c : Bool) : sameB l a b c l a b c = true := by simp [sameB]

theorem ways_eq {l l' : List Wy} (hl : l.length = l'.length) (h : ∀ j x y, j < l.length → l[j]? = some x → l'[j]? = some y → x = y) : l = l' := by
  refine List.ext_getElem hl fun j h1 h2 => ?_
  exact h j _ _ h1 (List.getElem?_eq_getElem h1) (List.getElem?_eq_getElem h2)

set_option maxHeartbeats 2000000 in
theorem sameRow_any (v : Value) (l : List Wy) (a b c : Bool) (v' : Value) (l' : List Wy) (a' b' c' : Bool) (w : World) (h : Ws w v l) (h' : Ws w v' l') :
    Calls Try.prog 55 #[rowV v a b c, rowV v' a' b' c'] w fun e w' => e = .returned (.bool (sameB l a b c l' a' b' c')) ∧ Below w.heap.size w w' := by
  obtain ⟨hl, A, cp, rfl, h1, h2, h3⟩ := h
  obtain ⟨hl', A', cp', rfl, h1', h2', h3'⟩ := h'
  have H3 := Lib.hid h3
  have H3' := Lib.hid h3'
  unfold maxLen at h2 h2'
  clear hl h3 hl' h3'
  generalize hE : sameB l a b c l' a' b' c' = E
  unfold sameB at hE
  have eqt := fun w => eqTree a b c a' b' c' w
  simp only [tree] at eqt
  generalize (a == a' && (b == b' && c == c')) = T at eqt hE
  have HE := Lib.hid hE
  clear hE
  have low := Below.refl w.heap.size w
  have rb := boxNext low 26 (rowA (.slice A l.length cp) a b c)
  replace low := gAlloc low (.cells (rowA (.slice A l.length cp) a b c) 26)
  try simp only [World.size_alloc] at rb
  simp only [rowA] at rb
  have sb := boxNext low 26 (rowA (.slice A' l'.length cp') a' b' c')
  replace low := gAlloc low (.cells (rowA (.slice A' l'.length cp') a' b' c') 26)
  replace rb := rb.alloc (.cells (rowA (.slice A' l'.length cp') a' b' c') 26)
  try simp only [World.size_alloc] at sb
  simp only [rowA] at sb
  cases T
  · obtain rfl : false = E := HE.out
    go_enter Try.func55, Try.ntmps55
    go_wp2_with fail
    go_ret
    exact ⟨rfl, low⟩
  cases hn : ((l.length : Int) != (l'.length : Int))
  rotate_left
  · obtain rfl : false = E := by
      have := HE.out
      rw [← this]
      have hne : ¬ l = l' := fun e => by rw [e] at hn; simp at hn
      simp [hne]
    go_enter Try.func55, Try.ntmps55
    go_wp2_with fail
    go_ret
    exact ⟨rfl, low⟩
  have hll : l.length = l'.length := by
    have : ((l.length : Int) = (l'.length : Int)) := by simpa using hn
    omega
  have HL := Lib.hid hll
  clear hll
  go_enter Try.func55, Try.ntmps55
  go_wp2_with fail
  go_loopw [23] (fun i wr => ∃ k : Nat, k ≤ l.length ∧ i = .int .i64 k ∧ Hid (∀ j x y, j < k → l[j]? = some x → l'[j]? = some y → x = y) ∧ Box wr w.heap.size 26 (rowA (.slice A l.length cp) a b c) ∧ Box wr (w.heap.size + 1) 26 (rowA (.slice A' l'.length cp') a' b' c') ∧ Below w.heap.size w wr) (fun i _ => l.length - (intOf i).toNat)
  case atStart => exact ⟨0, Nat.zero_le _, rfl, Lib.hid fun j x y hj => absurd hj (by omega), rb, sb, low⟩
  case round =>
    clear rb sb low
    obtain ⟨k, hk, rfl, hno, rb, sb, low⟩ := hrel
    simp only [rowA] at rb sb
    by_cases hlt : k < l.length
    · have hlt' : k < l'.length := by have := HL.out; omega
      obtain ⟨bb, o, rfl, hb, hc⟩ := H3.out (by omega)
      obtain ⟨bb', o', rfl, hb', hc'⟩ := H3'.out (by omega)
      have hx : l[k]? = some l[k] := List.getElem?_eq_getElem _
      have hy : l'[k]? = some l'[k] := List.getElem?_eq_getElem _
      generalize l[k] = x at hx
      generalize l'[k] = y at hy
      obtain ⟨c0, c1, c2, c3, c4, c5⟩ := wayAt_of hc hb low hx
      obtain ⟨d0, d1, d2, d3, d4, d5⟩ := wayAt_of hc' hb' low hy
      obtain ⟨r0, _, _, _⟩ := rb.rowC
      obtain ⟨s0, _, _, _⟩ := sb.rowC
      have HX := Lib.hid (And.intro hx hy)
      clear hx hc hy hc'
      have eqw := fun w => eqWay x y w
      simp only [Wy.val] at eqw
      cases he : eqW x y
      · have HW := Lib.hid (show x ≠ y from fun e => by rw [(eqW_iff x y).2 e] at he; cases he)
        rw [he] at eqw
        obtain rfl : false = E := by
          have := HE.out
          rw [← this]
          have hne : ¬ l = l' := fun e => HW.out (by obtain ⟨p, q⟩ := HX.out; rw [e, q] at p; cases p; rfl)
          simp [hne]
        go_wp2_with fail
        go_quiet (fail)
        go_wp2_with fail
        go_ret
        exact ⟨rfl, gDrewN low _⟩
      · have HW := Lib.hid (show x = y from (eqW_iff x y).1 he)
        rw [he] at eqw
        have k0 : (0 : Int) ≤ k := by omega
        have k1 : (k : Int) < l.length := by omega
        have k2 : (k : Int) < l'.length := by omega
        go_wp2_with fail
        go_quiet (fail)
        go_wp2_with fail
        go_roundw
        case rel => exact ⟨k + 1, by omega, by go_num, Lib.hid (fun j p q hj hp hq => by
          by_cases e : j < k
          · exact hno.out j p q e hp hq
          · obtain rfl : j = k := by omega
            rw [HX.out.1] at hp
            rw [HX.out.2] at hq
            cases hp
            cases hq
            exact HW.out), rb.drewN _, sb.drewN _, gDrewN low _⟩
        case measure => simp [intOf]; omega
    · obtain rfl : true = E := by
        have := HE.out
        rw [← this]
        have : l = l' := ways_eq HL.out (fun j x y hj => hno.out j x y (by omega))
        simp [this]
      go_wp2_with fail
      go_ret
      exact ⟨rfl, low⟩

/-- The first ways of a set in which one is replaced. -/
theorem take_set_succ {l : List Wy} {j k : Nat} {x y : Wy} (hy : (l.set j x)[k]? = some y) : waysC ((l.set j x).take (k + 1)) = waysC ((l.set j x).take k) ++ y.cells := by
  obtain ⟨h, rfl⟩ := List.getElem?_eq_some_iff.1 hy
  rw [List.take_succ_eq_append_getElem h]
  simp only [waysC, List.flatMap_append, List.flatMap_cons, List.flatMap_nil, List.append_nil]

theorem set_at {l : List Wy} {j k : Nat} {x z : Wy} (hz : l[k]? = some z) : (l.set j x)[k]? = some (if k = j then x else z) := by
  have hk := set_lt hz
  by_cases e : k = j
  · subst e; rw [if_pos rfl, List.getElem?_set_self hk]
  · rw [if_neg e, List.getElem?_set_ne (fun h => e h.symm), hz]

set_option maxHeartbeats 4000000 in
theorem rowWith_any (v : Value) (l : List Wy) (a b c : Bool) (j : Nat) (x : Wy) (w : World) (h : Ws w v l) (h4 : l.length ≤ 4) (hj : j < l.length) :
    Calls Try.prog 60 #[rowV v a b c, .int .i64 j, x.val] w fun e w' => (∃ v', e = .returned (rowV v' a b c) ∧ Fr w' w.heap.size w'.heap.size v' (l.set j x)) ∧ Below w.heap.size w w' := by
  obtain ⟨hl, A, cp, rfl, h1, h2, h3⟩ := h
  obtain ⟨bb, o, rfl, hb, hc⟩ := h3 (by omega)
  have HC := Lib.hid hc
  unfold maxLen at h2
  obtain ⟨i0, hi, hz0, hz1, hz2⟩ := info_parts info_way
  have HI := Lib.hid hi
  have HZ := Lib.hid (And.intro hz0 (And.intro hz1 hz2))
  clear hl h3 hi hz0 hz1 hz2 hc
  have low := Below.refl w.heap.size w
  have rb := boxNext low 26 (rowA (.slice (some ⟨bb, o, none⟩) l.length cp) a b c)
  replace low := gAlloc low (.cells (rowA (.slice (some ⟨bb, o, none⟩) l.length cp) a b c) 26)
  try simp only [World.size_alloc] at rb
  simp only [rowA] at rb
  have xb := boxNext low 32 x.arr
  replace low := gAlloc low (.cells x.arr 32)
  replace rb := rb.alloc (.cells x.arr 32)
  try simp only [World.size_alloc] at xb
  simp only [Wy.arr] at xb
  have ob := boxNext low 26 (rowA (.slice none 0 0) false false false)
  replace low := gAlloc low (.cells (rowA (.slice none 0 0) false false false) 26)
  replace rb := rb.alloc (.cells (rowA (.slice none 0 0) false false false) 26)
  replace xb := xb.alloc (.cells (rowA (.slice none 0 0) false false false) 26)
  try simp only [World.size_alloc] at ob
  simp only [rowA] at ob
  have nb := boxNext low 26 (rowA (.slice none 0 0) a b c)
  replace low := gAlloc low (.cells (rowA (.slice none 0 0) a b c) 26)
  replace rb := rb.alloc (.cells (rowA (.slice none 0 0) a b c) 26)
  replace xb := xb.alloc (.cells (rowA (.slice none 0 0) a b c) 26)
  replace ob := ob.alloc (.cells (rowA (.slice none 0 0) a b c) 26)
  try simp only [World.size_alloc] at nb
  simp only [rowA] at nb
  go_enter Try.func60, Try.ntmps60
  go_wp2_with fail
  go_loopw [16] (fun i wr => ∃ (k : Nat) (s : Value), k ≤ l.length ∧ i = .int .i64 k ∧ wr.ownsRow (w.heap.size + 1 + 1 + 1 + 1) 32 6 s k (waysC ((l.set j x).take k)) ∧ Box wr (w.heap.size + 1) 32 x.arr ∧
      Box wr (w.heap.size + 1 + 1) 26 (rowA (.slice none 0 0) false false false) ∧ Box wr (w.heap.size + 1 + 1 + 1) 26 (rowA s a b c) ∧ Below w.heap.size w wr) (fun i _ => l.length - (intOf i).toNat)
  case atStart => exact ⟨0, _, Nat.zero_le _, rfl, World.ownsRow_nil _ _ _ _, xb, ob, nb, low⟩
  case round =>
    clear rb xb ob nb low
    obtain ⟨k, s, hk, rfl, own, xb, ob, nb, low⟩ := hrel
    obtain ⟨As, cs, rfl⟩ := own_shape own
    by_cases hlt : k < l.length
    · have hz : l[k]? = some l[k] := List.getElem?_eq_getElem _
      generalize l[k] = z at hz
      obtain ⟨c0, c1, c2, c3, c4, c5⟩ := wayAt_of HC.out hb low hz
      obtain ⟨x0, x1, x2, x3, x4, x5⟩ := xb.wayC
      obtain ⟨n0, n1, n2, n3⟩ := nb.rowC
      have HY := Lib.hid (set_at (j := j) (x := x) hz)
      clear hz
      have zn : w.heap.size + 1 + 1 + 1 < wr.heap.size := nb.lt
      have zx : w.heap.size + 1 < wr.heap.size := xb.lt
      have k0 : (0 : Int) ≤ k := by omega
      have k1 : (k : Int) < l.length := by omega
      have step : ∀ (y : Wy) (w4 : World) (A4 : Option Addr) (c4 : Nat), (l.set j x)[k]? = some y → w4.ownsRow (w.heap.size + 1 + 1 + 1 + 1) 32 6 (.slice A4 (k + 1) c4) (k + 1) (waysC ((l.set j x).take k) ++ y.cells) →
          (w4.setCell ⟨w.heap.size + 1 + 1 + 1, 0, none⟩ (.slice A4 (k + 1) c4)).ownsRow (w.heap.size + 1 + 1 + 1 + 1) 32 6 (.slice A4 (k + 1) c4) (k + 1) (waysC ((l.set j x).take (k + 1))) := by
        intro y w4 A4 c4 hy own4
        rw [take_set_succ hy]
        exact ownsRow_setCell_below own4 (by simp) _
      have STEP := Lib.hid step
      clear step
      by_cases hkj : k = j
      · have kj : ((k : Int) == (j : Int)) = true := by simp [hkj]
        replace HY := Lib.hid (HY.out.trans (by rw [if_pos hkj]))
        clear hkj
        go_wp2_with (at_builtin; refine wpList_append_own _ rfl _ _ 22 rfl (w.heap.size + 1 + 1 + 1 + 1) 32 i0 wy0.val 6 48 Try.underlying22 HI.out HZ.out.1 HZ.out.2.1 HZ.out.2.2 rfl (by decide) _ _ _ rfl ((own.alloc _).alloc _) ⟨wr.heap.size + 1, 0, none⟩ 1 1 x.cells rfl rfl ?e1 (waysC_one1 x) ?e3 ?e4 ?e5 ?_)
        case e1 => exact fun q u hq => new_cells _ _ x _ q u (by simp) hq
        case e3 => unfold maxLen; omega
        case e4 => omega
        case e5 => simp; omega
        intro v4 w4 own4 grow4 _
        obtain ⟨A4, c4', rfl⟩ := own_shape own4
        have far : ∀ g, g < w.heap.size + 1 + 1 + 1 + 1 → some g ≠ (Value.slice As k cs).ownBlock := fun g hg e => by have := own.lt _ e.symm; omega
        replace xb := ((xb.alloc (.cells x.arr 32)).alloc (.cells x.arr 32)).grown grow4 (far _ (by omega))
        replace ob := ((ob.alloc (.cells x.arr 32)).alloc (.cells x.arr 32)).grown grow4 (far _ (by omega))
        replace nb := ((nb.alloc (.cells x.arr 32)).alloc (.cells x.arr 32)).grown grow4 (far _ (by omega))
        replace low : Below w.heap.size w w4 := (gAlloc (gAlloc low (.cells x.arr 32)) (.cells x.arr 32)).grown grow4 (by simp; omega) (fun g e => by have := own.lt _ e; omega)
        clear grow4 own far c0 c1 c2 c3 c4 c5 x0 x1 x2 x3 x4 x5 n0 n1 n2 n3
        obtain ⟨n0, n1, n2, n3⟩ := nb.rowC
        have nf := nb.frozen 0
        go_wp2_with fail
        go_roundw
        case rel => exact ⟨k + 1, _, by omega, by go_num, STEP.out _ _ _ _ HY.out own4, xb.far (by simp) _, ob.far (by simp) _, nb.set 0 _, gSet low (by dsimp only; omega) _⟩
        case measure => simp [intOf]; omega
      · have kj : ((k : Int) == (j : Int)) = false := by simp; omega
        replace HY := Lib.hid (HY.out.trans (by rw [if_neg hkj]))
        clear hkj
        go_wp2_with (at_builtin; refine wpList_append_own _ rfl _ _ 22 rfl (w.heap.size + 1 + 1 + 1 + 1) 32 i0 wy0.val 6 48 Try.underlying22 HI.out HZ.out.1 HZ.out.2.1 HZ.out.2.2 rfl (by decide) _ _ _ rfl ((own.alloc _).alloc _) ⟨wr.heap.size + 1, 0, none⟩ 1 1 z.cells rfl rfl ?e1 (waysC_one1 z) ?e3 ?e4 ?e5 ?_)
        case e1 => exact fun q u hq => new_cells _ _ z _ q u (by simp) hq
        case e3 => unfold maxLen; omega
        case e4 => omega
        case e5 => simp; omega
        intro v4 w4 own4 grow4 _
        obtain ⟨A4, c4', rfl⟩ := own_shape own4
        have far : ∀ g, g < w.heap.size + 1 + 1 + 1 + 1 → some g ≠ (Value.slice As k cs).ownBlock := fun g hg e => by have := own.lt _ e.symm; omega
        replace xb := ((xb.alloc (.cells z.arr 32)).alloc (.cells z.arr 32)).grown grow4 (far _ (by omega))
        replace ob := ((ob.alloc (.cells z.arr 32)).alloc (.cells z.arr 32)).grown grow4 (far _ (by omega))
        replace nb := ((nb.alloc (.cells z.arr 32)).alloc (.cells z.arr 32)).grown grow4 (far _ (by omega))
        replace low : Below w.heap.size w w4 := (gAlloc (gAlloc low (.cells z.arr 32)) (.cells z.arr 32)).grown grow4 (by simp; omega) (fun g e => by have := own.lt _ e; omega)
        clear grow4 own far c0 c1 c2 c3 c4 c5 x0 x1 x2 x3 x4 x5 n0 n1 n2 n3
        obtain ⟨n0, n1, n2, n3⟩ := nb.rowC
        have nf := nb.frozen 0
        go_wp2_with fail
        go_roundw
        case rel => exact ⟨k + 1, _, by omega, by go_num, STEP.out _ _ _ _ HY.out own4, xb.far (by simp) _, ob.far (by simp) _, nb.set 0 _, gSet low (by dsimp only; omega) _⟩
        case measure => simp [intOf]; omega
    · obtain rfl : k = l.length := by omega
      obtain ⟨n0, n1, n2, n3⟩ := nb.rowC
      obtain ⟨p0, p1, p2, p3⟩ := ob.rowC
      have zn : w.heap.size + 1 + 1 + 1 < wr.heap.size := nb.lt
      have ob_f0 := ob.frozen 0
      have ob_f1 := ob.frozen 1
      have ob_f2 := ob.frozen 2
      have ob_f3 := ob.frozen 3
      have FR := Lib.hid (fr_own own (by rw [List.take_of_length_le (by simp)]) (by simp))
      clear own
      go_wp2_with fail
      refine bodyPost_ret (v := rowV (.slice As l.length cs) a b c) (by simp [results, Try.results60, go_sem, p0, p1, p2, p3]) rfl ⟨⟨_, rfl, ?_⟩, ?_⟩
      · refine Fr.more ?_ (B := w.heap.size + 1 + 1 + 1 + 1) (C := wr.heap.size) (by omega) (by simp)
        repeat (refine Fr.far ?_ (by dsimp only; omega) _)
        exact FR.out
      · repeat (refine gSet ?_ (by dsimp only; omega) _)
        exact low
end Go.Proofs.Ytmodajmjmdigfaa
