/-
Proved: what Check, Find, Put, Take and Set of package row return, for every set that can be read; none of them changes anything that was there. No condition.
-/
import Derived.Test.YtmodajmjmdigfaaRow
import Derived.Deep.RegionHeld3
namespace Go.Proofs.Ytmodajmjmdigfaa
open Go.ChangeShapes Go.WideShapes Go.ChangeAt Go.RowKit Go.Joins

/-- The first error of the ways, of which those before are 'pre'. -/
def waysE (pre : List Wy) : List Wy → Int
  | [] => 0
  | x :: r => if wayE x ≠ 0 then wayE x else if (x.st != 0 && decide (0 ≤ idxP (hasW x.ln) pre)) = true then 6 else waysE (pre ++ [x]) r

/-- The first error of a set. -/
def rowE (l : List Wy) (a b c : Bool) (n : Int) : Int := if treeE a b c n ≠ 0 then treeE a b c n else if (l.length : Int) ≠ n then 3 else waysE [] l

theorem waysE_at {l : List Wy} {k : Nat} {x : Wy} (h : l[k]? = some x) : waysE (l.take k) (l.drop k) =
    if wayE x ≠ 0 then wayE x else if (x.st != 0 && decide (0 ≤ idxP (hasW x.ln) (l.take k))) = true then 6 else waysE (l.take (k + 1)) (l.drop (k + 1)) := by
  obtain ⟨hk, rfl⟩ := List.getElem?_eq_some_iff.1 h
  rw [List.drop_eq_getElem_cons hk, waysE, List.take_succ_eq_append_getElem hk]

theorem waysC_take (l : List Wy) (k : Nat) : waysC (l.take k) = (waysC l).take (k * 6) := by
  induction l generalizing k with
  | nil => simp [waysC]
  | cons x r ih =>
    cases k with
    | zero => simp [waysC]
    | succ k =>
      have hx : x.cells.length = 6 := rfl
      have := ih k
      simp only [waysC, List.take_succ_cons, List.flatMap_cons] at *
      rw [this, List.take_append, hx, List.take_of_length_le (l := x.cells) (by omega)]
      congr 2
      omega

/-- The first ways of a slice. -/
theorem Ws.take {w : World} {A : Option Addr} {n c : Nat} {l : List Wy} (h : Ws w (.slice A n c) l) {k : Nat} (hk : k ≤ l.length) : Ws w (.slice A k c) (l.take k) := by
  obtain ⟨hl, A', c', e, h1, h2, h3⟩ := h
  cases e
  have hkl : (l.take k).length = k := by simp; omega
  refine ⟨waysC_length _, A, c, by rw [hkl], by omega, h2, fun h0 => ?_⟩
  obtain ⟨b, o, hA, hb, hc⟩ := h3 (by omega)
  refine ⟨b, o, hA, hb, fun j u hu => hc j u ?_⟩
  rw [waysC_take, List.getElem?_take] at hu
  split at hu
  · exact hu
  · cases hu

set_option maxHeartbeats 2000000 in
theorem rowCheck_any (v : Value) (l : List Wy) (a b c : Bool) (n : Int) (w : World) (h : Ws w v l) :
    Calls Try.prog 13 #[rowV v a b c, .int .i64 n] w fun e w' => e = .returned (.int .i64 (rowE l a b c n)) ∧ Below w.heap.size w w' := by
  have H := Lib.hid h
  obtain ⟨hl, A, cp, rfl, h1, h2, h3⟩ := h
  have H3 := Lib.hid h3
  unfold maxLen at h2
  clear hl h3
  generalize hE : rowE l a b c n = E
  unfold rowE at hE
  have T := Lib.hid fun w => plruCheck_any a b c n w
  generalize treeE a b c n = t at hE T
  have HE := Lib.hid hE
  clear hE
  have low := Below.refl w.heap.size w
  have rb := boxNext low 26 (rowA (.slice A l.length cp) a b c)
  replace low := gAlloc low (.cells (rowA (.slice A l.length cp) a b c) 26)
  try simp only [World.size_alloc] at rb
  simp only [rowA] at rb
  cases ht : (t != 0)
  rotate_left
  · obtain rfl : t = E := by have := HE.out; rwa [if_pos (by simpa using ht)] at this
    go_enter Try.func13, Try.ntmps13
    go_wp2_with fail
    (with_reducible refine (T.out _).mono ?_); rintro e w1 ⟨rfl, hb⟩
    replace rb := rb.call hb
    replace low := gCall low hb
    clear hb
    go_wp2_with fail
    go_ret
    exact ⟨rfl, low⟩
  obtain rfl : t = 0 := by simpa using ht
  cases hn : ((l.length : Int) != n)
  rotate_left
  · obtain rfl : 3 = E := by have := HE.out; rwa [if_neg (by simp), if_pos (by simpa using hn)] at this
    go_enter Try.func13, Try.ntmps13
    go_wp2_with fail
    (with_reducible refine (T.out _).mono ?_); rintro e w1 ⟨rfl, hb⟩
    replace rb := rb.call hb
    replace low := gCall low hb
    clear hb
    have rb_0 := rb.at_ 0 rfl
    go_wp2_with fail
    go_ret
    exact ⟨rfl, low⟩
  replace HE := Lib.hid (show waysE [] l = E by have := HE.out; rwa [if_neg (by simp), if_neg (by simpa using hn)] at this)
  clear ht
  go_enter Try.func13, Try.ntmps13
  go_wp2_with fail
  (with_reducible refine (T.out _).mono ?_); rintro e w1 ⟨rfl, hb⟩
  replace rb := rb.call hb
  replace low := gCall low hb
  clear hb
  have rb_0 := rb.at_ 0 rfl
  go_wp2_with fail
  go_loopw [24] (fun i wr => ∃ k : Nat, k ≤ l.length ∧ i = .int .i64 k ∧ Hid (waysE (l.take k) (l.drop k) = E) ∧ Box wr w.heap.size 26 (rowA (.slice A l.length cp) a b c) ∧ Below w.heap.size w wr) (fun i _ => l.length - (intOf i).toNat)
  case atStart => exact ⟨0, Nat.zero_le _, rfl, Lib.hid (by rw [List.take_zero, List.drop_zero]; exact HE.out), rb, low⟩
  case round =>
    clear rb_0
    clear rb low
    obtain ⟨k, hk, rfl, hno, rb, low⟩ := hrel
    simp only [rowA] at rb
    by_cases hlt : k < l.length
    · obtain ⟨bb, o, rfl, hb, hc⟩ := H3.out (by omega)
      have hx : l[k]? = some l[k] := List.getElem?_eq_getElem _
      generalize l[k] = x at hx
      obtain ⟨c0, c1, c2, c3, c4, c5⟩ := wayAt_of hc hb low hx
      have hs := hno.out
      rw [waysE_at hx] at hs
      have HS := Lib.hid hs
      have CW := Lib.hid fun w => checkWay_any x w
      clear hx hc hs
      generalize wayE x = y at CW HS
      have xb := boxNext low 32 x.arr
      replace low := gAlloc low (.cells x.arr 32)
      replace rb := rb.alloc (.cells x.arr 32)
      try simp only [World.size_alloc] at xb
      simp only [Wy.arr] at xb
      go_wp2_with fail
      (with_reducible refine (CW.out _).mono ?_); rintro e w2 ⟨rfl, hb2⟩
      replace rb := rb.call hb2
      replace xb := xb.call hb2
      replace low := gCall low hb2
      clear hb2 c0 c1 c2 c3 c4 c5
      cases hy : (y != 0)
      rotate_left
      · obtain rfl : y = E := by have := HS.out; rwa [if_pos (by simpa using hy)] at this
        go_wp2_with fail
        go_ret
        exact ⟨rfl, low⟩
      obtain rfl : y = 0 := by simpa using hy
      replace HS := Lib.hid (HS.out.symm.trans (if_neg (by simp)))
      clear hy
      have rb_0 := rb.at_ 0 rfl
      have xb_0 := xb.at_ 0 rfl
      have xb_1 := xb.at_ 1 rfl
      cases hs : (x.st != 0)
      · replace HS := Lib.hid (HS.out.trans (if_neg (by simp [hs])))
        go_wp2_with fail
        go_quiet (fail)
        go_wp2_with fail
        go_roundw
        case rel => exact ⟨k + 1, by omega, by go_num, Lib.hid HS.out.symm, rb.drewN _, gDrewN low _⟩
        case measure => simp [intOf]; omega
      · have FA := Lib.hid fun w' (hw : Below w.heap.size w w') => find_any _ _ x.ln w' (Ws.take (H.out.call hw) (Nat.le_of_lt hlt))
        generalize idxP (hasW x.ln) (l.take k) = f at FA HS
        have kc : (k : Int) ≤ cp := by omega
        have k0 : (0 : Int) ≤ k := by omega
        cases hf : decide (0 ≤ f)
        · replace HS := Lib.hid (HS.out.trans (if_neg (by simp [hf])))
          go_wp2_with fail
          go_region_held3 (fun w' => w'.cell? ⟨w.heap.size, 0, none⟩ = some (.slice (some ⟨bb, o, none⟩) l.length cp) ∧ w'.cell? ⟨wr.heap.size, 0, none⟩ = some (.int .i64 x.st) ∧ w'.cell? ⟨wr.heap.size, 1, none⟩ = some (.int .i64 x.ln) ∧ Box w' w.heap.size 26 (rowA (.slice (some ⟨bb, o, none⟩) l.length cp) a b c) ∧ Below w.heap.size w w')
            (first
              | (refine ⟨rb_0, xb_0, xb_1, rb, low⟩)
              | (refine ⟨rb_0, xb_0, xb_1, rb.drew, low.drew⟩)
              | go_keep
              | (go_split_ands
                 refine ⟨?_, ?_, ?_, ?_, ?_⟩ <;> first | (refine (hb.cell (World.block_lt_of_cell? _ _ (by assumption))).trans ?_; assumption) | exact Box.call (by assumption) hb | exact gCall (by assumption) hb))
            (first | (go_at_call 42; refine (FA.out _ (by go_split_ands; assumption)).mono ?_; rintro e w' ⟨rfl, hb⟩))
          rename_i hH
          obtain ⟨_, _, _, rb, low⟩ := hH
          clear hb
          go_wp2_with fail
          go_roundw
          case rel => exact ⟨k + 1, by omega, by go_num, Lib.hid HS.out.symm, rb, low⟩
          case measure => simp [intOf]; omega
        · obtain rfl : E = 6 := HS.out.trans (if_pos (by simp [hf, hs]))
          go_wp2_with fail
          go_region_held3 (fun w' => w'.cell? ⟨w.heap.size, 0, none⟩ = some (.slice (some ⟨bb, o, none⟩) l.length cp) ∧ w'.cell? ⟨wr.heap.size, 0, none⟩ = some (.int .i64 x.st) ∧ w'.cell? ⟨wr.heap.size, 1, none⟩ = some (.int .i64 x.ln) ∧ Box w' w.heap.size 26 (rowA (.slice (some ⟨bb, o, none⟩) l.length cp) a b c) ∧ Below w.heap.size w w')
            (first
              | (refine ⟨rb_0, xb_0, xb_1, rb, low⟩)
              | (refine ⟨rb_0, xb_0, xb_1, rb.drew, low.drew⟩)
              | go_keep
              | (go_split_ands
                 refine ⟨?_, ?_, ?_, ?_, ?_⟩ <;> first | (refine (hb.cell (World.block_lt_of_cell? _ _ (by assumption))).trans ?_; assumption) | exact Box.call (by assumption) hb | exact gCall (by assumption) hb))
            (first | (go_at_call 42; refine (FA.out _ (by go_split_ands; assumption)).mono ?_; rintro e w' ⟨rfl, hb⟩))
          rename_i hH
          obtain ⟨_, _, _, rb, low⟩ := hH
          clear hb
          go_wp2_with fail
          go_ret
          exact ⟨rfl, low⟩
    · obtain rfl : k = l.length := by omega
      obtain rfl : 0 = E := by have := hno.out; rwa [List.drop_length] at this
      go_wp2_with fail
      go_ret
      exact ⟨rfl, low⟩
end Go.Proofs.Ytmodajmjmdigfaa
