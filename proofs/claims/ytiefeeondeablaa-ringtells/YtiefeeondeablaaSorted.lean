/-
Proved: slices.Sort of at most eight ints that a call owns puts them in order, and changes nothing else. Condition: the slice lies in a block that is known whole.
-/
import Derived.Test.YtiefeeondeablaaStored
import Derived.StillTailTactics
namespace Go.Proofs.Ytiefeeondeablaa
open Go.ChangeShapes Go.WideShapes Go.ChangeAt Go.RowKit Go.Joins

/-- The slice lies in block 'g', which is known whole and of which the ints are the first. -/
def OwnI (w : World) (g : Nat) (v : Value) (l : List Int) : Prop :=
  ∃ cap cur, v = .slice (some ⟨g, 0, none⟩) l.length cap ∧ Box w g 3 cur ∧ l.length ≤ cap ∧ cap ≤ maxLen ∧ cur.size = cap * 1 ∧ ∀ (q : Nat) (y : Int), l[q]? = some y → cur[q]? = some (.int .i64 y)

section
variable {w w' : World} {g : Nat} {v : Value} {l : List Int}
theorem OwnI.lt (h : OwnI w g v l) : g < w.heap.size := by
  obtain ⟨_, _, _, hb, _⟩ := h
  exact hb.lt
theorem OwnI.drew (h : OwnI w g v l) : OwnI w.drew g v l := h
theorem OwnI.at_ (h : OwnI w g v l) {q : Nat} {y : Int} (hq : l[q]? = some y) : w.cell? ⟨g, q, none⟩ = some (.int .i64 y) := by
  obtain ⟨cap, cur, rfl, hb, _, _, _, ht⟩ := h
  exact (hb.cell q).trans (ht q y hq)
theorem OwnI.free (h : OwnI w g v l) (q : Nat) : w.frozen? ⟨g, q, none⟩ = false := by
  obtain ⟨cap, cur, rfl, hb, _, _, _, ht⟩ := h
  exact hb.frozen q
theorem OwnI.set (h : OwnI w g v l) (k : Nat) (y : Int) : OwnI (w.setCell ⟨g, k, none⟩ (.int .i64 y)) g v (l.set k y) := by
  obtain ⟨cap, cur, rfl, hb, hn, hm, hs, ht⟩ := h
  refine ⟨cap, _, by rw [List.length_set], hb.set k (.int .i64 y), by rw [List.length_set]; exact hn, hm, by simpa using hs, fun q z hz => ?_⟩
  rw [Array.getElem?_setIfInBounds]
  by_cases e : k = q
  · subst e
    have hk : k < l.length := by
      have := (List.getElem?_eq_some_iff.1 hz).1
      simpa using this
    rw [List.getElem?_set_self hk] at hz
    cases hz
    rw [if_pos rfl, if_pos (by omega)]
  · rw [if_neg e]
    rw [List.getElem?_set_ne e] at hz
    exact ht q z hz
theorem OwnI.shape (h : OwnI w g v l) : ∃ c, v = .slice (some ⟨g, 0, none⟩) l.length c ∧ l.length ≤ c := by
  obtain ⟨c, _, e, _, h1, _⟩ := h
  exact ⟨c, e, h1⟩
theorem OwnI.row (h : OwnI w g v l) {base : Nat} (hg : base ≤ g) : w.ownsRow base 3 1 v l.length (l.map (Value.int .i64)) := by
  obtain ⟨cap, cur, rfl, hb, hn, hm, hs, ht⟩ := h
  refine ⟨by rw [List.length_map]; omega, .inr ⟨g, cap, cur, rfl, hg, hb, hn, hm, hs, ?_⟩⟩
  apply List.ext_getElem?
  intro j
  rw [Nat.mul_one]
  by_cases hj : j < l.length
  · rw [List.getElem?_take_of_lt hj, Array.getElem?_toList, ht j _ (List.getElem?_eq_getElem hj), List.getElem?_map, List.getElem?_eq_getElem hj]
    rfl
  · rw [List.getElem?_take_eq_none (by omega), List.getElem?_eq_none (by rw [List.length_map]; omega)]
theorem OwnI.of {base : Nat} (h : w.ownsRow base 3 1 v l.length (l.map (Value.int .i64))) (h0 : 0 < l.length) : ∃ g, base ≤ g ∧ OwnI w g v l := by
  obtain ⟨_, h2⟩ := h
  rcases h2 with ⟨_, e⟩ | ⟨g, cap, cur, rfl, hg, hh, hn, hm, hs, ht⟩
  · omega
  · refine ⟨g, hg, cap, cur, rfl, hh, hn, hm, hs, fun q y hq => ?_⟩
    have hj := (List.getElem?_eq_some_iff.1 hq).1
    rw [Nat.mul_one] at ht
    rw [← Array.getElem?_toList, ← List.getElem?_take_of_lt hj, ht, List.getElem?_map, hq]
    rfl
theorem Stored.refl (w : World) (g : Nat) : Stored w g w := ⟨fun _ => rfl, rfl, fun h _ => h⟩
theorem Stored.drew (h : Stored w g w') : Stored w g w'.drew := ⟨h.heap, h.size, fun b hB => (h.low b hB).drew⟩
theorem Stored.drewN (h : Stored w g w') (n : Nat) : Stored w g (w'.drewN n) := ⟨h.heap, h.size, fun b hB => let k := h.low b hB; ⟨k.os, k.tape, k.output, k.size, k.block⟩⟩
theorem OwnI.drewN (h : OwnI w g v l) (n : Nat) : OwnI (w.drewN n) g v l := h
theorem Stored.cellTo (h : Stored w g w') (k : Nat) (x : Value) : Stored w g (w'.setCell ⟨g, k, none⟩ x) := h.trans (Stored.cell1 w' ⟨g, k, none⟩ x)
end

/-! Lists in order. -/
abbrev UpI (l : List Int) : Prop := l.Pairwise (· ≤ ·)
/-- The first k are in order but for 'x', which is to go in at j or ahead of it. -/
structure Mov (l : List Int) (k j : Nat) (xs a : List Int) (x : Int) (b c : List Int) : Prop where
  all : xs = a ++ x :: (b ++ c)
  perm : xs.Perm l
  la : a.length = j
  lb : j + b.length = k
  up : UpI (a ++ b)
  le : ∀ y ∈ b, x ≤ y

theorem Mov.start {l xs : List Int} {k : Nat} {x : Int} (hp : xs.Perm l) (hu : UpI (xs.take k)) (hx : xs[k]? = some x) : Mov l k k xs (xs.take k) x [] (xs.drop (k + 1)) := by
  have hk := (List.getElem?_eq_some_iff.1 hx).1
  have e1 : xs.drop k = x :: xs.drop (k + 1) := by
    rw [List.drop_eq_getElem_cons hk]
    congr 1
    exact (List.getElem?_eq_some_iff.1 hx).2
  refine ⟨?_, hp, by rw [List.length_take]; omega, rfl, by simpa using hu, by simp⟩
  rw [List.nil_append, ← e1, List.take_append_drop]

theorem Mov.step {l xs a b c : List Int} {k j : Nat} {x y : Int} (h : Mov l k (j + 1) xs (a ++ [y]) x b c) (hlt : x < y) : Mov l k j ((xs.set (j + 1) y).set j x) a x (y :: b) c := by
  obtain ⟨rfl, hp, la, lb, up, le⟩ := h
  have hj : a.length = j := by simpa using la
  have e : ((a ++ [y] ++ x :: (b ++ c)).set (j + 1) y).set j x = a ++ x :: (y :: b ++ c) := by
    subst hj
    simp
  rw [e]
  refine ⟨rfl, ?_, hj, by simp; omega, by simpa using up, ?_⟩
  · refine List.Perm.trans ?_ hp
    rw [List.append_assoc]
    exact List.Perm.append_left _ (List.Perm.swap y x _)
  · intro z hz
    rcases List.mem_cons.1 hz with rfl | hz
    · omega
    · exact le z hz

theorem Mov.at_x {l xs a b c : List Int} {k j : Nat} {x : Int} (h : Mov l k j xs a x b c) : xs[j]? = some x := by
  rw [h.all, List.getElem?_append_right (by rw [h.la]; omega), h.la, Nat.sub_self]
  rfl
theorem Mov.at_y {l xs a b c : List Int} {k j : Nat} {x y : Int} (h : Mov l k (j + 1) xs (a ++ [y]) x b c) : xs[j]? = some y := by
  have hj : a.length = j := by simpa using h.la
  rw [h.all, List.append_assoc, List.getElem?_append_right (by omega), hj, Nat.sub_self]
  rfl

theorem Mov.up_end {l xs a b c : List Int} {k j : Nat} {x : Int} (h : Mov l k j xs a x b c) (hl : ∀ y ∈ a, y ≤ x) : UpI (xs.take (k + 1)) ∧ xs.Perm l := by
  obtain ⟨rfl, hp, la, lb, up, le⟩ := h
  refine ⟨?_, hp⟩
  have e : (a ++ x :: (b ++ c)).take (k + 1) = a ++ x :: b := by
    rw [show a ++ x :: (b ++ c) = (a ++ x :: b) ++ c by simp, List.take_left' (by simp; omega)]
  rw [e]
  obtain ⟨u1, u2, u3⟩ := List.pairwise_append.1 up
  refine List.pairwise_append.2 ⟨u1, List.pairwise_cons.2 ⟨le, u2⟩, fun y hy z hz => ?_⟩
  rcases List.mem_cons.1 hz with rfl | hz
  · exact hl y hy
  · exact u3 y hy z hz

theorem Mov.le_all {l xs a b c : List Int} {k j : Nat} {x y : Int} (h : Mov l k (j + 1) xs (a ++ [y]) x b c) (hy : y ≤ x) : ∀ z ∈ a ++ [y], z ≤ x := by
  intro z hz
  have up := (List.pairwise_append.1 h.up).1
  obtain ⟨_, _, u3⟩ := List.pairwise_append.1 up
  rcases List.mem_append.1 hz with hz | hz
  · exact Int.le_trans (u3 z hz y (by simp)) hy
  · simp at hz; subst hz; exact hy

theorem less_any (x y : Int) (w : World) : Calls Try.prog 49 #[.int .i64 x, .int .i64 y] w fun e w' => e = .returned (.bool (decide (x < y))) ∧ w = w' := by
  have nan : ∀ (z : Int) W, Calls Try.prog 60 #[.int .i64 z] W fun e w' => e = .returned (.bool false) ∧ W = w' := by
    intro z W
    go_enter Try.func60, Try.ntmps60
    go_wp2_with fail
    go_ret
    exact ⟨by simp, rfl⟩
  have N := Lib.hid nan
  clear nan
  generalize hq : decide (x < y) = B
  go_enter Try.func49, Try.ntmps49
  go_wp2_with fail
  (with_reducible refine (N.out _ _).mono ?_); rintro e w' ⟨rfl, rfl⟩
  go_wp2_with fail
  go_ret
  exact ⟨rfl, rfl⟩

set_option maxRecDepth 100000 in
set_option maxHeartbeats 1000000 in
theorem bitsLen_any (n : Nat) (hn : n ≤ 8) (w : World) : Calls Try.prog 37 #[.int .u64 n] w fun e w' => (∃ k, e = .returned (.int .i64 k)) ∧ w = w' := by
  have h64 : ∀ W, Calls Try.prog 53 #[.int .u64 n] W fun e w' => (∃ k, e = .returned (.int .i64 k)) ∧ W = w' := by
    intro W
    have : n = 0 ∨ n = 1 ∨ n = 2 ∨ n = 3 ∨ n = 4 ∨ n = 5 ∨ n = 6 ∨ n = 7 ∨ n = 8 := by omega
    rcases this with rfl | rfl | rfl | rfl | rfl | rfl | rfl | rfl | rfl
    all_goals
      go_enter Try.func53, Try.ntmps53
      go_wp2_with fail
      go_ret
      exact ⟨⟨_, rfl⟩, rfl⟩
  have L := Lib.hid h64
  clear h64
  go_enter Try.func37, Try.ntmps37
  go_wp2_with fail
  (with_reducible refine (L.out _).mono ?_); rintro e w' ⟨⟨k, rfl⟩, rfl⟩
  go_wp2_with fail
  go_ret
  exact ⟨⟨_, rfl⟩, rfl⟩

set_option maxHeartbeats 2000000 in
theorem insertion_any (v : Value) (g : Nat) (l : List Int) (w : World) (h : OwnI w g v l) (hl : l.length ≤ 8) :
    Calls Try.prog 43 #[v, .int .i64 0, .int .i64 l.length] w fun e w' => e = .returned (.tuple #[]) ∧ (∃ ts, ts.Perm l ∧ UpI ts ∧ OwnI w' g v ts) ∧ Stored w g w' := by
  have H := Lib.hid h
  obtain ⟨c, rfl, hc⟩ := h.shape
  clear h
  go_enter Try.func43, Try.ntmps43
  go_wp2_with fail
  go_loopw [6] (fun i wr => ∃ k : Nat, 1 ≤ k ∧ i = .int .i64 k ∧ Hid (∃ xs, xs.Perm l ∧ UpI (xs.take k) ∧ OwnI wr g (.slice (some ⟨g, 0, none⟩) l.length c) xs) ∧ Hid (Stored w g wr)) (fun i _ => l.length - (intOf i).toNat)
  case atStart => exact ⟨1, Nat.le_refl _, rfl, Lib.hid ⟨l, .refl _, by cases l <;> simp, H.out⟩, Lib.hid (Stored.refl w g)⟩
  case round =>
    obtain ⟨k, hk, rfl, hs, st⟩ := hrel
    by_cases hlt : k < l.length
    · have k0 : (0 : Int) ≤ k := by omega
      have k1 : (k : Int) < l.length := by omega
      have hn : ∀ ts : List Int, ts.Perm l → ts.length = l.length := fun ts h => h.length_eq
      have HN := Lib.hid hn
      clear hn
      go_wp2_with fail
      go_loopw [7] (fun vj wr2 => ∃ j : Nat, j ≤ k ∧ vj = .int .i64 j ∧ Hid (∃ xs a x b c', Mov l k j xs a x b c' ∧ OwnI wr2 g (.slice (some ⟨g, 0, none⟩) l.length c) xs) ∧ Hid (Stored w g wr2)) (fun vj _ => (intOf vj).toNat)
      case atStart =>
        obtain ⟨xs, hp, hu, own⟩ := hs.out
        have hk : xs[k]? = some (xs[k]'(by rw [HN.out xs hp]; exact hlt)) := List.getElem?_eq_getElem _
        exact ⟨k, Nat.le_refl _, rfl, Lib.hid ⟨xs, _, _, _, _, Mov.start hp hu hk, own⟩, st⟩
      case round =>
        clear hs st
        obtain ⟨j, hj, rfl, hm, st⟩ := hrel
        obtain ⟨xs, a, x, b, c', mov, own⟩ := hm.out
        have MOV := Lib.hid mov
        have OW := Lib.hid own
        have hx : xs.length = l.length := HN.out xs mov.perm
        have HX := Lib.hid hx
        have LA := Lib.hid mov.la
        have LB := Lib.hid mov.lb
        clear mov own hm hx
        cases j with
        | zero =>
          have E := Lib.hid (MOV.out.up_end fun y hy => by
            have := LA.out
            rw [List.length_eq_zero_iff.1 this] at hy
            cases hy)
          go_wp2_with fail
          go_quiet (fail)
          go_wp2_with fail
          go_roundw
          case rel => exact ⟨k + 1, by omega, by go_num, Lib.hid ⟨xs, E.out.2, E.out.1, OW.out⟩, Lib.hid (st.out.drewN _)⟩
          case measure => simp [intOf]; omega
        | succ j =>
          obtain ⟨a', y, rfl⟩ : ∃ a' y, a = a' ++ [y] := ⟨a.dropLast, a.getLast (by intro e; have := LA.out; rw [e] at this; cases this), (List.dropLast_concat_getLast _).symm⟩
          have c0 := OW.out.at_ MOV.out.at_x
          have c1 := OW.out.at_ MOV.out.at_y
          have f0 := OW.out.free (j + 1)
          have f1 := OW.out.free j
          by_cases hxy : x < y
          · have MV := Lib.hid (MOV.out.step hxy)
            have OW2 := Lib.hid fun nn => ((OW.out.drewN nn).set (j + 1) y).set j x
            clear MOV OW LA LB
            go_wp2_with fail
            go_quiet (first | (go_at_call 49; refine Calls.quiet_of_same ((less_any _ _ _).mono fun e w' ⟨h1, h2⟩ => ⟨h1, h2.symm⟩)))
            go_wp2_with fail
            go_region
            all_goals go_wp2_with fail
            go_roundw
            case rel => exact ⟨j, by omega, by go_num, Lib.hid ⟨_, _, _, _, _, MV.out, OW2.out _⟩, Lib.hid (((st.out.drewN _).cellTo _ _).cellTo _ _)⟩
            case measure => simp [intOf]
          · have E := Lib.hid (MOV.out.up_end (MOV.out.le_all (by omega)))
            clear MOV LA LB
            have hxy' : decide (x < y) = false := decide_eq_false hxy
            go_wp2_with fail
            go_quiet (first | (go_at_call 49; refine Calls.quiet_of_same ((less_any _ _ _).mono fun e w' ⟨h1, h2⟩ => ⟨h1, h2.symm⟩)))
            go_wp2_with fail
            go_roundw
            case rel => exact ⟨k + 1, by omega, by go_num, Lib.hid ⟨xs, E.out.2, E.out.1, OW.out⟩, Lib.hid (st.out.drewN _)⟩
            case measure => simp [intOf]; omega
    · obtain ⟨xs, hp, hu, own⟩ := hs.out
      have OW := Lib.hid (show ∃ ts, ts.Perm l ∧ UpI ts ∧ OwnI wr g (.slice (some ⟨g, 0, none⟩) l.length c) ts from ⟨xs, hp, by rwa [List.take_of_length_le (by rw [hp.length_eq]; omega)] at hu, own⟩)
      clear hs own hp hu
      go_wp2_with fail
      go_end0
      exact ⟨rfl, OW.out, st.out⟩

set_option maxRecDepth 100000 in
theorem pdqsort_any (v : Value) (g : Nat) (l : List Int) (k : Int) (w : World) (h : OwnI w g v l) (hl : l.length ≤ 8) :
    Calls Try.prog 36 #[v, .int .i64 0, .int .i64 l.length, .int .i64 k] w fun e w' => e = .returned (.tuple #[]) ∧ (∃ ts, ts.Perm l ∧ UpI ts ∧ OwnI w' g v ts) ∧ Stored w g w' := by
  have I := Lib.hid (insertion_any v g l w h hl)
  obtain ⟨c, rfl, hc⟩ := h.shape
  have h12 : (l.length : Int) ≤ 12 := by omega
  clear h
  go_enter Try.func36, Try.ntmps36
  go_wp2_with fail
  refine wp_loop_rounds 1 ?_
  rw [rounds_succ]
  go_wp2_with fail
  (with_reducible refine I.out.mono ?_); rintro e w2 ⟨rfl, ts, st⟩
  have T := Lib.hid ts
  clear ts
  go_wp2_with fail
  refine bodyPost_ret (results_none rfl _ _ _) rfl ?_
  exact ⟨rfl, T.out, st⟩

theorem sort_any (v : Value) (g : Nat) (l : List Int) (w : World) (h : OwnI w g v l) (hl : l.length ≤ 8) :
    Calls Try.prog 21 #[v] w fun e w' => e = .returned (.tuple #[]) ∧ (∃ ts, ts.Perm l ∧ UpI ts ∧ OwnI w' g v ts) ∧ Stored w g w' := by
  have B := Lib.hid fun w => bitsLen_any l.length hl w
  have P := Lib.hid fun k w hw => pdqsort_any v g l k w hw hl
  have H := Lib.hid h
  obtain ⟨c, rfl, hc⟩ := h.shape
  have h12 : (l.length : Int) ≤ 8 := by omega
  clear h
  go_enter Try.func21, Try.ntmps21
  go_wp2_with fail
  (with_reducible refine (B.out _).mono ?_); rintro e w2 ⟨⟨k, rfl⟩, rfl⟩
  go_wp2_with fail
  (with_reducible refine (P.out _ _ H.out).mono ?_); rintro e w2 ⟨rfl, ts, st⟩
  have T := Lib.hid ts
  clear ts
  go_wp2_with fail
  go_end0
  exact ⟨rfl, T.out, st⟩

set_option maxRecDepth 100000 in
/-- Of no element. -/
theorem sort_none (p : Option Addr) (c : Nat) (w : World) : Calls Try.prog 21 #[.slice p 0 c] w fun e w' => e = .returned (.tuple #[]) ∧ w = w' := by
  have I : ∀ w, Calls Try.prog 43 #[.slice p 0 c, .int .i64 0, .int .i64 0] w fun e w' => e = .returned (.tuple #[]) ∧ w = w' := by
    intro w
    go_enter Try.func43, Try.ntmps43
    go_wp2_with fail
    refine wp_loop_rounds 1 ?_
    rw [rounds_succ]
    go_wp2_with fail
    go_end0
    exact ⟨rfl, rfl⟩
  have II := Lib.hid I
  clear I
  have P : ∀ k w, Calls Try.prog 36 #[.slice p 0 c, .int .i64 0, .int .i64 0, .int .i64 k] w fun e w' => e = .returned (.tuple #[]) ∧ w = w' := by
    intro k w
    go_enter Try.func36, Try.ntmps36
    go_wp2_with fail
    refine wp_loop_rounds 1 ?_
    rw [rounds_succ]
    go_wp2_with fail
    (with_reducible refine (II.out _).mono ?_); rintro e w2 ⟨rfl, rfl⟩
    go_wp2_with fail
    refine bodyPost_ret (results_none rfl _ _ _) rfl ?_
    exact ⟨rfl, rfl⟩
  have PP := Lib.hid P
  have B0 := fun w => bitsLen_any 0 (by omega) w
  simp only [Int.natCast_zero] at B0
  have B := Lib.hid B0
  clear P B0
  go_enter Try.func21, Try.ntmps21
  go_wp2_with fail
  (with_reducible refine (B.out _).mono ?_); rintro e w2 ⟨⟨k, rfl⟩, rfl⟩
  go_wp2_with fail
  (with_reducible refine (PP.out _ _).mono ?_); rintro e w2 ⟨rfl, rfl⟩
  go_wp2_with fail
  go_end0
  exact ⟨rfl, rfl⟩

/-- Behind a sort of ints that lie from 'base' on. -/
structure SortedTo (w : World) (base : Nat) (w' : World) : Prop where
  box : ∀ {h : Nat} {t : TypeId} {cs : Array Value}, Box w h t cs → t ≠ 3 → Box w' h t cs
  low : ∀ {B : Nat} {z : World}, Below B z w → B ≤ base → Below B z w'
  size : w'.heap.size = w.heap.size

/-- Ints of the call's own, put in order. -/
theorem sort_row (base : Nat) (v : Value) (l : List Int) (w : World) (h : w.ownsRow base 3 1 v l.length (l.map (Value.int .i64))) (hl : l.length ≤ 8) :
    Calls Try.prog 21 #[v] w fun e w' => e = .returned (.tuple #[]) ∧ (∃ ts, ts.Perm l ∧ UpI ts ∧ w'.ownsRow base 3 1 v l.length (ts.map (Value.int .i64))) ∧ SortedTo w base w' := by
  by_cases h0 : 0 < l.length
  · obtain ⟨g, hg, own⟩ := OwnI.of h h0
    refine (sort_any v g l w own hl).mono ?_
    rintro e w' ⟨rfl, ⟨ts, hp, hu, o⟩, st⟩
    refine ⟨rfl, ⟨ts, hp, hu, hp.length_eq ▸ o.row hg⟩, fun {h t cs} hb ht => ?_, fun {B z} hb hB => st.low hb (by omega), st.size⟩
    refine st.box hb fun e => ?_
    subst e
    obtain ⟨_, _, _, hb2, _⟩ := own
    unfold Box at hb hb2
    rw [hb] at hb2
    cases hb2
    exact ht rfl
  · obtain rfl := List.length_eq_zero_iff.1 (show l.length = 0 by omega)
    obtain ⟨p, c, rfl⟩ : ∃ p c, v = .slice p 0 c := by
      rcases h.2 with ⟨rfl, _⟩ | ⟨g, cap, _, rfl, _⟩
      · exact ⟨_, _, rfl⟩
      · exact ⟨_, _, rfl⟩
    refine (sort_none p c w).mono ?_
    rintro e w' ⟨rfl, rfl⟩
    exact ⟨rfl, ⟨[], .refl _, List.Pairwise.nil, h⟩, fun hb _ => hb, fun hb _ => hb, rfl⟩

/-! Two lists in order with the same members are one. -/
theorem up_unique : ∀ {a b : List Int}, UpI a → UpI b → a.Perm b → a = b
  | [], b, _, _, h => (List.Perm.nil_eq h)
  | x :: a, b, ha, hb, h => by
    cases b with
    | nil => exact absurd h.length_eq (by simp)
    | cons y b =>
      obtain ⟨h1, h2⟩ := List.pairwise_cons.1 ha
      obtain ⟨k1, k2⟩ := List.pairwise_cons.1 hb
      have e : x = y := by
        have m1 : x ∈ y :: b := h.mem_iff.1 (by simp)
        have m2 : y ∈ x :: a := h.mem_iff.2 (by simp)
        rcases List.mem_cons.1 m1 with e | m1
        · exact e
        · rcases List.mem_cons.1 m2 with e | m2
          · exact e.symm
          · have := h1 y m2
            have := k1 x m1
            omega
      subst e
      rw [up_unique h2 k2 ((List.perm_cons x).1 h)]
end Go.Proofs.Ytiefeeondeablaa
