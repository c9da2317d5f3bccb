/-
Proved: the law 'RowTells' returns true for every argument, and changes nothing that was there. No condition.
-/
import Derived.Test.YtekhcldjngegnaaRowSpec
import Derived.Test.YtekhcldjngegnaaRowOpen
namespace Go.Proofs.Ytekhcldjngegnaa.rowTells
open Go.ChangeShapes Go.WideShapes Go.ChangeAt Go.RowKit Go.Joins

theorem same_nil (w : World) (A : Option Addr) (cp : Nat) (h : Ws w (.slice A 0 cp) []) :
    Calls Try.prog 11 #[rowV (.slice A 0 cp) false false false, noRow] w fun e w' => e = .returned (.bool true) ∧ Below w.heap.size w w' := by
  have := sameRow_any (.slice A 0 cp) [] false false false (.slice none 0 0) [] false false false w h (Ws.nil w)
  rw [sameB_refl] at this
  exact this

set_option maxRecDepth 100000 in
set_option maxHeartbeats 4000000 in
theorem walk_bad (v : Value) (l : List Wy) (a b c : Bool) (n m : Int) (x : Wy) (w : World) (h : Ws w v l) (he : rowE l a b c n ≠ 0) :
    Calls Try.prog 3 #[rowV v a b c, .int .i64 n, .int .i64 m, x.val] w fun e w' => e = .returned (.bool true) ∧ Below w.heap.size w w' := by
  have hp : putE l a b c n x = rowE l a b c n := by unfold putE; rw [if_pos he]
  have ht : takeE l a b c n m = rowE l a b c n := by unfold takeE; rw [if_pos he]
  have hs : setE l a b c n x = rowE l a b c n := by unfold setE; rw [if_pos he]
  have F := Lib.hid fun w hw => rowFind_bad v l a b c n m w hw he
  have P := Lib.hid fun w hw => rowPut_bad v l a b c n x w hw (by rw [hp]; exact he)
  have T := Lib.hid fun w hw => rowTake_bad v l a b c n m w hw (by rw [ht]; exact he)
  have S := Lib.hid fun w hw => rowSet_bad v l a b c n x w hw (by rw [hs]; exact he)
  have R := Lib.hid fun w hw => rowFault_any v l a b c n w hw
  have C := Lib.hid fun w hw => rowCheck_any v l a b c n w hw
  rw [hp] at P
  rw [ht] at T
  rw [hs] at S
  clear hp ht hs
  generalize rowE l a b c n = E at *
  have he' : (E != 0) = true := by simpa using he
  clear he
  have eq0 := fun w => eqWay wy0 wy0 w
  simp only [Wy.val, wy0, show eqW ⟨0, 0, 0, 0, 0, 0⟩ ⟨0, 0, 0, 0, 0, 0⟩ = true from rfl] at eq0
  obtain ⟨A, cp, rfl⟩ : ∃ A cp, v = .slice A l.length cp := by obtain ⟨_, A, c, e, _⟩ := h; exact ⟨A, c, e⟩
  have low := Below.refl w.heap.size w
  have rb := boxNext low 26 (rowA (.slice A l.length cp) a b c)
  replace low := gAlloc low (.cells (rowA (.slice A l.length cp) a b c) 26)
  replace h := h.alloc (.cells (rowA (.slice A l.length cp) a b c) 26)
  try simp only [World.size_alloc] at rb
  simp only [rowA] at rb
  have nb := boxNext low 3 #[.int .i64 n]
  replace low := gAlloc low (.cells #[.int .i64 n] 3)
  replace h := h.alloc (.cells #[.int .i64 n] 3)
  replace rb := rb.alloc (.cells #[.int .i64 n] 3)
  try simp only [World.size_alloc] at nb
  have xb := boxNext low 32 x.arr
  replace low := gAlloc low (.cells x.arr 32)
  replace h := h.alloc (.cells x.arr 32)
  replace rb := rb.alloc (.cells x.arr 32)
  replace nb := nb.alloc (.cells x.arr 32)
  try simp only [World.size_alloc] at xb
  simp only [Wy.arr] at xb
  go_enter Try.func3, Try.ntmps3
  go_wp2_with fail
  (with_reducible refine (F.out _ h).mono ?_); rintro e w1 ⟨rfl, hb⟩
  replace h := h.call hb
  replace rb := rb.call hb
  replace nb := nb.call hb
  replace xb := xb.call hb
  replace low := gCall low hb
  clear hb
  have rb_0 := rb.at_ 0 rfl
  have rb_1 := rb.at_ 1 rfl
  have rb_2 := rb.at_ 2 rfl
  have rb_3 := rb.at_ 3 rfl
  have nb_0 := nb.at_ 0 rfl
  have xb_0 := xb.at_ 0 rfl
  have xb_1 := xb.at_ 1 rfl
  have xb_2 := xb.at_ 2 rfl
  have xb_3 := xb.at_ 3 rfl
  have xb_4 := xb.at_ 4 rfl
  have xb_5 := xb.at_ 5 rfl
  go_wp2_with fail
  (with_reducible refine (P.out _ h).mono ?_); rintro e w2 ⟨rfl, hb⟩
  replace h := h.call hb
  replace rb := rb.call hb
  replace nb := nb.call hb
  replace xb := xb.call hb
  replace low := gCall low hb
  clear hb rb_0 rb_1 rb_2 rb_3 nb_0 xb_0 xb_1 xb_2 xb_3 xb_4 xb_5
  have ab := boxNext low 26 (rowA (.slice none 0 0) false false false)
  replace low := gAlloc low (.cells (rowA (.slice none 0 0) false false false) 26)
  replace h := h.alloc (.cells (rowA (.slice none 0 0) false false false) 26)
  replace rb := rb.alloc (.cells (rowA (.slice none 0 0) false false false) 26)
  replace nb := nb.alloc (.cells (rowA (.slice none 0 0) false false false) 26)
  replace xb := xb.alloc (.cells (rowA (.slice none 0 0) false false false) 26)
  try simp only [World.size_alloc] at ab
  simp only [rowA] at ab
  have ob := boxNext low 32 zeroA
  replace low := gAlloc low (.cells zeroA 32)
  replace h := h.alloc (.cells zeroA 32)
  replace rb := rb.alloc (.cells zeroA 32)
  replace nb := nb.alloc (.cells zeroA 32)
  replace xb := xb.alloc (.cells zeroA 32)
  replace ab := ab.alloc (.cells zeroA 32)
  try simp only [World.size_alloc] at ob
  simp only [zeroA] at ob
  have rb_0 := rb.at_ 0 rfl
  have rb_1 := rb.at_ 1 rfl
  have rb_2 := rb.at_ 2 rfl
  have rb_3 := rb.at_ 3 rfl
  have nb_0 := nb.at_ 0 rfl
  go_wp2_with fail
  (with_reducible refine (T.out _ h).mono ?_); rintro e w3 ⟨rfl, hb⟩
  replace h := h.call hb
  replace rb := rb.call hb
  replace nb := nb.call hb
  replace xb := xb.call hb
  replace ab := ab.call hb
  replace ob := ob.call hb
  replace low := gCall low hb
  clear hb rb_0 rb_1 rb_2 rb_3 nb_0
  have bb := boxNext low 26 (rowA (.slice none 0 0) false false false)
  replace low := gAlloc low (.cells (rowA (.slice none 0 0) false false false) 26)
  replace h := h.alloc (.cells (rowA (.slice none 0 0) false false false) 26)
  replace rb := rb.alloc (.cells (rowA (.slice none 0 0) false false false) 26)
  replace nb := nb.alloc (.cells (rowA (.slice none 0 0) false false false) 26)
  replace xb := xb.alloc (.cells (rowA (.slice none 0 0) false false false) 26)
  replace ab := ab.alloc (.cells (rowA (.slice none 0 0) false false false) 26)
  replace ob := ob.alloc (.cells (rowA (.slice none 0 0) false false false) 26)
  try simp only [World.size_alloc] at bb
  simp only [rowA] at bb
  have tb := boxNext low 32 zeroA
  replace low := gAlloc low (.cells zeroA 32)
  replace h := h.alloc (.cells zeroA 32)
  replace rb := rb.alloc (.cells zeroA 32)
  replace nb := nb.alloc (.cells zeroA 32)
  replace xb := xb.alloc (.cells zeroA 32)
  replace ab := ab.alloc (.cells zeroA 32)
  replace ob := ob.alloc (.cells zeroA 32)
  replace bb := bb.alloc (.cells zeroA 32)
  try simp only [World.size_alloc] at tb
  simp only [zeroA] at tb
  have rb_0 := rb.at_ 0 rfl
  have rb_1 := rb.at_ 1 rfl
  have rb_2 := rb.at_ 2 rfl
  have rb_3 := rb.at_ 3 rfl
  have nb_0 := nb.at_ 0 rfl
  have xb_0 := xb.at_ 0 rfl
  have xb_1 := xb.at_ 1 rfl
  have xb_2 := xb.at_ 2 rfl
  have xb_3 := xb.at_ 3 rfl
  have xb_4 := xb.at_ 4 rfl
  have xb_5 := xb.at_ 5 rfl
  go_wp2_with fail
  (with_reducible refine (S.out _ h).mono ?_); rintro e w4 ⟨rfl, hb⟩
  replace h := h.call hb
  replace rb := rb.call hb
  replace nb := nb.call hb
  replace xb := xb.call hb
  replace ab := ab.call hb
  replace ob := ob.call hb
  replace bb := bb.call hb
  replace tb := tb.call hb
  replace low := gCall low hb
  clear hb rb_0 rb_1 rb_2 rb_3 nb_0 xb_0 xb_1 xb_2 xb_3 xb_4 xb_5
  have cb := boxNext low 26 (rowA (.slice none 0 0) false false false)
  replace low := gAlloc low (.cells (rowA (.slice none 0 0) false false false) 26)
  replace h := h.alloc (.cells (rowA (.slice none 0 0) false false false) 26)
  replace rb := rb.alloc (.cells (rowA (.slice none 0 0) false false false) 26)
  replace nb := nb.alloc (.cells (rowA (.slice none 0 0) false false false) 26)
  replace xb := xb.alloc (.cells (rowA (.slice none 0 0) false false false) 26)
  replace ab := ab.alloc (.cells (rowA (.slice none 0 0) false false false) 26)
  replace ob := ob.alloc (.cells (rowA (.slice none 0 0) false false false) 26)
  replace bb := bb.alloc (.cells (rowA (.slice none 0 0) false false false) 26)
  replace tb := tb.alloc (.cells (rowA (.slice none 0 0) false false false) 26)
  try simp only [World.size_alloc] at cb
  simp only [rowA] at cb
  have zb := boxNext low 26 (rowA (.slice none 0 0) false false false)
  replace low := gAlloc low (.cells (rowA (.slice none 0 0) false false false) 26)
  replace h := h.alloc (.cells (rowA (.slice none 0 0) false false false) 26)
  replace rb := rb.alloc (.cells (rowA (.slice none 0 0) false false false) 26)
  replace nb := nb.alloc (.cells (rowA (.slice none 0 0) false false false) 26)
  replace xb := xb.alloc (.cells (rowA (.slice none 0 0) false false false) 26)
  replace ab := ab.alloc (.cells (rowA (.slice none 0 0) false false false) 26)
  replace ob := ob.alloc (.cells (rowA (.slice none 0 0) false false false) 26)
  replace bb := bb.alloc (.cells (rowA (.slice none 0 0) false false false) 26)
  replace tb := tb.alloc (.cells (rowA (.slice none 0 0) false false false) 26)
  replace cb := cb.alloc (.cells (rowA (.slice none 0 0) false false false) 26)
  try simp only [World.size_alloc] at zb
  simp only [rowA] at zb
  have rb_0 := rb.at_ 0 rfl
  have rb_1 := rb.at_ 1 rfl
  have rb_2 := rb.at_ 2 rfl
  have rb_3 := rb.at_ 3 rfl
  have nb_0 := nb.at_ 0 rfl
  go_wp2_with fail
  (with_reducible refine (R.out _ h).mono ?_); rintro e w5 ⟨rfl, hb⟩
  replace h := h.call hb
  replace rb := rb.call hb
  replace nb := nb.call hb
  replace xb := xb.call hb
  replace ab := ab.call hb
  replace ob := ob.call hb
  replace bb := bb.call hb
  replace tb := tb.call hb
  replace cb := cb.call hb
  replace zb := zb.call hb
  replace low := gCall low hb
  clear hb rb_0 rb_1 rb_2 rb_3 nb_0
  have rb_0 := rb.at_ 0 rfl
  have rb_1 := rb.at_ 1 rfl
  have rb_2 := rb.at_ 2 rfl
  have rb_3 := rb.at_ 3 rfl
  have nb_0 := nb.at_ 0 rfl
  go_wp2_with fail
  (with_reducible refine (C.out _ h).mono ?_); rintro e w6 ⟨rfl, hb⟩
  replace ab := ab.call hb
  replace ob := ob.call hb
  replace bb := bb.call hb
  replace tb := tb.call hb
  replace cb := cb.call hb
  replace zb := zb.call hb
  replace low := gCall low hb
  clear hb rb_0 rb_1 rb_2 rb_3 nb_0
  have ab_0 := ab.at_ 0 rfl
  have ab_1 := ab.at_ 1 rfl
  have ab_2 := ab.at_ 2 rfl
  have ab_3 := ab.at_ 3 rfl
  have zb_0 := zb.at_ 0 rfl
  have zb_1 := zb.at_ 1 rfl
  have zb_2 := zb.at_ 2 rfl
  have zb_3 := zb.at_ 3 rfl
  go_wp2_with fail
  (with_reducible refine (same_nil _ _ _ (Ws.nil _)).mono ?_); rintro e w7 ⟨rfl, hb⟩
  replace ob := ob.call hb
  replace bb := bb.call hb
  replace tb := tb.call hb
  replace cb := cb.call hb
  replace zb := zb.call hb
  replace low := gCall low hb
  clear hb ab_0 ab_1 ab_2 ab_3 zb_0 zb_1 zb_2 zb_3
  have ob_0 := ob.at_ 0 rfl
  have ob_1 := ob.at_ 1 rfl
  have ob_2 := ob.at_ 2 rfl
  have ob_3 := ob.at_ 3 rfl
  have ob_4 := ob.at_ 4 rfl
  have ob_5 := ob.at_ 5 rfl
  have bb_0 := bb.at_ 0 rfl
  have bb_1 := bb.at_ 1 rfl
  have bb_2 := bb.at_ 2 rfl
  have bb_3 := bb.at_ 3 rfl
  have zb_0 := zb.at_ 0 rfl
  have zb_1 := zb.at_ 1 rfl
  have zb_2 := zb.at_ 2 rfl
  have zb_3 := zb.at_ 3 rfl
  go_wp2_with fail
  (with_reducible refine (same_nil _ _ _ (Ws.nil _)).mono ?_); rintro e w8 ⟨rfl, hb⟩
  replace tb := tb.call hb
  replace cb := cb.call hb
  replace zb := zb.call hb
  replace low := gCall low hb
  clear hb ob_0 ob_1 ob_2 ob_3 ob_4 ob_5 bb_0 bb_1 bb_2 bb_3 zb_0 zb_1 zb_2 zb_3
  have tb_0 := tb.at_ 0 rfl
  have tb_1 := tb.at_ 1 rfl
  have tb_2 := tb.at_ 2 rfl
  have tb_3 := tb.at_ 3 rfl
  have tb_4 := tb.at_ 4 rfl
  have tb_5 := tb.at_ 5 rfl
  have cb_0 := cb.at_ 0 rfl
  have cb_1 := cb.at_ 1 rfl
  have cb_2 := cb.at_ 2 rfl
  have cb_3 := cb.at_ 3 rfl
  have zb_0 := zb.at_ 0 rfl
  have zb_1 := zb.at_ 1 rfl
  have zb_2 := zb.at_ 2 rfl
  have zb_3 := zb.at_ 3 rfl
  go_wp2_with fail
  (with_reducible refine (same_nil _ _ _ (Ws.nil _)).mono ?_); rintro e w9 ⟨rfl, hb⟩
  replace cb := cb.call hb
  replace low := gCall low hb
  clear hb tb_0 tb_1 tb_2 tb_3 tb_4 tb_5 cb_0 cb_1 cb_2 cb_3 zb_0 zb_1 zb_2 zb_3
  go_wp2_with fail
  go_ret
  exact ⟨rfl, low⟩


theorem take_cases {l : List Wy} {a b c : Bool} {n m : Int} {lb : List Wy} {t : Bool × Bool × Bool} {z : Wy} {E : Int} (he : rowE l a b c n = 0) (h : TakeIs l a b c n m lb t z E) :
    (idxP (hasW m) l < 0 ∧ E = 5 ∧ lb = [] ∧ t = t0 ∧ z = wy0) ∨ ∃ k : Nat, idxP (hasW m) l = k ∧ l[k]? = some z ∧ lb = l.set k wy0 ∧ t = (a, b, c) ∧ E = 0 := by
  obtain ⟨h1, h2⟩ := h
  rcases h2 with ⟨h2, h3, h4, h5⟩ | ⟨h2, k, h3, h4, h5, h6⟩
  · unfold takeE at h1
    rw [if_neg (by simp [he])] at h1
    by_cases hf : idxP (hasW m) l < 0
    · rw [if_pos hf] at h1
      exact .inl ⟨hf, h1, h3, h4, h5⟩
    · rw [if_neg hf] at h1
      exact absurd h1 h2
  · exact .inr ⟨k, h3, h4, h5, h6, h2⟩

theorem x_cases {l : List Wy} {a b c : Bool} {n : Int} {x : Wy} {la lc : List Wy} {ta tc : Bool × Bool × Bool} {y : Wy} {EP ES : Int} (he : rowE l a b c n = 0) (hp : PutIs l a b c n x la ta y EP) (hs : SetIs l a b c n x lc tc ES) :
    (hlB x = false ∧ EP = 4 ∧ la = [] ∧ ta = t0 ∧ y = wy0 ∧ ES = 4 ∧ lc = [] ∧ tc = t0) ∨
    (∃ k : Nat, hlB x = true ∧ idxP (hasW x.ln) l = k ∧ k < l.length ∧ EP = 6 ∧ la = [] ∧ ta = t0 ∧ y = wy0 ∧ ES = 0 ∧ lc = l.set k x ∧ tc = touchT a b c n k) ∨
    (∃ k : Nat, hlB x = true ∧ idxP (hasW x.ln) l < 0 ∧ roomN l a b c n = k ∧ l[k]? = some y ∧ EP = 0 ∧ la = l.set k x ∧ ta = touchT a b c n k ∧ ES = 5 ∧ lc = [] ∧ tc = t0) := by
  obtain ⟨p1, p2⟩ := hp
  obtain ⟨s1, s2⟩ := hs
  unfold putE at p1
  unfold setE at s1
  rw [if_neg (by simp [he])] at p1 s1
  cases hx : hlB x
  · rw [if_pos hx] at p1 s1
    subst p1 s1
    rcases p2 with ⟨_, p3, p4, p5⟩ | ⟨p2, _⟩
    · rcases s2 with ⟨_, s3, s4⟩ | ⟨s2, _⟩
      · exact .inl ⟨rfl, rfl, p3, p4, p5, rfl, s3, s4⟩
      · omega
    · omega
  · rw [if_neg (by simp [hx])] at p1 s1
    by_cases hf : 0 ≤ idxP (hasW x.ln) l
    · rw [if_pos hf] at p1
      rw [if_neg (by omega)] at s1
      subst p1 s1
      rcases p2 with ⟨_, p3, p4, p5⟩ | ⟨p2, _⟩
      · rcases s2 with ⟨s2, _⟩ | ⟨_, k, s3, s4, s5, s6⟩
        · exact absurd rfl s2
        · exact .inr (.inl ⟨k, rfl, s3, s4, rfl, p3, p4, p5, rfl, s5, s6⟩)
      · omega
    · rw [if_neg hf] at p1
      rw [if_pos (by omega)] at s1
      subst p1 s1
      rcases p2 with ⟨p2, _⟩ | ⟨_, k, p3, p4, p5, p6⟩
      · exact absurd rfl p2
      · rcases s2 with ⟨_, s3, s4⟩ | ⟨s2, _⟩
        · exact .inr (.inr ⟨k, rfl, by omega, p3, p4, rfl, p5, p6, rfl, s3, s4⟩)
        · omega

theorem wayF_bad {x : Wy} (h : hlB x = false) : (wayF x != 0) = true ∨ ((wayF x != 0) = false ∧ (x.st == 0) = true) := by
  unfold wayF
  by_cases hs : stB x.st = true ∧ lnB x.ln = true
  · rw [if_pos hs]
    refine .inr ⟨rfl, ?_⟩
    have h1 : 0 ≤ x.st ∧ x.st ≤ 4 := by simpa [stB] using hs.1
    simp only [hlB, hs.2, Bool.and_true] at h
    have h2 : ¬ (1 ≤ x.st ∧ x.st ≤ 4) := by simpa [rdB] using h
    simp
    omega
  · rw [if_neg hs]
    exact .inl rfl

theorem wayF_good {x : Wy} (h : hlB x = true) : wayF x = 0 ∧ (x.st == 0) = false := by
  obtain ⟨_, h0⟩ := wayE_of h
  simp only [hlB, Bool.and_eq_true] at h
  have h1 : 1 ≤ x.st ∧ x.st ≤ 4 := by simpa [rdB] using h.1
  have hs : stB x.st = true := decide_eq_true (by omega)
  refine ⟨by unfold wayF; rw [if_pos ⟨hs, h.2⟩], by simpa using h0⟩

/-- What a set with another way is like another's. -/
theorem same_as (w : World) (A A' : Option Addr) (cp cp' : Nat) (l l' : List Wy) (a b c : Bool) (k k' : Nat) (hl : l = l') (h : Ws w (.slice A k cp) l) (h' : Ws w (.slice A' k' cp') l') :
    Calls Try.prog 11 #[rowV (.slice A k cp) a b c, rowV (.slice A' k' cp') a b c] w fun e w' => e = .returned (.bool true) ∧ Below w.heap.size w w' := by
  subst hl
  have := sameRow_any _ l a b c _ l a b c w h h'
  rw [sameB_refl] at this
  exact this

theorem rowWith_zero (v : Value) (l : List Wy) (a b c : Bool) (j : Nat) (w : World) (h : Ws w v l) (h4 : l.length ≤ 4) (hj : j < l.length) :
    Calls Try.prog 13 #[rowV v a b c, .int .i64 j, zeroV] w fun e w' => (∃ A cp, e = .returned (rowV (.slice A l.length cp) a b c) ∧ Ws w' (.slice A l.length cp) (l.set j wy0)) ∧ Below w.heap.size w w' := by
  refine (rowWith_any v l a b c j wy0 w h h4 hj).mono ?_
  rintro e w' ⟨⟨v', rfl, fr⟩, hb⟩
  obtain ⟨A, cp, rfl⟩ := fr.shape
  have := fr.ws
  simp only [List.length_set] at this ⊢
  exact ⟨⟨A, cp, rfl, this⟩, hb⟩


set_option maxRecDepth 100000 in
set_option maxHeartbeats 8000000 in
theorem walk_good (v : Value) (l : List Wy) (a b c : Bool) (n m : Int) (x : Wy) (w : World) (h : Ws w v l) (he : rowE l a b c n = 0) :
    Calls Try.prog 3 #[rowV v a b c, .int .i64 n, .int .i64 m, x.val] w fun e w' => e = .returned (.bool true) ∧ Below w.heap.size w w' := by
  obtain ⟨e4, e5, _⟩ := rowE_ok he
  obtain ⟨hn1, hn4⟩ := treeE_range e4
  have h4 : l.length ≤ 4 := by omega
  obtain ⟨bq, oq, cp, rfl, hbq, hcq⟩ : ∃ bq oq cp, v = .slice (some ⟨bq, oq, none⟩) l.length cp ∧ bq < w.heap.size ∧ ∀ j u, (waysC l)[j]? = some u → w.cell? ⟨bq, oq + j, none⟩ = some u := by
    obtain ⟨_, A, c, rfl, _, _, h3⟩ := h
    obtain ⟨bq, oq, rfl, hbq, hcq⟩ := h3 (by omega)
    exact ⟨bq, oq, c, rfl, hbq, hcq⟩
  have HQ := Lib.hid hcq
  clear hcq
  have F := Lib.hid fun w hw => rowFind_ok (.slice (some ⟨bq, oq, none⟩) l.length cp) l a b c n m w hw he
  have R := Lib.hid fun w hw => rowFault_any (.slice (some ⟨bq, oq, none⟩) l.length cp) l a b c n w hw
  have C := Lib.hid fun w hw => rowCheck_any (.slice (some ⟨bq, oq, none⟩) l.length cp) l a b c n w hw
  have RA := Lib.hid fun w hw => rowAt_any (.slice (some ⟨bq, oq, none⟩) l.length cp) l a b c m w hw
  obtain ⟨la, ta, y, EP, PI, P⟩ := put_spec (.slice (some ⟨bq, oq, none⟩) l.length cp) l a b c n x
  obtain ⟨lb, tt, z, ET, TI, T⟩ := take_spec (.slice (some ⟨bq, oq, none⟩) l.length cp) l a b c n m
  obtain ⟨lc, tc, ES, SI, S⟩ := set_spec (.slice (some ⟨bq, oq, none⟩) l.length cp) l a b c n x
  unfold GivesRW at P T
  unfold GivesR at S
  replace P := Lib.hid P
  replace T := Lib.hid T
  replace S := Lib.hid S
  replace PI := Lib.hid PI
  replace SI := Lib.hid SI
  rw [he] at R C
  have HE := Lib.hid (And.intro he (And.intro e4 e5))
  have eq0 := fun w => eqWay wy0 wy0 w
  simp only [Wy.val, wy0, show eqW ⟨0, 0, 0, 0, 0, 0⟩ ⟨0, 0, 0, 0, 0, 0⟩ = true from rfl] at eq0
  obtain ⟨f, hf⟩ : ∃ f, idxP (hasW m) l = f := ⟨_, rfl⟩
  rw [hf] at F RA
  have HF := Lib.hid hf
  replace TI := Lib.hid TI
  clear he e4 e5 hn1 hn4 hf
  have low := Below.refl w.heap.size w
  have rb := boxNext low 26 (rowA (.slice (some ⟨bq, oq, none⟩) l.length cp) a b c)
  replace low := gAlloc low (.cells (rowA (.slice (some ⟨bq, oq, none⟩) l.length cp) a b c) 26)
  replace h := h.alloc (.cells (rowA (.slice (some ⟨bq, oq, none⟩) l.length cp) a b c) 26)
  try simp only [World.size_alloc] at rb
  simp only [rowA] at rb
  have nb := boxNext low 3 #[.int .i64 n]
  replace low := gAlloc low (.cells #[.int .i64 n] 3)
  replace h := h.alloc (.cells #[.int .i64 n] 3)
  replace rb := rb.alloc (.cells #[.int .i64 n] 3)
  try simp only [World.size_alloc] at nb
  have xb := boxNext low 32 x.arr
  replace low := gAlloc low (.cells x.arr 32)
  replace h := h.alloc (.cells x.arr 32)
  replace rb := rb.alloc (.cells x.arr 32)
  replace nb := nb.alloc (.cells x.arr 32)
  try simp only [World.size_alloc] at xb
  simp only [Wy.arr] at xb
  go_enter Try.func3, Try.ntmps3
  go_wp2_with fail
  (with_reducible refine (F.out _ h).mono ?_); rintro e w1 ⟨rfl, hb⟩
  replace h := h.call hb
  replace rb := rb.call hb
  replace nb := nb.call hb
  replace xb := xb.call hb
  replace low := gCall low hb
  clear hb
  have rb_0 := rb.at_ 0 rfl
  have rb_1 := rb.at_ 1 rfl
  have rb_2 := rb.at_ 2 rfl
  have rb_3 := rb.at_ 3 rfl
  have nb_0 := nb.at_ 0 rfl
  have xb_0 := xb.at_ 0 rfl
  have xb_1 := xb.at_ 1 rfl
  have xb_2 := xb.at_ 2 rfl
  have xb_3 := xb.at_ 3 rfl
  have xb_4 := xb.at_ 4 rfl
  have xb_5 := xb.at_ 5 rfl
  go_wp2_with fail
  (with_reducible refine (Calls.mono (P.out _ h) ?_)); rintro e w2 ⟨⟨Aa, ca, rfl, wa⟩, hb⟩
  clear rb_0 rb_1 rb_2 rb_3 nb_0 xb_0 xb_1 xb_2 xb_3 xb_4 xb_5
  replace h := h.call hb
  replace rb := rb.call hb
  replace nb := nb.call hb
  replace xb := xb.call hb
  replace low := gCall low hb
  clear hb
  have ab := boxNext low 26 (rowA (.slice Aa la.length ca) ta.1 ta.2.1 ta.2.2)
  replace low := gAlloc low (.cells (rowA (.slice Aa la.length ca) ta.1 ta.2.1 ta.2.2) 26)
  replace h := h.alloc (.cells (rowA (.slice Aa la.length ca) ta.1 ta.2.1 ta.2.2) 26)
  replace rb := rb.alloc (.cells (rowA (.slice Aa la.length ca) ta.1 ta.2.1 ta.2.2) 26)
  replace nb := nb.alloc (.cells (rowA (.slice Aa la.length ca) ta.1 ta.2.1 ta.2.2) 26)
  replace xb := xb.alloc (.cells (rowA (.slice Aa la.length ca) ta.1 ta.2.1 ta.2.2) 26)
  replace wa := wa.alloc (.cells (rowA (.slice Aa la.length ca) ta.1 ta.2.1 ta.2.2) 26)
  try simp only [World.size_alloc] at ab
  simp only [rowA] at ab
  have ob := boxNext low 32 y.arr
  replace low := gAlloc low (.cells y.arr 32)
  replace h := h.alloc (.cells y.arr 32)
  replace rb := rb.alloc (.cells y.arr 32)
  replace nb := nb.alloc (.cells y.arr 32)
  replace xb := xb.alloc (.cells y.arr 32)
  replace wa := wa.alloc (.cells y.arr 32)
  replace ab := ab.alloc (.cells y.arr 32)
  try simp only [World.size_alloc] at ob
  simp only [Wy.arr] at ob
  have rb_0 := rb.at_ 0 rfl
  have rb_1 := rb.at_ 1 rfl
  have rb_2 := rb.at_ 2 rfl
  have rb_3 := rb.at_ 3 rfl
  have nb_0 := nb.at_ 0 rfl
  go_wp2_with fail
  (with_reducible refine (Calls.mono (T.out _ h) ?_)); rintro e w3 ⟨⟨Ab, cb, rfl, wb⟩, hb⟩
  clear rb_0 rb_1 rb_2 rb_3 nb_0
  replace h := h.call hb
  replace rb := rb.call hb
  replace nb := nb.call hb
  replace xb := xb.call hb
  replace ab := ab.call hb
  replace ob := ob.call hb
  replace wa := wa.call hb
  replace low := gCall low hb
  clear hb
  have bb := boxNext low 26 (rowA (.slice Ab lb.length cb) tt.1 tt.2.1 tt.2.2)
  replace low := gAlloc low (.cells (rowA (.slice Ab lb.length cb) tt.1 tt.2.1 tt.2.2) 26)
  replace h := h.alloc (.cells (rowA (.slice Ab lb.length cb) tt.1 tt.2.1 tt.2.2) 26)
  replace rb := rb.alloc (.cells (rowA (.slice Ab lb.length cb) tt.1 tt.2.1 tt.2.2) 26)
  replace nb := nb.alloc (.cells (rowA (.slice Ab lb.length cb) tt.1 tt.2.1 tt.2.2) 26)
  replace xb := xb.alloc (.cells (rowA (.slice Ab lb.length cb) tt.1 tt.2.1 tt.2.2) 26)
  replace ab := ab.alloc (.cells (rowA (.slice Ab lb.length cb) tt.1 tt.2.1 tt.2.2) 26)
  replace ob := ob.alloc (.cells (rowA (.slice Ab lb.length cb) tt.1 tt.2.1 tt.2.2) 26)
  replace wa := wa.alloc (.cells (rowA (.slice Ab lb.length cb) tt.1 tt.2.1 tt.2.2) 26)
  replace wb := wb.alloc (.cells (rowA (.slice Ab lb.length cb) tt.1 tt.2.1 tt.2.2) 26)
  try simp only [World.size_alloc] at bb
  simp only [rowA] at bb
  have tb := boxNext low 32 z.arr
  replace low := gAlloc low (.cells z.arr 32)
  replace h := h.alloc (.cells z.arr 32)
  replace rb := rb.alloc (.cells z.arr 32)
  replace nb := nb.alloc (.cells z.arr 32)
  replace xb := xb.alloc (.cells z.arr 32)
  replace ab := ab.alloc (.cells z.arr 32)
  replace ob := ob.alloc (.cells z.arr 32)
  replace bb := bb.alloc (.cells z.arr 32)
  replace wa := wa.alloc (.cells z.arr 32)
  replace wb := wb.alloc (.cells z.arr 32)
  try simp only [World.size_alloc] at tb
  simp only [Wy.arr] at tb
  have rb_0 := rb.at_ 0 rfl
  have rb_1 := rb.at_ 1 rfl
  have rb_2 := rb.at_ 2 rfl
  have rb_3 := rb.at_ 3 rfl
  have nb_0 := nb.at_ 0 rfl
  have xb_0 := xb.at_ 0 rfl
  have xb_1 := xb.at_ 1 rfl
  have xb_2 := xb.at_ 2 rfl
  have xb_3 := xb.at_ 3 rfl
  have xb_4 := xb.at_ 4 rfl
  have xb_5 := xb.at_ 5 rfl
  go_wp2_with fail
  (with_reducible refine (Calls.mono (S.out _ h) ?_)); rintro e w4 ⟨⟨Ac, cc, rfl, wc⟩, hb⟩
  clear rb_0 rb_1 rb_2 rb_3 nb_0 xb_0 xb_1 xb_2 xb_3 xb_4 xb_5
  replace h := h.call hb
  replace rb := rb.call hb
  replace nb := nb.call hb
  replace xb := xb.call hb
  replace ab := ab.call hb
  replace ob := ob.call hb
  replace bb := bb.call hb
  replace tb := tb.call hb
  replace wa := wa.call hb
  replace wb := wb.call hb
  replace low := gCall low hb
  clear hb
  have sb := boxNext low 26 (rowA (.slice Ac lc.length cc) tc.1 tc.2.1 tc.2.2)
  replace low := gAlloc low (.cells (rowA (.slice Ac lc.length cc) tc.1 tc.2.1 tc.2.2) 26)
  replace h := h.alloc (.cells (rowA (.slice Ac lc.length cc) tc.1 tc.2.1 tc.2.2) 26)
  replace rb := rb.alloc (.cells (rowA (.slice Ac lc.length cc) tc.1 tc.2.1 tc.2.2) 26)
  replace nb := nb.alloc (.cells (rowA (.slice Ac lc.length cc) tc.1 tc.2.1 tc.2.2) 26)
  replace xb := xb.alloc (.cells (rowA (.slice Ac lc.length cc) tc.1 tc.2.1 tc.2.2) 26)
  replace ab := ab.alloc (.cells (rowA (.slice Ac lc.length cc) tc.1 tc.2.1 tc.2.2) 26)
  replace ob := ob.alloc (.cells (rowA (.slice Ac lc.length cc) tc.1 tc.2.1 tc.2.2) 26)
  replace bb := bb.alloc (.cells (rowA (.slice Ac lc.length cc) tc.1 tc.2.1 tc.2.2) 26)
  replace tb := tb.alloc (.cells (rowA (.slice Ac lc.length cc) tc.1 tc.2.1 tc.2.2) 26)
  replace wa := wa.alloc (.cells (rowA (.slice Ac lc.length cc) tc.1 tc.2.1 tc.2.2) 26)
  replace wb := wb.alloc (.cells (rowA (.slice Ac lc.length cc) tc.1 tc.2.1 tc.2.2) 26)
  replace wc := wc.alloc (.cells (rowA (.slice Ac lc.length cc) tc.1 tc.2.1 tc.2.2) 26)
  try simp only [World.size_alloc] at sb
  simp only [rowA] at sb
  have zb := boxNext low 26 (rowA (.slice none 0 0) false false false)
  replace low := gAlloc low (.cells (rowA (.slice none 0 0) false false false) 26)
  replace h := h.alloc (.cells (rowA (.slice none 0 0) false false false) 26)
  replace rb := rb.alloc (.cells (rowA (.slice none 0 0) false false false) 26)
  replace nb := nb.alloc (.cells (rowA (.slice none 0 0) false false false) 26)
  replace xb := xb.alloc (.cells (rowA (.slice none 0 0) false false false) 26)
  replace ab := ab.alloc (.cells (rowA (.slice none 0 0) false false false) 26)
  replace ob := ob.alloc (.cells (rowA (.slice none 0 0) false false false) 26)
  replace bb := bb.alloc (.cells (rowA (.slice none 0 0) false false false) 26)
  replace tb := tb.alloc (.cells (rowA (.slice none 0 0) false false false) 26)
  replace sb := sb.alloc (.cells (rowA (.slice none 0 0) false false false) 26)
  replace wa := wa.alloc (.cells (rowA (.slice none 0 0) false false false) 26)
  replace wb := wb.alloc (.cells (rowA (.slice none 0 0) false false false) 26)
  replace wc := wc.alloc (.cells (rowA (.slice none 0 0) false false false) 26)
  try simp only [World.size_alloc] at zb
  simp only [rowA] at zb
  have rb_0 := rb.at_ 0 rfl
  have rb_1 := rb.at_ 1 rfl
  have rb_2 := rb.at_ 2 rfl
  have rb_3 := rb.at_ 3 rfl
  have nb_0 := nb.at_ 0 rfl
  go_wp2_with fail
  (with_reducible refine (R.out _ h).mono ?_); rintro e w5 ⟨rfl, hb⟩
  replace h := h.call hb
  replace rb := rb.call hb
  replace nb := nb.call hb
  replace xb := xb.call hb
  replace ab := ab.call hb
  replace ob := ob.call hb
  replace bb := bb.call hb
  replace tb := tb.call hb
  replace sb := sb.call hb
  replace zb := zb.call hb
  replace wa := wa.call hb
  replace wb := wb.call hb
  replace wc := wc.call hb
  replace low := gCall low hb
  clear hb rb_0 rb_1 rb_2 rb_3 nb_0
  have rb_0 := rb.at_ 0 rfl
  have rb_1 := rb.at_ 1 rfl
  have rb_2 := rb.at_ 2 rfl
  have rb_3 := rb.at_ 3 rfl
  have nb_0 := nb.at_ 0 rfl
  go_wp2_with fail
  (with_reducible refine (C.out _ h).mono ?_); rintro e w6 ⟨rfl, hb⟩
  replace h := h.call hb
  replace rb := rb.call hb
  replace nb := nb.call hb
  replace xb := xb.call hb
  replace ab := ab.call hb
  replace ob := ob.call hb
  replace bb := bb.call hb
  replace tb := tb.call hb
  replace sb := sb.call hb
  replace zb := zb.call hb
  replace wa := wa.call hb
  replace wb := wb.call hb
  replace wc := wc.call hb
  replace low := gCall low hb
  clear hb rb_0 rb_1 rb_2 rb_3 nb_0
  have rb_0 := rb.at_ 0 rfl
  have rb_1 := rb.at_ 1 rfl
  have rb_2 := rb.at_ 2 rfl
  have rb_3 := rb.at_ 3 rfl
  go_wp2_with fail
  (with_reducible refine (RA.out _ h).mono ?_); rintro e w7 ⟨rfl, hb⟩
  replace h := h.call hb
  replace rb := rb.call hb
  replace nb := nb.call hb
  replace xb := xb.call hb
  replace ab := ab.call hb
  replace ob := ob.call hb
  replace bb := bb.call hb
  replace tb := tb.call hb
  replace sb := sb.call hb
  replace zb := zb.call hb
  replace wa := wa.call hb
  replace wb := wb.call hb
  replace wc := wc.call hb
  replace low := gCall low hb
  clear hb rb_0 rb_1 rb_2 rb_3
  clear P T S F R C RA
  have TC := take_cases HE.out.1 TI.out
  rw [HF.out] at TC
  rcases TC with ⟨f0, rfl, rfl, rfl, rfl⟩ | ⟨ka, rfl, hz, rfl, rfl, rfl⟩
  · have fd : decide (f < 0) = true := decide_eq_true f0
    have fe : decide (0 ≤ f) = false := decide_eq_false (by omega)
    clear f0
    simp only [List.length_nil, wy0] at bb wb tb ⊢
    obtain ⟨b0, b1, b2, b3⟩ := bb.rowC
    obtain ⟨z0, z1, z2, z3⟩ := zb.rowC
    obtain ⟨t0, t1, t2, t3, t4, t5⟩ := Box.wayC (x := ⟨0, 0, 0, 0, 0, 0⟩) tb
    go_wp2_with fail
    refine wp_region_noPanic ?_
    refine wp_region_held_drew (S := fun w' => w'.cell? ⟨w3.heap.size, 0, none⟩ = some (.slice Ab 0 cb) ∧ w'.cell? ⟨w3.heap.size, 1, none⟩ = some (.bool false) ∧ w'.cell? ⟨w3.heap.size, 2, none⟩ = some (.bool false) ∧ w'.cell? ⟨w3.heap.size, 3, none⟩ = some (.bool false) ∧ w'.cell? ⟨w4.heap.size + 1, 0, none⟩ = some (.slice none 0 0) ∧ w'.cell? ⟨w4.heap.size + 1, 1, none⟩ = some (.bool false) ∧ w'.cell? ⟨w4.heap.size + 1, 2, none⟩ = some (.bool false) ∧ w'.cell? ⟨w4.heap.size + 1, 3, none⟩ = some (.bool false) ∧ w'.cell? ⟨w3.heap.size + 1, 0, none⟩ = some (.int .i64 0) ∧ w'.cell? ⟨w3.heap.size + 1, 1, none⟩ = some (.int .i64 0) ∧ w'.cell? ⟨w3.heap.size + 1, 2, none⟩ = some (.int .u64 0) ∧ w'.cell? ⟨w3.heap.size + 1, 3, none⟩ = some (.int .u64 0) ∧ w'.cell? ⟨w3.heap.size + 1, 4, none⟩ = some (.int .u64 0) ∧ w'.cell? ⟨w3.heap.size + 1, 5, none⟩ = some (.int .u64 0)) (by kernel_rfl) ⟨drewC b0, drewC b1, drewC b2, drewC b3, drewC z0, drewC z1, drewC z2, drewC z3, drewC t0, drewC t1, drewC t2, drewC t3, drewC t4, drewC t5⟩ (fun hHeld => ?_)
    refine takeFirst (i := 0) (v := ?_) rfl (by kernel_rfl) (by kernel_rfl) (by kernel_rfl) (by rfl) (fun _ _ _ h => h) ?_ (by assumption) ?_
    rotate_left
    · (intro w hSw; go_simp; try (with_reducible rfl))
    try simp only [Act.put, List.setIfInBounds_toArray, List.set_cons_zero, List.set_cons_succ]
    refine takeFirst (i := 1) (v := ?_) rfl (by kernel_rfl) (by kernel_rfl) (by kernel_rfl) (by rfl) (fun _ _ _ h => h) ?_ (by assumption) ?_
    rotate_left
    · (intro w hSw; go_simp; try (with_reducible rfl))
    try simp only [Act.put, List.setIfInBounds_toArray, List.set_cons_zero, List.set_cons_succ]
    refine takeFirst (i := 2) (v := ?_) rfl (by kernel_rfl) (by kernel_rfl) (by kernel_rfl) (by rfl) (fun _ _ _ h => h) ?_ (by assumption) ?_
    rotate_left
    · (intro w hSw; go_simp; try (with_reducible rfl))
    try simp only [Act.put, List.setIfInBounds_toArray, List.set_cons_zero, List.set_cons_succ]
    refine takeFirst (i := 3) (v := ?_) rfl (by kernel_rfl) (by kernel_rfl) (by kernel_rfl) (by rfl) (fun _ _ _ h => h) ?_ (by assumption) ?_
    rotate_left
    · (intro w hSw; go_simp; try (with_reducible rfl))
    try simp only [Act.put, List.setIfInBounds_toArray, List.set_cons_zero, List.set_cons_succ]
    refine takeFirst (i := 4) (v := ?_) rfl (by kernel_rfl) (by kernel_rfl) (by kernel_rfl) (by rfl) (fun _ _ _ h => h) ?_ (by assumption) ?_
    rotate_left
    · (intro w hSw; go_simp; try (with_reducible rfl))
    try simp only [Act.put, List.setIfInBounds_toArray, List.set_cons_zero, List.set_cons_succ]
    refine stepNext (i := 5) (by kernel_rfl) rfl (by rfl) (fun K hK => ?_)
    go_simp
    (with_reducible refine (same_nil _ _ _ wb.drew).mono ?_); rintro e w8 ⟨rfl, hb⟩
    replace h := Ws.call h.drew hb
    replace wa := Ws.call wa.drew hb
    replace wc := Ws.call wc.drew hb
    replace rb := Box.call rb.drew hb
    replace nb := Box.call nb.drew hb
    replace xb := Box.call xb.drew hb
    replace ab := Box.call ab.drew hb
    replace ob := Box.call ob.drew hb
    replace sb := Box.call sb.drew hb
    replace zb := Box.call zb.drew hb
    replace low := gCall low.drew hb
    obtain ⟨hh0, hh1, hh2, hh3, hh4, hh5, hh6, hh7, hh8, hh9, hh10, hh11, hh12, hh13⟩ := hHeld
    have hHeld := (And.intro (callC hb hh0) (And.intro (callC hb hh1) (And.intro (callC hb hh2) (And.intro (callC hb hh3) (And.intro (callC hb hh4) (And.intro (callC hb hh5) (And.intro (callC hb hh6) (And.intro (callC hb hh7) (And.intro (callC hb hh8) (And.intro (callC hb hh9) (And.intro (callC hb hh10) (And.intro (callC hb hh11) (And.intro (callC hb hh12) (callC hb hh13))))))))))))))
    clear hh0 hh1 hh2 hh3 hh4 hh5 hh6 hh7 hh8 hh9 hh10 hh11 hh12 hh13
    clear hb
    refine hK.out _ _ hHeld ?_
    clear hK K
    try simp only [Act.put]
    try simp only [List.setIfInBounds_toArray, List.set_cons_zero, List.set_cons_succ]
    refine takeFirst (i := 6) (v := ?_) rfl (by kernel_rfl) (by kernel_rfl) (by kernel_rfl) (by rfl) (fun _ _ _ h => h) ?_ (by assumption) ?_
    rotate_left
    · (intro w hSw; go_simp; try (with_reducible rfl))
    try simp only [Act.put, List.setIfInBounds_toArray, List.set_cons_zero, List.set_cons_succ]
    refine takeFirst (i := 7) (v := ?_) rfl (by kernel_rfl) (by kernel_rfl) (by kernel_rfl) (by rfl) (fun _ _ _ h => h) ?_ (by assumption) ?_
    rotate_left
    · (intro w hSw; go_simp; try (with_reducible rfl))
    try simp only [Act.put, List.setIfInBounds_toArray, List.set_cons_zero, List.set_cons_succ]
    refine takeFirst (i := 8) (v := ?_) rfl (by kernel_rfl) (by kernel_rfl) (by kernel_rfl) (by rfl) (fun _ _ _ h => h) ?_ (by assumption) ?_
    rotate_left
    · (intro w hSw; go_simp; try (with_reducible rfl))
    try simp only [Act.put, List.setIfInBounds_toArray, List.set_cons_zero, List.set_cons_succ]
    refine takeFirst (i := 9) (v := ?_) rfl (by kernel_rfl) (by kernel_rfl) (by kernel_rfl) (by rfl) (fun _ _ _ h => h) ?_ (by assumption) ?_
    rotate_left
    · (intro w hSw; go_simp; try (with_reducible rfl))
    try simp only [Act.put, List.setIfInBounds_toArray, List.set_cons_zero, List.set_cons_succ]
    refine takeFirst (i := 10) (v := ?_) rfl (by kernel_rfl) (by kernel_rfl) (by kernel_rfl) (by rfl) (fun _ _ _ h => h) ?_ (by assumption) ?_
    rotate_left
    · (intro w hSw; go_simp; try (with_reducible rfl))
    try simp only [Act.put, List.setIfInBounds_toArray, List.set_cons_zero, List.set_cons_succ]
    refine takeFirst (i := 11) (v := ?_) rfl (by kernel_rfl) (by kernel_rfl) (by kernel_rfl) (by rfl) (fun _ _ _ h => h) ?_ (by assumption) ?_
    rotate_left
    · (intro w hSw; go_simp; try (with_reducible rfl))
    try simp only [Act.put, List.setIfInBounds_toArray, List.set_cons_zero, List.set_cons_succ]
    refine takeFirst (i := 12) (v := ?_) rfl (by kernel_rfl) (by kernel_rfl) (by kernel_rfl) (by rfl) (fun _ _ _ h => h) ?_ (by assumption) ?_
    rotate_left
    · (intro w hSw; go_simp; try (with_reducible rfl))
    try simp only [Act.put, List.setIfInBounds_toArray, List.set_cons_zero, List.set_cons_succ]
    refine takeFirst (i := 13) (v := ?_) rfl (by kernel_rfl) (by kernel_rfl) (by kernel_rfl) (by rfl) (fun _ _ _ h => h) ?_ (by assumption) ?_
    rotate_left
    · (intro w hSw; go_simp; try (with_reducible rfl))
    try simp only [Act.put, List.setIfInBounds_toArray, List.set_cons_zero, List.set_cons_succ]
    refine takeFirst (i := 14) (v := ?_) rfl (by kernel_rfl) (by kernel_rfl) (by kernel_rfl) (by rfl) (fun _ _ _ h => h) ?_ (by assumption) ?_
    rotate_left
    · (intro w hSw; go_simp; try (with_reducible rfl))
    try simp only [Act.put, List.setIfInBounds_toArray, List.set_cons_zero, List.set_cons_succ]
    refine takeFirst (i := 15) (v := ?_) rfl (by kernel_rfl) (by kernel_rfl) (by kernel_rfl) (by rfl) (fun _ _ _ h => h) ?_ (by assumption) ?_
    rotate_left
    · (intro w hSw; go_simp; try (with_reducible rfl))
    try simp only [Act.put, List.setIfInBounds_toArray, List.set_cons_zero, List.set_cons_succ]
    refine takeFirst (i := 16) (v := ?_) rfl (by kernel_rfl) (by kernel_rfl) (by kernel_rfl) (by rfl) (fun _ _ _ h => h) ?_ (by assumption) ?_
    rotate_left
    · (intro w hSw; go_simp; try (with_reducible rfl))
    try simp only [Act.put, List.setIfInBounds_toArray, List.set_cons_zero, List.set_cons_succ]
    refine takeFirst (i := 17) (v := ?_) rfl (by kernel_rfl) (by kernel_rfl) (by kernel_rfl) (by rfl) (fun _ _ _ h => h) ?_ (by assumption) ?_
    rotate_left
    · (intro w hSw; go_simp; try (with_reducible rfl))
    try simp only [Act.put, List.setIfInBounds_toArray, List.set_cons_zero, List.set_cons_succ]
    refine takeFirst (i := 18) (v := ?_) rfl (by kernel_rfl) (by kernel_rfl) (by kernel_rfl) (by rfl) (fun _ _ _ h => h) ?_ (by assumption) ?_
    rotate_left
    · (intro w hSw; go_simp; try (with_reducible rfl))
    try simp only [Act.put, List.setIfInBounds_toArray, List.set_cons_zero, List.set_cons_succ]
    refine takeFirst (i := 19) (v := ?_) rfl (by kernel_rfl) (by kernel_rfl) (by kernel_rfl) (by rfl) (fun _ _ _ h => h) ?_ (by assumption) ?_
    rotate_left
    · (intro w hSw; go_simp; try (with_reducible rfl))
    try simp only [Act.put, List.setIfInBounds_toArray, List.set_cons_zero, List.set_cons_succ]
    refine takeFirst (i := 20) (v := ?_) rfl (by kernel_rfl) (by kernel_rfl) (by kernel_rfl) (by rfl) (fun _ _ _ h => h) ?_ (by assumption) ?_
    rotate_left
    · (intro w hSw; go_simp; try (with_reducible rfl))
    try simp only [Act.put, List.setIfInBounds_toArray, List.set_cons_zero, List.set_cons_succ]
    refine skipFirst (i := 21) rfl (by kernel_rfl) (by kernel_rfl) (by kernel_rfl) (by rfl) (fun _ _ _ h => h) (by assumption) ?_
    try simp only [Act.put, List.setIfInBounds_toArray, List.set_cons_zero, List.set_cons_succ]
    refine skipFirst (i := 22) rfl (by kernel_rfl) (by kernel_rfl) (by kernel_rfl) (by rfl) (fun _ _ _ h => h) (by assumption) ?_
    try simp only [Act.put, List.setIfInBounds_toArray, List.set_cons_zero, List.set_cons_succ]
    refine skipFirst (i := 23) rfl (by kernel_rfl) (by kernel_rfl) (by kernel_rfl) (by rfl) (fun _ _ _ h => h) (by assumption) ?_
    try simp only [Act.put, List.setIfInBounds_toArray, List.set_cons_zero, List.set_cons_succ]
    refine skipFirst (i := 24) rfl (by kernel_rfl) (by kernel_rfl) (by kernel_rfl) (by rfl) (fun _ _ _ h => h) (by assumption) ?_
    try simp only [Act.put, List.setIfInBounds_toArray, List.set_cons_zero, List.set_cons_succ]
    refine skipFirst (i := 25) rfl (by kernel_rfl) (by kernel_rfl) (by kernel_rfl) (by rfl) (fun _ _ _ h => h) (by assumption) ?_
    try simp only [Act.put, List.setIfInBounds_toArray, List.set_cons_zero, List.set_cons_succ]
    refine skipFirst (i := 26) rfl (by kernel_rfl) (by kernel_rfl) (by kernel_rfl) (by rfl) (fun _ _ _ h => h) (by assumption) ?_
    try simp only [Act.put, List.setIfInBounds_toArray, List.set_cons_zero, List.set_cons_succ]
    refine skipFirst (i := 27) rfl (by kernel_rfl) (by kernel_rfl) (by kernel_rfl) (by rfl) (fun _ _ _ h => h) (by assumption) ?_
    try simp only [Act.put, List.setIfInBounds_toArray, List.set_cons_zero, List.set_cons_succ]
    refine skipFirst (i := 28) rfl (by kernel_rfl) (by kernel_rfl) (by kernel_rfl) (by rfl) (fun _ _ _ h => h) (by assumption) ?_
    try simp only [Act.put, List.setIfInBounds_toArray, List.set_cons_zero, List.set_cons_succ]
    refine skipFirst (i := 29) rfl (by kernel_rfl) (by kernel_rfl) (by kernel_rfl) (by rfl) (fun _ _ _ h => h) (by assumption) ?_
    try simp only [Act.put, List.setIfInBounds_toArray, List.set_cons_zero, List.set_cons_succ]
    refine skipFirst (i := 30) rfl (by kernel_rfl) (by kernel_rfl) (by kernel_rfl) (by rfl) (fun _ _ _ h => h) (by assumption) ?_
    try simp only [Act.put, List.setIfInBounds_toArray, List.set_cons_zero, List.set_cons_succ]
    refine skipFirst (i := 31) rfl (by kernel_rfl) (by kernel_rfl) (by kernel_rfl) (by rfl) (fun _ _ _ h => h) (by assumption) ?_
    try simp only [Act.put, List.setIfInBounds_toArray, List.set_cons_zero, List.set_cons_succ]
    refine skipFirst (i := 32) rfl (by kernel_rfl) (by kernel_rfl) (by kernel_rfl) (by rfl) (fun _ _ _ h => h) (by assumption) ?_
    try simp only [Act.put, List.setIfInBounds_toArray, List.set_cons_zero, List.set_cons_succ]
    refine skipFirst (i := 33) rfl (by kernel_rfl) (by kernel_rfl) (by kernel_rfl) (by rfl) (fun _ _ _ h => h) (by assumption) ?_
    try simp only [Act.put, List.setIfInBounds_toArray, List.set_cons_zero, List.set_cons_succ]
    refine skipFirst (i := 34) rfl (by kernel_rfl) (by kernel_rfl) (by kernel_rfl) (by rfl) (fun _ _ _ h => h) (by assumption) ?_
    try simp only [Act.put, List.setIfInBounds_toArray, List.set_cons_zero, List.set_cons_succ]
    refine skipFirst (i := 35) rfl (by kernel_rfl) (by kernel_rfl) (by kernel_rfl) (by rfl) (fun _ _ _ h => h) (by assumption) ?_
    try simp only [Act.put, List.setIfInBounds_toArray, List.set_cons_zero, List.set_cons_succ]
    refine skipFirst (i := 36) rfl (by kernel_rfl) (by kernel_rfl) (by kernel_rfl) (by rfl) (fun _ _ _ h => h) (by assumption) ?_
    try simp only [Act.put, List.setIfInBounds_toArray, List.set_cons_zero, List.set_cons_succ]
    refine skipFirst (i := 37) rfl (by kernel_rfl) (by kernel_rfl) (by kernel_rfl) (by rfl) (fun _ _ _ h => h) (by assumption) ?_
    try simp only [Act.put, List.setIfInBounds_toArray, List.set_cons_zero, List.set_cons_succ]
    refine skipFirst (i := 38) rfl (by kernel_rfl) (by kernel_rfl) (by kernel_rfl) (by rfl) (fun _ _ _ h => h) (by assumption) ?_
    try simp only [Act.put, List.setIfInBounds_toArray, List.set_cons_zero, List.set_cons_succ]
    refine skipFirst (i := 39) rfl (by kernel_rfl) (by kernel_rfl) (by kernel_rfl) (by rfl) (fun _ _ _ h => h) (by assumption) ?_
    try simp only [Act.put, List.setIfInBounds_toArray, List.set_cons_zero, List.set_cons_succ]
    refine skipFirst (i := 40) rfl (by kernel_rfl) (by kernel_rfl) (by kernel_rfl) (by rfl) (fun _ _ _ h => h) (by assumption) ?_
    try simp only [Act.put, List.setIfInBounds_toArray, List.set_cons_zero, List.set_cons_succ]
    refine takeFirst (i := 41) (v := ?_) rfl (by kernel_rfl) (by kernel_rfl) (by kernel_rfl) (by rfl) (fun _ _ _ h => h) ?_ (by assumption) ?_
    rotate_left
    · (intro w hSw; go_simp; try (with_reducible rfl))
    try simp only [Act.put, List.setIfInBounds_toArray, List.set_cons_zero, List.set_cons_succ]
    refine takeFirst (i := 42) (v := ?_) rfl (by kernel_rfl) (by kernel_rfl) (by kernel_rfl) (by rfl) (fun _ _ _ h => h) ?_ (by assumption) ?_
    rotate_left
    · (intro w hSw; go_simp; try (with_reducible rfl))
    try simp only [Act.put, List.setIfInBounds_toArray, List.set_cons_zero, List.set_cons_succ]
    refine wpAnyH_done (by kernel_rfl) ?_ _
    refine NoPanic.normal ?_
    clear hHeld b0 b1 b2 b3 z0 z1 z2 z3 t0 t1 t2 t3 t4 t5 bb tb wb
    have WF := Lib.hid fun w => wayFault_any x w
    rcases x_cases HE.out.1 PI.out SI.out with ⟨hx, rfl, rfl, rfl, rfl, rfl, rfl, rfl⟩ | ⟨kt, hx, hkt, ktl, rfl, rfl, rfl, rfl, rfl, rfl, rfl⟩ | ⟨kp, hx, hft, hkp, hy, rfl, rfl, rfl, rfl, rfl, rfl⟩
    · simp only [List.length_nil, wy0] at ab wa ob sb wc ⊢
      have hg := wayF_bad hx
      generalize wayF x = g at WF hg
      clear hx
      have xb_0 := xb.at_ 0 rfl
      have xb_1 := xb.at_ 1 rfl
      have xb_2 := xb.at_ 2 rfl
      have xb_3 := xb.at_ 3 rfl
      have xb_4 := xb.at_ 4 rfl
      have xb_5 := xb.at_ 5 rfl
      go_wp2_with fail
      (with_reducible refine (WF.out _).mono ?_); rintro e w10 ⟨rfl, hb⟩
      replace wa := wa.call hb
      replace wc := wc.call hb
      replace xb := xb.call hb
      replace ab := ab.call hb
      replace ob := ob.call hb
      replace sb := sb.call hb
      replace zb := zb.call hb
      replace low := gCall low hb
      clear hb xb_0 xb_1 xb_2 xb_3 xb_4 xb_5
      rcases hg with g0 | ⟨g0, g1⟩
      all_goals
        have xb_0 := xb.at_ 0 rfl
        have ab_0 := ab.at_ 0 rfl
        have ab_1 := ab.at_ 1 rfl
        have ab_2 := ab.at_ 2 rfl
        have ab_3 := ab.at_ 3 rfl
        have zb_0 := zb.at_ 0 rfl
        have zb_1 := zb.at_ 1 rfl
        have zb_2 := zb.at_ 2 rfl
        have zb_3 := zb.at_ 3 rfl
        go_wp2_with fail
        (with_reducible refine (same_nil _ _ _ wa).mono ?_); rintro e w11 ⟨rfl, hb⟩
        replace wc := wc.call hb
        replace ob := ob.call hb
        replace sb := sb.call hb
        replace zb := zb.call hb
        replace low := gCall low hb
        clear hb xb_0 ab_0 ab_1 ab_2 ab_3 zb_0 zb_1 zb_2 zb_3
        have ob_0 := ob.at_ 0 rfl
        have ob_1 := ob.at_ 1 rfl
        have ob_2 := ob.at_ 2 rfl
        have ob_3 := ob.at_ 3 rfl
        have ob_4 := ob.at_ 4 rfl
        have ob_5 := ob.at_ 5 rfl
        have sb_0 := sb.at_ 0 rfl
        have sb_1 := sb.at_ 1 rfl
        have sb_2 := sb.at_ 2 rfl
        have sb_3 := sb.at_ 3 rfl
        have zb_0 := zb.at_ 0 rfl
        have zb_1 := zb.at_ 1 rfl
        have zb_2 := zb.at_ 2 rfl
        have zb_3 := zb.at_ 3 rfl
        go_wp2_with fail
        (with_reducible refine (same_nil _ _ _ wc).mono ?_); rintro e w12 ⟨rfl, hb⟩
        replace zb := zb.call hb
        replace low := gCall low hb
        clear hb ob_0 ob_1 ob_2 ob_3 ob_4 ob_5 sb_0 sb_1 sb_2 sb_3 zb_0 zb_1 zb_2 zb_3
        go_wp2_with fail
        go_ret
        exact ⟨rfl, low⟩
    · simp only [List.length_nil, List.length_set, wy0] at ab wa ob sb wc ⊢
      obtain ⟨g0, g1⟩ := wayF_good hx
      rw [g0] at WF
      clear hx g0
      have RX := Lib.hid fun w hw => rowAt_any (.slice (some ⟨bq, oq, none⟩) l.length cp) l a b c x.ln w hw
      rw [hkt] at RX
      have WI := Lib.hid fun p q r w hw r1 r2 r3 => with_any (.slice (some ⟨bq, oq, none⟩) l.length cp) l a b c n kt x p q r w hw HE.out.2.1 HE.out.2.2 ktl r1 r2 r3
      generalize touchT a b c n kt = t at *
      have ke : decide ((0 : Int) ≤ kt) = true := decide_eq_true (by omega)
      clear hkt
      have xb_0 := xb.at_ 0 rfl
      have xb_1 := xb.at_ 1 rfl
      have xb_2 := xb.at_ 2 rfl
      have xb_3 := xb.at_ 3 rfl
      have xb_4 := xb.at_ 4 rfl
      have xb_5 := xb.at_ 5 rfl
      go_wp2_with fail
      (with_reducible refine (WF.out _).mono ?_); rintro e w10 ⟨rfl, hb⟩
      replace h := h.call hb
      replace wa := wa.call hb
      replace wc := wc.call hb
      replace rb := rb.call hb
      replace nb := nb.call hb
      replace xb := xb.call hb
      replace ab := ab.call hb
      replace ob := ob.call hb
      replace sb := sb.call hb
      replace zb := zb.call hb
      replace low := gCall low hb
      clear hb xb_0 xb_1 xb_2 xb_3 xb_4 xb_5
      have rb_0 := rb.at_ 0 rfl
      have rb_1 := rb.at_ 1 rfl
      have rb_2 := rb.at_ 2 rfl
      have rb_3 := rb.at_ 3 rfl
      have xb_0 := xb.at_ 0 rfl
      have xb_1 := xb.at_ 1 rfl
      go_wp2_with fail
      (with_reducible refine (RX.out _ h).mono ?_); rintro e w11 ⟨rfl, hb⟩
      replace h := h.call hb
      replace wa := wa.call hb
      replace wc := wc.call hb
      replace rb := rb.call hb
      replace nb := nb.call hb
      replace xb := xb.call hb
      replace ab := ab.call hb
      replace ob := ob.call hb
      replace sb := sb.call hb
      replace zb := zb.call hb
      replace low := gCall low hb
      clear hb rb_0 rb_1 rb_2 rb_3 xb_0 xb_1
      go_wp2_with fail
      obtain ⟨a0, a1, a2, a3⟩ := ab.rowC
      obtain ⟨z0, z1, z2, z3⟩ := zb.rowC
      obtain ⟨o0, o1, o2, o3, o4, o5⟩ := Box.wayC (x := ⟨0, 0, 0, 0, 0, 0⟩) ob
      obtain ⟨s0, s1, s2, s3⟩ := sb.rowC
      refine wp_region_noPanic ?_
      refine wp_region_held_drew (S := fun w' => w'.cell? ⟨w2.heap.size, 0, none⟩ = some (.slice Aa 0 ca) ∧ w'.cell? ⟨w2.heap.size, 1, none⟩ = some (.bool false) ∧ w'.cell? ⟨w2.heap.size, 2, none⟩ = some (.bool false) ∧ w'.cell? ⟨w2.heap.size, 3, none⟩ = some (.bool false) ∧ w'.cell? ⟨w4.heap.size + 1, 0, none⟩ = some (.slice none 0 0) ∧ w'.cell? ⟨w4.heap.size + 1, 1, none⟩ = some (.bool false) ∧ w'.cell? ⟨w4.heap.size + 1, 2, none⟩ = some (.bool false) ∧ w'.cell? ⟨w4.heap.size + 1, 3, none⟩ = some (.bool false) ∧ w'.cell? ⟨w2.heap.size + 1, 0, none⟩ = some (.int .i64 0) ∧ w'.cell? ⟨w2.heap.size + 1, 1, none⟩ = some (.int .i64 0) ∧ w'.cell? ⟨w2.heap.size + 1, 2, none⟩ = some (.int .u64 0) ∧ w'.cell? ⟨w2.heap.size + 1, 3, none⟩ = some (.int .u64 0) ∧ w'.cell? ⟨w2.heap.size + 1, 4, none⟩ = some (.int .u64 0) ∧ w'.cell? ⟨w2.heap.size + 1, 5, none⟩ = some (.int .u64 0) ∧ w'.cell? ⟨w4.heap.size, 0, none⟩ = some (.slice Ac l.length cc) ∧ w'.cell? ⟨w4.heap.size, 1, none⟩ = some (.bool t.1) ∧ w'.cell? ⟨w4.heap.size, 2, none⟩ = some (.bool t.2.1) ∧ w'.cell? ⟨w4.heap.size, 3, none⟩ = some (.bool t.2.2)) (by kernel_rfl) ⟨drewC a0, drewC a1, drewC a2, drewC a3, drewC z0, drewC z1, drewC z2, drewC z3, drewC o0, drewC o1, drewC o2, drewC o3, drewC o4, drewC o5, drewC s0, drewC s1, drewC s2, drewC s3⟩ (fun hHeld => ?_)
      refine takeFirst (i := 0) (v := ?_) rfl (by kernel_rfl) (by kernel_rfl) (by kernel_rfl) (by rfl) (fun _ _ _ h => h) ?_ (by assumption) ?_
      rotate_left
      · (intro w hSw; go_simp; try (with_reducible rfl))
      try simp only [Act.put, List.setIfInBounds_toArray, List.set_cons_zero, List.set_cons_succ]
      refine takeFirst (i := 1) (v := ?_) rfl (by kernel_rfl) (by kernel_rfl) (by kernel_rfl) (by rfl) (fun _ _ _ h => h) ?_ (by assumption) ?_
      rotate_left
      · (intro w hSw; go_simp; try (with_reducible rfl))
      try simp only [Act.put, List.setIfInBounds_toArray, List.set_cons_zero, List.set_cons_succ]
      refine stepNext (i := 2) (by kernel_rfl) rfl (by rfl) (fun K hK => ?_)
      go_simp
      (with_reducible refine (same_nil _ _ _ wa.drew).mono ?_); rintro e w12 ⟨rfl, hb⟩
      replace h := Ws.call h.drew hb
      replace wa := Ws.call wa.drew hb
      replace wc := Ws.call wc.drew hb
      replace rb := Box.call rb.drew hb
      replace nb := Box.call nb.drew hb
      replace xb := Box.call xb.drew hb
      replace ab := Box.call ab.drew hb
      replace ob := Box.call ob.drew hb
      replace sb := Box.call sb.drew hb
      replace zb := Box.call zb.drew hb
      replace low := gCall low.drew hb
      obtain ⟨hh0, hh1, hh2, hh3, hh4, hh5, hh6, hh7, hh8, hh9, hh10, hh11, hh12, hh13, hh14, hh15, hh16, hh17⟩ := hHeld
      have hHeld := (And.intro (callC hb hh0) (And.intro (callC hb hh1) (And.intro (callC hb hh2) (And.intro (callC hb hh3) (And.intro (callC hb hh4) (And.intro (callC hb hh5) (And.intro (callC hb hh6) (And.intro (callC hb hh7) (And.intro (callC hb hh8) (And.intro (callC hb hh9) (And.intro (callC hb hh10) (And.intro (callC hb hh11) (And.intro (callC hb hh12) (And.intro (callC hb hh13) (And.intro (callC hb hh14) (And.intro (callC hb hh15) (And.intro (callC hb hh16) (callC hb hh17))))))))))))))))))
      clear hh0 hh1 hh2 hh3 hh4 hh5 hh6 hh7 hh8 hh9 hh10 hh11 hh12 hh13 hh14 hh15 hh16 hh17
      clear hb
      refine hK.out _ _ hHeld ?_
      clear hK K
      try simp only [Act.put]
      try simp only [List.setIfInBounds_toArray, List.set_cons_zero, List.set_cons_succ]
      refine takeFirst (i := 3) (v := ?_) rfl (by kernel_rfl) (by kernel_rfl) (by kernel_rfl) (by rfl) (fun _ _ _ h => h) ?_ (by assumption) ?_
      rotate_left
      · (intro w hSw; go_simp; try (with_reducible rfl))
      try simp only [Act.put, List.setIfInBounds_toArray, List.set_cons_zero, List.set_cons_succ]
      refine takeFirst (i := 4) (v := ?_) rfl (by kernel_rfl) (by kernel_rfl) (by kernel_rfl) (by rfl) (fun _ _ _ h => h) ?_ (by assumption) ?_
      rotate_left
      · (intro w hSw; go_simp; try (with_reducible rfl))
      try simp only [Act.put, List.setIfInBounds_toArray, List.set_cons_zero, List.set_cons_succ]
      refine takeFirst (i := 5) (v := ?_) rfl (by kernel_rfl) (by kernel_rfl) (by kernel_rfl) (by rfl) (fun _ _ _ h => h) ?_ (by assumption) ?_
      rotate_left
      · (intro w hSw; go_simp; try (with_reducible rfl))
      try simp only [Act.put, List.setIfInBounds_toArray, List.set_cons_zero, List.set_cons_succ]
      refine takeFirst (i := 6) (v := ?_) rfl (by kernel_rfl) (by kernel_rfl) (by kernel_rfl) (by rfl) (fun _ _ _ h => h) ?_ (by assumption) ?_
      rotate_left
      · (intro w hSw; go_simp; try (with_reducible rfl))
      try simp only [Act.put, List.setIfInBounds_toArray, List.set_cons_zero, List.set_cons_succ]
      refine takeFirst (i := 7) (v := ?_) rfl (by kernel_rfl) (by kernel_rfl) (by kernel_rfl) (by rfl) (fun _ _ _ h => h) ?_ (by assumption) ?_
      rotate_left
      · (intro w hSw; go_simp; try (with_reducible rfl))
      try simp only [Act.put, List.setIfInBounds_toArray, List.set_cons_zero, List.set_cons_succ]
      refine takeFirst (i := 8) (v := ?_) rfl (by kernel_rfl) (by kernel_rfl) (by kernel_rfl) (by rfl) (fun _ _ _ h => h) ?_ (by assumption) ?_
      rotate_left
      · (intro w hSw; go_simp; try (with_reducible rfl))
      try simp only [Act.put, List.setIfInBounds_toArray, List.set_cons_zero, List.set_cons_succ]
      refine takeFirst (i := 9) (v := ?_) rfl (by kernel_rfl) (by kernel_rfl) (by kernel_rfl) (by rfl) (fun _ _ _ h => h) ?_ (by assumption) ?_
      rotate_left
      · (intro w hSw; go_simp; try (with_reducible rfl))
      try simp only [Act.put, List.setIfInBounds_toArray, List.set_cons_zero, List.set_cons_succ]
      refine takeFirst (i := 10) (v := ?_) rfl (by kernel_rfl) (by kernel_rfl) (by kernel_rfl) (by rfl) (fun _ _ _ h => h) ?_ (by assumption) ?_
      rotate_left
      · (intro w hSw; go_simp; try (with_reducible rfl))
      try simp only [Act.put, List.setIfInBounds_toArray, List.set_cons_zero, List.set_cons_succ]
      refine takeFirst (i := 11) (v := ?_) rfl (by kernel_rfl) (by kernel_rfl) (by kernel_rfl) (by rfl) (fun _ _ _ h => h) ?_ (by assumption) ?_
      rotate_left
      · (intro w hSw; go_simp; try (with_reducible rfl))
      try simp only [Act.put, List.setIfInBounds_toArray, List.set_cons_zero, List.set_cons_succ]
      refine takeFirst (i := 12) (v := ?_) rfl (by kernel_rfl) (by kernel_rfl) (by kernel_rfl) (by rfl) (fun _ _ _ h => h) ?_ (by assumption) ?_
      rotate_left
      · (intro w hSw; go_simp; try (with_reducible rfl))
      try simp only [Act.put, List.setIfInBounds_toArray, List.set_cons_zero, List.set_cons_succ]
      refine takeFirst (i := 13) (v := ?_) rfl (by kernel_rfl) (by kernel_rfl) (by kernel_rfl) (by rfl) (fun _ _ _ h => h) ?_ (by assumption) ?_
      rotate_left
      · (intro w hSw; go_simp; try (with_reducible rfl))
      try simp only [Act.put, List.setIfInBounds_toArray, List.set_cons_zero, List.set_cons_succ]
      refine takeFirst (i := 14) (v := ?_) rfl (by kernel_rfl) (by kernel_rfl) (by kernel_rfl) (by rfl) (fun _ _ _ h => h) ?_ (by assumption) ?_
      rotate_left
      · (intro w hSw; go_simp; try (with_reducible rfl))
      try simp only [Act.put, List.setIfInBounds_toArray, List.set_cons_zero, List.set_cons_succ]
      refine takeFirst (i := 15) (v := ?_) rfl (by kernel_rfl) (by kernel_rfl) (by kernel_rfl) (by rfl) (fun _ _ _ h => h) ?_ (by assumption) ?_
      rotate_left
      · (intro w hSw; go_simp; try (with_reducible rfl))
      try simp only [Act.put, List.setIfInBounds_toArray, List.set_cons_zero, List.set_cons_succ]
      refine stepNext (i := 16) (by kernel_rfl) rfl (by rfl) (fun K hK => ?_)
      go_simp
      (with_reducible refine (WI.out _ _ _ _ h rb xb nb).mono ?_); rintro e w13 ⟨⟨Ad, cd, rfl, wd⟩, hb⟩
      replace h := Ws.call h hb
      replace wa := Ws.call wa hb
      replace wc := Ws.call wc hb
      replace rb := Box.call rb hb
      replace nb := Box.call nb hb
      replace xb := Box.call xb hb
      replace ab := Box.call ab hb
      replace ob := Box.call ob hb
      replace sb := Box.call sb hb
      replace zb := Box.call zb hb
      replace low := gCall low hb
      obtain ⟨hh0, hh1, hh2, hh3, hh4, hh5, hh6, hh7, hh8, hh9, hh10, hh11, hh12, hh13, hh14, hh15, hh16, hh17⟩ := hHeld
      have hHeld := (And.intro (callC hb hh0) (And.intro (callC hb hh1) (And.intro (callC hb hh2) (And.intro (callC hb hh3) (And.intro (callC hb hh4) (And.intro (callC hb hh5) (And.intro (callC hb hh6) (And.intro (callC hb hh7) (And.intro (callC hb hh8) (And.intro (callC hb hh9) (And.intro (callC hb hh10) (And.intro (callC hb hh11) (And.intro (callC hb hh12) (And.intro (callC hb hh13) (And.intro (callC hb hh14) (And.intro (callC hb hh15) (And.intro (callC hb hh16) (callC hb hh17))))))))))))))))))
      clear hh0 hh1 hh2 hh3 hh4 hh5 hh6 hh7 hh8 hh9 hh10 hh11 hh12 hh13 hh14 hh15 hh16 hh17
      clear hb
      refine hK.out _ _ hHeld ?_
      clear hK K
      try simp only [Act.put]
      try simp only [List.setIfInBounds_toArray, List.set_cons_zero, List.set_cons_succ]
      refine stepNext (i := 17) (by kernel_rfl) rfl (by rfl) (fun K hK => ?_)
      go_simp
      (with_reducible refine (same_as _ _ _ _ _ _ _ _ _ _ _ _ rfl wc wd).mono ?_); rintro e w14 ⟨rfl, hb⟩
      replace low := gCall low hb
      obtain ⟨hh0, hh1, hh2, hh3, hh4, hh5, hh6, hh7, hh8, hh9, hh10, hh11, hh12, hh13, hh14, hh15, hh16, hh17⟩ := hHeld
      have hHeld := (And.intro (callC hb hh0) (And.intro (callC hb hh1) (And.intro (callC hb hh2) (And.intro (callC hb hh3) (And.intro (callC hb hh4) (And.intro (callC hb hh5) (And.intro (callC hb hh6) (And.intro (callC hb hh7) (And.intro (callC hb hh8) (And.intro (callC hb hh9) (And.intro (callC hb hh10) (And.intro (callC hb hh11) (And.intro (callC hb hh12) (And.intro (callC hb hh13) (And.intro (callC hb hh14) (And.intro (callC hb hh15) (And.intro (callC hb hh16) (callC hb hh17))))))))))))))))))
      clear hh0 hh1 hh2 hh3 hh4 hh5 hh6 hh7 hh8 hh9 hh10 hh11 hh12 hh13 hh14 hh15 hh16 hh17
      clear hb wd
      refine hK.out _ _ hHeld ?_
      clear hK K
      try simp only [Act.put]
      try simp only [List.setIfInBounds_toArray, List.set_cons_zero, List.set_cons_succ]
      refine takeFirst (i := 18) (v := ?_) rfl (by kernel_rfl) (by kernel_rfl) (by kernel_rfl) (by rfl) (fun _ _ _ h => h) ?_ (by assumption) ?_
      rotate_left
      · (intro w hSw; go_simp; try (with_reducible rfl))
      try simp only [Act.put, List.setIfInBounds_toArray, List.set_cons_zero, List.set_cons_succ]
      refine takeFirst (i := 19) (v := ?_) rfl (by kernel_rfl) (by kernel_rfl) (by kernel_rfl) (by rfl) (fun _ _ _ h => h) ?_ (by assumption) ?_
      rotate_left
      · (intro w hSw; go_simp; try (with_reducible rfl))
      try simp only [Act.put, List.setIfInBounds_toArray, List.set_cons_zero, List.set_cons_succ]
      refine takeFirst (i := 20) (v := ?_) rfl (by kernel_rfl) (by kernel_rfl) (by kernel_rfl) (by rfl) (fun _ _ _ h => h) ?_ (by assumption) ?_
      rotate_left
      · (intro w hSw; go_simp; try (with_reducible rfl))
      try simp only [Act.put, List.setIfInBounds_toArray, List.set_cons_zero, List.set_cons_succ]
      refine takeFirst (i := 21) (v := ?_) rfl (by kernel_rfl) (by kernel_rfl) (by kernel_rfl) (by rfl) (fun _ _ _ h => h) ?_ (by assumption) ?_
      rotate_left
      · (intro w hSw; go_simp; try (with_reducible rfl))
      try simp only [Act.put, List.setIfInBounds_toArray, List.set_cons_zero, List.set_cons_succ]
      refine takeFirst (i := 22) (v := ?_) rfl (by kernel_rfl) (by kernel_rfl) (by kernel_rfl) (by rfl) (fun _ _ _ h => h) ?_ (by assumption) ?_
      rotate_left
      · (intro w hSw; go_simp; try (with_reducible rfl))
      try simp only [Act.put, List.setIfInBounds_toArray, List.set_cons_zero, List.set_cons_succ]
      refine stepNext (i := 23) (by kernel_rfl) rfl (by rfl) (fun K hK => ?_)
      go_simp
      refine hK.out _ _ hHeld ?_
      clear hK K
      try simp only [Act.put]
      try simp only [List.setIfInBounds_toArray, List.set_cons_zero, List.set_cons_succ]
      refine wpAnyH_done (by kernel_rfl) ?_ _
      refine NoPanic.normal ?_
      clear hHeld a0 a1 a2 a3 z0 z1 z2 z3 o0 o1 o2 o3 o4 o5 s0 s1 s2 s3
      go_wp2_with fail
      go_ret
      exact ⟨rfl, low⟩
    · simp only [List.length_nil, List.length_set] at ab wa sb wc ⊢
      obtain ⟨g0, g1⟩ := wayF_good hx
      rw [g0] at WF
      clear hx g0
      have kpl := set_lt hy
      have RX := Lib.hid fun w hw => rowAt_any (.slice (some ⟨bq, oq, none⟩) l.length cp) l a b c x.ln w hw
      have RP := Lib.hid fun w hw => rowPutAt_any (.slice (some ⟨bq, oq, none⟩) l.length cp) l a b c n w hw HE.out.2.1
      rw [hkp] at RP
      have WI := Lib.hid fun p q r w hw r1 r2 r3 => with_any (.slice (some ⟨bq, oq, none⟩) l.length cp) l a b c n kp x p q r w hw HE.out.2.1 HE.out.2.2 kpl r1 r2 r3
      generalize touchT a b c n kp = t at *
      generalize idxP (hasW x.ln) l = f2 at RX hft
      have ke : decide (0 ≤ f2) = false := decide_eq_false (by omega)
      have k0 : (0 : Int) ≤ kp := by omega
      have k1 : (kp : Int) < l.length := by omega
      have eqy := fun w => eqWay y y w
      rw [(eqW_iff y y).2 rfl] at eqy
      simp only [Wy.val] at eqy
      have HY := Lib.hid hy
      clear hkp hft hy
      have xb_0 := xb.at_ 0 rfl
      have xb_1 := xb.at_ 1 rfl
      have xb_2 := xb.at_ 2 rfl
      have xb_3 := xb.at_ 3 rfl
      have xb_4 := xb.at_ 4 rfl
      have xb_5 := xb.at_ 5 rfl
      go_wp2_with fail
      (with_reducible refine (WF.out _).mono ?_); rintro e w10 ⟨rfl, hb⟩
      replace h := h.call hb
      replace wa := wa.call hb
      replace wc := wc.call hb
      replace rb := rb.call hb
      replace nb := nb.call hb
      replace xb := xb.call hb
      replace ab := ab.call hb
      replace ob := ob.call hb
      replace sb := sb.call hb
      replace zb := zb.call hb
      replace low := gCall low hb
      clear hb xb_0 xb_1 xb_2 xb_3 xb_4 xb_5
      have rb_0 := rb.at_ 0 rfl
      have rb_1 := rb.at_ 1 rfl
      have rb_2 := rb.at_ 2 rfl
      have rb_3 := rb.at_ 3 rfl
      have xb_0 := xb.at_ 0 rfl
      have xb_1 := xb.at_ 1 rfl
      go_wp2_with fail
      (with_reducible refine (RX.out _ h).mono ?_); rintro e w11 ⟨rfl, hb⟩
      replace h := h.call hb
      replace wa := wa.call hb
      replace wc := wc.call hb
      replace rb := rb.call hb
      replace nb := nb.call hb
      replace xb := xb.call hb
      replace ab := ab.call hb
      replace ob := ob.call hb
      replace sb := sb.call hb
      replace zb := zb.call hb
      replace low := gCall low hb
      clear hb rb_0 rb_1 rb_2 rb_3 xb_0 xb_1
      have rb_0 := rb.at_ 0 rfl
      have rb_1 := rb.at_ 1 rfl
      have rb_2 := rb.at_ 2 rfl
      have rb_3 := rb.at_ 3 rfl
      have nb_0 := nb.at_ 0 rfl
      go_wp2_with fail
      (with_reducible refine (RP.out _ h).mono ?_); rintro e w12 ⟨rfl, hb⟩
      replace h := h.call hb
      replace wa := wa.call hb
      replace wc := wc.call hb
      replace rb := rb.call hb
      replace nb := nb.call hb
      replace xb := xb.call hb
      replace ab := ab.call hb
      replace ob := ob.call hb
      replace sb := sb.call hb
      replace zb := zb.call hb
      replace low := gCall low hb
      clear hb rb_0 rb_1 rb_2 rb_3 nb_0
      go_wp2_with fail
      obtain ⟨d0, d1, d2, d3, d4, d5⟩ := wayAt_of HQ.out hbq low HY.out
      obtain ⟨a0, a1, a2, a3⟩ := ab.rowC
      obtain ⟨z0, z1, z2, z3⟩ := zb.rowC
      obtain ⟨o0, o1, o2, o3, o4, o5⟩ := ob.wayC
      obtain ⟨s0, s1, s2, s3⟩ := sb.rowC
      obtain ⟨r0, _, _, _⟩ := rb.rowC
      refine wp_region_noPanic ?_
      refine wp_region_held_drew (S := fun w' => w'.cell? ⟨w2.heap.size, 0, none⟩ = some (.slice Aa l.length ca) ∧ w'.cell? ⟨w2.heap.size, 1, none⟩ = some (.bool t.1) ∧ w'.cell? ⟨w2.heap.size, 2, none⟩ = some (.bool t.2.1) ∧ w'.cell? ⟨w2.heap.size, 3, none⟩ = some (.bool t.2.2) ∧ w'.cell? ⟨w4.heap.size + 1, 0, none⟩ = some (.slice none 0 0) ∧ w'.cell? ⟨w4.heap.size + 1, 1, none⟩ = some (.bool false) ∧ w'.cell? ⟨w4.heap.size + 1, 2, none⟩ = some (.bool false) ∧ w'.cell? ⟨w4.heap.size + 1, 3, none⟩ = some (.bool false) ∧ w'.cell? ⟨w2.heap.size + 1, 0, none⟩ = some (.int .i64 y.st) ∧ w'.cell? ⟨w2.heap.size + 1, 1, none⟩ = some (.int .i64 y.ln) ∧ w'.cell? ⟨w2.heap.size + 1, 2, none⟩ = some (.int .u64 y.a) ∧ w'.cell? ⟨w2.heap.size + 1, 3, none⟩ = some (.int .u64 y.b) ∧ w'.cell? ⟨w2.heap.size + 1, 4, none⟩ = some (.int .u64 y.c) ∧ w'.cell? ⟨w2.heap.size + 1, 5, none⟩ = some (.int .u64 y.d) ∧ w'.cell? ⟨w4.heap.size, 0, none⟩ = some (.slice Ac 0 cc) ∧ w'.cell? ⟨w4.heap.size, 1, none⟩ = some (.bool false) ∧ w'.cell? ⟨w4.heap.size, 2, none⟩ = some (.bool false) ∧ w'.cell? ⟨w4.heap.size, 3, none⟩ = some (.bool false) ∧ w'.cell? ⟨bq, oq + kp * 6, none⟩ = some (.int .i64 y.st) ∧ w'.cell? ⟨bq, oq + kp * 6 + 1, none⟩ = some (.int .i64 y.ln) ∧ w'.cell? ⟨bq, oq + kp * 6 + 2, none⟩ = some (.int .u64 y.a) ∧ w'.cell? ⟨bq, oq + kp * 6 + 3, none⟩ = some (.int .u64 y.b) ∧ w'.cell? ⟨bq, oq + kp * 6 + 4, none⟩ = some (.int .u64 y.c) ∧ w'.cell? ⟨bq, oq + kp * 6 + 5, none⟩ = some (.int .u64 y.d) ∧ w'.cell? ⟨w.heap.size, 0, none⟩ = some (.slice (some ⟨bq, oq, none⟩) l.length cp)) (by kernel_rfl) ⟨drewC a0, drewC a1, drewC a2, drewC a3, drewC z0, drewC z1, drewC z2, drewC z3, drewC o0, drewC o1, drewC o2, drewC o3, drewC o4, drewC o5, drewC s0, drewC s1, drewC s2, drewC s3, drewC d0, drewC d1, drewC d2, drewC d3, drewC d4, drewC d5, drewC r0⟩ (fun hHeld => ?_)
      refine takeFirst (i := 0) (v := ?_) rfl (by kernel_rfl) (by kernel_rfl) (by kernel_rfl) (by rfl) (fun _ _ _ h => h) ?_ (by assumption) ?_
      rotate_left
      · (intro w hSw; go_simp; try (with_reducible rfl))
      try simp only [Act.put, List.setIfInBounds_toArray, List.set_cons_zero, List.set_cons_succ]
      refine takeFirst (i := 1) (v := ?_) rfl (by kernel_rfl) (by kernel_rfl) (by kernel_rfl) (by rfl) (fun _ _ _ h => h) ?_ (by assumption) ?_
      rotate_left
      · (intro w hSw; go_simp; try (with_reducible rfl))
      try simp only [Act.put, List.setIfInBounds_toArray, List.set_cons_zero, List.set_cons_succ]
      refine takeFirst (i := 2) (v := ?_) rfl (by kernel_rfl) (by kernel_rfl) (by kernel_rfl) (by rfl) (fun _ _ _ h => h) ?_ (by assumption) ?_
      rotate_left
      · (intro w hSw; go_simp; try (with_reducible rfl))
      try simp only [Act.put, List.setIfInBounds_toArray, List.set_cons_zero, List.set_cons_succ]
      refine stepNext (i := 3) (by kernel_rfl) rfl (by rfl) (fun K hK => ?_)
      go_simp
      (with_reducible refine (WI.out _ _ _ _ h.drew rb.drew xb.drew nb.drew).mono ?_); rintro e w13 ⟨⟨Ad, cd, rfl, wd⟩, hb⟩
      replace h := Ws.call h.drew hb
      replace wa := Ws.call wa.drew hb
      replace wc := Ws.call wc.drew hb
      replace rb := Box.call rb.drew hb
      replace nb := Box.call nb.drew hb
      replace xb := Box.call xb.drew hb
      replace ab := Box.call ab.drew hb
      replace ob := Box.call ob.drew hb
      replace sb := Box.call sb.drew hb
      replace zb := Box.call zb.drew hb
      replace low := gCall low.drew hb
      obtain ⟨hh0, hh1, hh2, hh3, hh4, hh5, hh6, hh7, hh8, hh9, hh10, hh11, hh12, hh13, hh14, hh15, hh16, hh17, hh18, hh19, hh20, hh21, hh22, hh23, hh24⟩ := hHeld
      have hHeld := (And.intro (callC hb hh0) (And.intro (callC hb hh1) (And.intro (callC hb hh2) (And.intro (callC hb hh3) (And.intro (callC hb hh4) (And.intro (callC hb hh5) (And.intro (callC hb hh6) (And.intro (callC hb hh7) (And.intro (callC hb hh8) (And.intro (callC hb hh9) (And.intro (callC hb hh10) (And.intro (callC hb hh11) (And.intro (callC hb hh12) (And.intro (callC hb hh13) (And.intro (callC hb hh14) (And.intro (callC hb hh15) (And.intro (callC hb hh16) (And.intro (callC hb hh17) (And.intro (callC hb hh18) (And.intro (callC hb hh19) (And.intro (callC hb hh20) (And.intro (callC hb hh21) (And.intro (callC hb hh22) (And.intro (callC hb hh23) (callC hb hh24)))))))))))))))))))))))))
      clear hh0 hh1 hh2 hh3 hh4 hh5 hh6 hh7 hh8 hh9 hh10 hh11 hh12 hh13 hh14 hh15 hh16 hh17 hh18 hh19 hh20 hh21 hh22 hh23 hh24
      clear hb
      refine hK.out _ _ hHeld ?_
      clear hK K
      try simp only [Act.put]
      try simp only [List.setIfInBounds_toArray, List.set_cons_zero, List.set_cons_succ]
      refine stepNext (i := 4) (by kernel_rfl) rfl (by rfl) (fun K hK => ?_)
      go_simp
      (with_reducible refine (same_as _ _ _ _ _ _ _ _ _ _ _ _ rfl wa wd).mono ?_); rintro e w14 ⟨rfl, hb⟩
      replace low := gCall low hb
      replace wc := Ws.call wc hb
      obtain ⟨hh0, hh1, hh2, hh3, hh4, hh5, hh6, hh7, hh8, hh9, hh10, hh11, hh12, hh13, hh14, hh15, hh16, hh17, hh18, hh19, hh20, hh21, hh22, hh23, hh24⟩ := hHeld
      have hHeld := (And.intro (callC hb hh0) (And.intro (callC hb hh1) (And.intro (callC hb hh2) (And.intro (callC hb hh3) (And.intro (callC hb hh4) (And.intro (callC hb hh5) (And.intro (callC hb hh6) (And.intro (callC hb hh7) (And.intro (callC hb hh8) (And.intro (callC hb hh9) (And.intro (callC hb hh10) (And.intro (callC hb hh11) (And.intro (callC hb hh12) (And.intro (callC hb hh13) (And.intro (callC hb hh14) (And.intro (callC hb hh15) (And.intro (callC hb hh16) (And.intro (callC hb hh17) (And.intro (callC hb hh18) (And.intro (callC hb hh19) (And.intro (callC hb hh20) (And.intro (callC hb hh21) (And.intro (callC hb hh22) (And.intro (callC hb hh23) (callC hb hh24)))))))))))))))))))))))))
      clear hh0 hh1 hh2 hh3 hh4 hh5 hh6 hh7 hh8 hh9 hh10 hh11 hh12 hh13 hh14 hh15 hh16 hh17 hh18 hh19 hh20 hh21 hh22 hh23 hh24
      clear hb wd
      refine hK.out _ _ hHeld ?_
      clear hK K
      try simp only [Act.put]
      try simp only [List.setIfInBounds_toArray, List.set_cons_zero, List.set_cons_succ]
      refine takeFirst (i := 5) (v := ?_) rfl (by kernel_rfl) (by kernel_rfl) (by kernel_rfl) (by rfl) (fun _ _ _ h => h) ?_ (by assumption) ?_
      rotate_left
      · (intro w hSw; go_simp; try (with_reducible rfl))
      try simp only [Act.put, List.setIfInBounds_toArray, List.set_cons_zero, List.set_cons_succ]
      refine takeFirst (i := 6) (v := ?_) rfl (by kernel_rfl) (by kernel_rfl) (by kernel_rfl) (by rfl) (fun _ _ _ h => h) ?_ (by assumption) ?_
      rotate_left
      · (intro w hSw; go_simp; try (with_reducible rfl))
      try simp only [Act.put, List.setIfInBounds_toArray, List.set_cons_zero, List.set_cons_succ]
      refine takeFirst (i := 7) (v := ?_) rfl (by kernel_rfl) (by kernel_rfl) (by kernel_rfl) (by rfl) (fun _ _ _ h => h) ?_ (by assumption) ?_
      rotate_left
      · (intro w hSw; go_simp; try (with_reducible rfl))
      try simp only [Act.put, List.setIfInBounds_toArray, List.set_cons_zero, List.set_cons_succ]
      refine takeFirst (i := 8) (v := ?_) rfl (by kernel_rfl) (by kernel_rfl) (by kernel_rfl) (by rfl) (fun _ _ _ h => h) ?_ (by assumption) ?_
      rotate_left
      · (intro w hSw; go_simp; try (with_reducible rfl))
      try simp only [Act.put, List.setIfInBounds_toArray, List.set_cons_zero, List.set_cons_succ]
      refine takeFirst (i := 9) (v := ?_) rfl (by kernel_rfl) (by kernel_rfl) (by kernel_rfl) (by rfl) (fun _ _ _ h => h) ?_ (by assumption) ?_
      rotate_left
      · (intro w hSw; go_simp; try (with_reducible rfl))
      try simp only [Act.put, List.setIfInBounds_toArray, List.set_cons_zero, List.set_cons_succ]
      refine takeFirst (i := 10) (v := ?_) rfl (by kernel_rfl) (by kernel_rfl) (by kernel_rfl) (by rfl) (fun _ _ _ h => h) ?_ (by assumption) ?_
      rotate_left
      · (intro w hSw; go_simp; try (with_reducible rfl))
      try simp only [Act.put, List.setIfInBounds_toArray, List.set_cons_zero, List.set_cons_succ]
      refine takeFirst (i := 11) (v := ?_) rfl (by kernel_rfl) (by kernel_rfl) (by kernel_rfl) (by rfl) (fun _ _ _ h => h) ?_ (by assumption) ?_
      rotate_left
      · (intro w hSw; go_simp; try (with_reducible rfl))
      try simp only [Act.put, List.setIfInBounds_toArray, List.set_cons_zero, List.set_cons_succ]
      refine takeFirst (i := 12) (v := ?_) rfl (by kernel_rfl) (by kernel_rfl) (by kernel_rfl) (by rfl) (fun _ _ _ h => h) ?_ (by assumption) ?_
      rotate_left
      · (intro w hSw; go_simp; try (with_reducible rfl))
      try simp only [Act.put, List.setIfInBounds_toArray, List.set_cons_zero, List.set_cons_succ]
      refine takeFirst (i := 13) (v := ?_) rfl (by kernel_rfl) (by kernel_rfl) (by kernel_rfl) (by rfl) (fun _ _ _ h => h) ?_ (by assumption) ?_
      rotate_left
      · (intro w hSw; go_simp; try (with_reducible rfl))
      try simp only [Act.put, List.setIfInBounds_toArray, List.set_cons_zero, List.set_cons_succ]
      refine takeFirst (i := 14) (v := ?_) rfl (by kernel_rfl) (by kernel_rfl) (by kernel_rfl) (by rfl) (fun _ _ _ h => h) ?_ (by assumption) ?_
      rotate_left
      · (intro w hSw; go_simp; try (with_reducible rfl))
      try simp only [Act.put, List.setIfInBounds_toArray, List.set_cons_zero, List.set_cons_succ]
      refine takeFirst (i := 15) (v := ?_) rfl (by kernel_rfl) (by kernel_rfl) (by kernel_rfl) (by rfl) (fun _ _ _ h => h) ?_ (by assumption) ?_
      rotate_left
      · (intro w hSw; go_simp; try (with_reducible rfl))
      try simp only [Act.put, List.setIfInBounds_toArray, List.set_cons_zero, List.set_cons_succ]
      refine takeFirst (i := 16) (v := ?_) rfl (by kernel_rfl) (by kernel_rfl) (by kernel_rfl) (by rfl) (fun _ _ _ h => h) ?_ (by assumption) ?_
      rotate_left
      · (intro w hSw; go_simp; try (with_reducible rfl))
      try simp only [Act.put, List.setIfInBounds_toArray, List.set_cons_zero, List.set_cons_succ]
      refine takeFirst (i := 17) (v := ?_) rfl (by kernel_rfl) (by kernel_rfl) (by kernel_rfl) (by rfl) (fun _ _ _ h => h) ?_ (by assumption) ?_
      rotate_left
      · (intro w hSw; go_simp; try (with_reducible rfl))
      try simp only [Act.put, List.setIfInBounds_toArray, List.set_cons_zero, List.set_cons_succ]
      refine takeFirst (i := 18) (v := ?_) rfl (by kernel_rfl) (by kernel_rfl) (by kernel_rfl) (by rfl) (fun _ _ _ h => h) ?_ (by assumption) ?_
      rotate_left
      · (intro w hSw; go_simp; try (with_reducible rfl))
      try simp only [Act.put, List.setIfInBounds_toArray, List.set_cons_zero, List.set_cons_succ]
      refine takeFirst (i := 19) (v := ?_) rfl (by kernel_rfl) (by kernel_rfl) (by kernel_rfl) (by rfl) (fun _ _ _ h => h) ?_ (by assumption) ?_
      rotate_left
      · (intro w hSw; go_simp; try (with_reducible rfl))
      try simp only [Act.put, List.setIfInBounds_toArray, List.set_cons_zero, List.set_cons_succ]
      refine takeFirst (i := 20) (v := ?_) rfl (by kernel_rfl) (by kernel_rfl) (by kernel_rfl) (by rfl) (fun _ _ _ h => h) ?_ (by assumption) ?_
      rotate_left
      · (intro w hSw; go_simp; try (with_reducible rfl))
      try simp only [Act.put, List.setIfInBounds_toArray, List.set_cons_zero, List.set_cons_succ]
      refine stepNext (i := 21) (by kernel_rfl) rfl (by rfl) (fun K hK => ?_)
      go_simp
      (with_reducible refine (same_nil _ _ _ wc).mono ?_); rintro e w15 ⟨rfl, hb⟩
      replace low := gCall low hb
      obtain ⟨hh0, hh1, hh2, hh3, hh4, hh5, hh6, hh7, hh8, hh9, hh10, hh11, hh12, hh13, hh14, hh15, hh16, hh17, hh18, hh19, hh20, hh21, hh22, hh23, hh24⟩ := hHeld
      have hHeld := (And.intro (callC hb hh0) (And.intro (callC hb hh1) (And.intro (callC hb hh2) (And.intro (callC hb hh3) (And.intro (callC hb hh4) (And.intro (callC hb hh5) (And.intro (callC hb hh6) (And.intro (callC hb hh7) (And.intro (callC hb hh8) (And.intro (callC hb hh9) (And.intro (callC hb hh10) (And.intro (callC hb hh11) (And.intro (callC hb hh12) (And.intro (callC hb hh13) (And.intro (callC hb hh14) (And.intro (callC hb hh15) (And.intro (callC hb hh16) (And.intro (callC hb hh17) (And.intro (callC hb hh18) (And.intro (callC hb hh19) (And.intro (callC hb hh20) (And.intro (callC hb hh21) (And.intro (callC hb hh22) (And.intro (callC hb hh23) (callC hb hh24)))))))))))))))))))))))))
      clear hh0 hh1 hh2 hh3 hh4 hh5 hh6 hh7 hh8 hh9 hh10 hh11 hh12 hh13 hh14 hh15 hh16 hh17 hh18 hh19 hh20 hh21 hh22 hh23 hh24
      clear hb
      refine hK.out _ _ hHeld ?_
      clear hK K
      try simp only [Act.put]
      try simp only [List.setIfInBounds_toArray, List.set_cons_zero, List.set_cons_succ]
      refine takeFirst (i := 22) (v := ?_) rfl (by kernel_rfl) (by kernel_rfl) (by kernel_rfl) (by rfl) (fun _ _ _ h => h) ?_ (by assumption) ?_
      rotate_left
      · (intro w hSw; go_simp; try (with_reducible rfl))
      try simp only [Act.put, List.setIfInBounds_toArray, List.set_cons_zero, List.set_cons_succ]
      refine takeFirst (i := 23) (v := ?_) rfl (by kernel_rfl) (by kernel_rfl) (by kernel_rfl) (by rfl) (fun _ _ _ h => h) ?_ (by assumption) ?_
      rotate_left
      · (intro w hSw; go_simp; try (with_reducible rfl))
      try simp only [Act.put, List.setIfInBounds_toArray, List.set_cons_zero, List.set_cons_succ]
      refine takeFirst (i := 24) (v := ?_) rfl (by kernel_rfl) (by kernel_rfl) (by kernel_rfl) (by rfl) (fun _ _ _ h => h) ?_ (by assumption) ?_
      rotate_left
      · (intro w hSw; go_simp; try (with_reducible rfl))
      try simp only [Act.put, List.setIfInBounds_toArray, List.set_cons_zero, List.set_cons_succ]
      refine takeFirst (i := 25) (v := ?_) rfl (by kernel_rfl) (by kernel_rfl) (by kernel_rfl) (by rfl) (fun _ _ _ h => h) ?_ (by assumption) ?_
      rotate_left
      · (intro w hSw; go_simp; try (with_reducible rfl))
      try simp only [Act.put, List.setIfInBounds_toArray, List.set_cons_zero, List.set_cons_succ]
      refine takeFirst (i := 26) (v := ?_) rfl (by kernel_rfl) (by kernel_rfl) (by kernel_rfl) (by rfl) (fun _ _ _ h => h) ?_ (by assumption) ?_
      rotate_left
      · (intro w hSw; go_simp; try (with_reducible rfl))
      try simp only [Act.put, List.setIfInBounds_toArray, List.set_cons_zero, List.set_cons_succ]
      refine stepNext (i := 27) (by kernel_rfl) rfl (by rfl) (fun K hK => ?_)
      go_simp
      refine hK.out _ _ hHeld ?_
      clear hK K
      try simp only [Act.put]
      try simp only [List.setIfInBounds_toArray, List.set_cons_zero, List.set_cons_succ]
      refine wpAnyH_done (by kernel_rfl) ?_ _
      refine NoPanic.normal ?_
      clear hHeld a0 a1 a2 a3 z0 z1 z2 z3 o0 o1 o2 o3 o4 o5 s0 s1 s2 s3 d0 d1 d2 d3 d4 d5 r0
      go_wp2_with fail
      go_ret
      exact ⟨rfl, low⟩
  · have kl := set_lt hz
    have kd : decide ((ka : Int) < 0) = false := decide_eq_false (by omega)
    have ke : decide ((0 : Int) ≤ ka) = true := decide_eq_true (by omega)
    have k0 : (0 : Int) ≤ ka := by omega
    have k1 : (ka : Int) < l.length := by omega
    have RW := Lib.hid fun w' (hw : Ws w' (.slice (some ⟨bq, oq, none⟩) l.length cp) l) => rowWith_zero _ l a b c ka w' hw h4 kl
    have eqz := fun w => eqWay z z w
    rw [(eqW_iff z z).2 rfl] at eqz
    simp only [Wy.val] at eqz
    simp only [List.length_set] at bb wb ⊢
    obtain ⟨c0, c1, c2, c3, c4, c5⟩ := wayAt_of HQ.out hbq low hz
    obtain ⟨b0, b1, b2, b3⟩ := bb.rowC
    obtain ⟨r0, r1, r2, r3⟩ := rb.rowC
    obtain ⟨t0, t1, t2, t3, t4, t5⟩ := tb.wayC
    clear hz
    go_wp2_with fail
    refine wp_region_noPanic ?_
    refine wp_region_held_drew (S := fun w' => w'.cell? ⟨w3.heap.size, 0, none⟩ = some (.slice Ab l.length cb) ∧ w'.cell? ⟨w3.heap.size, 1, none⟩ = some (.bool a) ∧ w'.cell? ⟨w3.heap.size, 2, none⟩ = some (.bool b) ∧ w'.cell? ⟨w3.heap.size, 3, none⟩ = some (.bool c) ∧ w'.cell? ⟨w.heap.size, 0, none⟩ = some (.slice (some ⟨bq, oq, none⟩) l.length cp) ∧ w'.cell? ⟨w.heap.size, 1, none⟩ = some (.bool a) ∧ w'.cell? ⟨w.heap.size, 2, none⟩ = some (.bool b) ∧ w'.cell? ⟨w.heap.size, 3, none⟩ = some (.bool c) ∧ w'.cell? ⟨w3.heap.size + 1, 0, none⟩ = some (.int .i64 z.st) ∧ w'.cell? ⟨w3.heap.size + 1, 1, none⟩ = some (.int .i64 z.ln) ∧ w'.cell? ⟨w3.heap.size + 1, 2, none⟩ = some (.int .u64 z.a) ∧ w'.cell? ⟨w3.heap.size + 1, 3, none⟩ = some (.int .u64 z.b) ∧ w'.cell? ⟨w3.heap.size + 1, 4, none⟩ = some (.int .u64 z.c) ∧ w'.cell? ⟨w3.heap.size + 1, 5, none⟩ = some (.int .u64 z.d) ∧ w'.cell? ⟨bq, oq + ka * 6, none⟩ = some (.int .i64 z.st) ∧ w'.cell? ⟨bq, oq + ka * 6 + 1, none⟩ = some (.int .i64 z.ln) ∧ w'.cell? ⟨bq, oq + ka * 6 + 2, none⟩ = some (.int .u64 z.a) ∧ w'.cell? ⟨bq, oq + ka * 6 + 3, none⟩ = some (.int .u64 z.b) ∧ w'.cell? ⟨bq, oq + ka * 6 + 4, none⟩ = some (.int .u64 z.c) ∧ w'.cell? ⟨bq, oq + ka * 6 + 5, none⟩ = some (.int .u64 z.d)) (by kernel_rfl) ⟨drewC b0, drewC b1, drewC b2, drewC b3, drewC r0, drewC r1, drewC r2, drewC r3, drewC t0, drewC t1, drewC t2, drewC t3, drewC t4, drewC t5, drewC c0, drewC c1, drewC c2, drewC c3, drewC c4, drewC c5⟩ (fun hHeld => ?_)
    refine takeFirst (i := 0) (v := ?_) rfl (by kernel_rfl) (by kernel_rfl) (by kernel_rfl) (by rfl) (fun _ _ _ h => h) ?_ (by assumption) ?_
    rotate_left
    · (intro w hSw; go_simp; try (with_reducible rfl))
    try simp only [Act.put, List.setIfInBounds_toArray, List.set_cons_zero, List.set_cons_succ]
    refine takeFirst (i := 1) (v := ?_) rfl (by kernel_rfl) (by kernel_rfl) (by kernel_rfl) (by rfl) (fun _ _ _ h => h) ?_ (by assumption) ?_
    rotate_left
    · (intro w hSw; go_simp; try (with_reducible rfl))
    try simp only [Act.put, List.setIfInBounds_toArray, List.set_cons_zero, List.set_cons_succ]
    refine takeFirst (i := 2) (v := ?_) rfl (by kernel_rfl) (by kernel_rfl) (by kernel_rfl) (by rfl) (fun _ _ _ h => h) ?_ (by assumption) ?_
    rotate_left
    · (intro w hSw; go_simp; try (with_reducible rfl))
    try simp only [Act.put, List.setIfInBounds_toArray, List.set_cons_zero, List.set_cons_succ]
    refine skipFirst (i := 3) rfl (by kernel_rfl) (by kernel_rfl) (by kernel_rfl) (by rfl) (fun _ _ _ h => h) (by assumption) ?_
    try simp only [Act.put, List.setIfInBounds_toArray, List.set_cons_zero, List.set_cons_succ]
    refine skipFirst (i := 4) rfl (by kernel_rfl) (by kernel_rfl) (by kernel_rfl) (by rfl) (fun _ _ _ h => h) (by assumption) ?_
    try simp only [Act.put, List.setIfInBounds_toArray, List.set_cons_zero, List.set_cons_succ]
    refine skipFirst (i := 5) rfl (by kernel_rfl) (by kernel_rfl) (by kernel_rfl) (by rfl) (fun _ _ _ h => h) (by assumption) ?_
    try simp only [Act.put, List.setIfInBounds_toArray, List.set_cons_zero, List.set_cons_succ]
    refine skipFirst (i := 6) rfl (by kernel_rfl) (by kernel_rfl) (by kernel_rfl) (by rfl) (fun _ _ _ h => h) (by assumption) ?_
    try simp only [Act.put, List.setIfInBounds_toArray, List.set_cons_zero, List.set_cons_succ]
    refine skipFirst (i := 7) rfl (by kernel_rfl) (by kernel_rfl) (by kernel_rfl) (by rfl) (fun _ _ _ h => h) (by assumption) ?_
    try simp only [Act.put, List.setIfInBounds_toArray, List.set_cons_zero, List.set_cons_succ]
    refine skipFirst (i := 8) rfl (by kernel_rfl) (by kernel_rfl) (by kernel_rfl) (by rfl) (fun _ _ _ h => h) (by assumption) ?_
    try simp only [Act.put, List.setIfInBounds_toArray, List.set_cons_zero, List.set_cons_succ]
    refine skipFirst (i := 9) rfl (by kernel_rfl) (by kernel_rfl) (by kernel_rfl) (by rfl) (fun _ _ _ h => h) (by assumption) ?_
    try simp only [Act.put, List.setIfInBounds_toArray, List.set_cons_zero, List.set_cons_succ]
    refine skipFirst (i := 10) rfl (by kernel_rfl) (by kernel_rfl) (by kernel_rfl) (by rfl) (fun _ _ _ h => h) (by assumption) ?_
    try simp only [Act.put, List.setIfInBounds_toArray, List.set_cons_zero, List.set_cons_succ]
    refine skipFirst (i := 11) rfl (by kernel_rfl) (by kernel_rfl) (by kernel_rfl) (by rfl) (fun _ _ _ h => h) (by assumption) ?_
    try simp only [Act.put, List.setIfInBounds_toArray, List.set_cons_zero, List.set_cons_succ]
    refine skipFirst (i := 12) rfl (by kernel_rfl) (by kernel_rfl) (by kernel_rfl) (by rfl) (fun _ _ _ h => h) (by assumption) ?_
    try simp only [Act.put, List.setIfInBounds_toArray, List.set_cons_zero, List.set_cons_succ]
    refine skipFirst (i := 13) rfl (by kernel_rfl) (by kernel_rfl) (by kernel_rfl) (by rfl) (fun _ _ _ h => h) (by assumption) ?_
    try simp only [Act.put, List.setIfInBounds_toArray, List.set_cons_zero, List.set_cons_succ]
    refine skipFirst (i := 14) rfl (by kernel_rfl) (by kernel_rfl) (by kernel_rfl) (by rfl) (fun _ _ _ h => h) (by assumption) ?_
    try simp only [Act.put, List.setIfInBounds_toArray, List.set_cons_zero, List.set_cons_succ]
    refine skipFirst (i := 15) rfl (by kernel_rfl) (by kernel_rfl) (by kernel_rfl) (by rfl) (fun _ _ _ h => h) (by assumption) ?_
    try simp only [Act.put, List.setIfInBounds_toArray, List.set_cons_zero, List.set_cons_succ]
    refine takeFirst (i := 16) (v := ?_) rfl (by kernel_rfl) (by kernel_rfl) (by kernel_rfl) (by rfl) (fun _ _ _ h => h) ?_ (by assumption) ?_
    rotate_left
    · (intro w hSw; go_simp; try (with_reducible rfl))
    try simp only [Act.put, List.setIfInBounds_toArray, List.set_cons_zero, List.set_cons_succ]
    refine takeFirst (i := 17) (v := ?_) rfl (by kernel_rfl) (by kernel_rfl) (by kernel_rfl) (by rfl) (fun _ _ _ h => h) ?_ (by assumption) ?_
    rotate_left
    · (intro w hSw; go_simp; try (with_reducible rfl))
    try simp only [Act.put, List.setIfInBounds_toArray, List.set_cons_zero, List.set_cons_succ]
    refine takeFirst (i := 18) (v := ?_) rfl (by kernel_rfl) (by kernel_rfl) (by kernel_rfl) (by rfl) (fun _ _ _ h => h) ?_ (by assumption) ?_
    rotate_left
    · (intro w hSw; go_simp; try (with_reducible rfl))
    try simp only [Act.put, List.setIfInBounds_toArray, List.set_cons_zero, List.set_cons_succ]
    refine takeFirst (i := 19) (v := ?_) rfl (by kernel_rfl) (by kernel_rfl) (by kernel_rfl) (by rfl) (fun _ _ _ h => h) ?_ (by assumption) ?_
    rotate_left
    · (intro w hSw; go_simp; try (with_reducible rfl))
    try simp only [Act.put, List.setIfInBounds_toArray, List.set_cons_zero, List.set_cons_succ]
    refine takeFirst (i := 20) (v := ?_) rfl (by kernel_rfl) (by kernel_rfl) (by kernel_rfl) (by rfl) (fun _ _ _ h => h) ?_ (by assumption) ?_
    rotate_left
    · (intro w hSw; go_simp; try (with_reducible rfl))
    try simp only [Act.put, List.setIfInBounds_toArray, List.set_cons_zero, List.set_cons_succ]
    refine takeFirst (i := 21) (v := ?_) rfl (by kernel_rfl) (by kernel_rfl) (by kernel_rfl) (by rfl) (fun _ _ _ h => h) ?_ (by assumption) ?_
    rotate_left
    · (intro w hSw; go_simp; try (with_reducible rfl))
    try simp only [Act.put, List.setIfInBounds_toArray, List.set_cons_zero, List.set_cons_succ]
    refine takeFirst (i := 22) (v := ?_) rfl (by kernel_rfl) (by kernel_rfl) (by kernel_rfl) (by rfl) (fun _ _ _ h => h) ?_ (by assumption) ?_
    rotate_left
    · (intro w hSw; go_simp; try (with_reducible rfl))
    try simp only [Act.put, List.setIfInBounds_toArray, List.set_cons_zero, List.set_cons_succ]
    refine takeFirst (i := 23) (v := ?_) rfl (by kernel_rfl) (by kernel_rfl) (by kernel_rfl) (by rfl) (fun _ _ _ h => h) ?_ (by assumption) ?_
    rotate_left
    · (intro w hSw; go_simp; try (with_reducible rfl))
    try simp only [Act.put, List.setIfInBounds_toArray, List.set_cons_zero, List.set_cons_succ]
    refine takeFirst (i := 24) (v := ?_) rfl (by kernel_rfl) (by kernel_rfl) (by kernel_rfl) (by rfl) (fun _ _ _ h => h) ?_ (by assumption) ?_
    rotate_left
    · (intro w hSw; go_simp; try (with_reducible rfl))
    try simp only [Act.put, List.setIfInBounds_toArray, List.set_cons_zero, List.set_cons_succ]
    refine stepNext (i := 25) (by kernel_rfl) rfl (by rfl) (fun K hK => ?_)
    go_simp
    (with_reducible refine (RW.out _ h.drew).mono ?_); rintro e w8 ⟨⟨Ad, cd, rfl, wd⟩, hb⟩
    replace wb := Ws.call wb.drew hb
    replace h := Ws.call h.drew hb
    replace wa := Ws.call wa.drew hb
    replace wc := Ws.call wc.drew hb
    replace rb := Box.call rb.drew hb
    replace nb := Box.call nb.drew hb
    replace xb := Box.call xb.drew hb
    replace ab := Box.call ab.drew hb
    replace ob := Box.call ob.drew hb
    replace sb := Box.call sb.drew hb
    replace zb := Box.call zb.drew hb
    replace low := gCall low.drew hb
    obtain ⟨hh0, hh1, hh2, hh3, hh4, hh5, hh6, hh7, hh8, hh9, hh10, hh11, hh12, hh13, hh14, hh15, hh16, hh17, hh18, hh19⟩ := hHeld
    have hHeld := (And.intro (callC hb hh0) (And.intro (callC hb hh1) (And.intro (callC hb hh2) (And.intro (callC hb hh3) (And.intro (callC hb hh4) (And.intro (callC hb hh5) (And.intro (callC hb hh6) (And.intro (callC hb hh7) (And.intro (callC hb hh8) (And.intro (callC hb hh9) (And.intro (callC hb hh10) (And.intro (callC hb hh11) (And.intro (callC hb hh12) (And.intro (callC hb hh13) (And.intro (callC hb hh14) (And.intro (callC hb hh15) (And.intro (callC hb hh16) (And.intro (callC hb hh17) (And.intro (callC hb hh18) (callC hb hh19))))))))))))))))))))
    clear hh0 hh1 hh2 hh3 hh4 hh5 hh6 hh7 hh8 hh9 hh10 hh11 hh12 hh13 hh14 hh15 hh16 hh17 hh18 hh19
    clear hb
    refine hK.out _ _ hHeld ?_
    clear hK K
    try simp only [Act.put]
    try simp only [List.setIfInBounds_toArray, List.set_cons_zero, List.set_cons_succ]
    refine stepNext (i := 26) (by kernel_rfl) rfl (by rfl) (fun K hK => ?_)
    go_simp
    (with_reducible refine (same_as _ _ _ _ _ _ _ _ _ _ _ _ rfl wb wd).mono ?_); rintro e w9 ⟨rfl, hb⟩
    replace h := Ws.call h hb
    replace wa := Ws.call wa hb
    replace wc := Ws.call wc hb
    replace rb := Box.call rb hb
    replace nb := Box.call nb hb
    replace xb := Box.call xb hb
    replace ab := Box.call ab hb
    replace ob := Box.call ob hb
    replace sb := Box.call sb hb
    replace zb := Box.call zb hb
    replace low := gCall low hb
    obtain ⟨hh0, hh1, hh2, hh3, hh4, hh5, hh6, hh7, hh8, hh9, hh10, hh11, hh12, hh13, hh14, hh15, hh16, hh17, hh18, hh19⟩ := hHeld
    have hHeld := (And.intro (callC hb hh0) (And.intro (callC hb hh1) (And.intro (callC hb hh2) (And.intro (callC hb hh3) (And.intro (callC hb hh4) (And.intro (callC hb hh5) (And.intro (callC hb hh6) (And.intro (callC hb hh7) (And.intro (callC hb hh8) (And.intro (callC hb hh9) (And.intro (callC hb hh10) (And.intro (callC hb hh11) (And.intro (callC hb hh12) (And.intro (callC hb hh13) (And.intro (callC hb hh14) (And.intro (callC hb hh15) (And.intro (callC hb hh16) (And.intro (callC hb hh17) (And.intro (callC hb hh18) (callC hb hh19))))))))))))))))))))
    clear hh0 hh1 hh2 hh3 hh4 hh5 hh6 hh7 hh8 hh9 hh10 hh11 hh12 hh13 hh14 hh15 hh16 hh17 hh18 hh19
    clear hb wd
    refine hK.out _ _ hHeld ?_
    clear hK K
    try simp only [Act.put]
    try simp only [List.setIfInBounds_toArray, List.set_cons_zero, List.set_cons_succ]
    refine takeFirst (i := 27) (v := ?_) rfl (by kernel_rfl) (by kernel_rfl) (by kernel_rfl) (by rfl) (fun _ _ _ h => h) ?_ (by assumption) ?_
    rotate_left
    · (intro w hSw; go_simp; try (with_reducible rfl))
    try simp only [Act.put, List.setIfInBounds_toArray, List.set_cons_zero, List.set_cons_succ]
    refine takeFirst (i := 28) (v := ?_) rfl (by kernel_rfl) (by kernel_rfl) (by kernel_rfl) (by rfl) (fun _ _ _ h => h) ?_ (by assumption) ?_
    rotate_left
    · (intro w hSw; go_simp; try (with_reducible rfl))
    try simp only [Act.put, List.setIfInBounds_toArray, List.set_cons_zero, List.set_cons_succ]
    refine takeFirst (i := 29) (v := ?_) rfl (by kernel_rfl) (by kernel_rfl) (by kernel_rfl) (by rfl) (fun _ _ _ h => h) ?_ (by assumption) ?_
    rotate_left
    · (intro w hSw; go_simp; try (with_reducible rfl))
    try simp only [Act.put, List.setIfInBounds_toArray, List.set_cons_zero, List.set_cons_succ]
    refine takeFirst (i := 30) (v := ?_) rfl (by kernel_rfl) (by kernel_rfl) (by kernel_rfl) (by rfl) (fun _ _ _ h => h) ?_ (by assumption) ?_
    rotate_left
    · (intro w hSw; go_simp; try (with_reducible rfl))
    try simp only [Act.put, List.setIfInBounds_toArray, List.set_cons_zero, List.set_cons_succ]
    refine takeFirst (i := 31) (v := ?_) rfl (by kernel_rfl) (by kernel_rfl) (by kernel_rfl) (by rfl) (fun _ _ _ h => h) ?_ (by assumption) ?_
    rotate_left
    · (intro w hSw; go_simp; try (with_reducible rfl))
    try simp only [Act.put, List.setIfInBounds_toArray, List.set_cons_zero, List.set_cons_succ]
    refine takeFirst (i := 32) (v := ?_) rfl (by kernel_rfl) (by kernel_rfl) (by kernel_rfl) (by rfl) (fun _ _ _ h => h) ?_ (by assumption) ?_
    rotate_left
    · (intro w hSw; go_simp; try (with_reducible rfl))
    try simp only [Act.put, List.setIfInBounds_toArray, List.set_cons_zero, List.set_cons_succ]
    refine takeFirst (i := 33) (v := ?_) rfl (by kernel_rfl) (by kernel_rfl) (by kernel_rfl) (by rfl) (fun _ _ _ h => h) ?_ (by assumption) ?_
    rotate_left
    · (intro w hSw; go_simp; try (with_reducible rfl))
    try simp only [Act.put, List.setIfInBounds_toArray, List.set_cons_zero, List.set_cons_succ]
    refine takeFirst (i := 34) (v := ?_) rfl (by kernel_rfl) (by kernel_rfl) (by kernel_rfl) (by rfl) (fun _ _ _ h => h) ?_ (by assumption) ?_
    rotate_left
    · (intro w hSw; go_simp; try (with_reducible rfl))
    try simp only [Act.put, List.setIfInBounds_toArray, List.set_cons_zero, List.set_cons_succ]
    refine takeFirst (i := 35) (v := ?_) rfl (by kernel_rfl) (by kernel_rfl) (by kernel_rfl) (by rfl) (fun _ _ _ h => h) ?_ (by assumption) ?_
    rotate_left
    · (intro w hSw; go_simp; try (with_reducible rfl))
    try simp only [Act.put, List.setIfInBounds_toArray, List.set_cons_zero, List.set_cons_succ]
    refine takeFirst (i := 36) (v := ?_) rfl (by kernel_rfl) (by kernel_rfl) (by kernel_rfl) (by rfl) (fun _ _ _ h => h) ?_ (by assumption) ?_
    rotate_left
    · (intro w hSw; go_simp; try (with_reducible rfl))
    try simp only [Act.put, List.setIfInBounds_toArray, List.set_cons_zero, List.set_cons_succ]
    refine takeFirst (i := 37) (v := ?_) rfl (by kernel_rfl) (by kernel_rfl) (by kernel_rfl) (by rfl) (fun _ _ _ h => h) ?_ (by assumption) ?_
    rotate_left
    · (intro w hSw; go_simp; try (with_reducible rfl))
    try simp only [Act.put, List.setIfInBounds_toArray, List.set_cons_zero, List.set_cons_succ]
    refine takeFirst (i := 38) (v := ?_) rfl (by kernel_rfl) (by kernel_rfl) (by kernel_rfl) (by rfl) (fun _ _ _ h => h) ?_ (by assumption) ?_
    rotate_left
    · (intro w hSw; go_simp; try (with_reducible rfl))
    try simp only [Act.put, List.setIfInBounds_toArray, List.set_cons_zero, List.set_cons_succ]
    refine takeFirst (i := 39) (v := ?_) rfl (by kernel_rfl) (by kernel_rfl) (by kernel_rfl) (by rfl) (fun _ _ _ h => h) ?_ (by assumption) ?_
    rotate_left
    · (intro w hSw; go_simp; try (with_reducible rfl))
    try simp only [Act.put, List.setIfInBounds_toArray, List.set_cons_zero, List.set_cons_succ]
    refine takeFirst (i := 40) (v := ?_) rfl (by kernel_rfl) (by kernel_rfl) (by kernel_rfl) (by rfl) (fun _ _ _ h => h) ?_ (by assumption) ?_
    rotate_left
    · (intro w hSw; go_simp; try (with_reducible rfl))
    try simp only [Act.put, List.setIfInBounds_toArray, List.set_cons_zero, List.set_cons_succ]
    refine takeFirst (i := 41) (v := ?_) rfl (by kernel_rfl) (by kernel_rfl) (by kernel_rfl) (by rfl) (fun _ _ _ h => h) ?_ (by assumption) ?_
    rotate_left
    · (intro w hSw; go_simp; try (with_reducible rfl))
    try simp only [Act.put, List.setIfInBounds_toArray, List.set_cons_zero, List.set_cons_succ]
    refine takeFirst (i := 42) (v := ?_) rfl (by kernel_rfl) (by kernel_rfl) (by kernel_rfl) (by rfl) (fun _ _ _ h => h) ?_ (by assumption) ?_
    rotate_left
    · (intro w hSw; go_simp; try (with_reducible rfl))
    try simp only [Act.put, List.setIfInBounds_toArray, List.set_cons_zero, List.set_cons_succ]
    refine wpAnyH_done (by kernel_rfl) ?_ _
    refine NoPanic.normal ?_
    clear hHeld b0 b1 b2 b3 r0 r1 r2 r3 t0 t1 t2 t3 t4 t5 c0 c1 c2 c3 c4 c5 bb tb wb
    have WF := Lib.hid fun w => wayFault_any x w
    rcases x_cases HE.out.1 PI.out SI.out with ⟨hx, rfl, rfl, rfl, rfl, rfl, rfl, rfl⟩ | ⟨kt, hx, hkt, ktl, rfl, rfl, rfl, rfl, rfl, rfl, rfl⟩ | ⟨kp, hx, hft, hkp, hy, rfl, rfl, rfl, rfl, rfl, rfl⟩
    · simp only [List.length_nil, wy0] at ab wa ob sb wc ⊢
      have hg := wayF_bad hx
      generalize wayF x = g at WF hg
      clear hx
      have xb_0 := xb.at_ 0 rfl
      have xb_1 := xb.at_ 1 rfl
      have xb_2 := xb.at_ 2 rfl
      have xb_3 := xb.at_ 3 rfl
      have xb_4 := xb.at_ 4 rfl
      have xb_5 := xb.at_ 5 rfl
      go_wp2_with fail
      (with_reducible refine (WF.out _).mono ?_); rintro e w10 ⟨rfl, hb⟩
      replace wa := wa.call hb
      replace wc := wc.call hb
      replace xb := xb.call hb
      replace ab := ab.call hb
      replace ob := ob.call hb
      replace sb := sb.call hb
      replace zb := zb.call hb
      replace low := gCall low hb
      clear hb xb_0 xb_1 xb_2 xb_3 xb_4 xb_5
      rcases hg with g0 | ⟨g0, g1⟩
      all_goals
        have xb_0 := xb.at_ 0 rfl
        have ab_0 := ab.at_ 0 rfl
        have ab_1 := ab.at_ 1 rfl
        have ab_2 := ab.at_ 2 rfl
        have ab_3 := ab.at_ 3 rfl
        have zb_0 := zb.at_ 0 rfl
        have zb_1 := zb.at_ 1 rfl
        have zb_2 := zb.at_ 2 rfl
        have zb_3 := zb.at_ 3 rfl
        go_wp2_with fail
        (with_reducible refine (same_nil _ _ _ wa).mono ?_); rintro e w11 ⟨rfl, hb⟩
        replace wc := wc.call hb
        replace ob := ob.call hb
        replace sb := sb.call hb
        replace zb := zb.call hb
        replace low := gCall low hb
        clear hb xb_0 ab_0 ab_1 ab_2 ab_3 zb_0 zb_1 zb_2 zb_3
        have ob_0 := ob.at_ 0 rfl
        have ob_1 := ob.at_ 1 rfl
        have ob_2 := ob.at_ 2 rfl
        have ob_3 := ob.at_ 3 rfl
        have ob_4 := ob.at_ 4 rfl
        have ob_5 := ob.at_ 5 rfl
        have sb_0 := sb.at_ 0 rfl
        have sb_1 := sb.at_ 1 rfl
        have sb_2 := sb.at_ 2 rfl
        have sb_3 := sb.at_ 3 rfl
        have zb_0 := zb.at_ 0 rfl
        have zb_1 := zb.at_ 1 rfl
        have zb_2 := zb.at_ 2 rfl
        have zb_3 := zb.at_ 3 rfl
        go_wp2_with fail
        (with_reducible refine (same_nil _ _ _ wc).mono ?_); rintro e w12 ⟨rfl, hb⟩
        replace zb := zb.call hb
        replace low := gCall low hb
        clear hb ob_0 ob_1 ob_2 ob_3 ob_4 ob_5 sb_0 sb_1 sb_2 sb_3 zb_0 zb_1 zb_2 zb_3
        go_wp2_with fail
        go_ret
        exact ⟨rfl, low⟩
    · simp only [List.length_nil, List.length_set, wy0] at ab wa ob sb wc ⊢
      obtain ⟨g0, g1⟩ := wayF_good hx
      rw [g0] at WF
      clear hx g0
      have RX := Lib.hid fun w hw => rowAt_any (.slice (some ⟨bq, oq, none⟩) l.length cp) l a b c x.ln w hw
      rw [hkt] at RX
      have WI := Lib.hid fun p q r w hw r1 r2 r3 => with_any (.slice (some ⟨bq, oq, none⟩) l.length cp) l a b c n kt x p q r w hw HE.out.2.1 HE.out.2.2 ktl r1 r2 r3
      generalize touchT a b c n kt = t at *
      have ke : decide ((0 : Int) ≤ kt) = true := decide_eq_true (by omega)
      clear hkt
      have xb_0 := xb.at_ 0 rfl
      have xb_1 := xb.at_ 1 rfl
      have xb_2 := xb.at_ 2 rfl
      have xb_3 := xb.at_ 3 rfl
      have xb_4 := xb.at_ 4 rfl
      have xb_5 := xb.at_ 5 rfl
      go_wp2_with fail
      (with_reducible refine (WF.out _).mono ?_); rintro e w10 ⟨rfl, hb⟩
      replace h := h.call hb
      replace wa := wa.call hb
      replace wc := wc.call hb
      replace rb := rb.call hb
      replace nb := nb.call hb
      replace xb := xb.call hb
      replace ab := ab.call hb
      replace ob := ob.call hb
      replace sb := sb.call hb
      replace zb := zb.call hb
      replace low := gCall low hb
      clear hb xb_0 xb_1 xb_2 xb_3 xb_4 xb_5
      have rb_0 := rb.at_ 0 rfl
      have rb_1 := rb.at_ 1 rfl
      have rb_2 := rb.at_ 2 rfl
      have rb_3 := rb.at_ 3 rfl
      have xb_0 := xb.at_ 0 rfl
      have xb_1 := xb.at_ 1 rfl
      go_wp2_with fail
      (with_reducible refine (RX.out _ h).mono ?_); rintro e w11 ⟨rfl, hb⟩
      replace h := h.call hb
      replace wa := wa.call hb
      replace wc := wc.call hb
      replace rb := rb.call hb
      replace nb := nb.call hb
      replace xb := xb.call hb
      replace ab := ab.call hb
      replace ob := ob.call hb
      replace sb := sb.call hb
      replace zb := zb.call hb
      replace low := gCall low hb
      clear hb rb_0 rb_1 rb_2 rb_3 xb_0 xb_1
      go_wp2_with fail
      obtain ⟨a0, a1, a2, a3⟩ := ab.rowC
      obtain ⟨z0, z1, z2, z3⟩ := zb.rowC
      obtain ⟨o0, o1, o2, o3, o4, o5⟩ := Box.wayC (x := ⟨0, 0, 0, 0, 0, 0⟩) ob
      obtain ⟨s0, s1, s2, s3⟩ := sb.rowC
      refine wp_region_noPanic ?_
      refine wp_region_held_drew (S := fun w' => w'.cell? ⟨w2.heap.size, 0, none⟩ = some (.slice Aa 0 ca) ∧ w'.cell? ⟨w2.heap.size, 1, none⟩ = some (.bool false) ∧ w'.cell? ⟨w2.heap.size, 2, none⟩ = some (.bool false) ∧ w'.cell? ⟨w2.heap.size, 3, none⟩ = some (.bool false) ∧ w'.cell? ⟨w4.heap.size + 1, 0, none⟩ = some (.slice none 0 0) ∧ w'.cell? ⟨w4.heap.size + 1, 1, none⟩ = some (.bool false) ∧ w'.cell? ⟨w4.heap.size + 1, 2, none⟩ = some (.bool false) ∧ w'.cell? ⟨w4.heap.size + 1, 3, none⟩ = some (.bool false) ∧ w'.cell? ⟨w2.heap.size + 1, 0, none⟩ = some (.int .i64 0) ∧ w'.cell? ⟨w2.heap.size + 1, 1, none⟩ = some (.int .i64 0) ∧ w'.cell? ⟨w2.heap.size + 1, 2, none⟩ = some (.int .u64 0) ∧ w'.cell? ⟨w2.heap.size + 1, 3, none⟩ = some (.int .u64 0) ∧ w'.cell? ⟨w2.heap.size + 1, 4, none⟩ = some (.int .u64 0) ∧ w'.cell? ⟨w2.heap.size + 1, 5, none⟩ = some (.int .u64 0) ∧ w'.cell? ⟨w4.heap.size, 0, none⟩ = some (.slice Ac l.length cc) ∧ w'.cell? ⟨w4.heap.size, 1, none⟩ = some (.bool t.1) ∧ w'.cell? ⟨w4.heap.size, 2, none⟩ = some (.bool t.2.1) ∧ w'.cell? ⟨w4.heap.size, 3, none⟩ = some (.bool t.2.2)) (by kernel_rfl) ⟨drewC a0, drewC a1, drewC a2, drewC a3, drewC z0, drewC z1, drewC z2, drewC z3, drewC o0, drewC o1, drewC o2, drewC o3, drewC o4, drewC o5, drewC s0, drewC s1, drewC s2, drewC s3⟩ (fun hHeld => ?_)
      refine takeFirst (i := 0) (v := ?_) rfl (by kernel_rfl) (by kernel_rfl) (by kernel_rfl) (by rfl) (fun _ _ _ h => h) ?_ (by assumption) ?_
      rotate_left
      · (intro w hSw; go_simp; try (with_reducible rfl))
      try simp only [Act.put, List.setIfInBounds_toArray, List.set_cons_zero, List.set_cons_succ]
      refine takeFirst (i := 1) (v := ?_) rfl (by kernel_rfl) (by kernel_rfl) (by kernel_rfl) (by rfl) (fun _ _ _ h => h) ?_ (by assumption) ?_
      rotate_left
      · (intro w hSw; go_simp; try (with_reducible rfl))
      try simp only [Act.put, List.setIfInBounds_toArray, List.set_cons_zero, List.set_cons_succ]
      refine stepNext (i := 2) (by kernel_rfl) rfl (by rfl) (fun K hK => ?_)
      go_simp
      (with_reducible refine (same_nil _ _ _ wa.drew).mono ?_); rintro e w12 ⟨rfl, hb⟩
      replace h := Ws.call h.drew hb
      replace wa := Ws.call wa.drew hb
      replace wc := Ws.call wc.drew hb
      replace rb := Box.call rb.drew hb
      replace nb := Box.call nb.drew hb
      replace xb := Box.call xb.drew hb
      replace ab := Box.call ab.drew hb
      replace ob := Box.call ob.drew hb
      replace sb := Box.call sb.drew hb
      replace zb := Box.call zb.drew hb
      replace low := gCall low.drew hb
      obtain ⟨hh0, hh1, hh2, hh3, hh4, hh5, hh6, hh7, hh8, hh9, hh10, hh11, hh12, hh13, hh14, hh15, hh16, hh17⟩ := hHeld
      have hHeld := (And.intro (callC hb hh0) (And.intro (callC hb hh1) (And.intro (callC hb hh2) (And.intro (callC hb hh3) (And.intro (callC hb hh4) (And.intro (callC hb hh5) (And.intro (callC hb hh6) (And.intro (callC hb hh7) (And.intro (callC hb hh8) (And.intro (callC hb hh9) (And.intro (callC hb hh10) (And.intro (callC hb hh11) (And.intro (callC hb hh12) (And.intro (callC hb hh13) (And.intro (callC hb hh14) (And.intro (callC hb hh15) (And.intro (callC hb hh16) (callC hb hh17))))))))))))))))))
      clear hh0 hh1 hh2 hh3 hh4 hh5 hh6 hh7 hh8 hh9 hh10 hh11 hh12 hh13 hh14 hh15 hh16 hh17
      clear hb
      refine hK.out _ _ hHeld ?_
      clear hK K
      try simp only [Act.put]
      try simp only [List.setIfInBounds_toArray, List.set_cons_zero, List.set_cons_succ]
      refine takeFirst (i := 3) (v := ?_) rfl (by kernel_rfl) (by kernel_rfl) (by kernel_rfl) (by rfl) (fun _ _ _ h => h) ?_ (by assumption) ?_
      rotate_left
      · (intro w hSw; go_simp; try (with_reducible rfl))
      try simp only [Act.put, List.setIfInBounds_toArray, List.set_cons_zero, List.set_cons_succ]
      refine takeFirst (i := 4) (v := ?_) rfl (by kernel_rfl) (by kernel_rfl) (by kernel_rfl) (by rfl) (fun _ _ _ h => h) ?_ (by assumption) ?_
      rotate_left
      · (intro w hSw; go_simp; try (with_reducible rfl))
      try simp only [Act.put, List.setIfInBounds_toArray, List.set_cons_zero, List.set_cons_succ]
      refine takeFirst (i := 5) (v := ?_) rfl (by kernel_rfl) (by kernel_rfl) (by kernel_rfl) (by rfl) (fun _ _ _ h => h) ?_ (by assumption) ?_
      rotate_left
      · (intro w hSw; go_simp; try (with_reducible rfl))
      try simp only [Act.put, List.setIfInBounds_toArray, List.set_cons_zero, List.set_cons_succ]
      refine takeFirst (i := 6) (v := ?_) rfl (by kernel_rfl) (by kernel_rfl) (by kernel_rfl) (by rfl) (fun _ _ _ h => h) ?_ (by assumption) ?_
      rotate_left
      · (intro w hSw; go_simp; try (with_reducible rfl))
      try simp only [Act.put, List.setIfInBounds_toArray, List.set_cons_zero, List.set_cons_succ]
      refine takeFirst (i := 7) (v := ?_) rfl (by kernel_rfl) (by kernel_rfl) (by kernel_rfl) (by rfl) (fun _ _ _ h => h) ?_ (by assumption) ?_
      rotate_left
      · (intro w hSw; go_simp; try (with_reducible rfl))
      try simp only [Act.put, List.setIfInBounds_toArray, List.set_cons_zero, List.set_cons_succ]
      refine takeFirst (i := 8) (v := ?_) rfl (by kernel_rfl) (by kernel_rfl) (by kernel_rfl) (by rfl) (fun _ _ _ h => h) ?_ (by assumption) ?_
      rotate_left
      · (intro w hSw; go_simp; try (with_reducible rfl))
      try simp only [Act.put, List.setIfInBounds_toArray, List.set_cons_zero, List.set_cons_succ]
      refine takeFirst (i := 9) (v := ?_) rfl (by kernel_rfl) (by kernel_rfl) (by kernel_rfl) (by rfl) (fun _ _ _ h => h) ?_ (by assumption) ?_
      rotate_left
      · (intro w hSw; go_simp; try (with_reducible rfl))
      try simp only [Act.put, List.setIfInBounds_toArray, List.set_cons_zero, List.set_cons_succ]
      refine takeFirst (i := 10) (v := ?_) rfl (by kernel_rfl) (by kernel_rfl) (by kernel_rfl) (by rfl) (fun _ _ _ h => h) ?_ (by assumption) ?_
      rotate_left
      · (intro w hSw; go_simp; try (with_reducible rfl))
      try simp only [Act.put, List.setIfInBounds_toArray, List.set_cons_zero, List.set_cons_succ]
      refine takeFirst (i := 11) (v := ?_) rfl (by kernel_rfl) (by kernel_rfl) (by kernel_rfl) (by rfl) (fun _ _ _ h => h) ?_ (by assumption) ?_
      rotate_left
      · (intro w hSw; go_simp; try (with_reducible rfl))
      try simp only [Act.put, List.setIfInBounds_toArray, List.set_cons_zero, List.set_cons_succ]
      refine takeFirst (i := 12) (v := ?_) rfl (by kernel_rfl) (by kernel_rfl) (by kernel_rfl) (by rfl) (fun _ _ _ h => h) ?_ (by assumption) ?_
      rotate_left
      · (intro w hSw; go_simp; try (with_reducible rfl))
      try simp only [Act.put, List.setIfInBounds_toArray, List.set_cons_zero, List.set_cons_succ]
      refine takeFirst (i := 13) (v := ?_) rfl (by kernel_rfl) (by kernel_rfl) (by kernel_rfl) (by rfl) (fun _ _ _ h => h) ?_ (by assumption) ?_
      rotate_left
      · (intro w hSw; go_simp; try (with_reducible rfl))
      try simp only [Act.put, List.setIfInBounds_toArray, List.set_cons_zero, List.set_cons_succ]
      refine takeFirst (i := 14) (v := ?_) rfl (by kernel_rfl) (by kernel_rfl) (by kernel_rfl) (by rfl) (fun _ _ _ h => h) ?_ (by assumption) ?_
      rotate_left
      · (intro w hSw; go_simp; try (with_reducible rfl))
      try simp only [Act.put, List.setIfInBounds_toArray, List.set_cons_zero, List.set_cons_succ]
      refine takeFirst (i := 15) (v := ?_) rfl (by kernel_rfl) (by kernel_rfl) (by kernel_rfl) (by rfl) (fun _ _ _ h => h) ?_ (by assumption) ?_
      rotate_left
      · (intro w hSw; go_simp; try (with_reducible rfl))
      try simp only [Act.put, List.setIfInBounds_toArray, List.set_cons_zero, List.set_cons_succ]
      refine stepNext (i := 16) (by kernel_rfl) rfl (by rfl) (fun K hK => ?_)
      go_simp
      (with_reducible refine (WI.out _ _ _ _ h rb xb nb).mono ?_); rintro e w13 ⟨⟨Ad, cd, rfl, wd⟩, hb⟩
      replace h := Ws.call h hb
      replace wa := Ws.call wa hb
      replace wc := Ws.call wc hb
      replace rb := Box.call rb hb
      replace nb := Box.call nb hb
      replace xb := Box.call xb hb
      replace ab := Box.call ab hb
      replace ob := Box.call ob hb
      replace sb := Box.call sb hb
      replace zb := Box.call zb hb
      replace low := gCall low hb
      obtain ⟨hh0, hh1, hh2, hh3, hh4, hh5, hh6, hh7, hh8, hh9, hh10, hh11, hh12, hh13, hh14, hh15, hh16, hh17⟩ := hHeld
      have hHeld := (And.intro (callC hb hh0) (And.intro (callC hb hh1) (And.intro (callC hb hh2) (And.intro (callC hb hh3) (And.intro (callC hb hh4) (And.intro (callC hb hh5) (And.intro (callC hb hh6) (And.intro (callC hb hh7) (And.intro (callC hb hh8) (And.intro (callC hb hh9) (And.intro (callC hb hh10) (And.intro (callC hb hh11) (And.intro (callC hb hh12) (And.intro (callC hb hh13) (And.intro (callC hb hh14) (And.intro (callC hb hh15) (And.intro (callC hb hh16) (callC hb hh17))))))))))))))))))
      clear hh0 hh1 hh2 hh3 hh4 hh5 hh6 hh7 hh8 hh9 hh10 hh11 hh12 hh13 hh14 hh15 hh16 hh17
      clear hb
      refine hK.out _ _ hHeld ?_
      clear hK K
      try simp only [Act.put]
      try simp only [List.setIfInBounds_toArray, List.set_cons_zero, List.set_cons_succ]
      refine stepNext (i := 17) (by kernel_rfl) rfl (by rfl) (fun K hK => ?_)
      go_simp
      (with_reducible refine (same_as _ _ _ _ _ _ _ _ _ _ _ _ rfl wc wd).mono ?_); rintro e w14 ⟨rfl, hb⟩
      replace low := gCall low hb
      obtain ⟨hh0, hh1, hh2, hh3, hh4, hh5, hh6, hh7, hh8, hh9, hh10, hh11, hh12, hh13, hh14, hh15, hh16, hh17⟩ := hHeld
      have hHeld := (And.intro (callC hb hh0) (And.intro (callC hb hh1) (And.intro (callC hb hh2) (And.intro (callC hb hh3) (And.intro (callC hb hh4) (And.intro (callC hb hh5) (And.intro (callC hb hh6) (And.intro (callC hb hh7) (And.intro (callC hb hh8) (And.intro (callC hb hh9) (And.intro (callC hb hh10) (And.intro (callC hb hh11) (And.intro (callC hb hh12) (And.intro (callC hb hh13) (And.intro (callC hb hh14) (And.intro (callC hb hh15) (And.intro (callC hb hh16) (callC hb hh17))))))))))))))))))
      clear hh0 hh1 hh2 hh3 hh4 hh5 hh6 hh7 hh8 hh9 hh10 hh11 hh12 hh13 hh14 hh15 hh16 hh17
      clear hb wd
      refine hK.out _ _ hHeld ?_
      clear hK K
      try simp only [Act.put]
      try simp only [List.setIfInBounds_toArray, List.set_cons_zero, List.set_cons_succ]
      refine takeFirst (i := 18) (v := ?_) rfl (by kernel_rfl) (by kernel_rfl) (by kernel_rfl) (by rfl) (fun _ _ _ h => h) ?_ (by assumption) ?_
      rotate_left
      · (intro w hSw; go_simp; try (with_reducible rfl))
      try simp only [Act.put, List.setIfInBounds_toArray, List.set_cons_zero, List.set_cons_succ]
      refine takeFirst (i := 19) (v := ?_) rfl (by kernel_rfl) (by kernel_rfl) (by kernel_rfl) (by rfl) (fun _ _ _ h => h) ?_ (by assumption) ?_
      rotate_left
      · (intro w hSw; go_simp; try (with_reducible rfl))
      try simp only [Act.put, List.setIfInBounds_toArray, List.set_cons_zero, List.set_cons_succ]
      refine takeFirst (i := 20) (v := ?_) rfl (by kernel_rfl) (by kernel_rfl) (by kernel_rfl) (by rfl) (fun _ _ _ h => h) ?_ (by assumption) ?_
      rotate_left
      · (intro w hSw; go_simp; try (with_reducible rfl))
      try simp only [Act.put, List.setIfInBounds_toArray, List.set_cons_zero, List.set_cons_succ]
      refine takeFirst (i := 21) (v := ?_) rfl (by kernel_rfl) (by kernel_rfl) (by kernel_rfl) (by rfl) (fun _ _ _ h => h) ?_ (by assumption) ?_
      rotate_left
      · (intro w hSw; go_simp; try (with_reducible rfl))
      try simp only [Act.put, List.setIfInBounds_toArray, List.set_cons_zero, List.set_cons_succ]
      refine takeFirst (i := 22) (v := ?_) rfl (by kernel_rfl) (by kernel_rfl) (by kernel_rfl) (by rfl) (fun _ _ _ h => h) ?_ (by assumption) ?_
      rotate_left
      · (intro w hSw; go_simp; try (with_reducible rfl))
      try simp only [Act.put, List.setIfInBounds_toArray, List.set_cons_zero, List.set_cons_succ]
      refine stepNext (i := 23) (by kernel_rfl) rfl (by rfl) (fun K hK => ?_)
      go_simp
      refine hK.out _ _ hHeld ?_
      clear hK K
      try simp only [Act.put]
      try simp only [List.setIfInBounds_toArray, List.set_cons_zero, List.set_cons_succ]
      refine wpAnyH_done (by kernel_rfl) ?_ _
      refine NoPanic.normal ?_
      clear hHeld a0 a1 a2 a3 z0 z1 z2 z3 o0 o1 o2 o3 o4 o5 s0 s1 s2 s3
      go_wp2_with fail
      go_ret
      exact ⟨rfl, low⟩
    · simp only [List.length_nil, List.length_set] at ab wa sb wc ⊢
      obtain ⟨g0, g1⟩ := wayF_good hx
      rw [g0] at WF
      clear hx g0
      have kpl := set_lt hy
      have RX := Lib.hid fun w hw => rowAt_any (.slice (some ⟨bq, oq, none⟩) l.length cp) l a b c x.ln w hw
      have RP := Lib.hid fun w hw => rowPutAt_any (.slice (some ⟨bq, oq, none⟩) l.length cp) l a b c n w hw HE.out.2.1
      rw [hkp] at RP
      have WI := Lib.hid fun p q r w hw r1 r2 r3 => with_any (.slice (some ⟨bq, oq, none⟩) l.length cp) l a b c n kp x p q r w hw HE.out.2.1 HE.out.2.2 kpl r1 r2 r3
      generalize touchT a b c n kp = t at *
      generalize idxP (hasW x.ln) l = f2 at RX hft
      have ke : decide (0 ≤ f2) = false := decide_eq_false (by omega)
      have k0 : (0 : Int) ≤ kp := by omega
      have k1 : (kp : Int) < l.length := by omega
      have eqy := fun w => eqWay y y w
      rw [(eqW_iff y y).2 rfl] at eqy
      simp only [Wy.val] at eqy
      have HY := Lib.hid hy
      clear hkp hft hy
      have xb_0 := xb.at_ 0 rfl
      have xb_1 := xb.at_ 1 rfl
      have xb_2 := xb.at_ 2 rfl
      have xb_3 := xb.at_ 3 rfl
      have xb_4 := xb.at_ 4 rfl
      have xb_5 := xb.at_ 5 rfl
      go_wp2_with fail
      (with_reducible refine (WF.out _).mono ?_); rintro e w10 ⟨rfl, hb⟩
      replace h := h.call hb
      replace wa := wa.call hb
      replace wc := wc.call hb
      replace rb := rb.call hb
      replace nb := nb.call hb
      replace xb := xb.call hb
      replace ab := ab.call hb
      replace ob := ob.call hb
      replace sb := sb.call hb
      replace zb := zb.call hb
      replace low := gCall low hb
      clear hb xb_0 xb_1 xb_2 xb_3 xb_4 xb_5
      have rb_0 := rb.at_ 0 rfl
      have rb_1 := rb.at_ 1 rfl
      have rb_2 := rb.at_ 2 rfl
      have rb_3 := rb.at_ 3 rfl
      have xb_0 := xb.at_ 0 rfl
      have xb_1 := xb.at_ 1 rfl
      go_wp2_with fail
      (with_reducible refine (RX.out _ h).mono ?_); rintro e w11 ⟨rfl, hb⟩
      replace h := h.call hb
      replace wa := wa.call hb
      replace wc := wc.call hb
      replace rb := rb.call hb
      replace nb := nb.call hb
      replace xb := xb.call hb
      replace ab := ab.call hb
      replace ob := ob.call hb
      replace sb := sb.call hb
      replace zb := zb.call hb
      replace low := gCall low hb
      clear hb rb_0 rb_1 rb_2 rb_3 xb_0 xb_1
      have rb_0 := rb.at_ 0 rfl
      have rb_1 := rb.at_ 1 rfl
      have rb_2 := rb.at_ 2 rfl
      have rb_3 := rb.at_ 3 rfl
      have nb_0 := nb.at_ 0 rfl
      go_wp2_with fail
      (with_reducible refine (RP.out _ h).mono ?_); rintro e w12 ⟨rfl, hb⟩
      replace h := h.call hb
      replace wa := wa.call hb
      replace wc := wc.call hb
      replace rb := rb.call hb
      replace nb := nb.call hb
      replace xb := xb.call hb
      replace ab := ab.call hb
      replace ob := ob.call hb
      replace sb := sb.call hb
      replace zb := zb.call hb
      replace low := gCall low hb
      clear hb rb_0 rb_1 rb_2 rb_3 nb_0
      go_wp2_with fail
      obtain ⟨d0, d1, d2, d3, d4, d5⟩ := wayAt_of HQ.out hbq low HY.out
      obtain ⟨a0, a1, a2, a3⟩ := ab.rowC
      obtain ⟨z0, z1, z2, z3⟩ := zb.rowC
      obtain ⟨o0, o1, o2, o3, o4, o5⟩ := ob.wayC
      obtain ⟨s0, s1, s2, s3⟩ := sb.rowC
      obtain ⟨r0, _, _, _⟩ := rb.rowC
      refine wp_region_noPanic ?_
      refine wp_region_held_drew (S := fun w' => w'.cell? ⟨w2.heap.size, 0, none⟩ = some (.slice Aa l.length ca) ∧ w'.cell? ⟨w2.heap.size, 1, none⟩ = some (.bool t.1) ∧ w'.cell? ⟨w2.heap.size, 2, none⟩ = some (.bool t.2.1) ∧ w'.cell? ⟨w2.heap.size, 3, none⟩ = some (.bool t.2.2) ∧ w'.cell? ⟨w4.heap.size + 1, 0, none⟩ = some (.slice none 0 0) ∧ w'.cell? ⟨w4.heap.size + 1, 1, none⟩ = some (.bool false) ∧ w'.cell? ⟨w4.heap.size + 1, 2, none⟩ = some (.bool false) ∧ w'.cell? ⟨w4.heap.size + 1, 3, none⟩ = some (.bool false) ∧ w'.cell? ⟨w2.heap.size + 1, 0, none⟩ = some (.int .i64 y.st) ∧ w'.cell? ⟨w2.heap.size + 1, 1, none⟩ = some (.int .i64 y.ln) ∧ w'.cell? ⟨w2.heap.size + 1, 2, none⟩ = some (.int .u64 y.a) ∧ w'.cell? ⟨w2.heap.size + 1, 3, none⟩ = some (.int .u64 y.b) ∧ w'.cell? ⟨w2.heap.size + 1, 4, none⟩ = some (.int .u64 y.c) ∧ w'.cell? ⟨w2.heap.size + 1, 5, none⟩ = some (.int .u64 y.d) ∧ w'.cell? ⟨w4.heap.size, 0, none⟩ = some (.slice Ac 0 cc) ∧ w'.cell? ⟨w4.heap.size, 1, none⟩ = some (.bool false) ∧ w'.cell? ⟨w4.heap.size, 2, none⟩ = some (.bool false) ∧ w'.cell? ⟨w4.heap.size, 3, none⟩ = some (.bool false) ∧ w'.cell? ⟨bq, oq + kp * 6, none⟩ = some (.int .i64 y.st) ∧ w'.cell? ⟨bq, oq + kp * 6 + 1, none⟩ = some (.int .i64 y.ln) ∧ w'.cell? ⟨bq, oq + kp * 6 + 2, none⟩ = some (.int .u64 y.a) ∧ w'.cell? ⟨bq, oq + kp * 6 + 3, none⟩ = some (.int .u64 y.b) ∧ w'.cell? ⟨bq, oq + kp * 6 + 4, none⟩ = some (.int .u64 y.c) ∧ w'.cell? ⟨bq, oq + kp * 6 + 5, none⟩ = some (.int .u64 y.d) ∧ w'.cell? ⟨w.heap.size, 0, none⟩ = some (.slice (some ⟨bq, oq, none⟩) l.length cp)) (by kernel_rfl) ⟨drewC a0, drewC a1, drewC a2, drewC a3, drewC z0, drewC z1, drewC z2, drewC z3, drewC o0, drewC o1, drewC o2, drewC o3, drewC o4, drewC o5, drewC s0, drewC s1, drewC s2, drewC s3, drewC d0, drewC d1, drewC d2, drewC d3, drewC d4, drewC d5, drewC r0⟩ (fun hHeld => ?_)
      refine takeFirst (i := 0) (v := ?_) rfl (by kernel_rfl) (by kernel_rfl) (by kernel_rfl) (by rfl) (fun _ _ _ h => h) ?_ (by assumption) ?_
      rotate_left
      · (intro w hSw; go_simp; try (with_reducible rfl))
      try simp only [Act.put, List.setIfInBounds_toArray, List.set_cons_zero, List.set_cons_succ]
      refine takeFirst (i := 1) (v := ?_) rfl (by kernel_rfl) (by kernel_rfl) (by kernel_rfl) (by rfl) (fun _ _ _ h => h) ?_ (by assumption) ?_
      rotate_left
      · (intro w hSw; go_simp; try (with_reducible rfl))
      try simp only [Act.put, List.setIfInBounds_toArray, List.set_cons_zero, List.set_cons_succ]
      refine takeFirst (i := 2) (v := ?_) rfl (by kernel_rfl) (by kernel_rfl) (by kernel_rfl) (by rfl) (fun _ _ _ h => h) ?_ (by assumption) ?_
      rotate_left
      · (intro w hSw; go_simp; try (with_reducible rfl))
      try simp only [Act.put, List.setIfInBounds_toArray, List.set_cons_zero, List.set_cons_succ]
      refine stepNext (i := 3) (by kernel_rfl) rfl (by rfl) (fun K hK => ?_)
      go_simp
      (with_reducible refine (WI.out _ _ _ _ h.drew rb.drew xb.drew nb.drew).mono ?_); rintro e w13 ⟨⟨Ad, cd, rfl, wd⟩, hb⟩
      replace h := Ws.call h.drew hb
      replace wa := Ws.call wa.drew hb
      replace wc := Ws.call wc.drew hb
      replace rb := Box.call rb.drew hb
      replace nb := Box.call nb.drew hb
      replace xb := Box.call xb.drew hb
      replace ab := Box.call ab.drew hb
      replace ob := Box.call ob.drew hb
      replace sb := Box.call sb.drew hb
      replace zb := Box.call zb.drew hb
      replace low := gCall low.drew hb
      obtain ⟨hh0, hh1, hh2, hh3, hh4, hh5, hh6, hh7, hh8, hh9, hh10, hh11, hh12, hh13, hh14, hh15, hh16, hh17, hh18, hh19, hh20, hh21, hh22, hh23, hh24⟩ := hHeld
      have hHeld := (And.intro (callC hb hh0) (And.intro (callC hb hh1) (And.intro (callC hb hh2) (And.intro (callC hb hh3) (And.intro (callC hb hh4) (And.intro (callC hb hh5) (And.intro (callC hb hh6) (And.intro (callC hb hh7) (And.intro (callC hb hh8) (And.intro (callC hb hh9) (And.intro (callC hb hh10) (And.intro (callC hb hh11) (And.intro (callC hb hh12) (And.intro (callC hb hh13) (And.intro (callC hb hh14) (And.intro (callC hb hh15) (And.intro (callC hb hh16) (And.intro (callC hb hh17) (And.intro (callC hb hh18) (And.intro (callC hb hh19) (And.intro (callC hb hh20) (And.intro (callC hb hh21) (And.intro (callC hb hh22) (And.intro (callC hb hh23) (callC hb hh24)))))))))))))))))))))))))
      clear hh0 hh1 hh2 hh3 hh4 hh5 hh6 hh7 hh8 hh9 hh10 hh11 hh12 hh13 hh14 hh15 hh16 hh17 hh18 hh19 hh20 hh21 hh22 hh23 hh24
      clear hb
      refine hK.out _ _ hHeld ?_
      clear hK K
      try simp only [Act.put]
      try simp only [List.setIfInBounds_toArray, List.set_cons_zero, List.set_cons_succ]
      refine stepNext (i := 4) (by kernel_rfl) rfl (by rfl) (fun K hK => ?_)
      go_simp
      (with_reducible refine (same_as _ _ _ _ _ _ _ _ _ _ _ _ rfl wa wd).mono ?_); rintro e w14 ⟨rfl, hb⟩
      replace low := gCall low hb
      replace wc := Ws.call wc hb
      obtain ⟨hh0, hh1, hh2, hh3, hh4, hh5, hh6, hh7, hh8, hh9, hh10, hh11, hh12, hh13, hh14, hh15, hh16, hh17, hh18, hh19, hh20, hh21, hh22, hh23, hh24⟩ := hHeld
      have hHeld := (And.intro (callC hb hh0) (And.intro (callC hb hh1) (And.intro (callC hb hh2) (And.intro (callC hb hh3) (And.intro (callC hb hh4) (And.intro (callC hb hh5) (And.intro (callC hb hh6) (And.intro (callC hb hh7) (And.intro (callC hb hh8) (And.intro (callC hb hh9) (And.intro (callC hb hh10) (And.intro (callC hb hh11) (And.intro (callC hb hh12) (And.intro (callC hb hh13) (And.intro (callC hb hh14) (And.intro (callC hb hh15) (And.intro (callC hb hh16) (And.intro (callC hb hh17) (And.intro (callC hb hh18) (And.intro (callC hb hh19) (And.intro (callC hb hh20) (And.intro (callC hb hh21) (And.intro (callC hb hh22) (And.intro (callC hb hh23) (callC hb hh24)))))))))))))))))))))))))
      clear hh0 hh1 hh2 hh3 hh4 hh5 hh6 hh7 hh8 hh9 hh10 hh11 hh12 hh13 hh14 hh15 hh16 hh17 hh18 hh19 hh20 hh21 hh22 hh23 hh24
      clear hb wd
      refine hK.out _ _ hHeld ?_
      clear hK K
      try simp only [Act.put]
      try simp only [List.setIfInBounds_toArray, List.set_cons_zero, List.set_cons_succ]
      refine takeFirst (i := 5) (v := ?_) rfl (by kernel_rfl) (by kernel_rfl) (by kernel_rfl) (by rfl) (fun _ _ _ h => h) ?_ (by assumption) ?_
      rotate_left
      · (intro w hSw; go_simp; try (with_reducible rfl))
      try simp only [Act.put, List.setIfInBounds_toArray, List.set_cons_zero, List.set_cons_succ]
      refine takeFirst (i := 6) (v := ?_) rfl (by kernel_rfl) (by kernel_rfl) (by kernel_rfl) (by rfl) (fun _ _ _ h => h) ?_ (by assumption) ?_
      rotate_left
      · (intro w hSw; go_simp; try (with_reducible rfl))
      try simp only [Act.put, List.setIfInBounds_toArray, List.set_cons_zero, List.set_cons_succ]
      refine takeFirst (i := 7) (v := ?_) rfl (by kernel_rfl) (by kernel_rfl) (by kernel_rfl) (by rfl) (fun _ _ _ h => h) ?_ (by assumption) ?_
      rotate_left
      · (intro w hSw; go_simp; try (with_reducible rfl))
      try simp only [Act.put, List.setIfInBounds_toArray, List.set_cons_zero, List.set_cons_succ]
      refine takeFirst (i := 8) (v := ?_) rfl (by kernel_rfl) (by kernel_rfl) (by kernel_rfl) (by rfl) (fun _ _ _ h => h) ?_ (by assumption) ?_
      rotate_left
      · (intro w hSw; go_simp; try (with_reducible rfl))
      try simp only [Act.put, List.setIfInBounds_toArray, List.set_cons_zero, List.set_cons_succ]
      refine takeFirst (i := 9) (v := ?_) rfl (by kernel_rfl) (by kernel_rfl) (by kernel_rfl) (by rfl) (fun _ _ _ h => h) ?_ (by assumption) ?_
      rotate_left
      · (intro w hSw; go_simp; try (with_reducible rfl))
      try simp only [Act.put, List.setIfInBounds_toArray, List.set_cons_zero, List.set_cons_succ]
      refine takeFirst (i := 10) (v := ?_) rfl (by kernel_rfl) (by kernel_rfl) (by kernel_rfl) (by rfl) (fun _ _ _ h => h) ?_ (by assumption) ?_
      rotate_left
      · (intro w hSw; go_simp; try (with_reducible rfl))
      try simp only [Act.put, List.setIfInBounds_toArray, List.set_cons_zero, List.set_cons_succ]
      refine takeFirst (i := 11) (v := ?_) rfl (by kernel_rfl) (by kernel_rfl) (by kernel_rfl) (by rfl) (fun _ _ _ h => h) ?_ (by assumption) ?_
      rotate_left
      · (intro w hSw; go_simp; try (with_reducible rfl))
      try simp only [Act.put, List.setIfInBounds_toArray, List.set_cons_zero, List.set_cons_succ]
      refine takeFirst (i := 12) (v := ?_) rfl (by kernel_rfl) (by kernel_rfl) (by kernel_rfl) (by rfl) (fun _ _ _ h => h) ?_ (by assumption) ?_
      rotate_left
      · (intro w hSw; go_simp; try (with_reducible rfl))
      try simp only [Act.put, List.setIfInBounds_toArray, List.set_cons_zero, List.set_cons_succ]
      refine takeFirst (i := 13) (v := ?_) rfl (by kernel_rfl) (by kernel_rfl) (by kernel_rfl) (by rfl) (fun _ _ _ h => h) ?_ (by assumption) ?_
      rotate_left
      · (intro w hSw; go_simp; try (with_reducible rfl))
      try simp only [Act.put, List.setIfInBounds_toArray, List.set_cons_zero, List.set_cons_succ]
      refine takeFirst (i := 14) (v := ?_) rfl (by kernel_rfl) (by kernel_rfl) (by kernel_rfl) (by rfl) (fun _ _ _ h => h) ?_ (by assumption) ?_
      rotate_left
      · (intro w hSw; go_simp; try (with_reducible rfl))
      try simp only [Act.put, List.setIfInBounds_toArray, List.set_cons_zero, List.set_cons_succ]
      refine takeFirst (i := 15) (v := ?_) rfl (by kernel_rfl) (by kernel_rfl) (by kernel_rfl) (by rfl) (fun _ _ _ h => h) ?_ (by assumption) ?_
      rotate_left
      · (intro w hSw; go_simp; try (with_reducible rfl))
      try simp only [Act.put, List.setIfInBounds_toArray, List.set_cons_zero, List.set_cons_succ]
      refine takeFirst (i := 16) (v := ?_) rfl (by kernel_rfl) (by kernel_rfl) (by kernel_rfl) (by rfl) (fun _ _ _ h => h) ?_ (by assumption) ?_
      rotate_left
      · (intro w hSw; go_simp; try (with_reducible rfl))
      try simp only [Act.put, List.setIfInBounds_toArray, List.set_cons_zero, List.set_cons_succ]
      refine takeFirst (i := 17) (v := ?_) rfl (by kernel_rfl) (by kernel_rfl) (by kernel_rfl) (by rfl) (fun _ _ _ h => h) ?_ (by assumption) ?_
      rotate_left
      · (intro w hSw; go_simp; try (with_reducible rfl))
      try simp only [Act.put, List.setIfInBounds_toArray, List.set_cons_zero, List.set_cons_succ]
      refine takeFirst (i := 18) (v := ?_) rfl (by kernel_rfl) (by kernel_rfl) (by kernel_rfl) (by rfl) (fun _ _ _ h => h) ?_ (by assumption) ?_
      rotate_left
      · (intro w hSw; go_simp; try (with_reducible rfl))
      try simp only [Act.put, List.setIfInBounds_toArray, List.set_cons_zero, List.set_cons_succ]
      refine takeFirst (i := 19) (v := ?_) rfl (by kernel_rfl) (by kernel_rfl) (by kernel_rfl) (by rfl) (fun _ _ _ h => h) ?_ (by assumption) ?_
      rotate_left
      · (intro w hSw; go_simp; try (with_reducible rfl))
      try simp only [Act.put, List.setIfInBounds_toArray, List.set_cons_zero, List.set_cons_succ]
      refine takeFirst (i := 20) (v := ?_) rfl (by kernel_rfl) (by kernel_rfl) (by kernel_rfl) (by rfl) (fun _ _ _ h => h) ?_ (by assumption) ?_
      rotate_left
      · (intro w hSw; go_simp; try (with_reducible rfl))
      try simp only [Act.put, List.setIfInBounds_toArray, List.set_cons_zero, List.set_cons_succ]
      refine stepNext (i := 21) (by kernel_rfl) rfl (by rfl) (fun K hK => ?_)
      go_simp
      (with_reducible refine (same_nil _ _ _ wc).mono ?_); rintro e w15 ⟨rfl, hb⟩
      replace low := gCall low hb
      obtain ⟨hh0, hh1, hh2, hh3, hh4, hh5, hh6, hh7, hh8, hh9, hh10, hh11, hh12, hh13, hh14, hh15, hh16, hh17, hh18, hh19, hh20, hh21, hh22, hh23, hh24⟩ := hHeld
      have hHeld := (And.intro (callC hb hh0) (And.intro (callC hb hh1) (And.intro (callC hb hh2) (And.intro (callC hb hh3) (And.intro (callC hb hh4) (And.intro (callC hb hh5) (And.intro (callC hb hh6) (And.intro (callC hb hh7) (And.intro (callC hb hh8) (And.intro (callC hb hh9) (And.intro (callC hb hh10) (And.intro (callC hb hh11) (And.intro (callC hb hh12) (And.intro (callC hb hh13) (And.intro (callC hb hh14) (And.intro (callC hb hh15) (And.intro (callC hb hh16) (And.intro (callC hb hh17) (And.intro (callC hb hh18) (And.intro (callC hb hh19) (And.intro (callC hb hh20) (And.intro (callC hb hh21) (And.intro (callC hb hh22) (And.intro (callC hb hh23) (callC hb hh24)))))))))))))))))))))))))
      clear hh0 hh1 hh2 hh3 hh4 hh5 hh6 hh7 hh8 hh9 hh10 hh11 hh12 hh13 hh14 hh15 hh16 hh17 hh18 hh19 hh20 hh21 hh22 hh23 hh24
      clear hb
      refine hK.out _ _ hHeld ?_
      clear hK K
      try simp only [Act.put]
      try simp only [List.setIfInBounds_toArray, List.set_cons_zero, List.set_cons_succ]
      refine takeFirst (i := 22) (v := ?_) rfl (by kernel_rfl) (by kernel_rfl) (by kernel_rfl) (by rfl) (fun _ _ _ h => h) ?_ (by assumption) ?_
      rotate_left
      · (intro w hSw; go_simp; try (with_reducible rfl))
      try simp only [Act.put, List.setIfInBounds_toArray, List.set_cons_zero, List.set_cons_succ]
      refine takeFirst (i := 23) (v := ?_) rfl (by kernel_rfl) (by kernel_rfl) (by kernel_rfl) (by rfl) (fun _ _ _ h => h) ?_ (by assumption) ?_
      rotate_left
      · (intro w hSw; go_simp; try (with_reducible rfl))
      try simp only [Act.put, List.setIfInBounds_toArray, List.set_cons_zero, List.set_cons_succ]
      refine takeFirst (i := 24) (v := ?_) rfl (by kernel_rfl) (by kernel_rfl) (by kernel_rfl) (by rfl) (fun _ _ _ h => h) ?_ (by assumption) ?_
      rotate_left
      · (intro w hSw; go_simp; try (with_reducible rfl))
      try simp only [Act.put, List.setIfInBounds_toArray, List.set_cons_zero, List.set_cons_succ]
      refine takeFirst (i := 25) (v := ?_) rfl (by kernel_rfl) (by kernel_rfl) (by kernel_rfl) (by rfl) (fun _ _ _ h => h) ?_ (by assumption) ?_
      rotate_left
      · (intro w hSw; go_simp; try (with_reducible rfl))
      try simp only [Act.put, List.setIfInBounds_toArray, List.set_cons_zero, List.set_cons_succ]
      refine takeFirst (i := 26) (v := ?_) rfl (by kernel_rfl) (by kernel_rfl) (by kernel_rfl) (by rfl) (fun _ _ _ h => h) ?_ (by assumption) ?_
      rotate_left
      · (intro w hSw; go_simp; try (with_reducible rfl))
      try simp only [Act.put, List.setIfInBounds_toArray, List.set_cons_zero, List.set_cons_succ]
      refine stepNext (i := 27) (by kernel_rfl) rfl (by rfl) (fun K hK => ?_)
      go_simp
      refine hK.out _ _ hHeld ?_
      clear hK K
      try simp only [Act.put]
      try simp only [List.setIfInBounds_toArray, List.set_cons_zero, List.set_cons_succ]
      refine wpAnyH_done (by kernel_rfl) ?_ _
      refine NoPanic.normal ?_
      clear hHeld a0 a1 a2 a3 z0 z1 z2 z3 o0 o1 o2 o3 o4 o5 s0 s1 s2 s3 d0 d1 d2 d3 d4 d5 r0
      go_wp2_with fail
      go_ret
      exact ⟨rfl, low⟩

theorem walk (v0 v1 v2 v3 : Value) (w : World) (h0 : IsRow w v0) (h1 : IsInt v1) (h2 : IsInt v2) (h3 : IsWay v3) :
    Calls Try.prog 3 #[v0, v1, v2, v3] w fun e w' => e = .returned (.bool true) ∧ Below w.heap.size w w' := by
  obtain ⟨s, l, a, b, c, rfl, ws⟩ := h0
  obtain ⟨n, rfl, _⟩ := h1
  obtain ⟨m, rfl, _⟩ := h2
  obtain ⟨x, rfl⟩ := h3
  by_cases he : rowE l a b c n = 0
  · exact walk_good s l a b c n m x w ws he
  · exact walk_bad s l a b c n m x w ws he

set_option maxRecDepth 100000 in
theorem lifted (os : Os) (started : os.Started) (H : Type) (enc : TypeId × Value → H) :
    ReturnsInHanded {} Try.checked os 3 .any (Rows.rowTellsSpec.pre6 enc Try.prog Try.f3 Rows.rowTellsRow.domain false) (Rows.rowTellsSpec.post enc Try.prog Try.f3 false true false false) := by
  refine returnsInHanded_of_change (C := Try.checked) own started (by kernel_rfl) Try.func3
    (ChangeSpec.witness6 (enc := enc) (C := Try.checked) false ⟨#[], #[noRow, .int .i64 2, .int .i64 3, zeroV], []⟩ 8 (by kernel_rfl) (by kernel_rfl) (by kernel_rfl) (by kernel_rfl)) ?_
  intro W base args ds gs before hval0 hW hcnd _
  have hval : ∀ (j : Nat) t v, Try.f3.params[j]? = some t → args[j]? = some v → Value.okWide Try.prog W .any base t v := hval0
  have hW' := hW
  obtain ⟨p, q, hA0, hV, rfl, hfz, hnd⟩ := hW
  have hA : DataW.TrodAll enc Try.prog W 0 (fun _ => true) true Try.f3.params.toList args.toList ds p := hA0
  rw [Try.params3] at hA hval
  obtain ⟨v0, vs0, d0, ds0, p0, q0, hargs, rfl, rfl, h0, r0⟩ := trodAll_cons hA
  obtain ⟨v1, vs1, d1, ds1, p1, q1, rfl, rfl, rfl, h1, r1⟩ := trodAll_cons r0
  obtain ⟨v2, vs2, d2, ds2, p2, q2, rfl, rfl, rfl, h2, r2⟩ := trodAll_cons r1
  obtain ⟨v3, vs3, d3, ds3, p3, q3, rfl, rfl, rfl, h3, r3⟩ := trodAll_cons r2
  obtain ⟨rfl, rfl, rfl⟩ := trodAll_nil r3
  obtain rfl : args = #[v0, v1, v2, v3] := by cases args; simp_all
  have k0 := openRow (hval 0 26 v0 rfl rfl) h0
  have k1 := openInt (hval 1 3 v1 rfl rfl) h1
  have k2 := openInt (hval 2 3 v2 rfl rfl) h2
  have k3 := openWay (hval 3 32 v3 rfl rfl) h3
  obtain ⟨rfl, rfl⟩ := trodVars_none hV
  clear hA0 hval0
  refine (walk v0 v1 v2 v3 W k0 k1 k2 k3).mono fun e W' ⟨he, bel⟩ => ⟨_, he, ?_⟩
  exact law_post (by kernel_rfl) (by kernel_rfl) rfl hW' rfl rfl rfl bel

theorem over : Rows.rowTellsRow.holds Try.pinned (OpenSpec.ofChange Rows.rowTellsSpec) :=
  OpenClaim.holds_of_wide 3 Try.f3 rfl rfl rfl rfl rfl rfl rfl ⟨rfl, rfl, rfl, rfl, rfl⟩ rfl rfl rfl rfl rfl (by kernel_rfl) Try.func3 (by kernel_rfl)
    (of_decide_eq_true (by kernel_rfl)) (by unfold Func.isWrapper; first | (rw [if_pos (by decide +kernel)]; kernel_rfl) | (rw [if_neg (by decide +kernel)]; exact ⟨rfl, rfl⟩))
    (fun os started H enc _ => lifted os started H enc)

/-- The statement. -/
theorem rowTells_holds : Rows.RowTellsSaid := over
end Go.Proofs.Ytekhcldjngegnaa.rowTells
namespace Go.Proofs.Ytekhcldjngegnaa
theorem rowTells_holds : Rows.RowTellsSaid := rowTells.rowTells_holds
#print axioms rowTells_holds
end Go.Proofs.Ytekhcldjngegnaa
