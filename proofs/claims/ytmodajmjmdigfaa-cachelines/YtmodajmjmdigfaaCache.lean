/-
Proved: words for caches (slices of sets); what checkSet and Check of package cache return, for every cache that can be read; they change nothing that was there. Condition: checkSet is asked with a configuration that is right.
-/
import Derived.Test.YtmodajmjmdigfaaRowFacts
import Derived.Test.YtmodajmjmdigfaaAddr
namespace Go.Proofs.Ytmodajmjmdigfaa
open Go.ChangeShapes Go.WideShapes Go.ChangeAt Go.RowKit Go.Joins

/-- A set, without the place where its ways lie. -/
structure St where
  l : List Wy
  a : Bool
  b : Bool
  c : Bool

/-- The cells of a set. -/
def RowAt (w : World) (b o : Nat) (u : Value) (t : St) : Prop :=
  w.cell? ⟨b, o, none⟩ = some u ∧ w.cell? ⟨b, o + 1, none⟩ = some (.bool t.a) ∧ w.cell? ⟨b, o + 2, none⟩ = some (.bool t.b) ∧ w.cell? ⟨b, o + 3, none⟩ = some (.bool t.c)

theorem rowAt_of {w w' : World} {b o B : Nat} {u : Value} {t : St} (h : RowAt w b o u t) (hb : b < B) (low : Below B w w') : RowAt w' b o u t := by
  obtain ⟨h0, h1, h2, h3⟩ := h
  exact ⟨(low.cell (p := ⟨b, o, none⟩) hb).trans h0, (low.cell (p := ⟨b, o + 1, none⟩) hb).trans h1, (low.cell (p := ⟨b, o + 2, none⟩) hb).trans h2, (low.cell (p := ⟨b, o + 3, none⟩) hb).trans h3⟩

/-- The sets lie in block 'b' from 'o' on. -/
structure Lies (w : World) (b o : Nat) (ss : List St) : Prop where
  at_ : ∀ (k : Nat) t, ss[k]? = some t → ∃ A c, RowAt w b (o + k * 4) (.slice A t.l.length c) t ∧ Ws w (.slice A t.l.length c) t.l

/-- The slice holds the sets. -/
structure Cs (w : World) (v : Value) (ss : List St) : Prop where
  ex : ∃ A c, v = .slice A ss.length c ∧ ss.length ≤ c ∧ c ≤ maxLen ∧ (0 < ss.length → ∃ b o, A = some ⟨b, o, none⟩ ∧ b < w.heap.size ∧ Lies w b o ss)

theorem Lies.call {w w' : World} {b o : Nat} {ss : List St} (h : Lies w b o ss) (hlt : b < w.heap.size) (hb : Below w.heap.size w w') : Lies w' b o ss :=
  ⟨fun k t hk => by
    obtain ⟨A, c, h1, h2⟩ := h.at_ k t hk
    exact ⟨A, c, rowAt_of h1 hlt hb, h2.call hb⟩⟩

theorem Cs.call {w w' : World} {v : Value} {ss : List St} (h : Cs w v ss) (hb : Below w.heap.size w w') : Cs w' v ss := by
  obtain ⟨A, c, e, h1, h2, h3⟩ := h
  refine ⟨A, c, e, h1, h2, fun h0 => ?_⟩
  obtain ⟨b, o, eA, hlt, hl⟩ := h3 h0
  exact ⟨b, o, eA, Nat.lt_of_lt_of_le hlt hb.size, hl.call hlt hb⟩
theorem Cs.alloc {w : World} {v : Value} {ss : List St} (h : Cs w v ss) (o : Obj) : Cs (w.alloc o) v ss := h.call (gAlloc (Below.refl _ _) o)
theorem Cs.drew {w : World} {v : Value} {ss : List St} (h : Cs w v ss) : Cs w.drew v ss := h.call (Below.refl _ _).drew
theorem Cs.nil (w : World) : Cs w (.slice none 0 0) [] := ⟨none, 0, rfl, Nat.le_refl _, Nat.zero_le _, fun h => absurd h (Nat.lt_irrefl 0)⟩

/-- Is the way's line that of another set? -/
def offB (s i : Int) (x : Wy) : Bool := x.st != 0 && x.ln % s != i
/-- The first error of set 'i', of the sets from 'i' on, of a cache. -/
def chkE (s y i : Int) (l : List Wy) (a b c : Bool) : Int := if rowE l a b c y ≠ 0 then rowE l a b c y else if l.any (offB s i) = true then 3 else 0
def setsE (s y : Int) : Int → List St → Int
  | _, [] => 0
  | i, t :: r => if chkE s y i t.l t.a t.b t.c ≠ 0 then chkE s y i t.l t.a t.b t.c else setsE s y (i + 1) r
def cacheE (n s y b : Int) (ss : List St) : Int := if cfgB n s y b = false then 4 else if (ss.length : Int) ≠ s then 3 else setsE s y 0 ss

theorem any_no {p : Wy → Bool} {l : List Wy} (h : ∀ (j : Nat) y, l[j]? = some y → p y = false) : l.any p = false := by
  rw [List.any_eq_false]
  intro x hx
  obtain ⟨k, hk, e⟩ := List.getElem_of_mem hx
  have := h k x (by rw [List.getElem?_eq_getElem hk, e])
  simp [this]
theorem any_yes {p : Wy → Bool} {l : List Wy} {k : Nat} {x : Wy} (hk : l[k]? = some x) (hp : p x = true) : l.any p = true :=
  List.any_eq_true.2 ⟨x, List.mem_of_getElem? hk, hp⟩

theorem good_line {x : Wy} (h : wayE x = 0) : 0 ≤ x.ln ∧ x.ln ≤ 15 := by
  unfold wayE at h
  split at h
  · rename_i k
    have := k.2
    simp [lnB] at this
    omega
  · omega

theorem rowE_line {l : List Wy} {a b c : Bool} {y : Int} (h : rowE l a b c y = 0) {k : Nat} {x : Wy} (hx : l[k]? = some x) : 0 ≤ x.ln ∧ x.ln ≤ 15 :=
  good_line (((goodW_iff l).1 (rowE_ok h).2.2).1 k x hx)

abbrev cfgA (n s y b : Int) : Array Value := #[.int .i64 n, .int .i64 s, .int .i64 y, .int .i64 b]

set_option maxHeartbeats 1000000 in
theorem checkSet_any (n s y b i : Int) (v : Value) (l : List Wy) (p q r : Bool) (w : World) (hcf : cfgB n s y b = true) (h : Ws w v l) :
    Calls Try.prog 57 #[cfg n s y b, .int .i64 i, rowV v p q r] w fun e w' => e = .returned (.int .i64 (chkE s y i l p q r)) ∧ Below w.heap.size w w' := by
  have H := Lib.hid h
  obtain ⟨hl, A, cp, rfl, h1, h2, h3⟩ := h
  have H3 := Lib.hid h3
  unfold maxLen at h2
  clear hl h3
  generalize hE : chkE s y i l p q r = E
  unfold chkE at hE
  have R := Lib.hid fun w' hw => rowCheck_any (.slice A l.length cp) l p q r y w' hw
  have LN := Lib.hid fun (h0 : rowE l p q r y = 0) => fun (k : Nat) x (hx : l[k]? = some x) => rowE_line h0 hx
  generalize rowE l p q r y = t at hE R LN
  have HE := Lib.hid hE
  have HC := Lib.hid hcf
  clear hE hcf
  have low := Below.refl w.heap.size w
  have cb := boxNext low 44 (cfgA n s y b)
  replace low := gAlloc low (.cells (cfgA n s y b) 44)
  try simp only [World.size_alloc] at cb
  have rb := boxNext low 26 (rowA (.slice A l.length cp) p q r)
  replace low := gAlloc low (.cells (rowA (.slice A l.length cp) p q r) 26)
  replace cb := cb.alloc (.cells (rowA (.slice A l.length cp) p q r) 26)
  try simp only [World.size_alloc] at rb
  simp only [rowA] at rb
  cases ht : (t != 0)
  rotate_left
  · obtain rfl : t = E := by have := HE.out; rwa [if_pos (by simpa using ht)] at this
    go_enter Try.func57, Try.ntmps57
    go_wp2_with fail
    (with_reducible refine (R.out _ ((H.out.alloc _).alloc _)).mono ?_); rintro e w1 ⟨rfl, hb⟩
    replace rb := rb.call hb
    replace low := gCall low hb
    clear hb
    go_wp2_with fail
    go_ret
    exact ⟨rfl, low⟩
  obtain rfl : t = 0 := by simpa using ht
  replace LN := Lib.hid (LN.out rfl)
  replace HE := Lib.hid (show (if l.any (offB s i) = true then (3 : Int) else 0) = E by have := HE.out; rwa [if_neg (by simp)] at this)
  clear ht
  go_enter Try.func57, Try.ntmps57
  go_wp2_with fail
  (with_reducible refine (R.out _ ((H.out.alloc _).alloc _)).mono ?_); rintro e w1 ⟨rfl, hb⟩
  replace cb := cb.call hb
  replace rb := rb.call hb
  replace low := gCall low hb
  clear hb
  clear R
  have rb_0 := rb.at_ 0 rfl
  go_wp2_with fail
  go_loopw [22] (fun j wr => ∃ k : Nat, k ≤ l.length ∧ j = .int .i64 k ∧ Hid (∀ j x, j < k → l[j]? = some x → offB s i x = false) ∧ Box wr w.heap.size 44 (cfgA n s y b) ∧ Below w.heap.size w wr) (fun j _ => l.length - (intOf j).toNat)
  case atStart => exact ⟨0, Nat.zero_le _, rfl, Lib.hid fun j x hj => absurd hj (by omega), cb, low⟩
  case round =>
    clear rb_0
    clear cb rb low
    obtain ⟨k, hk, rfl, hno, cb, low⟩ := hrel
    simp only [cfgA] at cb
    by_cases hlt : k < l.length
    · obtain ⟨bb, o, rfl, hb, hc⟩ := H3.out (by omega)
      have hx : l[k]? = some l[k] := List.getElem?_eq_getElem _
      generalize l[k] = x at hx
      obtain ⟨c0, c1, c2, c3, c4, c5⟩ := wayAt_of hc hb low hx
      obtain ⟨n0, n1⟩ := LN.out k x hx
      have HX := Lib.hid hx
      have SE := Lib.hid fun w => set_ok n s y b x.ln w HC.out n0 n1
      clear hx hc n0 n1
      have HO := Lib.hid (show offB s i x = (x.st != 0 && x.ln % s != i) from rfl)
      generalize x.ln % s = m at SE HO
      have xb := boxNext low 32 x.arr
      replace low := gAlloc low (.cells x.arr 32)
      replace cb := cb.alloc (.cells x.arr 32)
      try simp only [World.size_alloc] at xb
      simp only [Wy.arr] at xb
      have cb_0 := cb.at_ 0 rfl
      have cb_1 := cb.at_ 1 rfl
      have cb_2 := cb.at_ 2 rfl
      have cb_3 := cb.at_ 3 rfl
      have xb_0 := xb.at_ 0 rfl
      have xb_1 := xb.at_ 1 rfl
      go_wp2_with fail
      (with_reducible refine (SE.out _).mono ?_); rintro e w2 ⟨rfl, hb2⟩
      clear cb_0 cb_1 cb_2 cb_3 xb_0 xb_1
      replace cb := cb.call hb2
      replace xb := xb.call hb2
      replace low := gCall low hb2
      clear hb2 c0 c1 c2 c3 c4 c5
      have xb_0 := xb.at_ 0 rfl
      have xb_1 := xb.at_ 1 rfl
      cases hs : (x.st != 0)
      · have HW := Lib.hid (show offB s i x = false by rw [HO.out, hs]; rfl)
        go_wp2_with fail
        go_roundw
        case rel => exact ⟨k + 1, by omega, by go_num, Lib.hid (upto hno.out HX.out HW.out), cb, low⟩
        case measure => simp [intOf]; omega
      cases hm : (m != i)
      · have HW := Lib.hid (show offB s i x = false by rw [HO.out, hs, hm]; rfl)
        go_wp2_with fail
        go_roundw
        case rel => exact ⟨k + 1, by omega, by go_num, Lib.hid (upto hno.out HX.out HW.out), cb, low⟩
        case measure => simp [intOf]; omega
      · have HW := Lib.hid (show offB s i x = true by rw [HO.out, hs, hm]; rfl)
        obtain rfl : 3 = E := by have := HE.out; rwa [if_pos (any_yes HX.out HW.out)] at this
        go_wp2_with fail
        go_ret
        exact ⟨rfl, low⟩
    · obtain rfl : 0 = E := by have := HE.out; rwa [any_no (all_upto hno.out hlt), if_neg (by simp)] at this
      go_wp2_with fail
      go_ret
      exact ⟨rfl, low⟩
theorem setsE_at {s y : Int} {ss : List St} {k : Nat} {t : St} (h : ss[k]? = some t) : setsE s y k (ss.drop k) =
    if chkE s y k t.l t.a t.b t.c ≠ 0 then chkE s y k t.l t.a t.b t.c else setsE s y ((k + 1 : Nat) : Int) (ss.drop (k + 1)) := by
  obtain ⟨hk, rfl⟩ := List.getElem?_eq_some_iff.1 h
  rw [List.drop_eq_getElem_cons hk, setsE]
  rfl

set_option maxHeartbeats 1000000 in
theorem cacheCheck_any (n s y b : Int) (v : Value) (ss : List St) (w : World) (h : Cs w v ss) :
    Calls Try.prog 24 #[cfg n s y b, v] w fun e w' => e = .returned (.int .i64 (cacheE n s y b ss)) ∧ Below w.heap.size w w' := by
  have H := Lib.hid h
  obtain ⟨A, cp, rfl, h1, h2, h3⟩ := h
  have H3 := Lib.hid h3
  unfold maxLen at h2
  clear h3
  generalize hE : cacheE n s y b ss = E
  unfold cacheE at hE
  have HE := Lib.hid hE
  clear hE
  have low := Below.refl w.heap.size w
  have cb := boxNext low 44 (cfgA n s y b)
  replace low := gAlloc low (.cells (cfgA n s y b) 44)
  try simp only [World.size_alloc] at cb
  cases hcf : cfgB n s y b
  · obtain rfl : 4 = E := by have := HE.out; rwa [if_pos hcf] at this
    have HC := Lib.hid hcf
    clear hcf
    go_enter Try.func24, Try.ntmps24
    go_wp2_with fail
    (with_reducible refine (check_bad _ _ _ _ _ HC.out).mono ?_); rintro e w1 ⟨rfl, hb⟩
    replace cb := cb.call hb
    replace low := gCall low hb
    clear hb
    go_wp2_with fail
    go_ret
    exact ⟨rfl, low⟩
  replace HE := Lib.hid (show (if (ss.length : Int) ≠ s then 3 else setsE s y 0 ss) = E by have := HE.out; rwa [if_neg (by simp [hcf])] at this)
  have HC := Lib.hid hcf
  clear hcf
  cases hn : ((ss.length : Int) != s)
  rotate_left
  · obtain rfl : 3 = E := by have := HE.out; rwa [if_pos (by simpa using hn)] at this
    go_enter Try.func24, Try.ntmps24
    go_wp2_with fail
    (with_reducible refine (check_ok _ _ _ _ _ HC.out).mono ?_); rintro e w1 ⟨rfl, hb⟩
    replace cb := cb.call hb
    replace low := gCall low hb
    clear hb
    have cb_0 := cb.at_ 0 rfl
    have cb_1 := cb.at_ 1 rfl
    have cb_2 := cb.at_ 2 rfl
    have cb_3 := cb.at_ 3 rfl
    go_wp2_with fail
    go_ret
    exact ⟨rfl, low⟩
  replace HE := Lib.hid (show setsE s y 0 ss = E by have := HE.out; rwa [if_neg (by simpa using hn)] at this)
  go_enter Try.func24, Try.ntmps24
  go_wp2_with fail
  (with_reducible refine (check_ok _ _ _ _ _ HC.out).mono ?_); rintro e w1 ⟨rfl, hb⟩
  replace cb := cb.call hb
  replace low := gCall low hb
  clear hb
  have cb_0 := cb.at_ 0 rfl
  have cb_1 := cb.at_ 1 rfl
  have cb_2 := cb.at_ 2 rfl
  have cb_3 := cb.at_ 3 rfl
  go_wp2_with fail
  go_loopw [21] (fun j wr => ∃ k : Nat, k ≤ ss.length ∧ j = .int .i64 k ∧ Hid (setsE s y k (ss.drop k) = E) ∧ Box wr w.heap.size 44 (cfgA n s y b) ∧ Below w.heap.size w wr) (fun j _ => ss.length - (intOf j).toNat)
  case atStart => exact ⟨0, Nat.zero_le _, rfl, Lib.hid (by rw [List.drop_zero]; exact HE.out), cb, low⟩
  case round =>
    clear cb_0 cb_1 cb_2 cb_3
    clear cb low
    obtain ⟨k, hk, rfl, hno, cb, low⟩ := hrel
    simp only [cfgA] at cb
    by_cases hlt : k < ss.length
    · obtain ⟨bb, o, rfl, hb, hc⟩ := H3.out (by omega)
      have hx : ss[k]? = some ss[k] := List.getElem?_eq_getElem _
      generalize ss[k] = t at hx
      obtain ⟨A', c', ra, ws⟩ := hc.at_ k t hx
      obtain ⟨c0, c1, c2, c3⟩ := rowAt_of ra hb low
      replace ws := ws.call low
      have hs := hno.out
      rw [setsE_at hx] at hs
      have HS := Lib.hid hs
      have CW := Lib.hid fun w hw => checkSet_any n s y b k (.slice A' t.l.length c') t.l t.a t.b t.c w HC.out hw
      clear hx hc hs ra
      generalize chkE s y k t.l t.a t.b t.c = f at CW HS
      have rb := boxNext low 26 (rowA (.slice A' t.l.length c') t.a t.b t.c)
      replace low := gAlloc low (.cells (rowA (.slice A' t.l.length c') t.a t.b t.c) 26)
      replace cb := cb.alloc (.cells (rowA (.slice A' t.l.length c') t.a t.b t.c) 26)
      replace ws := ws.alloc (.cells (rowA (.slice A' t.l.length c') t.a t.b t.c) 26)
      try simp only [World.size_alloc] at rb
      simp only [rowA] at rb
      have cb_0 := cb.at_ 0 rfl
      have cb_1 := cb.at_ 1 rfl
      have cb_2 := cb.at_ 2 rfl
      have cb_3 := cb.at_ 3 rfl
      go_wp2_with fail
      (with_reducible refine (CW.out _ ws).mono ?_); rintro e w2 ⟨rfl, hb2⟩
      clear cb_0 cb_1 cb_2 cb_3
      replace cb := cb.call hb2
      replace low := gCall low hb2
      clear hb2 c0 c1 c2 c3 rb ws
      cases hf : (f != 0)
      rotate_left
      · obtain rfl : f = E := by have := HS.out; rwa [if_pos (by simpa using hf)] at this
        go_wp2_with fail
        go_ret
        exact ⟨rfl, low⟩
      obtain rfl : f = 0 := by simpa using hf
      replace HS := Lib.hid (HS.out.symm.trans (if_neg (by simp)))
      clear hf
      go_wp2_with fail
      go_roundw
      case rel => exact ⟨k + 1, by omega, by go_num, Lib.hid HS.out.symm, cb, low⟩
      case measure => simp [intOf]; omega
    · obtain rfl : k = ss.length := by omega
      obtain rfl : 0 = E := by have := hno.out; rwa [List.drop_length] at this
      go_wp2_with fail
      go_ret
      exact ⟨rfl, low⟩

/-! What a cache is that is right. -/
theorem cacheE_ok {n s y b : Int} {ss : List St} (h : cacheE n s y b ss = 0) : cfgB n s y b = true ∧ (ss.length : Int) = s ∧ setsE s y 0 ss = 0 := by
  unfold cacheE at h
  by_cases h1 : cfgB n s y b = false
  · rw [if_pos h1] at h; omega
  · rw [if_neg h1] at h
    by_cases h2 : (ss.length : Int) ≠ s
    · rw [if_pos h2] at h; omega
    · rw [if_neg h2] at h
      exact ⟨by simpa using h1, by omega, h⟩

theorem setsE_zero {s y : Int} : ∀ (ss : List St) (i : Nat), setsE s y i ss = 0 ↔ ∀ (k : Nat) t, ss[k]? = some t → chkE s y ((i + k : Nat) : Int) t.l t.a t.b t.c = 0
  | [], i => by simp [setsE]
  | t :: r, i => by
    rw [setsE]
    have ih := setsE_zero (s := s) (y := y) r (i + 1)
    constructor
    · intro h k u hu
      by_cases h1 : chkE s y i t.l t.a t.b t.c ≠ 0
      · rw [if_pos h1] at h; exact absurd h h1
      · rw [if_neg h1] at h
        cases k with
        | zero => simp at hu; subst hu; simpa using h1
        | succ k =>
          have := ih.1 h k u (by simpa using hu)
          rwa [show i + 1 + k = i + (k + 1) by omega] at this
    · intro h
      have h0 : chkE s y i t.l t.a t.b t.c = 0 := h 0 t rfl
      rw [if_neg (by simp [h0])]
      refine ih.2 fun k u hu => ?_
      have := h (k + 1) u (by simpa using hu)
      rwa [show i + (k + 1) = i + 1 + k by omega] at this

theorem chkE_zero {s y i : Int} {l : List Wy} {a b c : Bool} : chkE s y i l a b c = 0 ↔ rowE l a b c y = 0 ∧ ∀ (k : Nat) x, l[k]? = some x → x.st ≠ 0 → x.ln % s = i := by
  unfold chkE
  by_cases h1 : rowE l a b c y ≠ 0
  · rw [if_pos h1]; exact ⟨fun h => absurd h h1, fun h => absurd h.1 h1⟩
  · rw [if_neg h1]
    have h1' : rowE l a b c y = 0 := by simpa using h1
    constructor
    · intro h
      refine ⟨h1', fun k x hx sx => ?_⟩
      split at h
      · cases h
      · rename_i h2
        refine Classical.byContradiction fun hne => h2 (any_yes hx ?_)
        simp [offB, sx, hne]
    · rintro ⟨_, h⟩
      rw [any_no, if_neg (by simp)]
      intro j x hx
      unfold offB
      by_cases sx : x.st = 0
      · simp [sx]
      · simp [h j x hx sx]

/-- Each set is right by itself, and holds no line of another set. -/
def GoodC (n s y b : Int) (ss : List St) : Prop :=
  cfgB n s y b = true ∧ (ss.length : Int) = s ∧ ∀ (k : Nat) t, ss[k]? = some t → rowE t.l t.a t.b t.c y = 0 ∧ ∀ (j : Nat) x, t.l[j]? = some x → x.st ≠ 0 → x.ln % s = k

theorem goodC_iff {n s y b : Int} {ss : List St} : cacheE n s y b ss = 0 ↔ GoodC n s y b ss := by
  constructor
  · intro h
    obtain ⟨h1, h2, h3⟩ := cacheE_ok h
    refine ⟨h1, h2, fun k t ht => ?_⟩
    have := (setsE_zero ss 0).1 h3 k t ht
    rw [Nat.zero_add] at this
    exact chkE_zero.1 this
  · rintro ⟨h1, h2, h3⟩
    unfold cacheE
    rw [if_neg (by simp [h1]), if_neg (by simp [h2])]
    refine (setsE_zero ss 0).2 fun k t ht => ?_
    rw [Nat.zero_add]
    exact chkE_zero.2 (h3 k t ht)
end Go.Proofs.Ytmodajmjmdigfaa
