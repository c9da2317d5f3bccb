/-
Proved: what the reference's functions on sets return, for every set that can be read; none of them changes anything that was there. Condition: RowPut and RowWith are asked of a set that is right.
-/
import Derived.Test.YtmodajmjmdigfaaRow3
import Derived.Test.YtmodajmjmdigfaaRefPlru4
namespace Go.Proofs.Ytmodajmjmdigfaa
open Go.ChangeShapes Go.WideShapes Go.ChangeAt Go.RowKit Go.Joins

/-- '==' on the data of a way, on trees. -/
def eqD (x y : Wy) : Bool := x.a == y.a && (x.b == y.b && (x.c == y.c && x.d == y.d))
theorem eqData (a b c d a' b' c' d' : Int) (w : World) : (Op.equalIn 10000 30 (.agg #[.int .u64 a, .int .u64 b, .int .u64 c, .int .u64 d]) (.agg #[.int .u64 a', .int .u64 b', .int .u64 c', .int .u64 d'])).run Try.prog w = .ok (a == a' && (b == b' && (c == c' && d == d'))) w := by
  have := equal_flat (P := Try.prog) 2 30 [.int .u64, .int .u64, .int .u64, .int .u64] (by kernel_rfl) (by kernel_rfl) 10000 (by omega) w [.int .u64 a, .int .u64 b, .int .u64 c, .int .u64 d] [.int .u64 a', .int .u64 b', .int .u64 c', .int .u64 d'] (.agg #[.int .u64 a, .int .u64 b, .int .u64 c, .int .u64 d]) (.agg #[.int .u64 a', .int .u64 b', .int .u64 c', .int .u64 d'])
    ⟨⟨a, rfl⟩, ⟨b, rfl⟩, ⟨c, rfl⟩, ⟨d, rfl⟩, trivial⟩ ⟨⟨a', rfl⟩, ⟨b', rfl⟩, ⟨c', rfl⟩, ⟨d', rfl⟩, trivial⟩ (by simp [ValIs, Try.underlying30]) (by simp [ValIs, Try.underlying30])
  simpa [eqCells, scEq] using this

theorem eqTree (a b c a' b' c' : Bool) (w : World) : (Op.equalIn 10000 24 (tree a b c) (tree a' b' c')).run Try.prog w = .ok (a == a' && (b == b' && c == c')) w := by
  have := equal_flat (P := Try.prog) 2 24 [.bool, .bool, .bool] (by kernel_rfl) (by kernel_rfl) 10000 (by omega) w [.bool a, .bool b, .bool c] [.bool a', .bool b', .bool c'] (tree a b c) (tree a' b' c')
    ⟨⟨a, rfl⟩, ⟨b, rfl⟩, ⟨c, rfl⟩, trivial⟩ ⟨⟨a', rfl⟩, ⟨b', rfl⟩, ⟨c', rfl⟩, trivial⟩ (by simp [ValIs, Try.underlying24]) (by simp [ValIs, Try.underlying24])
  simpa [eqCells, scEq] using this

theorem refState_any (s : Int) (w : World) : Calls Try.prog 61 #[.int .i64 s] w fun e w' => e = .returned (.bool (stB s)) ∧ w = w' := by
  unfold stB
  by_cases h0 : 0 ≤ s
  · by_cases h1 : s ≤ 4
    all_goals
      go_enter Try.func61, Try.ntmps61
      go_wp2
      go_ret
      exact ⟨by simp <;> omega, rfl⟩
  · go_enter Try.func61, Try.ntmps61
    go_wp2
    go_ret
    exact ⟨by simp <;> omega, rfl⟩
theorem refLine_any (n : Int) (w : World) : Calls Try.prog 27 #[.int .i64 n] w fun e w' => e = .returned (.bool (lnB n)) ∧ w = w' := by
  unfold lnB
  by_cases h0 : 0 ≤ n
  · by_cases h1 : n < 16
    all_goals
      go_enter Try.func27, Try.ntmps27
      go_wp2
      go_ret
      exact ⟨by simp <;> omega, rfl⟩
  · go_enter Try.func27, Try.ntmps27
    go_wp2
    go_ret
    exact ⟨by simp <;> omega, rfl⟩

/-- The reference's error of a way by itself. -/
def wayF (x : Wy) : Int := if stB x.st = true ∧ lnB x.ln = true then 0 else 4

theorem wayFault_any (x : Wy) (w : World) : Calls Try.prog 29 #[x.val] w fun e w' => e = .returned (.int .i64 (wayF x)) ∧ Below w.heap.size w w' := by
  unfold wayF
  cases hs : stB x.st <;> cases hn : lnB x.ln
  all_goals
    go_enter Try.func29, Try.ntmps29
    go_wp2_with (first | (go_at_call 61; refine (refState_any _ _).mono ?_; rintro e w' ⟨rfl, rfl⟩; rw [hs]) | (go_at_call 27; refine (refLine_any _ _).mono ?_; rintro e w' ⟨rfl, rfl⟩; rw [hn]))
    go_ret
    exact ⟨rfl, gAlloc (Below.refl _ _) _⟩

/-- The error of a way, as the reference finds it. -/
theorem wayE_ref (x : Wy) : wayE x = if wayF x ≠ 0 then 4 else if (x.st == 0 && (x.ln != 0 || !(x.a == 0 && (x.b == 0 && (x.c == 0 && x.d == 0))))) = true then 3 else 0 := by
  unfold wayE wayF
  by_cases h : stB x.st = true ∧ lnB x.ln = true
  · have hF : ¬ ((0 : Int) ≠ 0) := by simp
    rw [if_pos h, if_pos h, if_neg hF]
    obtain ⟨s, n, a, b, c, d⟩ := x
    simp only [wy0, ne_eq, Wy.mk.injEq]
    by_cases hs : s = 0
    · subst hs
      by_cases hn : n = 0 <;> by_cases ha : a = 0 <;> by_cases hb : b = 0 <;> by_cases hc : c = 0 <;> by_cases hd : d = 0 <;> simp [hn, ha, hb, hc, hd]
    · simp [hs]
  · rw [if_neg h, if_neg h, if_pos (by decide)]

set_option maxHeartbeats 1000000 in
theorem rowAt_any (v : Value) (l : List Wy) (a b c : Bool) (n : Int) (w : World) (h : Ws w v l) :
    Calls Try.prog 58 #[rowV v a b c, .int .i64 n] w fun e w' => e = .returned (.int .i64 (idxP (hasW n) l)) ∧ Below w.heap.size w w' := by
  obtain ⟨hl, A, cp, rfl, h1, h2, h3⟩ := h
  have H3 := Lib.hid h3
  unfold maxLen at h2
  clear hl h3
  have low := Below.refl w.heap.size w
  have rb := boxNext low 26 (rowA (.slice A l.length cp) a b c)
  replace low := gAlloc low (.cells (rowA (.slice A l.length cp) a b c) 26)
  try simp only [World.size_alloc] at rb
  simp only [rowA] at rb
  go_enter Try.func58, Try.ntmps58
  go_wp2
  go_loopw [10] (fun i wr => ∃ k : Nat, k ≤ l.length ∧ i = .int .i64 k ∧ Hid (∀ j x, j < k → l[j]? = some x → hasW n x = false) ∧ Below w.heap.size w wr) (fun i _ => l.length - (intOf i).toNat)
  case atStart => exact ⟨0, Nat.zero_le _, rfl, Lib.hid fun j x hj => absurd hj (by omega), low⟩
  case round =>
    clear rb low
    obtain ⟨k, hk, rfl, hno, low⟩ := hrel
    by_cases hlt : k < l.length
    · obtain ⟨bb, o, rfl, hb, hc⟩ := H3.out (by omega)
      have hx : l[k]? = some l[k] := List.getElem?_eq_getElem _
      generalize l[k] = x at hx
      obtain ⟨c0, c1, c2, c3, c4, c5⟩ := wayAt_of hc hb low hx
      have HX := Lib.hid hx
      clear hx hc
      cases he : (x.st != 0)
      rotate_left
      cases hn : (x.ln == n)
      rotate_left
      · have HW := Lib.hid (show hasW n x = true by simp [hasW, he, hn])
        go_wp2
        go_ret
        exact ⟨by rw [idxP_some hno.out HX.out HW.out]; rfl, gAlloc low _⟩
      all_goals
        have HW := Lib.hid (show hasW n x = false by simp [hasW, he] <;> simpa using hn)
        go_wp2
        go_roundw
        case rel => exact ⟨k + 1, by omega, by go_num, Lib.hid (upto hno.out HX.out HW.out), gAlloc low _⟩
        case measure => simp [intOf]; omega
    · go_wp2
      go_ret
      exact ⟨by rw [idxP_none (all_upto hno.out hlt)]; rfl, low⟩

set_option maxHeartbeats 1000000 in
theorem rowPutAt_any (v : Value) (l : List Wy) (a b c : Bool) (n : Int) (w : World) (h : Ws w v l) (ht : treeE a b c n = 0) :
    Calls Try.prog 63 #[rowV v a b c, .int .i64 n] w fun e w' => e = .returned (.int .i64 (roomN l a b c n)) ∧ Below w.heap.size w w' := by
  obtain ⟨hl, A, cp, rfl, h1, h2, h3⟩ := h
  have H3 := Lib.hid h3
  have HT := Lib.hid ht
  unfold maxLen at h2
  clear hl h3 ht
  have low := Below.refl w.heap.size w
  have rb := boxNext low 26 (rowA (.slice A l.length cp) a b c)
  replace low := gAlloc low (.cells (rowA (.slice A l.length cp) a b c) 26)
  try simp only [World.size_alloc] at rb
  simp only [rowA] at rb
  go_enter Try.func63, Try.ntmps63
  go_wp2
  go_loopw [10] (fun i wr => ∃ k : Nat, k ≤ l.length ∧ i = .int .i64 k ∧ Hid (∀ j x, j < k → l[j]? = some x → empW x = false) ∧ Box wr w.heap.size 26 (rowA (.slice A l.length cp) a b c) ∧ Below w.heap.size w wr) (fun i _ => l.length - (intOf i).toNat)
  case atStart => exact ⟨0, Nat.zero_le _, rfl, Lib.hid fun j x hj => absurd hj (by omega), rb, low⟩
  case round =>
    clear rb low
    obtain ⟨k, hk, rfl, hno, rb, low⟩ := hrel
    simp only [rowA] at rb
    by_cases hlt : k < l.length
    · obtain ⟨bb, o, rfl, hb, hc⟩ := H3.out (by omega)
      have hx : l[k]? = some l[k] := List.getElem?_eq_getElem _
      generalize l[k] = x at hx
      obtain ⟨c0, c1, c2, c3, c4, c5⟩ := wayAt_of hc hb low hx
      have HX := Lib.hid hx
      clear hx hc
      cases he : (x.st == 0)
      · have HW := Lib.hid (show empW x = false from he)
        go_wp2
        go_roundw
        case rel => exact ⟨k + 1, by omega, by go_num, Lib.hid (upto hno.out HX.out HW.out), rb.alloc _, gAlloc low _⟩
        case measure => simp [intOf]; omega
      · have HW := Lib.hid (show empW x = true from he)
        go_wp2
        go_ret
        exact ⟨by rw [roomN, idxP_some hno.out HX.out HW.out, if_neg (by omega)]; rfl, gAlloc low _⟩
    · have HN := Lib.hid (idxP_none (all_upto hno.out hlt))
      have rb_0 := rb.at_ 0 rfl
      have rb_1 := rb.at_ 1 rfl
      have rb_2 := rb.at_ 2 rfl
      have rb_3 := rb.at_ 3 rfl
      go_wp2_with fail
      (with_reducible refine (victimOf_ok _ _ _ _ _ HT.out).mono ?_); rintro e w2 ⟨rfl, hb⟩
      replace rb := rb.call hb
      replace low := gCall low hb
      clear hb rb_0 rb_1 rb_2 rb_3
      go_wp2_with fail
      go_ret
      exact ⟨by rw [roomN, HN.out, if_pos (by decide)]; rfl, low⟩

theorem idxP_hit {p : Wy → Bool} {l : List Wy} {k j : Nat} {y : Wy} (hj : j < k) (hy : l[j]? = some y) (hp : p y = true) : 0 ≤ idxP p (l.take k) := by
  rcases idxP_cases p (l.take k) with ⟨_, h⟩ | ⟨m, x, e, _⟩
  · have : y ∈ l.take k := by
      refine List.mem_of_getElem? (i := j) ?_
      rw [List.getElem?_take, if_pos hj]
      exact hy
    rw [h y this] at hp
    cases hp
  · rw [e]
    exact Int.natCast_nonneg m

theorem idxP_miss {p : Wy → Bool} {l : List Wy} {k : Nat} (h : ∀ j y, j < k → l[j]? = some y → p y = false) : idxP p (l.take k) = -1 := by
  refine idxP_none fun j y hy => ?_
  rw [List.getElem?_take] at hy
  split at hy
  · exact h j y (by assumption) hy
  · cases hy

/-- Is an empty way not all zeros? -/
def dirtB (x : Wy) : Bool := x.st == 0 && (x.ln != 0 || !(x.a == 0 && (x.b == 0 && (x.c == 0 && x.d == 0))))

theorem waysE_ref {l : List Wy} {k : Nat} {x : Wy} (h : l[k]? = some x) : waysE (l.take k) (l.drop k) =
    if wayF x ≠ 0 then 4 else if dirtB x = true then 3 else if (x.st != 0 && decide (0 ≤ idxP (hasW x.ln) (l.take k))) = true then 6 else waysE (l.take (k + 1)) (l.drop (k + 1)) := by
  rw [waysE_at h, wayE_ref]
  show _ = if wayF x ≠ 0 then 4 else if (x.st == 0 && (x.ln != 0 || !(x.a == 0 && (x.b == 0 && (x.c == 0 && x.d == 0))))) = true then 3 else _
  by_cases h1 : wayF x ≠ 0
  · simp [h1]
  · by_cases h2 : (x.st == 0 && (x.ln != 0 || !(x.a == 0 && (x.b == 0 && (x.c == 0 && x.d == 0))))) = true
    · rw [if_neg h1, if_pos h2, if_pos (by decide), if_neg h1, if_pos h2]
    · rw [if_neg h1, if_neg h2, if_neg (by simp), if_neg h1, if_neg h2]

theorem hasW_of {m : Int} {q : Wy} {z : Bool} (h1 : (q.st != 0) = true) (h2 : (m == q.ln) = z) : hasW m q = z := by
  have e : (q.ln == m) = (m == q.ln) := by
    by_cases k : q.ln = m
    · rw [k]
    · rw [beq_eq_false_iff_ne.2 k, beq_eq_false_iff_ne.2 (Ne.symm k)]
  unfold hasW
  rw [h1, e, h2]
  rfl

theorem there_no {s : Bool} {m : Int} {l : List Wy} {k : Nat} (h : ∀ i y, i < k → l[i]? = some y → (s && hasW m y) = false) : ¬ (s && decide (0 ≤ idxP (hasW m) (l.take k))) = true := by
  cases s
  · simp
  · rw [idxP_miss (fun j y hj hy => by simpa using h j y hj hy)]
    decide

set_option maxHeartbeats 4000000 in
theorem rowFault_any (v : Value) (l : List Wy) (a b c : Bool) (n : Int) (w : World) (h : Ws w v l) :
    Calls Try.prog 56 #[rowV v a b c, .int .i64 n] w fun e w' => e = .returned (.int .i64 (rowE l a b c n)) ∧ Below w.heap.size w w' := by
  obtain ⟨hl, A, cp, rfl, h1, h2, h3⟩ := h
  have H3 := Lib.hid h3
  unfold maxLen at h2
  clear hl h3
  generalize hE : rowE l a b c n = E
  unfold rowE at hE
  have T := Lib.hid fun w => treeFault_any a b c n w
  generalize treeE a b c n = t at hE T
  have HE := Lib.hid hE
  clear hE
  have low := Below.refl w.heap.size w
  have rb := boxNext low 26 (rowA (.slice A l.length cp) a b c)
  replace low := gAlloc low (.cells (rowA (.slice A l.length cp) a b c) 26)
  try simp only [World.size_alloc] at rb
  simp only [rowA] at rb
  cases ht : (t != 0)
  rotate_left
  · obtain rfl : t = E := by have := HE.out; rwa [if_pos (by simpa using ht)] at this
    go_enter Try.func56, Try.ntmps56
    go_wp2_with fail
    (with_reducible refine (T.out _).mono ?_); rintro e w1 ⟨rfl, hb⟩
    replace rb := rb.call hb
    replace low := gCall low hb
    clear hb
    go_wp2_with fail
    go_ret
    exact ⟨rfl, low⟩
  obtain rfl : t = 0 := by simpa using ht
  cases hn : ((l.length : Int) != n)
  rotate_left
  · obtain rfl : 3 = E := by have := HE.out; rwa [if_neg (by simp), if_pos (by simpa using hn)] at this
    go_enter Try.func56, Try.ntmps56
    go_wp2_with fail
    (with_reducible refine (T.out _).mono ?_); rintro e w1 ⟨rfl, hb⟩
    replace rb := rb.call hb
    replace low := gCall low hb
    clear hb
    have rb_0 := rb.at_ 0 rfl
    go_wp2_with fail
    go_ret
    exact ⟨rfl, low⟩
  replace HE := Lib.hid (show waysE [] l = E by have := HE.out; rwa [if_neg (by simp), if_neg (by simpa using hn)] at this)
  clear ht
  go_enter Try.func56, Try.ntmps56
  go_wp2_with fail
  (with_reducible refine (T.out _).mono ?_); rintro e w1 ⟨rfl, hb⟩
  replace rb := rb.call hb
  replace low := gCall low hb
  clear hb
  have rb_0 := rb.at_ 0 rfl
  go_wp2_with fail
  go_loopw [25] (fun i wr => ∃ k : Nat, k ≤ l.length ∧ i = .int .i64 k ∧ Hid (waysE (l.take k) (l.drop k) = E) ∧ Box wr w.heap.size 26 (rowA (.slice A l.length cp) a b c) ∧ Below w.heap.size w wr) (fun i _ => l.length - (intOf i).toNat)
  case atStart => exact ⟨0, Nat.zero_le _, rfl, Lib.hid (by rw [List.take_zero, List.drop_zero]; exact HE.out), rb, low⟩
  case round =>
    clear rb_0
    clear rb low
    obtain ⟨k, hk, rfl, hno, rb, low⟩ := hrel
    simp only [rowA] at rb
    by_cases hlt : k < l.length
    · obtain ⟨bb, o, rfl, hb, hc⟩ := H3.out (by omega)
      have HC := Lib.hid hc
      have hx : l[k]? = some l[k] := List.getElem?_eq_getElem _
      generalize l[k] = x at hx
      obtain ⟨c0, c1, c2, c3, c4, c5⟩ := wayAt_of hc hb low hx
      have hs := hno.out
      rw [waysE_ref hx] at hs
      have HS := Lib.hid hs
      have CW := Lib.hid fun w => wayFault_any x w
      clear hx hc hs
      generalize wayF x = y at CW HS
      have xb := boxNext low 32 x.arr
      replace low := gAlloc low (.cells x.arr 32)
      replace rb := rb.alloc (.cells x.arr 32)
      try simp only [World.size_alloc] at xb
      simp only [Wy.arr] at xb
      go_wp2_with fail
      (with_reducible refine (CW.out _).mono ?_); rintro e w2 ⟨rfl, hb2⟩
      replace rb := rb.call hb2
      replace xb := xb.call hb2
      replace low := gCall low hb2
      clear hb2 c0 c1 c2 c3 c4 c5
      cases hy : (y != 0)
      rotate_left
      · obtain rfl : 4 = E := by have := HS.out; rwa [if_pos (by simpa using hy)] at this
        go_wp2_with fail
        go_ret
        exact ⟨rfl, low⟩
      obtain rfl : y = 0 := by simpa using hy
      replace HS := Lib.hid (HS.out.symm.trans (if_neg (by simp)))
      clear hy
      have eqd := fun w => eqData x.a x.b x.c x.d 0 0 0 0 w
      have hz : dirtB x = (x.st == 0 && (x.ln != 0 || !(x.a == 0 && (x.b == 0 && (x.c == 0 && x.d == 0))))) := rfl
      generalize (x.a == 0 && (x.b == 0 && (x.c == 0 && x.d == 0))) = D at eqd hz
      generalize dirtB x = z at hz HS
      have HZ := Lib.hid hz
      clear hz
      have rb_0 := rb.at_ 0 rfl
      have xb_0 := xb.at_ 0 rfl
      have xb_1 := xb.at_ 1 rfl
      have xb_2 := xb.at_ 2 rfl
      have xb_3 := xb.at_ 3 rfl
      have xb_4 := xb.at_ 4 rfl
      have xb_5 := xb.at_ 5 rfl
      have cs : (x.st == 0) = false ∨ ((x.st == 0) = true ∧ (x.ln != 0) = false ∧ D = true) ∨ ((x.st == 0) = true ∧ (x.ln != 0) = true) ∨ ((x.st == 0) = true ∧ (x.ln != 0) = false ∧ D = false) := by
        cases (x.st == 0) <;> cases (x.ln != 0) <;> cases D <;> simp
      rcases cs with s0 | ⟨s0, n0, rfl⟩ | ⟨s0, n0⟩ | ⟨s0, n0, rfl⟩
      rotate_left 2
      · obtain rfl : z = true := by have := HZ.out; rwa [s0, n0] at this
        obtain rfl : E = 3 := HS.out.trans (if_pos rfl)
        go_wp2_with fail
        go_ret
        exact ⟨rfl, low⟩
      · obtain rfl : z = true := by have := HZ.out; rwa [s0, n0] at this
        obtain rfl : E = 3 := HS.out.trans (if_pos rfl)
        go_wp2_with fail
        go_ret
        exact ⟨rfl, low⟩
      all_goals
        obtain rfl : z = false := by have := HZ.out; rw [s0] at this; first | (rw [n0] at this; exact this) | exact this
        replace HS := Lib.hid (HS.out.trans (if_neg (by simp)))
        have kc : (k : Int) ≤ cp := by omega
        have k0 : (0 : Int) ≤ k := by omega
        go_wp2_with fail
        generalize wr.heap.size = g at *
        go_loopw [52] (fun i ws => ∃ j : Nat, j ≤ k ∧ i = .int .i64 j ∧ Hid (∀ i y, i < j → l[i]? = some y → (x.st != 0 && hasW x.ln y) = false) ∧ Box ws w.heap.size 26 (rowA (.slice (some ⟨bb, o, none⟩) l.length cp) a b c) ∧ Box ws g 32 x.arr ∧ Below w.heap.size w ws) (fun i _ => k - (intOf i).toNat)
        case atStart => exact ⟨0, Nat.zero_le _, rfl, Lib.hid fun j x hj => absurd hj (by omega), rb, xb, low⟩
        case round =>
          clear rb xb low rb_0 xb_0 xb_1 xb_2 xb_3 xb_4 xb_5
          obtain ⟨j, hj, rfl, hnn, rb, xb, low⟩ := hrel
          by_cases hjk : j < k
          · have hq : l[j]? = some l[j] := List.getElem?_eq_getElem (by omega)
            generalize l[j] = q at hq
            obtain ⟨d0, d1, d2, d3, d4, d5⟩ := wayAt_of HC.out hb low hq
            obtain ⟨x0, x1, x2, x3, x4, x5⟩ := xb.wayC
            have HQ := Lib.hid hq
            have zg : g < wr.heap.size := xb.lt
            have jk : (j : Int) < k := by omega
            clear hq
            have cs : ((x.st != 0) = false ∨ ((x.st != 0) = true ∧ (q.st != 0) = false) ∨ ((x.st != 0) = true ∧ (q.st != 0) = true ∧ (x.ln == q.ln) = false)) ∨ ((x.st != 0) = true ∧ (q.st != 0) = true ∧ (x.ln == q.ln) = true) := by
              cases (x.st != 0) <;> cases (q.st != 0) <;> cases (x.ln == q.ln) <;> simp
            rcases cs with cs | ⟨t0, t1, t2⟩
            · have HW := Lib.hid (show (x.st != 0 && hasW x.ln q) = false by
                rcases cs with t0 | ⟨t0, t1⟩ | ⟨t0, t1, t2⟩
                · rw [t0]; rfl
                · rw [t0]; simp only [hasW, t1]; rfl
                · rw [t0, hasW_of t1 t2]; rfl)
              rcases cs with t0 | ⟨t0, t1⟩ | ⟨t0, t1, t2⟩
              all_goals
                go_wp2_with fail
                go_roundw
                case rel => exact ⟨j + 1, by omega, by go_num, Lib.hid (upto hnn.out HQ.out HW.out), rb.alloc _, xb.alloc _, gAlloc low _⟩
                case measure => simp [intOf]; omega
            · have HW := Lib.hid (show hasW x.ln q = true from hasW_of t1 t2)
              obtain rfl : E = 6 := HS.out.trans (if_pos (by rw [t0]; simpa using idxP_hit hjk HQ.out HW.out))
              go_wp2_with fail
              go_ret
              exact ⟨rfl, gAlloc low _⟩
          · obtain rfl : j = k := by omega
            replace HS := Lib.hid (HS.out.trans (if_neg (there_no hnn.out)))
            go_wp2_with fail
            go_roundw
            case rel => exact ⟨j + 1, by omega, by go_num, Lib.hid HS.out.symm, rb, low⟩
            case measure => simp [intOf]; omega
    · obtain rfl : k = l.length := by omega
      obtain rfl : 0 = E := by have := hno.out; rwa [List.drop_length] at this
      go_wp2_with fail
      go_ret
      exact ⟨rfl, low⟩
end Go.Proofs.Ytmodajmjmdigfaa
