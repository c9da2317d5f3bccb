/-
Proved: what CacheFault, CacheTouch, CachePut and CacheTake of the reference return. Conditions: CacheFault none; the others are asked of a cache that is right, and of a line that is there (CacheTouch, CacheTake).
-/
import Derived.Test.YtmodajmjmdigfaaRefCache2
namespace Go.Proofs.Ytmodajmjmdigfaa
open Go.ChangeShapes Go.WideShapes Go.ChangeAt Go.RowKit Go.Joins

set_option maxRecDepth 10000 in
set_option maxHeartbeats 4000000 in
theorem cacheFault_any (n s y b : Int) (v : Value) (ss : List St) (w : World) (h : Cs w v ss) :
    Calls Try.prog 23 #[cfg n s y b, v] w fun e w' => e = .returned (.int .i64 (cacheE n s y b ss)) ∧ Below w.heap.size w w' := by
  have H := Lib.hid h
  obtain ⟨A, cp, rfl, h1, h2, h3⟩ := h
  have H3 := Lib.hid h3
  unfold maxLen at h2
  clear h3
  generalize hE : cacheE n s y b ss = E
  unfold cacheE at hE
  have HE := Lib.hid hE
  clear hE
  have low := Below.refl w.heap.size w
  have cb := boxNext low 44 (cfgA n s y b)
  replace low := gAlloc low (.cells (cfgA n s y b) 44)
  try simp only [World.size_alloc] at cb
  cases hcf : cfgB n s y b
  · obtain rfl : 4 = E := by have := HE.out; rwa [if_pos hcf] at this
    have HC := Lib.hid hcf
    clear hcf
    go_enter Try.func23, Try.ntmps23
    go_wp2_with fail
    (with_reducible refine (configFault_bad _ _ _ _ _ HC.out).mono ?_); rintro e w1 ⟨rfl, hb⟩
    replace cb := cb.call hb
    replace low := gCall low hb
    clear hb
    go_wp2_with fail
    go_ret
    exact ⟨rfl, low⟩
  replace HE := Lib.hid (show (if (ss.length : Int) ≠ s then 3 else setsE s y 0 ss) = E by have := HE.out; rwa [if_neg (by simp [hcf])] at this)
  have HC := Lib.hid hcf
  have hs : 1 ≤ s ∧ s ≤ 4 := by have := cfgB_iff.1 hcf; omega
  obtain ⟨hs1, hs2⟩ := hs
  clear hcf
  cases hn : ((ss.length : Int) != s)
  rotate_left
  · obtain rfl : 3 = E := by have := HE.out; rwa [if_pos (by simpa using hn)] at this
    go_enter Try.func23, Try.ntmps23
    go_wp2_with fail
    (with_reducible refine (configFault_ok _ _ _ _ _ HC.out).mono ?_); rintro e w1 ⟨rfl, hb⟩
    replace cb := cb.call hb
    replace low := gCall low hb
    clear hb
    have cb_0 := cb.at_ 0 rfl
    have cb_1 := cb.at_ 1 rfl
    have cb_2 := cb.at_ 2 rfl
    have cb_3 := cb.at_ 3 rfl
    go_wp2_with fail
    go_ret
    exact ⟨rfl, low⟩
  replace HE := Lib.hid (show setsE s y 0 ss = E by have := HE.out; rwa [if_neg (by simpa using hn)] at this)
  go_enter Try.func23, Try.ntmps23
  go_wp2_with fail
  (with_reducible refine (configFault_ok _ _ _ _ _ HC.out).mono ?_); rintro e w1 ⟨rfl, hb⟩
  replace cb := cb.call hb
  replace low := gCall low hb
  clear hb
  have cb_0 := cb.at_ 0 rfl
  have cb_1 := cb.at_ 1 rfl
  have cb_2 := cb.at_ 2 rfl
  have cb_3 := cb.at_ 3 rfl
  go_wp2_with fail
  go_loopw [23] (fun j wr => ∃ k : Nat, k ≤ ss.length ∧ j = .int .i64 k ∧ Hid (setsE s y k (ss.drop k) = E) ∧ Box wr w.heap.size 44 (cfgA n s y b) ∧ Below w.heap.size w wr) (fun j _ => ss.length - (intOf j).toNat)
  case atStart => exact ⟨0, Nat.zero_le _, rfl, Lib.hid (by rw [List.drop_zero]; exact HE.out), cb, low⟩
  case round =>
    clear cb_0 cb_1 cb_2 cb_3
    clear cb low
    obtain ⟨k, hk, rfl, hno, cb, low⟩ := hrel
    simp only [cfgA] at cb
    by_cases hlt : k < ss.length
    · obtain ⟨bb, o, rfl, hb, hc⟩ := H3.out (by omega)
      have hx : ss[k]? = some ss[k] := List.getElem?_eq_getElem _
      generalize ss[k] = t at hx
      obtain ⟨A', c', ra, ws⟩ := hc.at_ k t hx
      obtain ⟨c0, c1, c2, c3⟩ := rowAt_of ra hb low
      have wsr := ws.call low
      have hs := hno.out
      rw [setsE_at hx] at hs
      unfold chkE at hs
      have RF := Lib.hid fun w hw => rowFault_any (.slice A' t.l.length c') t.l t.a t.b t.c y w hw
      have LN := Lib.hid fun (h0 : rowE t.l t.a t.b t.c y = 0) => fun (q : Nat) x (hx : t.l[q]? = some x) => rowE_line h0 hx
      generalize rowE t.l t.a t.b t.c y = f at RF hs LN
      have HS := Lib.hid hs
      have k0 : (0 : Int) ≤ k := by omega
      have k1 : (k : Int) < ss.length := by omega
      clear hx hc hs ra
      have rb := boxNext low 26 (rowA (.slice A' t.l.length c') t.a t.b t.c)
      replace low := gAlloc low (.cells (rowA (.slice A' t.l.length c') t.a t.b t.c) 26)
      replace cb := cb.alloc (.cells (rowA (.slice A' t.l.length c') t.a t.b t.c) 26)
      replace wsr := wsr.alloc (.cells (rowA (.slice A' t.l.length c') t.a t.b t.c) 26)
      try simp only [World.size_alloc] at rb
      simp only [rowA] at rb
      have cb_0 := cb.at_ 0 rfl
      have cb_1 := cb.at_ 1 rfl
      have cb_2 := cb.at_ 2 rfl
      have cb_3 := cb.at_ 3 rfl
      have rb_0 := rb.at_ 0 rfl
      have rb_1 := rb.at_ 1 rfl
      have rb_2 := rb.at_ 2 rfl
      have rb_3 := rb.at_ 3 rfl
      go_wp2_with fail
      (with_reducible refine (RF.out _ wsr).mono ?_); rintro e w2 ⟨rfl, hb2⟩
      clear cb_0 cb_1 cb_2 cb_3 rb_0 rb_1 rb_2 rb_3
      replace cb := cb.call hb2
      replace rb := rb.call hb2
      replace low := gCall low hb2
      clear hb2 c0 c1 c2 c3 wsr RF
      cases hf : (f != 0)
      rotate_left
      · obtain rfl : f = E := by
          have := HS.out
          have hf' : f ≠ 0 := by simpa using hf
          rw [if_pos hf', if_pos hf'] at this
          exact this
        go_wp2_with fail
        go_ret
        exact ⟨rfl, low⟩
      obtain rfl : f = 0 := by simpa using hf
      replace LN := Lib.hid (LN.out rfl)
      replace HS := Lib.hid (show (if t.l.any (offB s k) = true then 3 else setsE s y ((k + 1 : Nat) : Int) (ss.drop (k + 1))) = E by
        have := HS.out
        generalize t.l.any (offB s k) = ha at this ⊢
        cases ha
        · simpa using this
        · simpa using this)
      obtain ⟨hl, A2, cx, e2, g1, g2, g3⟩ := ws
      cases e2
      have G3 := Lib.hid g3
      unfold maxLen at g2
      clear hf hl g3
      have rb_0 := rb.at_ 0 rfl
      go_wp2_with fail
      go_loopw [38] (fun j wx => ∃ q : Nat, q ≤ t.l.length ∧ j = .int .i64 q ∧ Hid (∀ j x, j < q → t.l[j]? = some x → offB s k x = false) ∧ Box wx w.heap.size 44 (cfgA n s y b) ∧ Below w.heap.size w wx) (fun j _ => t.l.length - (intOf j).toNat)
      case atStart => exact ⟨0, Nat.zero_le _, rfl, Lib.hid fun j x hj => absurd hj (by omega), cb, low⟩
      case round =>
        clear rb_0
        clear cb rb low
        obtain ⟨q, hq, rfl, hnq, cb, low⟩ := hrel
        simp only [cfgA] at cb
        by_cases hlt2 : q < t.l.length
        · obtain ⟨b2, o2, rfl, hb2, hc2⟩ := G3.out (by omega)
          have hx : t.l[q]? = some t.l[q] := List.getElem?_eq_getElem _
          generalize t.l[q] = x at hx
          obtain ⟨c0, c1, c2, c3, c4, c5⟩ := wayAt_of hc2 hb2 low hx
          obtain ⟨n0, n1⟩ := LN.out q x hx
          have HX := Lib.hid hx
          have q0 : (0 : Int) ≤ q := by omega
          have q1 : (q : Int) < t.l.length := by omega
          have HO := Lib.hid (show offB s k x = (x.st != 0 && x.ln % s != k) from rfl)
          clear hx hc2
          have xb := boxNext low 32 x.arr
          replace low := gAlloc low (.cells x.arr 32)
          replace cb := cb.alloc (.cells x.arr 32)
          try simp only [World.size_alloc] at xb
          simp only [Wy.arr] at xb
          have zc := cb.lt
          have cb_0 := cb.at_ 0 rfl
          have cb_1 := cb.at_ 1 rfl
          have cb_2 := cb.at_ 2 rfl
          have cb_3 := cb.at_ 3 rfl
          have xb_0 := xb.at_ 0 rfl
          have xb_1 := xb.at_ 1 rfl
          cases hsx : (x.st != 0)
          · have HW := Lib.hid (show offB s k x = false by rw [HO.out, hsx]; rfl)
            go_wp2_with fail
            go_roundw
            case rel => exact ⟨q + 1, by omega, by go_num, Lib.hid (upto hnq.out HX.out HW.out), cb, low⟩
            case measure => simp [intOf]; omega
          cases hm : (x.ln % s != k)
          · have HW := Lib.hid (show offB s k x = false by rw [HO.out, hsx, hm]; rfl)
            go_wp2_with fail
            go_roundw
            case rel => exact ⟨q + 1, by omega, by go_num, Lib.hid (upto hnq.out HX.out HW.out), cb, low⟩
            case measure => simp [intOf]; omega
          · have HW := Lib.hid (show offB s k x = true by rw [HO.out, hsx, hm]; rfl)
            obtain rfl : 3 = E := by have := HS.out; rwa [if_pos (any_yes HX.out HW.out)] at this
            go_wp2_with fail
            go_ret
            exact ⟨rfl, low⟩
        · replace HS := Lib.hid (HS.out.symm.trans (by rw [any_no (all_upto hnq.out hlt2), if_neg (by simp)]))
          go_wp2_with fail
          go_roundw
          case rel => exact ⟨k + 1, by omega, by go_num, Lib.hid HS.out.symm, cb, low⟩
          case measure => simp [intOf]; omega
    · obtain rfl : k = ss.length := by omega
      obtain rfl : 0 = E := by have := hno.out; rwa [List.drop_length] at this
      go_wp2_with fail
      go_ret
      exact ⟨rfl, low⟩

theorem ways_len {n s y b : Int} {ss : List St} (h : GoodC n s y b ss) {k : Nat} {t : St} (ht : ss[k]? = some t) : treeE t.a t.b t.c y = 0 ∧ (t.l.length : Int) = y ∧ 1 ≤ y ∧ y ≤ 4 := by
  obtain ⟨h1, h2, _⟩ := rowE_ok (h.2.2 k t ht).1
  obtain ⟨h3, h4⟩ := treeE_range h1
  exact ⟨h1, h2, h3, h4⟩

/-- The other sets stay. -/
theorem set_rule {ss : List St} {k : Nat} {u : St} (hk : k < ss.length) : (ss.set k u).length = ss.length ∧ ∀ (q : Nat) z, ss[q]? = some z → (ss.set k u)[q]? = some (if (q : Int) = (k : Int) then u else z) := by
  refine ⟨List.length_set, fun q z hz => ?_⟩
  by_cases e : q = k
  · subst e; rw [if_pos rfl, List.getElem?_set_self hk]
  · rw [if_neg (by omega), List.getElem?_set_ne (fun h => e h.symm), hz]

theorem rowWith_l (v : Value) (l : List Wy) (a b c : Bool) (j : Nat) (x : Wy) (w : World) (h : Ws w v l) (h4 : l.length ≤ 4) (hj : j < l.length) :
    Calls Try.prog 60 #[rowV v a b c, .int .i64 j, x.val] w fun e w' => (∃ A cp, e = .returned (rowV (.slice A (l.set j x).length cp) a b c) ∧ Fr w' w.heap.size w'.heap.size (.slice A (l.set j x).length cp) (l.set j x)) ∧ Below w.heap.size w w' := by
  refine (rowWith_any v l a b c j x w h h4 hj).mono ?_
  rintro e w' ⟨⟨v', rfl, fr⟩, hb⟩
  obtain ⟨A, cp, rfl⟩ := fr.shape
  exact ⟨⟨A, cp, rfl, fr⟩, hb⟩

/-- CacheWith of a set that was just made, in a cache that is right. -/
theorem cacheWith_l {n s y b : Int} {ss : List St} (good : GoodC n s y b ss) (v : Value) (k : Nat) (u : St) (A : Option Addr) (c : Nat) (w : World) (h : Cs w v ss) (hk : k < ss.length) (ws : Ws w (.slice A u.l.length c) u.l) (hu : 0 < u.l.length ∧ u.l.length ≤ 4) :
    Calls Try.prog 59 #[v, .int .i64 k, rowV (.slice A u.l.length c) u.a u.b u.c] w fun e w' => (∃ A c, e = .returned (.slice A ss.length c) ∧ OwnR w' w.heap.size (.slice A ss.length c) (ss.set k u)) ∧ Below w.heap.size w w' := by
  obtain ⟨h1, h2⟩ := set_rule (u := u) hk
  refine cacheWith_any v ss (ss.set k u) k A c u w h good.small.1 (fun q z hz => ?_) ws h1 h2
  rcases st_get hz with ⟨_, rfl⟩ | ⟨_, hz⟩
  · exact hu
  · exact good.small.2 q z hz


set_option maxRecDepth 10000 in
set_option maxHeartbeats 4000000 in
theorem cacheTouch_ok (n s y b : Int) (v : Value) (ss : List St) (x : Wy) (tch : Bool) (k : Nat) (t : St) (j : Nat) (w : World) (h : Cs w v ss) (good : GoodC n s y b ss) (hx : 0 ≤ x.ln ∧ x.ln ≤ 15) (hk : x.ln % s = k) (ht : ss[k]? = some t) (hj : idxP (hasW x.ln) t.l = j) (jl : j < t.l.length) (tt : Bool × Bool × Bool)
    (htt : tt = if tch = true then touchT t.a t.b t.c y j else (t.a, t.b, t.c)) :
    Calls Try.prog 30 #[cfg n s y b, v, x.val, .bool tch] w fun e w' => (∃ A c, e = .returned (.slice A ss.length c) ∧ OwnR w' w.heap.size (.slice A ss.length c) (ss.set k ⟨t.l.set j x, tt.1, tt.2.1, tt.2.2⟩)) ∧ Below w.heap.size w w' := by
  have kl := st_lt ht
  obtain ⟨t0, t1, t2, t3⟩ := ways_len good ht
  have hs : 1 ≤ s ∧ s ≤ 4 := by have := cfgB_iff.1 good.1; omega
  obtain ⟨hs1, hs2⟩ := hs
  obtain ⟨hx0, hx1⟩ := hx
  obtain ⟨A, cp, rfl, h1, h2, h3⟩ := h.ex
  obtain ⟨bb, o, rfl, hb, hc⟩ := h3 (by omega)
  obtain ⟨A', c', ra, ws⟩ := hc.at_ k t ht
  have GD := Lib.hid good
  have TO := Lib.hid fun w => touched_ok t.a t.b t.c y j w t0 (by omega) (by omega)
  have RA := Lib.hid fun w hw => rowAt_any (.slice A' t.l.length c') t.l t.a t.b t.c x.ln w hw
  rw [hj] at RA
  obtain ⟨la, hla⟩ : ∃ la, la = t.l.set j x := ⟨_, rfl⟩
  have CT := Lib.hid fun w hw => rowWith_l (.slice A' t.l.length c') t.l t.a t.b t.c j x w hw (by omega) jl
  rw [← hla] at CT ⊢
  have lla : 0 < la.length ∧ la.length ≤ 4 := by rw [hla, List.length_set]; omega
  have HK := Lib.hid hk
  have HT := Lib.hid htt
  have kc : (k : Int) < ss.length := by omega
  have k0 : (0 : Int) ≤ k := by omega
  clear h1 h2 h3 hc good hk ht hj t0 t1 t2 t3 jl hla htt
  have low := Below.refl w.heap.size w
  have cb := boxNext low 44 (cfgA n s y b)
  replace low := gAlloc low (.cells (cfgA n s y b) 44)
  replace h := h.alloc (.cells (cfgA n s y b) 44)
  try simp only [World.size_alloc] at cb
  have xb := boxNext low 32 x.arr
  replace low := gAlloc low (.cells x.arr 32)
  replace h := h.alloc (.cells x.arr 32)
  replace cb := cb.alloc (.cells x.arr 32)
  try simp only [World.size_alloc] at xb
  simp only [Wy.arr] at xb
  obtain ⟨r0, r1, r2, r3⟩ := rowAt_of ra hb low
  obtain ⟨x0, x1, x2, x3, x4, x5⟩ := xb.wayC
  replace ws := ws.call low
  clear ra
  go_enter Try.func30, Try.ntmps30
  go_wp2_with fail
  rw [HK.out]
  refine wp_region_noPanic ?_
  refine wp_region_held_drew (S := fun w' => w'.cell? ⟨bb, o + k * 4, none⟩ = some (.slice A' t.l.length c') ∧ w'.cell? ⟨bb, o + k * 4 + 1, none⟩ = some (.bool t.a) ∧ w'.cell? ⟨bb, o + k * 4 + 2, none⟩ = some (.bool t.b) ∧ w'.cell? ⟨bb, o + k * 4 + 3, none⟩ = some (.bool t.c) ∧ w'.cell? ⟨w.heap.size + 1, 0, none⟩ = some (.int .i64 x.st) ∧ w'.cell? ⟨w.heap.size + 1, 1, none⟩ = some (.int .i64 x.ln) ∧ w'.cell? ⟨w.heap.size + 1, 2, none⟩ = some (.int .u64 x.a) ∧ w'.cell? ⟨w.heap.size + 1, 3, none⟩ = some (.int .u64 x.b) ∧ w'.cell? ⟨w.heap.size + 1, 4, none⟩ = some (.int .u64 x.c) ∧ w'.cell? ⟨w.heap.size + 1, 5, none⟩ = some (.int .u64 x.d)) (by kernel_rfl) ⟨drewC r0, drewC r1, drewC r2, drewC r3, drewC x0, drewC x1, drewC x2, drewC x3, drewC x4, drewC x5⟩ (fun hHeld => ?_)
  clear r0 r1 r2 r3 x0 x1 x2 x3 x4 x5
  refine takeFirst (i := 0) (v := ?_) rfl (by kernel_rfl) (by kernel_rfl) (by kernel_rfl) (by rfl) (fun _ _ _ h => h) ?_ (by assumption) ?_
  rotate_left
  · (intro w hSw; go_simp; try (with_reducible rfl))
  try simp only [Act.put, List.setIfInBounds_toArray, List.set_cons_zero, List.set_cons_succ]
  refine takeFirst (i := 1) (v := ?_) rfl (by kernel_rfl) (by kernel_rfl) (by kernel_rfl) (by rfl) (fun _ _ _ h => h) ?_ (by assumption) ?_
  rotate_left
  · (intro w hSw; go_simp; try (with_reducible rfl))
  try simp only [Act.put, List.setIfInBounds_toArray, List.set_cons_zero, List.set_cons_succ]
  refine takeFirst (i := 2) (v := ?_) rfl (by kernel_rfl) (by kernel_rfl) (by kernel_rfl) (by rfl) (fun _ _ _ h => h) ?_ (by assumption) ?_
  rotate_left
  · (intro w hSw; go_simp; try (with_reducible rfl))
  try simp only [Act.put, List.setIfInBounds_toArray, List.set_cons_zero, List.set_cons_succ]
  refine takeFirst (i := 3) (v := ?_) rfl (by kernel_rfl) (by kernel_rfl) (by kernel_rfl) (by rfl) (fun _ _ _ h => h) ?_ (by assumption) ?_
  rotate_left
  · (intro w hSw; go_simp; try (with_reducible rfl))
  try simp only [Act.put, List.setIfInBounds_toArray, List.set_cons_zero, List.set_cons_succ]
  refine takeFirst (i := 4) (v := ?_) rfl (by kernel_rfl) (by kernel_rfl) (by kernel_rfl) (by rfl) (fun _ _ _ h => h) ?_ (by assumption) ?_
  rotate_left
  · (intro w hSw; go_simp; try (with_reducible rfl))
  try simp only [Act.put, List.setIfInBounds_toArray, List.set_cons_zero, List.set_cons_succ]
  refine takeFirst (i := 5) (v := ?_) rfl (by kernel_rfl) (by kernel_rfl) (by kernel_rfl) (by rfl) (fun _ _ _ h => h) ?_ (by assumption) ?_
  rotate_left
  · (intro w hSw; go_simp; try (with_reducible rfl))
  try simp only [Act.put, List.setIfInBounds_toArray, List.set_cons_zero, List.set_cons_succ]
  refine stepNext (i := 6) (by kernel_rfl) rfl (by rfl) (fun K hK => ?_)
  go_simp
  (with_reducible refine (RA.out _ ws.drew).mono ?_); rintro e w1 ⟨rfl, hb1⟩
  replace h := h.drew.call hb1
  replace cb := cb.drew.call hb1
  replace xb := xb.drew.call hb1
  replace ws := ws.drew.call hb1
  replace low := gCall low.drew hb1
  obtain ⟨hh0, hh1, hh2, hh3, hh4, hh5, hh6, hh7, hh8, hh9⟩ := hHeld
  have hHeld := (And.intro (callC hb1 hh0) (And.intro (callC hb1 hh1) (And.intro (callC hb1 hh2) (And.intro (callC hb1 hh3) (And.intro (callC hb1 hh4) (And.intro (callC hb1 hh5) (And.intro (callC hb1 hh6) (And.intro (callC hb1 hh7) (And.intro (callC hb1 hh8) (callC hb1 hh9))))))))))
  clear hh0 hh1 hh2 hh3 hh4 hh5 hh6 hh7 hh8 hh9
  clear hb1 RA
  refine hK.out _ _ hHeld ?_
  clear hK K
  try simp only [Act.put]
  try simp only [List.setIfInBounds_toArray, List.set_cons_zero, List.set_cons_succ]
  refine stepNext (i := 7) (by kernel_rfl) rfl (by rfl) (fun K hK => ?_)
  go_simp
  refine hK.out _ _ hHeld ?_
  clear hK K
  try simp only [Act.put]
  try simp only [List.setIfInBounds_toArray, List.set_cons_zero, List.set_cons_succ]
  refine wpAnyH_done (by kernel_rfl) ?_ _
  refine NoPanic.normal ?_
  obtain ⟨r0, r1, r2, r3, x0, x1, x2, x3, x4, x5⟩ := hHeld
  go_wp2_with fail
  refine wp_region_noPanic ?_
  refine wp_region_held_drew (S := fun w' => w'.cell? ⟨bb, o + k * 4, none⟩ = some (.slice A' t.l.length c') ∧ w'.cell? ⟨bb, o + k * 4 + 1, none⟩ = some (.bool t.a) ∧ w'.cell? ⟨bb, o + k * 4 + 2, none⟩ = some (.bool t.b) ∧ w'.cell? ⟨bb, o + k * 4 + 3, none⟩ = some (.bool t.c) ∧ w'.cell? ⟨w.heap.size + 1, 0, none⟩ = some (.int .i64 x.st) ∧ w'.cell? ⟨w.heap.size + 1, 1, none⟩ = some (.int .i64 x.ln) ∧ w'.cell? ⟨w.heap.size + 1, 2, none⟩ = some (.int .u64 x.a) ∧ w'.cell? ⟨w.heap.size + 1, 3, none⟩ = some (.int .u64 x.b) ∧ w'.cell? ⟨w.heap.size + 1, 4, none⟩ = some (.int .u64 x.c) ∧ w'.cell? ⟨w.heap.size + 1, 5, none⟩ = some (.int .u64 x.d)) (by kernel_rfl) ⟨drewC r0, drewC r1, drewC r2, drewC r3, drewC x0, drewC x1, drewC x2, drewC x3, drewC x4, drewC x5⟩ (fun hHeld => ?_)
  clear r0 r1 r2 r3 x0 x1 x2 x3 x4 x5
  have zc : w.heap.size + 1 < w1.drew.heap.size := xb.lt
  replace h := h.drew
  replace cb := cb.drew
  replace ws := ws.drew
  replace low := low.drew
  clear xb
  generalize w1.drew = wN at *
  have WS := Lib.hid ws
  clear ws
  refine takeFirst (i := 0) (v := ?_) rfl (by kernel_rfl) (by kernel_rfl) (by kernel_rfl) (by rfl) (fun _ _ _ h => h) ?_ (by assumption) ?_
  rotate_left
  · (intro w hSw; go_simp; try (with_reducible rfl))
  try simp only [Act.put, List.setIfInBounds_toArray, List.set_cons_zero, List.set_cons_succ]
  refine takeFirst (i := 1) (v := ?_) rfl (by kernel_rfl) (by kernel_rfl) (by kernel_rfl) (by rfl) (fun _ _ _ h => h) ?_ (by assumption) ?_
  rotate_left
  · (intro w hSw; go_simp; try (with_reducible rfl))
  try simp only [Act.put, List.setIfInBounds_toArray, List.set_cons_zero, List.set_cons_succ]
  refine takeFirst (i := 2) (v := ?_) rfl (by kernel_rfl) (by kernel_rfl) (by kernel_rfl) (by rfl) (fun _ _ _ h => h) ?_ (by assumption) ?_
  rotate_left
  · (intro w hSw; go_simp; try (with_reducible rfl))
  try simp only [Act.put, List.setIfInBounds_toArray, List.set_cons_zero, List.set_cons_succ]
  refine takeFirst (i := 3) (v := ?_) rfl (by kernel_rfl) (by kernel_rfl) (by kernel_rfl) (by rfl) (fun _ _ _ h => h) ?_ (by assumption) ?_
  rotate_left
  · (intro w hSw; go_simp; try (with_reducible rfl))
  try simp only [Act.put, List.setIfInBounds_toArray, List.set_cons_zero, List.set_cons_succ]
  refine takeFirst (i := 4) (v := ?_) rfl (by kernel_rfl) (by kernel_rfl) (by kernel_rfl) (by rfl) (fun _ _ _ h => h) ?_ (by assumption) ?_
  rotate_left
  · (intro w hSw; go_simp; try (with_reducible rfl))
  try simp only [Act.put, List.setIfInBounds_toArray, List.set_cons_zero, List.set_cons_succ]
  refine takeFirst (i := 5) (v := ?_) rfl (by kernel_rfl) (by kernel_rfl) (by kernel_rfl) (by rfl) (fun _ _ _ h => h) ?_ (by assumption) ?_
  rotate_left
  · (intro w hSw; go_simp; try (with_reducible rfl))
  try simp only [Act.put, List.setIfInBounds_toArray, List.set_cons_zero, List.set_cons_succ]
  apply share1 (M := fun ga A c wz => Mid wN 26 (rowA (.slice none 0 0) false false false) 32 zeroA wz (some ga) none (some (.slice A la.length c, la)))
  · intro hE
    have mid := Mid.start wN 26 (rowA (.slice none 0 0) false false false) 32 zeroA
    refine stepTwo (i1 := 6) (i2 := 7) (by kernel_rfl) rfl rfl (by rfl) (by rfl) (fun K hK => ?_) (fun K hK => ?_)
    · go_simp
      (with_reducible refine (Calls.mono (CT.out _ (WS.out.call mid.low)) ?_)); rintro e wx ⟨⟨Az, cz, rfl, frz⟩, hbz⟩
      replace mid := mid.call hbz frz
      clear hbz frz
      try clear hNow
      have hNow := (And.intro (callC mid.low hHeld.1) (And.intro (callC mid.low hHeld.2.1) (And.intro (callC mid.low hHeld.2.2.1) (And.intro (callC mid.low hHeld.2.2.2.1) (And.intro (callC mid.low hHeld.2.2.2.2.1) (And.intro (callC mid.low hHeld.2.2.2.2.2.1) (And.intro (callC mid.low hHeld.2.2.2.2.2.2.1) (And.intro (callC mid.low hHeld.2.2.2.2.2.2.2.1) (And.intro (callC mid.low hHeld.2.2.2.2.2.2.2.2.1) (callC mid.low hHeld.2.2.2.2.2.2.2.2.2))))))))))
      refine hK.out _ _ hNow ?_
      clear hK K
      try simp only [Act.put]
      try simp only [List.setIfInBounds_toArray, List.set_cons_zero, List.set_cons_succ]
      refine stepNext (i := 7) (by kernel_rfl) rfl (by rfl) (fun K hK => ?_)
      go_simp
      replace mid := mid.allocA
      try clear hNow
      have hNow := (And.intro (callC mid.low hHeld.1) (And.intro (callC mid.low hHeld.2.1) (And.intro (callC mid.low hHeld.2.2.1) (And.intro (callC mid.low hHeld.2.2.2.1) (And.intro (callC mid.low hHeld.2.2.2.2.1) (And.intro (callC mid.low hHeld.2.2.2.2.2.1) (And.intro (callC mid.low hHeld.2.2.2.2.2.2.1) (And.intro (callC mid.low hHeld.2.2.2.2.2.2.2.1) (And.intro (callC mid.low hHeld.2.2.2.2.2.2.2.2.1) (callC mid.low hHeld.2.2.2.2.2.2.2.2.2))))))))))
      refine hK.out _ _ hNow ?_
      clear hK K
      try simp only [Act.put]
      try simp only [List.setIfInBounds_toArray, List.set_cons_zero, List.set_cons_succ]
      generalize wx.heap.size = ga at mid ⊢
      generalize wx.alloc (.cells (rowA (.slice none 0 0) false false false) 26) = wy at mid ⊢
      refine relist (l2 := #[true, true, true, true, true, true, true, true, false]) (by kernel_rfl) ?_
      exact hE _ _ _ _ mid
    · go_simp
      replace mid := mid.allocA
      try clear hNow
      have hNow := (And.intro (callC mid.low hHeld.1) (And.intro (callC mid.low hHeld.2.1) (And.intro (callC mid.low hHeld.2.2.1) (And.intro (callC mid.low hHeld.2.2.2.1) (And.intro (callC mid.low hHeld.2.2.2.2.1) (And.intro (callC mid.low hHeld.2.2.2.2.2.1) (And.intro (callC mid.low hHeld.2.2.2.2.2.2.1) (And.intro (callC mid.low hHeld.2.2.2.2.2.2.2.1) (And.intro (callC mid.low hHeld.2.2.2.2.2.2.2.2.1) (callC mid.low hHeld.2.2.2.2.2.2.2.2.2))))))))))
      refine hK.out _ _ hNow ?_
      clear hK K
      try simp only [Act.put]
      try simp only [List.setIfInBounds_toArray, List.set_cons_zero, List.set_cons_succ]
      generalize wN.heap.size = ga at mid ⊢
      generalize wN.alloc (.cells (rowA (.slice none 0 0) false false false) 26) = wx at mid ⊢
      refine stepNext (i := 6) (by kernel_rfl) rfl (by rfl) (fun K hK => ?_)
      go_simp
      (with_reducible refine (Calls.mono (CT.out _ (WS.out.call mid.low)) ?_)); rintro e wy ⟨⟨Az, cz, rfl, frz⟩, hbz⟩
      replace mid := mid.call hbz frz
      clear hbz frz
      try clear hNow
      have hNow := (And.intro (callC mid.low hHeld.1) (And.intro (callC mid.low hHeld.2.1) (And.intro (callC mid.low hHeld.2.2.1) (And.intro (callC mid.low hHeld.2.2.2.1) (And.intro (callC mid.low hHeld.2.2.2.2.1) (And.intro (callC mid.low hHeld.2.2.2.2.2.1) (And.intro (callC mid.low hHeld.2.2.2.2.2.2.1) (And.intro (callC mid.low hHeld.2.2.2.2.2.2.2.1) (And.intro (callC mid.low hHeld.2.2.2.2.2.2.2.2.1) (callC mid.low hHeld.2.2.2.2.2.2.2.2.2))))))))))
      refine hK.out _ _ hNow ?_
      clear hK K
      try simp only [Act.put]
      try simp only [List.setIfInBounds_toArray, List.set_cons_zero, List.set_cons_succ]
      refine relist (l2 := #[true, true, true, true, true, true, true, true, false]) (by kernel_rfl) ?_
      exact hE _ _ _ _ mid
  intro ga Az cz w6 mid
  obtain ⟨hga, ab⟩ := mid.fa ga rfl
  obtain ⟨Bz, Cz, hBz, hCz, frz, hfar⟩ := mid.fr _ _ rfl
  have fa1 := hfar ga (.inl rfl)
  have near := mid.low
  clear hfar mid
  obtain ⟨hh0, hh1, hh2, hh3, hh4, hh5, hh6, hh7, hh8, hh9⟩ := hHeld
  have hHeld := (And.intro (callC near hh0) (And.intro (callC near hh1) (And.intro (callC near hh2) (And.intro (callC near hh3) (And.intro (callC near hh4) (And.intro (callC near hh5) (And.intro (callC near hh6) (And.intro (callC near hh7) (And.intro (callC near hh8) (callC near hh9))))))))))
  clear hh0 hh1 hh2 hh3 hh4 hh5 hh6 hh7 hh8 hh9
  refine stepNext (i := 8) (by kernel_rfl) rfl (by rfl) (fun K hK => ?_)
  refine wp_store_box 26 (.tmp 11) (.tmp 30) rfl _ _ rfl rfl ab size_row rfl (by simp [Value.oneCell']) ?_
  intro w7 ab st
  replace frz := st.fr frz fa1
  replace near := st.low near (by omega)
  have z7 := st.size
  obtain ⟨hh0, hh1, hh2, hh3, hh4, hh5, hh6, hh7, hh8, hh9⟩ := hHeld
  have hHeld := (And.intro (st.cell (by dsimp only; omega) hh0) (And.intro (st.cell (by dsimp only; omega) hh1) (And.intro (st.cell (by dsimp only; omega) hh2) (And.intro (st.cell (by dsimp only; omega) hh3) (And.intro (st.cell (by dsimp only; omega) hh4) (And.intro (st.cell (by dsimp only; omega) hh5) (And.intro (st.cell (by dsimp only; omega) hh6) (And.intro (st.cell (by dsimp only; omega) hh7) (And.intro (st.cell (by dsimp only; omega) hh8) (st.cell (by dsimp only; omega) hh9))))))))))
  clear hh0 hh1 hh2 hh3 hh4 hh5 hh6 hh7 hh8 hh9
  clear st
  refine hK.out _ _ hHeld ?_
  clear hK K
  try simp only [Act.put]
  try simp only [List.setIfInBounds_toArray, List.set_cons_zero, List.set_cons_succ]
  refine wpAnyH_done (by kernel_rfl) ?_ _
  refine NoPanic.normal ?_
  clear hHeld WS CT
  replace cb := cb.call near
  replace low := gCall low near
  have HC := Lib.hid h
  have FZ := Lib.hid frz
  clear h frz
  cases tch
  · obtain rfl : tt = (t.a, t.b, t.c) := HT.out.trans (if_neg (by decide))
    have lz := low.size
    have CW := Lib.hid (cacheWith_l GD.out _ k ⟨la, t.a, t.b, t.c⟩ Az cz w7 (HC.out.call near) kl FZ.out.ws lla)
    have ab_0 := ab.at_ 0 rfl
    have ab_1 := ab.at_ 1 rfl
    have ab_2 := ab.at_ 2 rfl
    have ab_3 := ab.at_ 3 rfl
    go_wp2_with fail
    (with_reducible refine (Calls.mono CW.out ?_)); rintro e w9 ⟨⟨A9, c9, rfl, cs9⟩, hb9⟩
    clear ab_0 ab_1 ab_2 ab_3
    replace low := gCall low hb9
    have CS := Lib.hid (cs9.more (base' := w.heap.size) (by simpa using lz))
    clear hb9 cs9 CW
    go_wp2_with fail
    go_ret
    exact ⟨⟨_, _, rfl, CS.out⟩, low⟩
  · rw [show touchT t.a t.b t.c y j = tt from (HT.out.trans (if_pos rfl)).symm] at TO
    clear HT
    have ab_0 := ab.at_ 0 rfl
    have ab_1 := ab.at_ 1 rfl
    have ab_2 := ab.at_ 2 rfl
    have ab_3 := ab.at_ 3 rfl
    have cb_2 := cb.at_ 2 rfl
    go_wp2_with fail
    (with_reducible refine (TO.out _).mono ?_); rintro e w8 ⟨rfl, hb8⟩
    clear ab_0 ab_1 ab_2 ab_3 cb_2
    replace ab := ab.call hb8
    have near8 := gCall near hb8
    have fz8 := FZ.out.call hb8
    replace low := gCall low hb8
    have z8 : ga < w8.heap.size := ab.lt
    clear hb8 TO near
    have ab2 := ((ab.set 1 (.bool tt.1)).set 2 (.bool tt.2.1)).set 3 (.bool tt.2.2)
    have near9 := gSet (p := ⟨ga, 3, none⟩) (gSet (p := ⟨ga, 2, none⟩) (gSet (p := ⟨ga, 1, none⟩) near8 hga (.bool tt.1)) hga (.bool tt.2.1)) hga (.bool tt.2.2)
    have fz9 := ((fz8.far (p := ⟨ga, 1, none⟩) fa1 (.bool tt.1)).far (p := ⟨ga, 2, none⟩) fa1 (.bool tt.2.1)).far (p := ⟨ga, 3, none⟩) fa1 (.bool tt.2.2)
    have CW := Lib.hid (cacheWith_l GD.out _ k ⟨la, tt.1, tt.2.1, tt.2.2⟩ Az cz _ (HC.out.call near9) kl fz9.ws lla)
    have lz := low.size
    clear fz8 fz9 near8 near9
    have ab_0 := ab.at_ 0 rfl
    have ab_1 := ab.at_ 1 rfl
    have ab_2 := ab.at_ 2 rfl
    have ab_3 := ab.at_ 3 rfl
    have ab_f1 := ab.frozen 1
    have ab_f2 := ab.frozen 2
    have ab_f3 := ab.frozen 3
    go_wp2_with fail
    (with_reducible refine (Calls.mono CW.out ?_)); rintro e w9 ⟨⟨A9, c9, rfl, cs9⟩, hb9⟩
    have hga' : w.heap.size ≤ ga := by omega
    replace low := gCall (gSet (p := ⟨ga, 3, none⟩) (gSet (p := ⟨ga, 2, none⟩) (gSet (p := ⟨ga, 1, none⟩) low hga' (.bool tt.1)) hga' (.bool tt.2.1)) hga' (.bool tt.2.2)) hb9
    have CS := Lib.hid (cs9.more (base' := w.heap.size) (by simpa using lz))
    clear ab_0 ab_1 ab_2 ab_3 ab_f1 ab_f2 ab_f3
    clear hb9 cs9 CW
    go_wp2_with fail
    go_ret
    exact ⟨⟨_, _, rfl, CS.out⟩, low⟩

/-- Behind a call of the reference that gives a cache and a way. -/
abbrev GaveRW (w : World) (ss : List St) (z : Wy) (sa : List St) (e : Ending) (w' : World) : Prop :=
  (∃ A c, e = .returned (.tuple #[.slice A ss.length c, z.val]) ∧ OwnR w' w.heap.size (.slice A ss.length c) sa) ∧ Below w.heap.size w w'

set_option maxRecDepth 10000 in
set_option maxHeartbeats 4000000 in
theorem refPut_ok (n s y b : Int) (v : Value) (ss : List St) (x : Wy) (k : Nat) (t : St) (j : Nat) (old : Wy) (w : World) (h : Cs w v ss) (good : GoodC n s y b ss) (hx : 0 ≤ x.ln ∧ x.ln ≤ 15) (hk : x.ln % s = k) (ht : ss[k]? = some t) (hj : roomN t.l t.a t.b t.c y = j) (ho : t.l[j]? = some old) :
    Calls Try.prog 31 #[cfg n s y b, v, x.val] w (GaveRW w ss old (ss.set k ⟨t.l.set j x, (touchT t.a t.b t.c y j).1, (touchT t.a t.b t.c y j).2.1, (touchT t.a t.b t.c y j).2.2⟩)) := by
  have kl := st_lt ht
  have jl := set_lt ho
  obtain ⟨t0, t1, t2, t3⟩ := ways_len good ht
  have hs : 1 ≤ s ∧ s ≤ 4 := by have := cfgB_iff.1 good.1; omega
  obtain ⟨hs1, hs2⟩ := hs
  obtain ⟨hx0, hx1⟩ := hx
  obtain ⟨A, cp, rfl, h1, h2, h3⟩ := h.ex
  obtain ⟨bb, o, rfl, hb, hc⟩ := h3 (by omega)
  obtain ⟨A', c', ra, ws⟩ := hc.at_ k t ht
  obtain ⟨hl, A2, cx, e2, g1, g2, g3⟩ := id ws
  cases e2
  obtain ⟨b2, o2, rfl, hb2, hc2⟩ := g3 (by omega)
  have WO := Lib.hid (fun w' (lw : Below w.heap.size w w') => wayAt_of hc2 hb2 lw ho)
  have RO := Lib.hid (fun w' (lw : Below w.heap.size w w') => rowAt_of ra hb lw)
  have GD := Lib.hid good
  have TO := Lib.hid fun w => touched_ok t.a t.b t.c y j w t0 (by omega) (by omega)
  have RA := Lib.hid fun w hw => rowPutAt_any (.slice (some ⟨b2, o2, none⟩) t.l.length c') t.l t.a t.b t.c y w hw t0
  rw [hj] at RA
  obtain ⟨la, hla⟩ : ∃ la, la = t.l.set j x := ⟨_, rfl⟩
  have CT := Lib.hid fun w hw => rowWith_l (.slice (some ⟨b2, o2, none⟩) t.l.length c') t.l t.a t.b t.c j x w hw (by omega) jl
  rw [← hla] at CT ⊢
  generalize touchT t.a t.b t.c y j = tt at TO ⊢
  have lla : 0 < la.length ∧ la.length ≤ 4 := by rw [hla, List.length_set]; omega
  have HK := Lib.hid hk
  have kc : (k : Int) < ss.length := by omega
  have k0 : (0 : Int) ≤ k := by omega
  have j0 : (0 : Int) ≤ j := by omega
  have j1 : (j : Int) < t.l.length := by omega
  clear h1 h2 h3 hc good hk ht hj t0 t1 t2 t3 jl hla g1 g2 g3 hc2 hl ho
  have low := Below.refl w.heap.size w
  have cb := boxNext low 44 (cfgA n s y b)
  replace low := gAlloc low (.cells (cfgA n s y b) 44)
  replace h := h.alloc (.cells (cfgA n s y b) 44)
  try simp only [World.size_alloc] at cb
  have xb := boxNext low 32 x.arr
  replace low := gAlloc low (.cells x.arr 32)
  replace h := h.alloc (.cells x.arr 32)
  replace cb := cb.alloc (.cells x.arr 32)
  try simp only [World.size_alloc] at xb
  simp only [Wy.arr] at xb
  have ob := boxNext low 32 zeroA
  replace low := gAlloc low (.cells zeroA 32)
  replace h := h.alloc (.cells zeroA 32)
  replace cb := cb.alloc (.cells zeroA 32)
  replace xb := xb.alloc (.cells zeroA 32)
  try simp only [World.size_alloc] at ob
  simp only [zeroA] at ob
  obtain ⟨r0, r1, r2, r3⟩ := RO.out _ low
  obtain ⟨x0, x1, x2, x3, x4, x5⟩ := xb.wayC
  have q2 := cb.at_ 2 rfl
  replace ws := ws.call low
  clear ra
  go_enter Try.func31, Try.ntmps31
  go_wp2_with fail
  rw [HK.out]
  refine wp_region_noPanic ?_
  refine wp_region_held_drew (S := fun w' => w'.cell? ⟨bb, o + k * 4, none⟩ = some (.slice (some ⟨b2, o2, none⟩) t.l.length c') ∧ w'.cell? ⟨bb, o + k * 4 + 1, none⟩ = some (.bool t.a) ∧ w'.cell? ⟨bb, o + k * 4 + 2, none⟩ = some (.bool t.b) ∧ w'.cell? ⟨bb, o + k * 4 + 3, none⟩ = some (.bool t.c) ∧ w'.cell? ⟨w.heap.size, 2, none⟩ = some (.int .i64 y)) (by kernel_rfl) ⟨drewC r0, drewC r1, drewC r2, drewC r3, drewC q2⟩ (fun hHeld => ?_)
  clear r0 r1 r2 r3 x0 x1 x2 x3 x4 x5 q2
  refine takeFirst (i := 0) (v := ?_) rfl (by kernel_rfl) (by kernel_rfl) (by kernel_rfl) (by rfl) (fun _ _ _ h => h) ?_ (by assumption) ?_
  rotate_left
  · (intro w hSw; go_simp; try (with_reducible rfl))
  try simp only [Act.put, List.setIfInBounds_toArray, List.set_cons_zero, List.set_cons_succ]
  refine takeFirst (i := 1) (v := ?_) rfl (by kernel_rfl) (by kernel_rfl) (by kernel_rfl) (by rfl) (fun _ _ _ h => h) ?_ (by assumption) ?_
  rotate_left
  · (intro w hSw; go_simp; try (with_reducible rfl))
  try simp only [Act.put, List.setIfInBounds_toArray, List.set_cons_zero, List.set_cons_succ]
  refine takeFirst (i := 2) (v := ?_) rfl (by kernel_rfl) (by kernel_rfl) (by kernel_rfl) (by rfl) (fun _ _ _ h => h) ?_ (by assumption) ?_
  rotate_left
  · (intro w hSw; go_simp; try (with_reducible rfl))
  try simp only [Act.put, List.setIfInBounds_toArray, List.set_cons_zero, List.set_cons_succ]
  refine takeFirst (i := 3) (v := ?_) rfl (by kernel_rfl) (by kernel_rfl) (by kernel_rfl) (by rfl) (fun _ _ _ h => h) ?_ (by assumption) ?_
  rotate_left
  · (intro w hSw; go_simp; try (with_reducible rfl))
  try simp only [Act.put, List.setIfInBounds_toArray, List.set_cons_zero, List.set_cons_succ]
  refine takeFirst (i := 4) (v := ?_) rfl (by kernel_rfl) (by kernel_rfl) (by kernel_rfl) (by rfl) (fun _ _ _ h => h) ?_ (by assumption) ?_
  rotate_left
  · (intro w hSw; go_simp; try (with_reducible rfl))
  try simp only [Act.put, List.setIfInBounds_toArray, List.set_cons_zero, List.set_cons_succ]
  refine takeFirst (i := 5) (v := ?_) rfl (by kernel_rfl) (by kernel_rfl) (by kernel_rfl) (by rfl) (fun _ _ _ h => h) ?_ (by assumption) ?_
  rotate_left
  · (intro w hSw; go_simp; try (with_reducible rfl))
  try simp only [Act.put, List.setIfInBounds_toArray, List.set_cons_zero, List.set_cons_succ]
  refine stepNext (i := 6) (by kernel_rfl) rfl (by rfl) (fun K hK => ?_)
  go_simp
  (with_reducible refine (RA.out _ ws.drew).mono ?_); rintro e w1 ⟨rfl, hb1⟩
  replace h := h.drew.call hb1
  replace cb := cb.drew.call hb1
  replace xb := xb.drew.call hb1
  replace ob := ob.drew.call hb1
  replace ws := ws.drew.call hb1
  replace low := gCall low.drew hb1
  obtain ⟨hh0, hh1, hh2, hh3, hh4⟩ := hHeld
  have hHeld := (And.intro (callC hb1 hh0) (And.intro (callC hb1 hh1) (And.intro (callC hb1 hh2) (And.intro (callC hb1 hh3) (callC hb1 hh4)))))
  clear hh0 hh1 hh2 hh3 hh4
  clear hb1 RA
  refine hK.out _ _ hHeld ?_
  clear hK K
  try simp only [Act.put]
  try simp only [List.setIfInBounds_toArray, List.set_cons_zero, List.set_cons_succ]
  refine stepNext (i := 7) (by kernel_rfl) rfl (by rfl) (fun K hK => ?_)
  go_simp
  refine hK.out _ _ hHeld ?_
  clear hK K
  try simp only [Act.put]
  try simp only [List.setIfInBounds_toArray, List.set_cons_zero, List.set_cons_succ]
  refine wpAnyH_done (by kernel_rfl) ?_ _
  refine NoPanic.normal ?_
  obtain ⟨r0, r1, r2, r3, _⟩ := hHeld
  obtain ⟨x0, x1, x2, x3, x4, x5⟩ := xb.wayC
  go_wp2_with fail
  refine wp_region_noPanic ?_
  refine wp_region_held_drew (S := fun w' => w'.cell? ⟨bb, o + k * 4, none⟩ = some (.slice (some ⟨b2, o2, none⟩) t.l.length c') ∧ w'.cell? ⟨bb, o + k * 4 + 1, none⟩ = some (.bool t.a) ∧ w'.cell? ⟨bb, o + k * 4 + 2, none⟩ = some (.bool t.b) ∧ w'.cell? ⟨bb, o + k * 4 + 3, none⟩ = some (.bool t.c) ∧ w'.cell? ⟨w.heap.size + 1, 0, none⟩ = some (.int .i64 x.st) ∧ w'.cell? ⟨w.heap.size + 1, 1, none⟩ = some (.int .i64 x.ln) ∧ w'.cell? ⟨w.heap.size + 1, 2, none⟩ = some (.int .u64 x.a) ∧ w'.cell? ⟨w.heap.size + 1, 3, none⟩ = some (.int .u64 x.b) ∧ w'.cell? ⟨w.heap.size + 1, 4, none⟩ = some (.int .u64 x.c) ∧ w'.cell? ⟨w.heap.size + 1, 5, none⟩ = some (.int .u64 x.d)) (by kernel_rfl) ⟨drewC r0, drewC r1, drewC r2, drewC r3, drewC x0, drewC x1, drewC x2, drewC x3, drewC x4, drewC x5⟩ (fun hHeld => ?_)
  clear r0 r1 r2 r3 x0 x1 x2 x3 x4 x5
  have zc : w.heap.size + 1 + 1 < w1.drew.heap.size := ob.lt
  replace h := h.drew
  replace cb := cb.drew
  replace ob := ob.drew
  replace ws := ws.drew
  replace low := low.drew
  clear xb
  generalize w1.drew = wN at *
  have WS := Lib.hid ws
  clear ws
  refine takeFirst (i := 0) (v := ?_) rfl (by kernel_rfl) (by kernel_rfl) (by kernel_rfl) (by rfl) (fun _ _ _ h => h) ?_ (by assumption) ?_
  rotate_left
  · (intro w hSw; go_simp; try (with_reducible rfl))
  try simp only [Act.put, List.setIfInBounds_toArray, List.set_cons_zero, List.set_cons_succ]
  refine takeFirst (i := 1) (v := ?_) rfl (by kernel_rfl) (by kernel_rfl) (by kernel_rfl) (by rfl) (fun _ _ _ h => h) ?_ (by assumption) ?_
  rotate_left
  · (intro w hSw; go_simp; try (with_reducible rfl))
  try simp only [Act.put, List.setIfInBounds_toArray, List.set_cons_zero, List.set_cons_succ]
  refine takeFirst (i := 2) (v := ?_) rfl (by kernel_rfl) (by kernel_rfl) (by kernel_rfl) (by rfl) (fun _ _ _ h => h) ?_ (by assumption) ?_
  rotate_left
  · (intro w hSw; go_simp; try (with_reducible rfl))
  try simp only [Act.put, List.setIfInBounds_toArray, List.set_cons_zero, List.set_cons_succ]
  refine takeFirst (i := 3) (v := ?_) rfl (by kernel_rfl) (by kernel_rfl) (by kernel_rfl) (by rfl) (fun _ _ _ h => h) ?_ (by assumption) ?_
  rotate_left
  · (intro w hSw; go_simp; try (with_reducible rfl))
  try simp only [Act.put, List.setIfInBounds_toArray, List.set_cons_zero, List.set_cons_succ]
  refine takeFirst (i := 4) (v := ?_) rfl (by kernel_rfl) (by kernel_rfl) (by kernel_rfl) (by rfl) (fun _ _ _ h => h) ?_ (by assumption) ?_
  rotate_left
  · (intro w hSw; go_simp; try (with_reducible rfl))
  try simp only [Act.put, List.setIfInBounds_toArray, List.set_cons_zero, List.set_cons_succ]
  refine takeFirst (i := 5) (v := ?_) rfl (by kernel_rfl) (by kernel_rfl) (by kernel_rfl) (by rfl) (fun _ _ _ h => h) ?_ (by assumption) ?_
  rotate_left
  · (intro w hSw; go_simp; try (with_reducible rfl))
  try simp only [Act.put, List.setIfInBounds_toArray, List.set_cons_zero, List.set_cons_succ]
  apply share1 (M := fun ga A c wz => Mid wN 26 (rowA (.slice none 0 0) false false false) 32 zeroA wz (some ga) none (some (.slice A la.length c, la)))
  · intro hE
    have mid := Mid.start wN 26 (rowA (.slice none 0 0) false false false) 32 zeroA
    refine stepTwo (i1 := 6) (i2 := 7) (by kernel_rfl) rfl rfl (by rfl) (by rfl) (fun K hK => ?_) (fun K hK => ?_)
    · go_simp
      (with_reducible refine (Calls.mono (CT.out _ (WS.out.call mid.low)) ?_)); rintro e wx ⟨⟨Az, cz, rfl, frz⟩, hbz⟩
      replace mid := mid.call hbz frz
      clear hbz frz
      try clear hNow
      have hNow := (And.intro (callC mid.low hHeld.1) (And.intro (callC mid.low hHeld.2.1) (And.intro (callC mid.low hHeld.2.2.1) (And.intro (callC mid.low hHeld.2.2.2.1) (And.intro (callC mid.low hHeld.2.2.2.2.1) (And.intro (callC mid.low hHeld.2.2.2.2.2.1) (And.intro (callC mid.low hHeld.2.2.2.2.2.2.1) (And.intro (callC mid.low hHeld.2.2.2.2.2.2.2.1) (And.intro (callC mid.low hHeld.2.2.2.2.2.2.2.2.1) (callC mid.low hHeld.2.2.2.2.2.2.2.2.2))))))))))
      refine hK.out _ _ hNow ?_
      clear hK K
      try simp only [Act.put]
      try simp only [List.setIfInBounds_toArray, List.set_cons_zero, List.set_cons_succ]
      refine stepNext (i := 7) (by kernel_rfl) rfl (by rfl) (fun K hK => ?_)
      go_simp
      replace mid := mid.allocA
      try clear hNow
      have hNow := (And.intro (callC mid.low hHeld.1) (And.intro (callC mid.low hHeld.2.1) (And.intro (callC mid.low hHeld.2.2.1) (And.intro (callC mid.low hHeld.2.2.2.1) (And.intro (callC mid.low hHeld.2.2.2.2.1) (And.intro (callC mid.low hHeld.2.2.2.2.2.1) (And.intro (callC mid.low hHeld.2.2.2.2.2.2.1) (And.intro (callC mid.low hHeld.2.2.2.2.2.2.2.1) (And.intro (callC mid.low hHeld.2.2.2.2.2.2.2.2.1) (callC mid.low hHeld.2.2.2.2.2.2.2.2.2))))))))))
      refine hK.out _ _ hNow ?_
      clear hK K
      try simp only [Act.put]
      try simp only [List.setIfInBounds_toArray, List.set_cons_zero, List.set_cons_succ]
      generalize wx.heap.size = ga at mid ⊢
      generalize wx.alloc (.cells (rowA (.slice none 0 0) false false false) 26) = wy at mid ⊢
      refine relist (l2 := #[true, true, true, true, true, true, true, true, false]) (by kernel_rfl) ?_
      exact hE _ _ _ _ mid
    · go_simp
      replace mid := mid.allocA
      try clear hNow
      have hNow := (And.intro (callC mid.low hHeld.1) (And.intro (callC mid.low hHeld.2.1) (And.intro (callC mid.low hHeld.2.2.1) (And.intro (callC mid.low hHeld.2.2.2.1) (And.intro (callC mid.low hHeld.2.2.2.2.1) (And.intro (callC mid.low hHeld.2.2.2.2.2.1) (And.intro (callC mid.low hHeld.2.2.2.2.2.2.1) (And.intro (callC mid.low hHeld.2.2.2.2.2.2.2.1) (And.intro (callC mid.low hHeld.2.2.2.2.2.2.2.2.1) (callC mid.low hHeld.2.2.2.2.2.2.2.2.2))))))))))
      refine hK.out _ _ hNow ?_
      clear hK K
      try simp only [Act.put]
      try simp only [List.setIfInBounds_toArray, List.set_cons_zero, List.set_cons_succ]
      generalize wN.heap.size = ga at mid ⊢
      generalize wN.alloc (.cells (rowA (.slice none 0 0) false false false) 26) = wx at mid ⊢
      refine stepNext (i := 6) (by kernel_rfl) rfl (by rfl) (fun K hK => ?_)
      go_simp
      (with_reducible refine (Calls.mono (CT.out _ (WS.out.call mid.low)) ?_)); rintro e wy ⟨⟨Az, cz, rfl, frz⟩, hbz⟩
      replace mid := mid.call hbz frz
      clear hbz frz
      try clear hNow
      have hNow := (And.intro (callC mid.low hHeld.1) (And.intro (callC mid.low hHeld.2.1) (And.intro (callC mid.low hHeld.2.2.1) (And.intro (callC mid.low hHeld.2.2.2.1) (And.intro (callC mid.low hHeld.2.2.2.2.1) (And.intro (callC mid.low hHeld.2.2.2.2.2.1) (And.intro (callC mid.low hHeld.2.2.2.2.2.2.1) (And.intro (callC mid.low hHeld.2.2.2.2.2.2.2.1) (And.intro (callC mid.low hHeld.2.2.2.2.2.2.2.2.1) (callC mid.low hHeld.2.2.2.2.2.2.2.2.2))))))))))
      refine hK.out _ _ hNow ?_
      clear hK K
      try simp only [Act.put]
      try simp only [List.setIfInBounds_toArray, List.set_cons_zero, List.set_cons_succ]
      refine relist (l2 := #[true, true, true, true, true, true, true, true, false]) (by kernel_rfl) ?_
      exact hE _ _ _ _ mid
  intro ga Az cz w6 mid
  obtain ⟨hga, ab⟩ := mid.fa ga rfl
  obtain ⟨Bz, Cz, hBz, hCz, frz, hfar⟩ := mid.fr _ _ rfl
  have fa1 := hfar ga (.inl rfl)
  have near := mid.low
  clear hfar mid
  obtain ⟨hh0, hh1, hh2, hh3, hh4, hh5, hh6, hh7, hh8, hh9⟩ := hHeld
  have hHeld := (And.intro (callC near hh0) (And.intro (callC near hh1) (And.intro (callC near hh2) (And.intro (callC near hh3) (And.intro (callC near hh4) (And.intro (callC near hh5) (And.intro (callC near hh6) (And.intro (callC near hh7) (And.intro (callC near hh8) (callC near hh9))))))))))
  clear hh0 hh1 hh2 hh3 hh4 hh5 hh6 hh7 hh8 hh9
  refine stepNext (i := 8) (by kernel_rfl) rfl (by rfl) (fun K hK => ?_)
  refine wp_store_box 26 (.tmp 10) (.tmp 29) rfl _ _ rfl rfl ab size_row rfl (by simp [Value.oneCell']) ?_
  intro w7 ab st
  replace frz := st.fr frz fa1
  replace near := st.low near (by omega)
  have z7 := st.size
  obtain ⟨hh0, hh1, hh2, hh3, hh4, hh5, hh6, hh7, hh8, hh9⟩ := hHeld
  have hHeld := (And.intro (st.cell (by dsimp only; omega) hh0) (And.intro (st.cell (by dsimp only; omega) hh1) (And.intro (st.cell (by dsimp only; omega) hh2) (And.intro (st.cell (by dsimp only; omega) hh3) (And.intro (st.cell (by dsimp only; omega) hh4) (And.intro (st.cell (by dsimp only; omega) hh5) (And.intro (st.cell (by dsimp only; omega) hh6) (And.intro (st.cell (by dsimp only; omega) hh7) (And.intro (st.cell (by dsimp only; omega) hh8) (st.cell (by dsimp only; omega) hh9))))))))))
  clear hh0 hh1 hh2 hh3 hh4 hh5 hh6 hh7 hh8 hh9
  clear st
  refine hK.out _ _ hHeld ?_
  clear hK K
  try simp only [Act.put]
  try simp only [List.setIfInBounds_toArray, List.set_cons_zero, List.set_cons_succ]
  refine wpAnyH_done (by kernel_rfl) ?_ _
  refine NoPanic.normal ?_
  clear hHeld WS CT
  replace cb := cb.call near
  replace ob := ob.call near
  replace low := gCall low near
  have HC := Lib.hid h
  have FZ := Lib.hid frz
  clear h frz
  have ab_0 := ab.at_ 0 rfl
  have ab_1 := ab.at_ 1 rfl
  have ab_2 := ab.at_ 2 rfl
  have ab_3 := ab.at_ 3 rfl
  have cb_2 := cb.at_ 2 rfl
  go_wp2_with fail
  (with_reducible refine (TO.out _).mono ?_); rintro e w8 ⟨rfl, hb8⟩
  clear ab_0 ab_1 ab_2 ab_3 cb_2
  replace ab := ab.call hb8
  replace ob := ob.call hb8
  have near8 := gCall near hb8
  have fz8 := FZ.out.call hb8
  replace low := gCall low hb8
  have z8 : ga < w8.heap.size := ab.lt
  clear hb8 TO near
  have hga' : w.heap.size ≤ ga := by omega
  have ab2 := ((ab.set 1 (.bool tt.1)).set 2 (.bool tt.2.1)).set 3 (.bool tt.2.2)
  have ob2 := ((ob.far (p := ⟨ga, 1, none⟩) (by dsimp only; omega) (.bool tt.1)).far (p := ⟨ga, 2, none⟩) (by dsimp only; omega) (.bool tt.2.1)).far (p := ⟨ga, 3, none⟩) (by dsimp only; omega) (.bool tt.2.2)
  have near9 := gSet (p := ⟨ga, 3, none⟩) (gSet (p := ⟨ga, 2, none⟩) (gSet (p := ⟨ga, 1, none⟩) near8 hga (.bool tt.1)) hga (.bool tt.2.1)) hga (.bool tt.2.2)
  have fz9 := ((fz8.far (p := ⟨ga, 1, none⟩) fa1 (.bool tt.1)).far (p := ⟨ga, 2, none⟩) fa1 (.bool tt.2.1)).far (p := ⟨ga, 3, none⟩) fa1 (.bool tt.2.2)
  have low9 := gSet (p := ⟨ga, 3, none⟩) (gSet (p := ⟨ga, 2, none⟩) (gSet (p := ⟨ga, 1, none⟩) low hga' (.bool tt.1)) hga' (.bool tt.2.1)) hga' (.bool tt.2.2)
  clear near8 fz8 ob
  have ab_0 := ab.at_ 0 rfl
  have ab_1 := ab.at_ 1 rfl
  have ab_2 := ab.at_ 2 rfl
  have ab_3 := ab.at_ 3 rfl
  have ab_f1 := ab.frozen 1
  have ab_f2 := ab.frozen 2
  have ab_f3 := ab.frozen 3
  go_wp2_with fail
  clear ab_0 ab_1 ab_2 ab_3 ab_f1 ab_f2 ab_f3
  clear ab low FZ
  have z9 : ga < (((w8.setCell ⟨ga, 1, none⟩ (.bool tt.1)).setCell ⟨ga, 2, none⟩ (.bool tt.2.1)).setCell ⟨ga, 3, none⟩ (.bool tt.2.2)).heap.size := by simpa using z8
  have aa0 := ab2.at_ 0 rfl
  have aa1 := ab2.at_ 1 rfl
  have aa2 := ab2.at_ 2 rfl
  have aa3 := ab2.at_ 3 rfl
  generalize ((w8.setCell ⟨ga, 1, none⟩ (.bool tt.1)).setCell ⟨ga, 2, none⟩ (.bool tt.2.1)).setCell ⟨ga, 3, none⟩ (.bool tt.2.2) = w9 at *
  simp at aa0 aa1 aa2 aa3
  obtain ⟨r0, _, _, _⟩ := RO.out _ low9
  obtain ⟨o0, o1, o2', o3, o4, o5⟩ := WO.out _ low9
  have CW := Lib.hid (cacheWith_l GD.out _ k ⟨la, tt.1, tt.2.1, tt.2.2⟩ Az cz w9.drew (HC.out.call near9).drew kl fz9.ws.drew lla)
  refine wp_region_noPanic ?_
  refine wp_region_held_drew (S := fun w' => w'.cell? ⟨ga, 0, none⟩ = some (.slice Az la.length cz) ∧ w'.cell? ⟨ga, 1, none⟩ = some (.bool tt.1) ∧ w'.cell? ⟨ga, 2, none⟩ = some (.bool tt.2.1) ∧ w'.cell? ⟨ga, 3, none⟩ = some (.bool tt.2.2) ∧ w'.cell? ⟨bb, o + k * 4, none⟩ = some (.slice (some ⟨b2, o2, none⟩) t.l.length c') ∧ w'.cell? ⟨b2, o2 + j * 6, none⟩ = some (.int .i64 old.st) ∧ w'.cell? ⟨b2, o2 + j * 6 + 1, none⟩ = some (.int .i64 old.ln) ∧ w'.cell? ⟨b2, o2 + j * 6 + 2, none⟩ = some (.int .u64 old.a) ∧ w'.cell? ⟨b2, o2 + j * 6 + 3, none⟩ = some (.int .u64 old.b) ∧ w'.cell? ⟨b2, o2 + j * 6 + 4, none⟩ = some (.int .u64 old.c) ∧ w'.cell? ⟨b2, o2 + j * 6 + 5, none⟩ = some (.int .u64 old.d)) (by kernel_rfl) ⟨drewC aa0, drewC aa1, drewC aa2, drewC aa3, drewC r0, drewC o0, drewC o1, drewC o2', drewC o3, drewC o4, drewC o5⟩ (fun hHeld => ?_)
  clear aa0 aa1 aa2 aa3 r0 o0 o1 o2' o3 o4 o5
  refine takeFirst (i := 0) (v := ?_) rfl (by kernel_rfl) (by kernel_rfl) (by kernel_rfl) (by rfl) (fun _ _ _ h => h) ?_ (by assumption) ?_
  rotate_left
  · (intro w hSw; go_simp; try (with_reducible rfl))
  try simp only [Act.put, List.setIfInBounds_toArray, List.set_cons_zero, List.set_cons_succ]
  refine takeFirst (i := 1) (v := ?_) rfl (by kernel_rfl) (by kernel_rfl) (by kernel_rfl) (by rfl) (fun _ _ _ h => h) ?_ (by assumption) ?_
  rotate_left
  · (intro w hSw; go_simp; try (with_reducible rfl))
  try simp only [Act.put, List.setIfInBounds_toArray, List.set_cons_zero, List.set_cons_succ]
  refine takeFirst (i := 2) (v := ?_) rfl (by kernel_rfl) (by kernel_rfl) (by kernel_rfl) (by rfl) (fun _ _ _ h => h) ?_ (by assumption) ?_
  rotate_left
  · (intro w hSw; go_simp; try (with_reducible rfl))
  try simp only [Act.put, List.setIfInBounds_toArray, List.set_cons_zero, List.set_cons_succ]
  refine takeFirst (i := 4) (v := ?_) rfl (by kernel_rfl) (by kernel_rfl) (by kernel_rfl) (by rfl) (fun _ _ _ h => h) ?_ (by assumption) ?_
  rotate_left
  · (intro w hSw; go_simp; try (with_reducible rfl))
  try simp only [Act.put, List.setIfInBounds_toArray, List.set_cons_zero, List.set_cons_succ]
  refine takeFirst (i := 5) (v := ?_) rfl (by kernel_rfl) (by kernel_rfl) (by kernel_rfl) (by rfl) (fun _ _ _ h => h) ?_ (by assumption) ?_
  rotate_left
  · (intro w hSw; go_simp; try (with_reducible rfl))
  try simp only [Act.put, List.setIfInBounds_toArray, List.set_cons_zero, List.set_cons_succ]
  refine takeFirst (i := 6) (v := ?_) rfl (by kernel_rfl) (by kernel_rfl) (by kernel_rfl) (by rfl) (fun _ _ _ h => h) ?_ (by assumption) ?_
  rotate_left
  · (intro w hSw; go_simp; try (with_reducible rfl))
  try simp only [Act.put, List.setIfInBounds_toArray, List.set_cons_zero, List.set_cons_succ]
  refine takeFirst (i := 7) (v := ?_) rfl (by kernel_rfl) (by kernel_rfl) (by kernel_rfl) (by rfl) (fun _ _ _ h => h) ?_ (by assumption) ?_
  rotate_left
  · (intro w hSw; go_simp; try (with_reducible rfl))
  try simp only [Act.put, List.setIfInBounds_toArray, List.set_cons_zero, List.set_cons_succ]
  refine takeFirst (i := 8) (v := ?_) rfl (by kernel_rfl) (by kernel_rfl) (by kernel_rfl) (by rfl) (fun _ _ _ h => h) ?_ (by assumption) ?_
  rotate_left
  · (intro w hSw; go_simp; try (with_reducible rfl))
  try simp only [Act.put, List.setIfInBounds_toArray, List.set_cons_zero, List.set_cons_succ]
  refine takeFirst (i := 9) (v := ?_) rfl (by kernel_rfl) (by kernel_rfl) (by kernel_rfl) (by rfl) (fun _ _ _ h => h) ?_ (by assumption) ?_
  rotate_left
  · (intro w hSw; go_simp; try (with_reducible rfl))
  try simp only [Act.put, List.setIfInBounds_toArray, List.set_cons_zero, List.set_cons_succ]
  refine takeFirst (i := 10) (v := ?_) rfl (by kernel_rfl) (by kernel_rfl) (by kernel_rfl) (by rfl) (fun _ _ _ h => h) ?_ (by assumption) ?_
  rotate_left
  · (intro w hSw; go_simp; try (with_reducible rfl))
  try simp only [Act.put, List.setIfInBounds_toArray, List.set_cons_zero, List.set_cons_succ]
  refine takeFirst (i := 11) (v := ?_) rfl (by kernel_rfl) (by kernel_rfl) (by kernel_rfl) (by rfl) (fun _ _ _ h => h) ?_ (by assumption) ?_
  rotate_left
  · (intro w hSw; go_simp; try (with_reducible rfl))
  try simp only [Act.put, List.setIfInBounds_toArray, List.set_cons_zero, List.set_cons_succ]
  refine stepNext (i := 3) (by kernel_rfl) rfl (by rfl) (fun K hK => ?_)
  go_simp
  (with_reducible refine (Calls.mono CW.out ?_)); rintro e wA ⟨⟨A9, c9, rfl, cs9⟩, hbA⟩
  replace ob2 := ob2.drew.call hbA
  replace low9 := gCall low9.drew hbA
  have zA : w9.heap.size ≤ wA.heap.size := hbA.size
  obtain ⟨hh0, hh1, hh2, hh3, hh4, hh5, hh6, hh7, hh8, hh9, hh10⟩ := hHeld
  have hHeld := (And.intro (callC hbA hh0) (And.intro (callC hbA hh1) (And.intro (callC hbA hh2) (And.intro (callC hbA hh3) (And.intro (callC hbA hh4) (And.intro (callC hbA hh5) (And.intro (callC hbA hh6) (And.intro (callC hbA hh7) (And.intro (callC hbA hh8) (And.intro (callC hbA hh9) (callC hbA hh10)))))))))))
  clear hh0 hh1 hh2 hh3 hh4 hh5 hh6 hh7 hh8 hh9 hh10
  clear hbA CW
  refine hK.out _ _ hHeld ?_
  clear hK K
  try simp only [Act.put]
  try simp only [List.setIfInBounds_toArray, List.set_cons_zero, List.set_cons_succ]
  refine stepNext (i := 12) (by kernel_rfl) rfl (by rfl) (fun K hK => ?_)
  go_simp
  refine hK.out _ _ hHeld ?_
  clear hK K
  try simp only [Act.put]
  try simp only [List.setIfInBounds_toArray, List.set_cons_zero, List.set_cons_succ]
  refine stepNext (i := 13) (by kernel_rfl) rfl (by rfl) (fun K hK => ?_)
  refine wp_store_box 32 (.tmp 7) (.tmp 48) rfl _ _ rfl rfl ob2 size_way rfl (by simp [Value.oneCell']) ?_
  intro wB ob3 st
  have lz9 : wN.heap.size ≤ w9.heap.size := near9.size
  replace cs9 := cs9.stored st (show _ < w9.heap.size by omega)
  replace low9 := st.low low9 (by omega)
  obtain ⟨hh0, hh1, hh2, hh3, hh4, hh5, hh6, hh7, hh8, hh9, hh10⟩ := hHeld
  have hHeld := (And.intro (st.cell (by dsimp only; omega) hh0) (And.intro (st.cell (by dsimp only; omega) hh1) (And.intro (st.cell (by dsimp only; omega) hh2) (And.intro (st.cell (by dsimp only; omega) hh3) (And.intro (st.cell (by dsimp only; omega) hh4) (And.intro (st.cell (by dsimp only; omega) hh5) (And.intro (st.cell (by dsimp only; omega) hh6) (And.intro (st.cell (by dsimp only; omega) hh7) (And.intro (st.cell (by dsimp only; omega) hh8) (And.intro (st.cell (by dsimp only; omega) hh9) (st.cell (by dsimp only; omega) hh10)))))))))))
  clear hh0 hh1 hh2 hh3 hh4 hh5 hh6 hh7 hh8 hh9 hh10
  clear st
  refine hK.out _ _ hHeld ?_
  clear hK K
  try simp only [Act.put]
  try simp only [List.setIfInBounds_toArray, List.set_cons_zero, List.set_cons_succ]
  refine wpAnyH_done (by kernel_rfl) ?_ _
  refine NoPanic.normal ?_
  clear hHeld
  obtain ⟨q0, q1, q2, q3, q4, q5⟩ := ob3.wayC
  have CF := Lib.hid (cs9.more (base' := w.heap.size) (show _ ≤ w9.heap.size by omega))
  clear cs9
  go_wp2_with fail
  refine bodyPost_ret (v := .tuple #[.slice A9 ss.length c9, old.val]) (by simp [results, Try.results31, go_sem, q0, q1, q2, q3, q4, q5]) rfl ⟨⟨_, _, rfl, CF.out⟩, low9⟩

set_option maxRecDepth 10000 in
set_option maxHeartbeats 4000000 in
theorem refTake_ok (n s y b : Int) (v : Value) (ss : List St) (m : Int) (k : Nat) (t : St) (j : Nat) (old : Wy) (w : World) (h : Cs w v ss) (good : GoodC n s y b ss) (hx : 0 ≤ m ∧ m ≤ 15) (hk : m % s = k) (ht : ss[k]? = some t) (hj : idxP (hasW m) t.l = j) (ho : t.l[j]? = some old) :
    Calls Try.prog 28 #[cfg n s y b, v, .int .i64 m] w (GaveRW w ss old (ss.set k ⟨t.l.set j wy0, t.a, t.b, t.c⟩)) := by
  have kl := st_lt ht
  have jl := set_lt ho
  obtain ⟨t0, t1, t2, t3⟩ := ways_len good ht
  have hs : 1 ≤ s ∧ s ≤ 4 := by have := cfgB_iff.1 good.1; omega
  obtain ⟨hs1, hs2⟩ := hs
  obtain ⟨hx0, hx1⟩ := hx
  obtain ⟨A, cp, rfl, h1, h2, h3⟩ := h.ex
  obtain ⟨bb, o, rfl, hb, hc⟩ := h3 (by omega)
  obtain ⟨A', c', ra, ws⟩ := hc.at_ k t ht
  obtain ⟨hl, A2, cx, e2, g1, g2, g3⟩ := id ws
  cases e2
  obtain ⟨b2, o2, rfl, hb2, hc2⟩ := g3 (by omega)
  have WO := Lib.hid (fun w' (lw : Below w.heap.size w w') => wayAt_of hc2 hb2 lw ho)
  have RO := Lib.hid (fun w' (lw : Below w.heap.size w w') => rowAt_of ra hb lw)
  have GD := Lib.hid good
  have RA := Lib.hid fun w hw => rowAt_any (.slice (some ⟨b2, o2, none⟩) t.l.length c') t.l t.a t.b t.c m w hw
  rw [hj] at RA
  obtain ⟨la, hla⟩ : ∃ la, la = t.l.set j wy0 := ⟨_, rfl⟩
  have CT := Lib.hid fun w hw => rowWith_l (.slice (some ⟨b2, o2, none⟩) t.l.length c') t.l t.a t.b t.c j wy0 w hw (by omega) jl
  rw [← hla] at CT ⊢
  simp only [Wy.val, wy0] at CT
  have lla : 0 < la.length ∧ la.length ≤ 4 := by rw [hla, List.length_set]; omega
  have kc : (k : Int) < ss.length := by omega
  have k0 : (0 : Int) ≤ k := by omega
  have j0 : (0 : Int) ≤ j := by omega
  have j1 : (j : Int) < t.l.length := by omega
  clear h1 h2 h3 hc good ht hj t0 t1 t2 t3 jl hla g1 g2 g3 hc2 hl ho
  have low := Below.refl w.heap.size w
  have cb := boxNext low 44 (cfgA n s y b)
  replace low := gAlloc low (.cells (cfgA n s y b) 44)
  replace h := h.alloc (.cells (cfgA n s y b) 44)
  try simp only [World.size_alloc] at cb
  have ob := boxNext low 32 zeroA
  replace low := gAlloc low (.cells zeroA 32)
  replace h := h.alloc (.cells zeroA 32)
  replace cb := cb.alloc (.cells zeroA 32)
  try simp only [World.size_alloc] at ob
  simp only [zeroA] at ob
  obtain ⟨r0, r1, r2, r3⟩ := RO.out _ low
  replace ws := ws.call low
  clear ra cb
  go_enter Try.func28, Try.ntmps28
  go_wp2_with fail
  (with_reducible refine (RA.out _ ws).mono ?_); rintro e w1 ⟨rfl, hb1⟩
  replace h := h.call hb1
  replace ob := ob.call hb1
  replace ws := ws.call hb1
  replace low := gCall low hb1
  clear hb1 RA r0 r1 r2 r3
  obtain ⟨r0, r1, r2, r3⟩ := RO.out _ low
  obtain ⟨o0, o1, o2', o3, o4, o5⟩ := WO.out _ low
  go_wp2_with fail
  refine wp_region_noPanic ?_
  refine wp_region_held_drew (S := fun w' => w'.cell? ⟨bb, o + k * 4, none⟩ = some (.slice (some ⟨b2, o2, none⟩) t.l.length c') ∧ w'.cell? ⟨bb, o + k * 4 + 1, none⟩ = some (.bool t.a) ∧ w'.cell? ⟨bb, o + k * 4 + 2, none⟩ = some (.bool t.b) ∧ w'.cell? ⟨bb, o + k * 4 + 3, none⟩ = some (.bool t.c) ∧ w'.cell? ⟨b2, o2 + j * 6, none⟩ = some (.int .i64 old.st) ∧ w'.cell? ⟨b2, o2 + j * 6 + 1, none⟩ = some (.int .i64 old.ln) ∧ w'.cell? ⟨b2, o2 + j * 6 + 2, none⟩ = some (.int .u64 old.a) ∧ w'.cell? ⟨b2, o2 + j * 6 + 3, none⟩ = some (.int .u64 old.b) ∧ w'.cell? ⟨b2, o2 + j * 6 + 4, none⟩ = some (.int .u64 old.c) ∧ w'.cell? ⟨b2, o2 + j * 6 + 5, none⟩ = some (.int .u64 old.d)) (by kernel_rfl) ⟨drewC r0, drewC r1, drewC r2, drewC r3, drewC o0, drewC o1, drewC o2', drewC o3, drewC o4, drewC o5⟩ (fun hHeld => ?_)
  clear r0 r1 r2 r3 o0 o1 o2' o3 o4 o5
  refine takeFirst (i := 0) (v := ?_) rfl (by kernel_rfl) (by kernel_rfl) (by kernel_rfl) (by rfl) (fun _ _ _ h => h) ?_ (by assumption) ?_
  rotate_left
  · (intro w hSw; go_simp; try (with_reducible rfl))
  try simp only [Act.put, List.setIfInBounds_toArray, List.set_cons_zero, List.set_cons_succ]
  refine takeFirst (i := 1) (v := ?_) rfl (by kernel_rfl) (by kernel_rfl) (by kernel_rfl) (by rfl) (fun _ _ _ h => h) ?_ (by assumption) ?_
  rotate_left
  · (intro w hSw; go_simp; try (with_reducible rfl))
  try simp only [Act.put, List.setIfInBounds_toArray, List.set_cons_zero, List.set_cons_succ]
  refine takeFirst (i := 2) (v := ?_) rfl (by kernel_rfl) (by kernel_rfl) (by kernel_rfl) (by rfl) (fun _ _ _ h => h) ?_ (by assumption) ?_
  rotate_left
  · (intro w hSw; go_simp; try (with_reducible rfl))
  try simp only [Act.put, List.setIfInBounds_toArray, List.set_cons_zero, List.set_cons_succ]
  refine takeFirst (i := 3) (v := ?_) rfl (by kernel_rfl) (by kernel_rfl) (by kernel_rfl) (by rfl) (fun _ _ _ h => h) ?_ (by assumption) ?_
  rotate_left
  · (intro w hSw; go_simp; try (with_reducible rfl))
  try simp only [Act.put, List.setIfInBounds_toArray, List.set_cons_zero, List.set_cons_succ]
  refine takeFirst (i := 4) (v := ?_) rfl (by kernel_rfl) (by kernel_rfl) (by kernel_rfl) (by rfl) (fun _ _ _ h => h) ?_ (by assumption) ?_
  rotate_left
  · (intro w hSw; go_simp; try (with_reducible rfl))
  try simp only [Act.put, List.setIfInBounds_toArray, List.set_cons_zero, List.set_cons_succ]
  refine takeFirst (i := 5) (v := ?_) rfl (by kernel_rfl) (by kernel_rfl) (by kernel_rfl) (by rfl) (fun _ _ _ h => h) ?_ (by assumption) ?_
  rotate_left
  · (intro w hSw; go_simp; try (with_reducible rfl))
  try simp only [Act.put, List.setIfInBounds_toArray, List.set_cons_zero, List.set_cons_succ]
  refine takeFirst (i := 6) (v := ?_) rfl (by kernel_rfl) (by kernel_rfl) (by kernel_rfl) (by rfl) (fun _ _ _ h => h) ?_ (by assumption) ?_
  rotate_left
  · (intro w hSw; go_simp; try (with_reducible rfl))
  try simp only [Act.put, List.setIfInBounds_toArray, List.set_cons_zero, List.set_cons_succ]
  refine takeFirst (i := 7) (v := ?_) rfl (by kernel_rfl) (by kernel_rfl) (by kernel_rfl) (by rfl) (fun _ _ _ h => h) ?_ (by assumption) ?_
  rotate_left
  · (intro w hSw; go_simp; try (with_reducible rfl))
  try simp only [Act.put, List.setIfInBounds_toArray, List.set_cons_zero, List.set_cons_succ]
  refine takeFirst (i := 10) (v := ?_) rfl (by kernel_rfl) (by kernel_rfl) (by kernel_rfl) (by rfl) (fun _ _ _ h => h) ?_ (by assumption) ?_
  rotate_left
  · (intro w hSw; go_simp; try (with_reducible rfl))
  try simp only [Act.put, List.setIfInBounds_toArray, List.set_cons_zero, List.set_cons_succ]
  refine takeFirst (i := 11) (v := ?_) rfl (by kernel_rfl) (by kernel_rfl) (by kernel_rfl) (by rfl) (fun _ _ _ h => h) ?_ (by assumption) ?_
  rotate_left
  · (intro w hSw; go_simp; try (with_reducible rfl))
  try simp only [Act.put, List.setIfInBounds_toArray, List.set_cons_zero, List.set_cons_succ]
  refine takeFirst (i := 12) (v := ?_) rfl (by kernel_rfl) (by kernel_rfl) (by kernel_rfl) (by rfl) (fun _ _ _ h => h) ?_ (by assumption) ?_
  rotate_left
  · (intro w hSw; go_simp; try (with_reducible rfl))
  try simp only [Act.put, List.setIfInBounds_toArray, List.set_cons_zero, List.set_cons_succ]
  refine takeFirst (i := 13) (v := ?_) rfl (by kernel_rfl) (by kernel_rfl) (by kernel_rfl) (by rfl) (fun _ _ _ h => h) ?_ (by assumption) ?_
  rotate_left
  · (intro w hSw; go_simp; try (with_reducible rfl))
  try simp only [Act.put, List.setIfInBounds_toArray, List.set_cons_zero, List.set_cons_succ]
  refine takeFirst (i := 14) (v := ?_) rfl (by kernel_rfl) (by kernel_rfl) (by kernel_rfl) (by rfl) (fun _ _ _ h => h) ?_ (by assumption) ?_
  rotate_left
  · (intro w hSw; go_simp; try (with_reducible rfl))
  try simp only [Act.put, List.setIfInBounds_toArray, List.set_cons_zero, List.set_cons_succ]
  refine takeFirst (i := 15) (v := ?_) rfl (by kernel_rfl) (by kernel_rfl) (by kernel_rfl) (by rfl) (fun _ _ _ h => h) ?_ (by assumption) ?_
  rotate_left
  · (intro w hSw; go_simp; try (with_reducible rfl))
  try simp only [Act.put, List.setIfInBounds_toArray, List.set_cons_zero, List.set_cons_succ]
  refine takeFirst (i := 16) (v := ?_) rfl (by kernel_rfl) (by kernel_rfl) (by kernel_rfl) (by rfl) (fun _ _ _ h => h) ?_ (by assumption) ?_
  rotate_left
  · (intro w hSw; go_simp; try (with_reducible rfl))
  try simp only [Act.put, List.setIfInBounds_toArray, List.set_cons_zero, List.set_cons_succ]
  refine takeFirst (i := 17) (v := ?_) rfl (by kernel_rfl) (by kernel_rfl) (by kernel_rfl) (by rfl) (fun _ _ _ h => h) ?_ (by assumption) ?_
  rotate_left
  · (intro w hSw; go_simp; try (with_reducible rfl))
  try simp only [Act.put, List.setIfInBounds_toArray, List.set_cons_zero, List.set_cons_succ]
  refine stepNext (i := 8) (by kernel_rfl) rfl (by rfl) (fun K hK => ?_)
  go_simp
  (with_reducible refine (CT.out _ ws.drew).mono ?_); rintro e w2 ⟨⟨Az, cz, rfl, frz⟩, hb2'⟩
  have z1 : w.heap.size + 1 < w1.heap.size := ob.lt
  have z2 : w1.heap.size ≤ w2.heap.size := hb2'.size
  replace h := h.drew.call hb2'
  replace ob := ob.drew.call hb2'
  replace low := gCall low.drew hb2'
  obtain ⟨hh0, hh1, hh2, hh3, hh4, hh5, hh6, hh7, hh8, hh9⟩ := hHeld
  have hHeld := (And.intro (callC hb2' hh0) (And.intro (callC hb2' hh1) (And.intro (callC hb2' hh2) (And.intro (callC hb2' hh3) (And.intro (callC hb2' hh4) (And.intro (callC hb2' hh5) (And.intro (callC hb2' hh6) (And.intro (callC hb2' hh7) (And.intro (callC hb2' hh8) (callC hb2' hh9))))))))))
  clear hh0 hh1 hh2 hh3 hh4 hh5 hh6 hh7 hh8 hh9
  clear hb2' CT ws
  refine hK.out _ _ hHeld ?_
  clear hK K
  try simp only [Act.put]
  try simp only [List.setIfInBounds_toArray, List.set_cons_zero, List.set_cons_succ]
  refine stepNext (i := 9) (by kernel_rfl) rfl (by rfl) (fun K hK => ?_)
  go_simp
  (with_reducible refine (Calls.mono (cacheWith_l GD.out _ k ⟨la, t.a, t.b, t.c⟩ Az cz w2 h kl frz.ws lla) ?_)); rintro e wA ⟨⟨A9, c9, rfl, cs9⟩, hbA⟩
  replace ob := ob.call hbA
  replace low := gCall low hbA
  obtain ⟨hh0, hh1, hh2, hh3, hh4, hh5, hh6, hh7, hh8, hh9⟩ := hHeld
  have hHeld := (And.intro (callC hbA hh0) (And.intro (callC hbA hh1) (And.intro (callC hbA hh2) (And.intro (callC hbA hh3) (And.intro (callC hbA hh4) (And.intro (callC hbA hh5) (And.intro (callC hbA hh6) (And.intro (callC hbA hh7) (And.intro (callC hbA hh8) (callC hbA hh9))))))))))
  clear hh0 hh1 hh2 hh3 hh4 hh5 hh6 hh7 hh8 hh9
  clear hbA frz h
  refine hK.out _ _ hHeld ?_
  clear hK K
  try simp only [Act.put]
  try simp only [List.setIfInBounds_toArray, List.set_cons_zero, List.set_cons_succ]
  refine stepNext (i := 18) (by kernel_rfl) rfl (by rfl) (fun K hK => ?_)
  go_simp
  refine hK.out _ _ hHeld ?_
  clear hK K
  try simp only [Act.put]
  try simp only [List.setIfInBounds_toArray, List.set_cons_zero, List.set_cons_succ]
  refine stepNext (i := 19) (by kernel_rfl) rfl (by rfl) (fun K hK => ?_)
  refine wp_store_box 32 (.tmp 7) (.tmp 37) rfl _ _ rfl rfl ob size_way rfl (by simp [Value.oneCell']) ?_
  intro wB ob3 st
  replace cs9 := cs9.stored st (show _ < w2.heap.size by omega)
  replace low := st.low low (by omega)
  obtain ⟨hh0, hh1, hh2, hh3, hh4, hh5, hh6, hh7, hh8, hh9⟩ := hHeld
  have hHeld := (And.intro (st.cell (by dsimp only; omega) hh0) (And.intro (st.cell (by dsimp only; omega) hh1) (And.intro (st.cell (by dsimp only; omega) hh2) (And.intro (st.cell (by dsimp only; omega) hh3) (And.intro (st.cell (by dsimp only; omega) hh4) (And.intro (st.cell (by dsimp only; omega) hh5) (And.intro (st.cell (by dsimp only; omega) hh6) (And.intro (st.cell (by dsimp only; omega) hh7) (And.intro (st.cell (by dsimp only; omega) hh8) (st.cell (by dsimp only; omega) hh9))))))))))
  clear hh0 hh1 hh2 hh3 hh4 hh5 hh6 hh7 hh8 hh9
  clear st
  refine hK.out _ _ hHeld ?_
  clear hK K
  try simp only [Act.put]
  try simp only [List.setIfInBounds_toArray, List.set_cons_zero, List.set_cons_succ]
  refine wpAnyH_done (by kernel_rfl) ?_ _
  refine NoPanic.normal ?_
  clear hHeld
  obtain ⟨q0, q1, q2, q3, q4, q5⟩ := ob3.wayC
  have CF := Lib.hid (cs9.more (base' := w.heap.size) (show _ ≤ w2.heap.size by omega))
  clear cs9
  go_wp2_with fail
  refine bodyPost_ret (v := .tuple #[.slice A9 ss.length c9, old.val]) (by simp [results, Try.results28, go_sem, q0, q1, q2, q3, q4, q5]) rfl ⟨⟨_, _, rfl, CF.out⟩, low⟩
end Go.Proofs.Ytmodajmjmdigfaa
