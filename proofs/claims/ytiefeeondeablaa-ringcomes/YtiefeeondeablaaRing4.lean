/-
Proved: what Step of package ring returns, for every ring that can be read; it changes nothing that was there, and what it returns is new. No condition.
-/
import Derived.Test.YtiefeeondeablaaRing3
import Derived.Test.YtiefeeondeablaaSorted
namespace Go.Proofs.Ytiefeeondeablaa
open Go.ChangeShapes Go.WideShapes Go.ChangeAt Go.RowKit Go.Joins

/-- Does the slot return to its node? The nodes of those that do. -/
def retS (n : Int) (x : Sw) : Bool := x.fu && !(advS n x).fu
def backL (n : Int) (l : List Sw) : List Int := (l.filter (retS n)).map Sw.nd

theorem backL_succ {n : Int} {l : List Sw} {k : Nat} {x : Sw} (h : l[k]? = some x) : backL n (l.take (k + 1)) = backL n (l.take k) ++ if retS n x = true then [x.nd] else [] := by
  have e : l.take (k + 1) = l.take k ++ [x] := by rw [List.take_add_one, h]; rfl
  unfold backL
  rw [e, List.filter_append, List.map_append]
  cases hr : retS n x <;> simp [hr]
theorem backL_few (n : Int) (l : List Sw) : (backL n l).length ≤ l.length := by
  unfold backL
  rw [List.length_map]
  exact List.length_filter_le _ _

/-- The first k slots are those behind a step; the others are as they are made. -/
def stepR (n : Int) (l : List Sw) (k : Nat) : List Sw := (l.take k).map (advS n) ++ List.replicate (l.length - k) sw0
theorem stepR_zero (n : Int) (l : List Sw) : stepR n l 0 = List.replicate l.length sw0 := rfl
theorem stepR_length (n : Int) (l : List Sw) (k : Nat) (hk : k ≤ l.length) : (stepR n l k).length = l.length := by
  simp [stepR]; omega
theorem stepR_all (n : Int) (l : List Sw) : stepR n l l.length = l.map (advS n) := by simp [stepR]
theorem stepR_succ {n : Int} {l : List Sw} {k : Nat} {x : Sw} (h : l[k]? = some x) : (stepR n l k).set k (advS n x) = stepR n l (k + 1) := by
  have hk : k < l.length := (List.getElem?_eq_some_iff.1 h).1
  have e : ((l.take k).map (advS n)).length = k := by rw [List.length_map, List.length_take]; omega
  have e2 : l.take (k + 1) = l.take k ++ [x] := by rw [List.take_add_one, h]; rfl
  unfold stepR
  rw [e2, List.set_append_right _ _ (by omega), e, Nat.sub_self, show l.length - k = (l.length - (k + 1)) + 1 by omega, List.replicate_succ, List.set_cons_zero, List.map_append, List.append_assoc]
  rfl

/-- What is right of each slot of a right ring. -/
theorem slotsE_slots {n : Int} : ∀ {r l : List Sw}, slotsE n l r = 0 → ∀ x ∈ r, nodB n x.pl = true ∧ nodB n x.nd = true ∧ waitB x.wt = true
  | [], _, _, x, hx => by cases hx
  | y :: r, l, h, x, hx => by
    rw [slotsE_cons] at h
    by_cases e : slotE n l y = 0
    · rw [if_pos e] at h
      rcases List.mem_cons.1 hx with rfl | hx
      · unfold slotE at e
        by_cases b : nodB n x.pl = false ∨ nodB n x.nd = false ∨ waitB x.wt = false
        · rw [if_pos b] at e; cases e
        · cases h1 : nodB n x.pl <;> cases h2 : nodB n x.nd <;> cases h3 : waitB x.wt <;> simp_all
      · exact slotsE_slots h x hx
    · rw [if_neg e] at h; exact absurd h e
theorem ringE_ok {n s y b : Int} {l : List Sw} (h : ringE n s y b l = 0) : cfgB n s y b = true ∧ 1 ≤ l.length ∧ l.length ≤ 8 ∧ slotsE n [] l = 0 := by
  have hc := ringE_cnt h
  obtain ⟨h1, h2, h3⟩ := cntE_ok hc
  unfold ringE at h
  rw [if_pos hc] at h
  exact ⟨h1, by omega, by omega, h⟩

section
variable {w w' : World} {base B g n size : Nat} {e t : TypeId} {v : Value} {xs cs' : List Value} {cs : Array Value}
theorem row_ne (h : w.ownsRow base e size v n xs) (hb : Box w g t cs) (ht : t ≠ e) : some g ≠ v.ownBlock := by
  rcases h.2 with ⟨rfl, _⟩ | ⟨g', cap, cur, rfl, hg, hh, _⟩
  · intro k; simp [Value.ownBlock] at k
  · intro k
    simp only [Value.ownBlock, Option.some.injEq] at k
    subst k
    unfold Box at hb
    rw [hb] at hh
    cases hh
    exact ht rfl
theorem row_stored (h : w.ownsRow base e size v n xs) (st : Stored w g w') (hg : g < base) : w'.ownsRow base e size v n xs := by
  refine ⟨h.1, ?_⟩
  rcases h.2 with h2 | ⟨g', cap, cur, hv, hg', hh, r⟩
  · exact .inl h2
  · exact .inr ⟨g', cap, cur, hv, hg', (st.heap (by omega)).trans hh, r⟩
theorem row_less (h : w.ownsRow base e size v n xs) (hB : B ≤ base) : w.ownsRow B e size v n xs := by
  refine ⟨h.1, ?_⟩
  rcases h.2 with h2 | ⟨g', cap, cur, hv, hg', r⟩
  · exact .inl h2
  · exact .inr ⟨g', cap, cur, hv, by omega, r⟩
theorem row_from (h : w.ownsRow base e size v n xs) : ∀ k, v.ownBlock = some k → base ≤ k := by
  intro k hk
  rcases h.2 with ⟨rfl, _⟩ | ⟨g', cap, cur, rfl, hg', _⟩
  · simp [Value.ownBlock] at hk
  · simp only [Value.ownBlock, Option.some.injEq] at hk
    omega
end
theorem OwnS.grown {w w' : World} {g : Nat} {v : Value} {l : List Sw} {row : Option Nat} (h : OwnS w g v l) (hb : w.grownBy w' row) (hg : some g ≠ row) : OwnS w' g v l := by
  obtain ⟨cap, cur, rfl, h1, h2⟩ := h
  exact ⟨cap, cur, rfl, h1.grown hb hg, h2⟩
theorem OwnS.sorted {w w' : World} {base g : Nat} {v : Value} {l : List Sw} (h : OwnS w g v l) (st : SortedTo w base w') : OwnS w' g v l := by
  obtain ⟨cap, cur, rfl, h1, h2⟩ := h
  exact ⟨cap, cur, rfl, st.box h1 (by decide), h2⟩
theorem OwnS.ne {w : World} {base g n : Nat} {u v : Value} {l : List Sw} {xs : List Value} (h : OwnS w g v l) (r : w.ownsRow base 3 1 u n xs) : some g ≠ u.ownBlock := by
  obtain ⟨_, _, _, hb, _⟩ := h
  exact row_ne r hb (by decide)

theorem info_int2 : (Try.prog.info? 3).map (fun i => (i.zero, i.size, i.bytes)) = some (some (.int .i64 0), 1, 8) := by kernel_rfl

theorem ringStep_bad (n s y b : Int) (v : Value) (l : List Sw) (w : World) (h : Rs w v l) (hE : ringE n s y b l ≠ 0) :
    Calls Try.prog 8 #[cfg n s y b, v] w fun e w' => e = .returned (.tuple #[.slice none 0 0, .slice none 0 0, .int .i64 (ringE n s y b l)]) ∧ Below w.heap.size w w' := by
  have C := Lib.hid fun w hw => ringCheck_any n s y b v l w hw
  generalize ringE n s y b l = E at *
  have hE' : (E != 0) = true := by simpa using hE
  clear hE
  obtain ⟨A, c, rfl⟩ := h.shape
  have low := Below.refl w.heap.size w
  have cb := boxNext low 23 #[.int .i64 n, .int .i64 s, .int .i64 y, .int .i64 b]
  replace low := gAlloc low (.cells #[.int .i64 n, .int .i64 s, .int .i64 y, .int .i64 b] 23)
  replace h := h.alloc (.cells #[.int .i64 n, .int .i64 s, .int .i64 y, .int .i64 b] 23)
  try simp only [World.size_alloc] at cb
  go_enter Try.func8, Try.ntmps8
  go_wp2_with fail
  (with_reducible refine (C.out _ h).mono ?_); rintro e w1 ⟨rfl, hb⟩
  replace cb := cb.call hb
  replace low := gCall low hb
  clear hb
  go_wp2_with fail
  go_ret3
  exact ⟨rfl, low⟩

set_option maxHeartbeats 4000000 in
theorem ringStep_ok (n s y b : Int) (v : Value) (l : List Sw) (w : World) (h : Rs w v l) (hE : ringE n s y b l = 0) :
    Calls Try.prog 8 #[cfg n s y b, v] w fun e w' =>
      (∃ v' bv ts, e = .returned (.tuple #[v', bv, .int .i64 0]) ∧ FrS w' w.heap.size w'.heap.size v' (l.map (advS n)) ∧ ts.Perm (backL n l) ∧ UpI ts ∧ w'.ownsRow w.heap.size 3 1 bv ts.length (ts.map (Value.int .i64))) ∧ Below w.heap.size w w' := by
  have C := Lib.hid fun w hw => ringCheck_any n s y b v l w hw
  rw [hE] at C
  obtain ⟨g1, m1, m8, sl⟩ := ringE_ok hE
  have OKS := Lib.hid (slotsE_slots sl)
  have HG := Lib.hid g1
  have MS := fun w => make_slots l.length m8 w
  have H := Lib.hid h
  obtain ⟨i0, hi, hz0, hz1, hz2⟩ := info_parts info_int2
  have HI := Lib.hid hi
  have HZ := Lib.hid (And.intro hz0 (And.intro hz1 hz2))
  obtain ⟨_, A, c, rfl, h1, h2, h3⟩ := h
  have H3 := Lib.hid h3
  unfold maxLen at h2
  clear h3 hE g1 sl hi hz0 hz1 hz2
  have low := Below.refl w.heap.size w
  have hr := H.out
  have cb := boxNext low 23 #[.int .i64 n, .int .i64 s, .int .i64 y, .int .i64 b]
  replace low := gAlloc low (.cells #[.int .i64 n, .int .i64 s, .int .i64 y, .int .i64 b] 23)
  replace hr := hr.alloc (.cells #[.int .i64 n, .int .i64 s, .int .i64 y, .int .i64 b] 23)
  try simp only [World.size_alloc] at cb
  go_enter Try.func8, Try.ntmps8
  go_wp2_with fail
  (with_reducible refine (C.out _ hr).mono ?_); rintro e w1 ⟨rfl, hb⟩
  replace cb := cb.call hb
  replace low := gCall low hb
  clear hb
  clear C hr
  have z1 : w.heap.size < w1.heap.size := cb.lt
  have own := OwnS.new w1 l.length (by unfold maxLen; omega)
  rw [← stepR_zero n l] at own
  have OW := Lib.hid own
  replace cb := cb.alloc (.cells (newS l.length) 38)
  replace low := gAlloc low (.cells (newS l.length) 38)
  clear own
  go_wp2_with fail
  clear MS
  go_loopw [9, 25] (fun bv i wr => ∃ k : Nat, k ≤ l.length ∧ i = .int .i64 k ∧ Hid (OwnS wr w1.heap.size (.slice (some ⟨w1.heap.size, 0, none⟩) l.length l.length) (stepR n l k)) ∧
      Hid (wr.ownsRow (w1.heap.size + 1) 3 1 bv (backL n (l.take k)).length ((backL n (l.take k)).map (Value.int .i64))) ∧ Box wr w.heap.size 23 #[.int .i64 n, .int .i64 s, .int .i64 y, .int .i64 b] ∧ Below w.heap.size w wr) (fun _ i _ => l.length - (intOf i).toNat)
  case atStart => exact ⟨0, Nat.zero_le _, rfl, OW, Lib.hid (World.ownsRow_nil _ _ _ _), cb, low⟩
  case round =>
    clear OW cb low
    obtain ⟨k, hk, rfl, own, row, cb, low⟩ := hrel
    by_cases hlt : k < l.length
    · obtain ⟨bb, o, rfl, hb, hc⟩ := H3.out (by omega)
      have hx : l[k]? = some l[k] := List.getElem?_eq_getElem _
      generalize l[k] = x at hx
      obtain ⟨c0, c1, c2, c3⟩ := slotAt_of hc hb low hx
      obtain ⟨o1, o2, o3⟩ := OKS.out x (List.mem_of_getElem? hx)
      have AD := Lib.hid fun w => advance_ok n s y b x w HG.out o1 o3
      have HST := Lib.hid (stepR_succ (n := n) hx)
      have HBK := Lib.hid (backL_succ (n := n) hx)
      have HL := Lib.hid (show k < (stepR n l k).length by rw [stepR_length n l k hk]; exact hlt)
      unfold retS at HBK
      obtain ⟨a, f, d, t⟩ := x
      simp only at c0 c1 c2 c3 HBK
      generalize advS n ⟨a, f, d, t⟩ = u at *
      obtain ⟨a', f', d', t'⟩ := u
      simp only at HBK
      have k0 : (0 : Int) ≤ k := by omega
      have k1 : (k : Int) < l.length := by omega
      clear hx hc o1 o2 o3
      have OW := Lib.hid fun w' (hb : Below wr.heap.size wr w') => own.out.call hb
      have RW := Lib.hid fun w' (hb : Below wr.heap.size wr w') => own_below row.out hb
      have zr := own.out.lt
      clear own row
      have sb := boxNext low 38 #[.int .i64 a, .bool f, .int .i64 d, .int .i64 t]
      replace low := gAlloc low (.cells #[.int .i64 a, .bool f, .int .i64 d, .int .i64 t] 38)
      replace cb := cb.alloc (.cells #[.int .i64 a, .bool f, .int .i64 d, .int .i64 t] 38)
      try simp only [World.size_alloc] at sb
      have near := gAlloc (Below.refl wr.heap.size wr) (.cells #[.int .i64 a, .bool f, .int .i64 d, .int .i64 t] 38)
      have cb_0 := cb.at_ 0 rfl
      have cb_1 := cb.at_ 1 rfl
      have cb_2 := cb.at_ 2 rfl
      have cb_3 := cb.at_ 3 rfl
      go_wp2_with fail
      (with_reducible refine (AD.out _).mono ?_); rintro e w2 ⟨rfl, hb2⟩
      replace cb := cb.call hb2
      replace sb := sb.call hb2
      replace low := gCall low hb2
      replace near := gCall near hb2
      clear hb2 c0 c1 c2 c3 AD
      clear cb_0 cb_1 cb_2 cb_3
      have zn := near.size
      cases f
      · replace HBK := Lib.hid (HBK.out.trans (by rw [Bool.false_and, if_neg Bool.false_ne_true, List.append_nil]))
        have yb := boxNext low 38 #[.int .i64 a', .bool f', .int .i64 d', .int .i64 t']
        replace low := gAlloc low (.cells #[.int .i64 a', .bool f', .int .i64 d', .int .i64 t'] 38)
        replace cb := cb.alloc (.cells #[.int .i64 a', .bool f', .int .i64 d', .int .i64 t'] 38)
        replace sb := sb.alloc (.cells #[.int .i64 a', .bool f', .int .i64 d', .int .i64 t'] 38)
        try simp only [World.size_alloc] at yb
        have sb_0 := sb.at_ 0 rfl
        have sb_1 := sb.at_ 1 rfl
        have sb_2 := sb.at_ 2 rfl
        have sb_3 := sb.at_ 3 rfl
        replace near := gAlloc near (.cells #[.int .i64 a', .bool f', .int .i64 d', .int .i64 t'] 38)
        have row := RW.out _ near
        rw [← HBK.out] at row
        have ROW := Lib.hid row
        replace OW := Lib.hid (OW.out _ near)
        clear RW near sb row HBK
        go_wp2_with (refine wpList_put_slot rfl (.tmp 54) (.tmp 53) rfl w1.heap.size _ (stepR n l k) k ⟨a', f', d', t'⟩ OW.out HL.out rfl rfl ?_)
        intro w7 own7 st7
        clear sb_0 sb_1 sb_2 sb_3
        replace cb := st7.box cb (by omega)
        replace low := st7.low low (by omega)
        have ROW7 := Lib.hid (row_stored ROW.out st7 (by omega))
        have OW7 := Lib.hid own7
        clear own7 st7 yb OW ROW
        rw [HST.out] at OW7
        go_wp2_with fail
        go_roundw
        case rel => exact ⟨k + 1, by omega, by go_num, OW7, ROW7, cb, low⟩
        case measure => simp [intOf]; omega
      cases f'
      · replace HBK : Hid (backL n (l.take (k + 1)) = backL n (l.take k) ++ [d]) := HBK
        have yb := boxNext low 38 #[.int .i64 a', .bool false, .int .i64 d', .int .i64 t']
        replace low := gAlloc low (.cells #[.int .i64 a', .bool false, .int .i64 d', .int .i64 t'] 38)
        replace cb := cb.alloc (.cells #[.int .i64 a', .bool false, .int .i64 d', .int .i64 t'] 38)
        replace sb := sb.alloc (.cells #[.int .i64 a', .bool false, .int .i64 d', .int .i64 t'] 38)
        try simp only [World.size_alloc] at yb
        have sb_0 := sb.at_ 0 rfl
        have sb_1 := sb.at_ 1 rfl
        have sb_2 := sb.at_ 2 rfl
        have sb_3 := sb.at_ 3 rfl
        have db := boxNext low 3 #[.int .i64 d]
        replace low := gAlloc low (.cells #[.int .i64 d] 3)
        replace cb := cb.alloc (.cells #[.int .i64 d] 3)
        replace yb := yb.alloc (.cells #[.int .i64 d] 3)
        try simp only [World.size_alloc] at db
        replace near := gAlloc (gAlloc near (.cells #[.int .i64 a', .bool false, .int .i64 d', .int .i64 t'] 38)) (.cells #[.int .i64 d] 3)
        have ROW := Lib.hid (RW.out _ near)
        replace OW := Lib.hid (OW.out _ near)
        have few := Lib.hid (show (backL n (l.take k)).length ≤ 8 by have := backL_few n (l.take k); rw [List.length_take] at this; omega)
        clear RW near sb
        go_wp2_with (at_builtin; refine wpList_append_own _ rfl _ _ 31 rfl (w1.heap.size + 1) 3 i0 (.int .i64 0) 1 8 Try.underlying31 HI.out HZ.out.1 HZ.out.2.1 HZ.out.2.2 rfl (by decide) _ _ _ rfl ROW.out ⟨w2.heap.size + 1, 0, none⟩ 1 1 [.int .i64 d] rfl rfl ?c1 ?c2 ?c3 ?c4 ?c5 ?_)
        case c1 =>
          intro j u hj
          match j, hj with
          | 0, hj => simp at hj; subst hj; simp [Addr.add]
        case c2 => intro u hu; simp at hu; subst hu; rfl
        case c3 => have := few.out; unfold maxLen; omega
        case c4 => have := few.out; omega
        case c5 => simp; omega
        intro v4 w4 own4 grow4 _
        replace cb := cb.grown grow4 (row_ne ROW.out cb (by decide))
        replace yb := yb.grown grow4 (row_ne ROW.out yb (by decide))
        replace low := low.grown grow4 (by simp; omega) (fun g e => by have := row_from ROW.out g e; omega)
        replace OW := Lib.hid (OW.out.grown grow4 (OW.out.ne ROW.out))
        have e1 : (backL n (l.take (k + 1))).length = (backL n (l.take k)).length + 1 := by rw [HBK.out, List.length_append, List.length_singleton]
        have e2 : (backL n (l.take (k + 1))).map (Value.int .i64) = (backL n (l.take k)).map (Value.int .i64) ++ [.int .i64 d] := by rw [HBK.out, List.map_append]; rfl
        rw [← e1, ← e2] at own4
        replace ROW := Lib.hid own4
        clear own4 grow4 e1 e2 few db HBK
        clear sb_0 sb_1 sb_2 sb_3
        have yb_0 := yb.at_ 0 rfl
        have yb_1 := yb.at_ 1 rfl
        have yb_2 := yb.at_ 2 rfl
        have yb_3 := yb.at_ 3 rfl
        go_wp2_with (refine wpList_put_slot rfl (.tmp 54) (.tmp 53) rfl w1.heap.size _ (stepR n l k) k ⟨a', false, d', t'⟩ OW.out HL.out rfl rfl ?_)
        intro w7 own7 st7
        clear yb_0 yb_1 yb_2 yb_3
        replace cb := st7.box cb (by omega)
        replace low := st7.low low (by omega)
        have ROW7 := Lib.hid (row_stored ROW.out st7 (by omega))
        have OW7 := Lib.hid own7
        clear own7 st7 yb OW ROW
        rw [HST.out] at OW7
        go_wp2_with fail
        go_roundw
        case rel => exact ⟨k + 1, by omega, by go_num, OW7, ROW7, cb, low⟩
        case measure => simp [intOf]; omega
      · replace HBK := Lib.hid (HBK.out.trans (by rw [Bool.not_true, Bool.and_false, if_neg Bool.false_ne_true, List.append_nil]))
        have yb := boxNext low 38 #[.int .i64 a', .bool true, .int .i64 d', .int .i64 t']
        replace low := gAlloc low (.cells #[.int .i64 a', .bool true, .int .i64 d', .int .i64 t'] 38)
        replace cb := cb.alloc (.cells #[.int .i64 a', .bool true, .int .i64 d', .int .i64 t'] 38)
        replace sb := sb.alloc (.cells #[.int .i64 a', .bool true, .int .i64 d', .int .i64 t'] 38)
        try simp only [World.size_alloc] at yb
        have sb_0 := sb.at_ 0 rfl
        have sb_1 := sb.at_ 1 rfl
        have sb_2 := sb.at_ 2 rfl
        have sb_3 := sb.at_ 3 rfl
        replace near := gAlloc near (.cells #[.int .i64 a', .bool true, .int .i64 d', .int .i64 t'] 38)
        have row := RW.out _ near
        rw [← HBK.out] at row
        have ROW := Lib.hid row
        replace OW := Lib.hid (OW.out _ near)
        clear RW near sb row HBK
        go_wp2_with (refine wpList_put_slot rfl (.tmp 54) (.tmp 53) rfl w1.heap.size _ (stepR n l k) k ⟨a', true, d', t'⟩ OW.out HL.out rfl rfl ?_)
        intro w7 own7 st7
        clear sb_0 sb_1 sb_2 sb_3
        replace cb := st7.box cb (by omega)
        replace low := st7.low low (by omega)
        have ROW7 := Lib.hid (row_stored ROW.out st7 (by omega))
        have OW7 := Lib.hid own7
        clear own7 st7 yb OW ROW
        rw [HST.out] at OW7
        go_wp2_with fail
        go_roundw
        case rel => exact ⟨k + 1, by omega, by go_num, OW7, ROW7, cb, low⟩
        case measure => simp [intOf]; omega
    · obtain rfl : k = l.length := by omega
      have OW := own.out
      rw [stepR_all] at OW
      have RW := row.out
      rw [List.take_length] at RW
      have OWH := Lib.hid OW
      have SO := Lib.hid (sort_row (w1.heap.size + 1) _ (backL n l) wr RW (by have := backL_few n l; omega))
      clear own row OW RW
      go_wp2_with fail
      (with_reducible refine SO.out.mono ?_); rintro e w9 ⟨rfl, ⟨ts, hp, hu, row9⟩, st⟩
      replace low := st.low low (by omega)
      have O9 := OWH.out.sorted st
      have OUT := Lib.hid (show FrS w9 w.heap.size w9.heap.size (.slice (some ⟨w1.heap.size, 0, none⟩) l.length l.length) (l.map (advS n)) from ⟨_, by omega, O9.lt, O9⟩)
      have ROW := Lib.hid (show w9.ownsRow w.heap.size 3 1 _ ts.length (ts.map (Value.int .i64)) from hp.length_eq ▸ row9.mono (by omega))
      have HP := Lib.hid hp
      have HU := Lib.hid hu
      clear st O9 OWH row9 cb hp hu
      go_wp2_with fail
      go_ret3
      exact ⟨⟨_, _, ts, rfl, OUT.out, HP.out, HU.out, ROW.out⟩, low⟩
end Go.Proofs.Ytiefeeondeablaa
