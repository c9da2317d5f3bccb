/-
Proved: what check, checkDeeds and hasResult of package order return; slices.EqualFunc of observations and words with hasResult; what Legal returns. They change nothing that was there. No condition.
-/
import Derived.Test.YtcegjehoejgofaaGreatOrderTell
import Derived.Test.YtcegjehoejgofaaGreatAtomic3
import Derived.Test.YtcegjehoejgofaaGreatJoined6
namespace Go.Proofs.YtcegjehoejgofaaGreat
open Go.ChangeShapes Go.WideShapes Go.ChangeAt Go.RowKit Go.Joins
set_option maxHeartbeats 1000000 in
theorem checkDeeds_any (v : Value) (l : List Td) (w : World) (h : elT.R w v l) :
  Calls Tryz.prog 60 #[v] w fun e w' => e = .returned (.int .i64 (runE (l.map Td.d))) ∧ Below w.heap.size w w' := by
 obtain ⟨_, A, c, rfl, g1, g2, g3⟩ := h
 have G3 := Lib.hid g3
 unfold maxLen at g2
 clear g3
 have low := Below.refl w.heap.size w
 generalize hT : runE (l.map Td.d) = T
 have HT := Lib.hid hT
 clear hT
 go_enter Tryz.func60, Tryz.ntmps60
 go_wp2_with fail
 go_loopw [8] (fun i wr => ∃ j : Nat, j ≤ l.length ∧ i = .int .i64 j ∧ Hid (runE ((l.drop j).map Td.d) = T) ∧ Below w.heap.size w wr) (fun i _ => l.length - (intOf i).toNat)
 case atStart => exact ⟨0, Nat.zero_le _, rfl, Lib.hid (by rw [List.drop_zero]; exact HT.out), low⟩
 case round =>
  clear low
  obtain ⟨j, hj, rfl, hs, low⟩ := hrel
  by_cases hj2 : j < l.length
  ·obtain ⟨b2, o2, rfl, hb2, hc2⟩ := G3.out (by omega)
   have hd : l[j]? = some l[j] := List.getElem?_eq_getElem _
   generalize l[j] = x at hd
   obtain ⟨c0, c1, c2, c3, c4⟩ := toldAt_of hc2 hb2 low hd
   have e := hs.out
   rw [runE_at hd] at e
   have E := Lib.hid e
   have DF := Lib.hid fun w => atomicRight_any x.d w
   generalize hde : deedE x.d = de at DF E
   obtain ⟨⟨dn, dk, da, dv⟩, tv⟩ := x
   simp only at c0 c1 c2 c3 c4
   have j0 : (0 : Int) ≤ j := by omega
   have j1 : (j : Int) < l.length := by omega
   clear hd hc2 hs e hde
   have db := boxNext low 53 #[.int .i64 dn, .int .i64 dk, .int .i64 da, .int .u64 dv, .int .u64 tv]
   replace low := gAlloc low (.cells #[.int .i64 dn, .int .i64 dk, .int .i64 da, .int .u64 dv, .int .u64 tv] 53)
   try simp only [World.size_alloc] at db
   have db_0 := db.at_ 0 rfl
   have db_1 := db.at_ 1 rfl
   have db_2 := db.at_ 2 rfl
   have db_3 := db.at_ 3 rfl
   go_wp2_with fail
   (with_reducible refine (DF.out _).mono ?_); rintro e w2 ⟨rfl, hb3⟩
   clear db_0 db_1 db_2 db_3
   replace low := gCall low hb3
   clear hb3 c0 c1 c2 c3 c4 DF db
   by_cases h0 : de = 0
   ·subst h0
    have NX : Hid (runE ((l.drop (j + 1)).map Td.d) = T) := Lib.hid (by
     have := E.out
     simpa using this)
    clear E
    go_wp2_with fail
    go_roundw
    case rel => exact ⟨j + 1, by omega, by go_num, NX, low⟩
    case measure => simp [intOf]; omega
   ·obtain rfl : de = T := by
     have := E.out
     simpa [h0] using this
    have h0' : (de != 0) = true := by simpa using h0
    clear h0 E
    go_wp2_with fail
    go_ret
    exact ⟨rfl, low⟩
  ·obtain rfl : j = l.length := by omega
   obtain rfl : 0 = T := by
    have := hs.out
    rw [List.drop_length] at this
    exact this
   go_wp2_with fail
   go_ret
   exact ⟨rfl, low⟩
theorem orderCheck_any (v : Value) (l : List Td) (w : World) (h : elT.R w v l) :
  Calls Tryz.prog 25 #[v] w fun e w' => e = .returned (.int .i64 (toldE 200 l)) ∧ Below w.heap.size w w' := by
 have CD := Lib.hid fun w h => checkDeeds_any v l w h
 have HR := Lib.hid h
 obtain ⟨A, c, rfl⟩ := h.shape
 clear h
 have low := Below.refl w.heap.size w
 by_cases hk : (200 : Int) < (l.length : Int)
 ·rw [show toldE 200 l = 2 by unfold toldE; rw [if_pos hk]]
  go_enter Tryz.func25, Tryz.ntmps25
  go_wp2_with fail
  go_ret
  exact ⟨rfl, low⟩
 ·rw [show toldE 200 l = runE (l.map Td.d) by unfold toldE; rw [if_neg hk]]
  generalize runE (l.map Td.d) = T at *
  go_enter Tryz.func25, Tryz.ntmps25
  go_wp2_with fail
  (with_reducible refine (CD.out _ HR.out).mono ?_); rintro e w2 ⟨rfl, hb3⟩
  replace low := gCall low hb3
  go_wp2_with fail
  go_ret
  exact ⟨rfl, low⟩
theorem hasResult_any (x : Td) (v : Int) (w : World) :
  Calls Tryz.prog 28 #[x.val, .int .u64 v] w fun e w' => e = .returned (.bool (x.v == v)) ∧ Below w.heap.size w w' := by
 obtain ⟨⟨dn, dk, da, dv⟩, tv⟩ := x
 simp only
 have low := Below.refl w.heap.size w
 have db := boxNext low 53 #[.int .i64 dn, .int .i64 dk, .int .i64 da, .int .u64 dv, .int .u64 tv]
 replace low := gAlloc low (.cells #[.int .i64 dn, .int .i64 dk, .int .i64 da, .int .u64 dv, .int .u64 tv] 53)
 try simp only [World.size_alloc] at db
 generalize hq : (tv == v) = B
 go_enter Tryz.func28, Tryz.ntmps28
 have db_0 := db.at_ 0 rfl
 have db_1 := db.at_ 1 rfl
 have db_2 := db.at_ 2 rfl
 have db_3 := db.at_ 3 rfl
 have db_4 := db.at_ 4 rfl
 go_wp2_with fail
 go_ret
 exact ⟨rfl, low⟩
set_option maxHeartbeats 2000000 in
theorem equalTold (v v2 : Value) (l : List Td) (n : Nat) (xs : List Int) (w : World) (h : elT.R w v l) (h2 : Sl w w.heap.size 1 v2 n (xs.map (Value.int .u64))) (hl : l.length = n) (hx : xs.length = n) :
  Calls Tryz.prog 27 #[v, v2, .func (.func 28) #[] #[]] w fun e w' => e = .returned (.bool (decide (xs = l.map Td.v))) ∧ Below w.heap.size w w' := by
 obtain ⟨_, A, c, rfl, g1, g2, g3⟩ := h
 obtain ⟨_, A2, cB, rfl, q1, q2, q3⟩ := h2
 subst hl
 have G3 := Lib.hid g3
 have Q3 := Lib.hid q3
 unfold maxLen at g2 q2
 have HX := Lib.hid hx
 generalize hb : decide (xs = l.map Td.v) = B
 have HB := Lib.hid hb
 clear g3 q3 hb hx
 have low := Below.refl w.heap.size w
 go_enter Tryz.func27, Tryz.ntmps27
 go_wp2_with fail
 go_loopw [17] (fun i wr => ∃ j : Nat, j ≤ l.length ∧ i = .int .i64 j ∧ Hid (xs.take j = (l.map Td.v).take j) ∧ Below w.heap.size w wr) (fun i _ => l.length - (intOf i).toNat)
 case atStart => exact ⟨0, Nat.zero_le _, rfl, Lib.hid rfl, low⟩
 case round =>
  clear low
  obtain ⟨j, hj, rfl, hs, low⟩ := hrel
  by_cases hlt : j < l.length
  ·obtain ⟨b1, o1, rfl, hb1, hc1⟩ := G3.out (by omega)
   obtain ⟨b2, o2, rfl, hb2, hc2⟩ := Q3.out (by omega)
   have hd : l[j]? = some l[j] := List.getElem?_eq_getElem _
   generalize l[j] = x at hd
   have hy : xs[j]? = some (xs[j]'(by have := HX.out; omega)) := List.getElem?_eq_getElem _
   generalize xs[j]'(by have := HX.out; omega) = y at hy
   obtain ⟨c0, c1, c2, c3, c4⟩ := toldAt_of hc1 hb1 low hd
   have cy : wr.cell? ⟨b2, o2 + j, none⟩ = some (.int .u64 y) := (low.cell (p := ⟨b2, o2 + j, none⟩) hb2).trans (hc2 j _ (by rw [List.getElem?_map, hy]; rfl))
   have HR := Lib.hid fun w => hasResult_any x y w
   have NX := Lib.hid (show (x.v == y) = true → xs.take (j + 1) = (l.map Td.v).take (j + 1) from fun e => by
    rw [List.take_add_one, List.take_add_one, hs.out, hy, List.getElem?_map, hd, ← (beq_iff_eq.1 e)]; rfl)
   have NO := Lib.hid (show (x.v == y) = false → xs ≠ l.map Td.v from fun e h => by
    subst h
    rw [List.getElem?_map, hd] at hy
    simp at hy
    simp [hy] at e)
   generalize (x.v == y) = b at *
   obtain ⟨⟨dn, dk, da, dv⟩, tv⟩ := x
   simp only at c0 c1 c2 c3 c4
   have j0 : (0 : Int) ≤ j := by omega
   have j1 : (j : Int) < l.length := by omega
   clear hd hc1 hc2 hs hy
   have db := boxNext low 53 #[.int .i64 dn, .int .i64 dk, .int .i64 da, .int .u64 dv, .int .u64 tv]
   replace low := gAlloc low (.cells #[.int .i64 dn, .int .i64 dk, .int .i64 da, .int .u64 dv, .int .u64 tv] 53)
   try simp only [World.size_alloc] at db
   replace cy := callC (gAlloc (Below.refl _ _) (.cells #[.int .i64 dn, .int .i64 dk, .int .i64 da, .int .u64 dv, .int .u64 tv] 53)) cy
   have db_0 := db.at_ 0 rfl
   have db_1 := db.at_ 1 rfl
   have db_2 := db.at_ 2 rfl
   have db_3 := db.at_ 3 rfl
   have db_4 := db.at_ 4 rfl
   go_wp2_with fail
   (with_reducible refine (HR.out _).mono ?_); rintro e w2 ⟨rfl, hb3⟩
   clear db_0 db_1 db_2 db_3 db_4
   replace low := gCall low hb3
   clear hb3 c0 c1 c2 c3 c4 cy HR db
   cases b
   ·obtain rfl : B = false := by rw [← HB.out]; exact decide_eq_false (NO.out rfl)
    clear NX NO HB
    go_wp2_with fail
    go_ret
    exact ⟨rfl, low⟩
   ·have NX2 := Lib.hid (NX.out rfl)
    clear NX NO
    go_wp2_with fail
    go_roundw
    case rel => exact ⟨j + 1, by omega, by go_num, NX2, low⟩
    case measure => simp [intOf]; omega
  ·obtain rfl : j = l.length := by omega
   obtain rfl : B = true := by
    rw [← HB.out]
    have := hs.out
    rw [List.take_of_length_le (by have := HX.out; omega), List.take_of_length_le (by simp)] at this
    exact decide_eq_true this
   go_wp2_with fail
   go_ret
   exact ⟨rfl, low⟩
theorem make_deeds (n : Nat) (hn : n ≤ 200) (w : World) : ∃ w', (Instr.makeSlice 85 (.int .i64 n) (.int .i64 n)).run Tryz.prog w = .ok (.slice (some ⟨w.heap.size, 0, none⟩) n n) w' ∧ elD.Own w' w.heap.size (.slice (some ⟨w.heap.size, 0, none⟩) n n) (List.replicate n ⟨0, 0, 0, 0⟩) ∧ Below w.heap.size w w' := by
 obtain ⟨i0, hi, hz0, hz1, hz2⟩ := info_parts info_deed
 have := run_make w 85 49 i0 (.agg #[.int .i64 0, .int .i64 0, .int .i64 0, .int .u64 0]) Tryz.underlying85 hi hz0 .i64 .i64 n n (by omega) (Int.le_refl _) (by rw [hz2]; omega) (by omega)
 simp only [Int.toNat_natCast] at this
 refine ⟨_, this, ⟨n, _, by rw [List.length_replicate], Box.new w _ _, by rw [List.length_replicate]; exact Nat.le_refl _, by unfold maxLen; omega, by rw [size_madeCells, hz1]; rfl, fun q y hq r hr => ?_⟩, gAlloc (Below.refl _ _) _⟩
 have hlt : q < n := by have := (List.getElem?_eq_some_iff.1 hq).1; simpa using this
 rw [List.getElem?_replicate, if_pos hlt] at hq
 cases hq
 have hr4 : r < 4 := hr
 have hs : q * 4 + r < n * 4 := by omega
 show (madeCells _ _)[q * 4 + r]? = _
 rw [Array.getElem?_eq_getElem (by rw [size_madeCells, hz1]; exact hs)]
 simp only [madeCells, Value.cells]
 have hm : (q * 4 + r) % 4 = r := by omega
 obtain rfl | rfl | rfl | rfl : r = 0 ∨ r = 1 ∨ r = 2 ∨ r = 3 := by omega
 all_goals simp [hm, elD]
def frontD (l : List Dd) (j : Nat) : List Dd := l.take j ++ List.replicate (l.length - j) ⟨0, 0, 0, 0⟩
theorem frontD_length {l : List Dd} {j : Nat} (h : j ≤ l.length) : (frontD l j).length = l.length := by simp [frontD]; omega
theorem frontD_all (l : List Dd) : frontD l l.length = l := by simp [frontD]
theorem frontD_step {l : List Dd} {j : Nat} {d : Dd} (h : l[j]? = some d) : (frontD l j).set j d = frontD l (j + 1) := by
 have hj : j < l.length := (List.getElem?_eq_some_iff.1 h).1
 have e : (l.take j).length = j := by rw [List.length_take]; omega
 unfold frontD
 rw [take_more h, List.set_append_right _ _ (by omega), e, Nat.sub_self, show l.length - j = (l.length - (j + 1)) + 1 by omega, List.replicate_succ, List.set_cons_zero, List.append_assoc]
 rfl
theorem told_d {l : List Td} {j : Nat} {x : Td} (h : l[j]? = some x) : (l.map Td.d)[j]? = some x.d := by rw [List.getElem?_map, h]; rfl
set_option maxRecDepth 10000 in
set_option maxHeartbeats 4000000 in
theorem legal_bad (m : List Int) (u : Value) (l : List Td) (w : World) (h : elT.R w u l) (hE : toldE 200 l ≠ 0) :
  Calls Tryz.prog 10 #[memV m, u] w fun e w' => e = .returned (.tuple #[.bool false, .int .i64 (toldE 200 l)]) ∧ Below w.heap.size w w' := by
 have CK := Lib.hid fun w h => orderCheck_any u l w h
 have HL := Lib.hid h
 generalize toldE 200 l = E at *
 have hE2 : (E != 0) = true := by simpa using hE
 clear h hE
 have low := Below.refl w.heap.size w
 have mb := boxNext low 29 (memA m)
 replace low := gAlloc low (.cells (memA m) 29)
 try simp only [World.size_alloc] at mb
 go_enter Tryz.func10, Tryz.ntmps10
 go_wp2_with fail
 (with_reducible refine (CK.out _ (HL.out.call low)).mono ?_); rintro e w1 ⟨rfl, hb⟩
 replace low := gCall low hb
 clear hb CK mb
 go_wp2_with fail
 go_ret2
 exact ⟨rfl, low⟩
set_option maxRecDepth 10000 in
set_option maxHeartbeats 8000000 in
theorem legal_good (m : List Int) (u : Value) (l : List Td) (w : World) (hm : m.length = 64) (h : elT.R w u l) (hE : toldE 200 l = 0) :
  Calls Tryz.prog 10 #[memV m, u] w fun e w' => e = .returned (.tuple #[.bool (legB m l), .int .i64 0]) ∧ Below w.heap.size w w' := by
 have CK := Lib.hid fun w h => orderCheck_any u l w h
 rw [hE] at CK
 have HL := Lib.hid h
 obtain ⟨h200, hrun⟩ : l.length ≤ 200 ∧ runE (l.map Td.d) = 0 := by
  unfold toldE at hE
  by_cases h1 : (200 : Int) < l.length
  ·rw [if_pos h1] at hE; cases hE
  ·rw [if_neg h1] at hE; exact ⟨by omega, hE⟩
 have PLI := Lib.hid fun v w h => play_is m hm v (l.map Td.d) w h
 have hall : allE (l.map Td.d) = 0 := by unfold allE; rw [if_neg (by simp; omega)]; exact hrun
 have EF := Lib.hid fun v w h h2 => equalTold u v l l.length (runV m (l.map Td.d)) w h h2 rfl (by rw [runV_length, List.length_map])
 rw [show decide (runV m (l.map Td.d) = l.map Td.v) = legB m l from rfl] at EF
 obtain ⟨_, A, c, rfl, g1, g2, g3⟩ := h
 have G3 := Lib.hid g3
 unfold maxLen at g2
 generalize legB m l = LB at *
 clear g3 hE hrun
 have low := Below.refl w.heap.size w
 have mb := boxNext low 29 (memA m)
 replace low := gAlloc low (.cells (memA m) 29)
 try simp only [World.size_alloc] at mb
 have MB : Mb _ _ m := ⟨mb, hm⟩
 clear mb
 go_enter Tryz.func10, Tryz.ntmps10
 go_wp2_with fail
 (with_reducible refine (CK.out _ (HL.out.call low)).mono ?_); rintro e w1 ⟨rfl, hb⟩
 replace MB := MB.call hb
 replace low := gCall low hb
 clear hb CK
 obtain ⟨wm, hmk, own, hb2⟩ := make_deeds l.length h200 w1
 have hg : w.heap.size ≤ w1.heap.size := low.size
 have mg : w.heap.size ≠ w1.heap.size := by have := MB.lt; omega
 go_wp2_with fail
 replace MB := MB.call hb2
 replace low := gCall low hb2
 have OW := Lib.hid (show elD.Own wm w1.heap.size (.slice (some ⟨w1.heap.size, 0, none⟩) l.length l.length) (frontD (l.map Td.d) 0) by rw [show frontD (l.map Td.d) 0 = List.replicate l.length ⟨0, 0, 0, 0⟩ by simp [frontD]]; exact own)
 clear hmk hb2 own
 generalize w1.heap.size = g1 at *
 go_loopw [23] (fun i wr => ∃ j : Nat, j ≤ l.length ∧ i = .int .i64 j ∧ Hid (elD.Own wr g1 (.slice (some ⟨g1, 0, none⟩) l.length l.length) (frontD (l.map Td.d) j)) ∧ Mb wr w.heap.size m ∧ Below w.heap.size w wr) (fun i _ => l.length - (intOf i).toNat)
 case atStart => exact ⟨0, Nat.zero_le _, rfl, OW, MB, low⟩
 case round =>
  clear OW MB low
  obtain ⟨j, hj, rfl, OW, MB, low⟩ := hrel
  by_cases hlt : j < l.length
  ·obtain ⟨b1, o1, rfl, hb1, hc1⟩ := G3.out (by omega)
   have hd : l[j]? = some l[j] := List.getElem?_eq_getElem _
   generalize l[j] = x at hd
   obtain ⟨c0, c1, c2, c3, c4⟩ := toldAt_of hc1 hb1 low hd
   have ST := Lib.hid (frontD_step (told_d hd))
   have FL := Lib.hid (show j < (frontD (l.map Td.d) j).length by rw [frontD_length (by simp; omega)]; simp; omega)
   obtain ⟨⟨dn, dk, da, dv⟩, tv⟩ := x
   simp only at c0 c1 c2 c3 c4 ST
   have j0 : (0 : Int) ≤ j := by omega
   have j1 : (j : Int) < l.length := by omega
   clear hd hc1
   have db := boxNext low 53 #[.int .i64 dn, .int .i64 dk, .int .i64 da, .int .u64 dv, .int .u64 tv]
   replace low := gAlloc low (.cells #[.int .i64 dn, .int .i64 dk, .int .i64 da, .int .u64 dv, .int .u64 tv] 53)
   replace MB := MB.alloc (.cells #[.int .i64 dn, .int .i64 dk, .int .i64 da, .int .u64 dv, .int .u64 tv] 53)
   try simp only [World.size_alloc] at db
   replace OW := Lib.hid (OW.out.alloc (.cells #[.int .i64 dn, .int .i64 dk, .int .i64 da, .int .u64 dv, .int .u64 tv] 53))
   have db_0 := db.at_ 0 rfl
   have db_1 := db.at_ 1 rfl
   have db_2 := db.at_ 2 rfl
   have db_3 := db.at_ 3 rfl
   have db_4 := db.at_ 4 rfl
   go_wp2_with (refine wpList_put (E := elD) rfl (.tmp 32) (.tmp 31) rfl j ⟨dn, dk, da, dv⟩ OW.out FL.out rfl rfl ?_)
   intro w7 own7 st7
   replace low := st7.low low (by have := low.size; omega)
   have MB7 : Mb w7 w.heap.size m := ⟨st7.box MB.1 mg, MB.2⟩
   rw [ST.out] at own7
   have OW7 := Lib.hid own7
   clear own7 st7 OW MB db c0 c1 c2 c3 c4
   clear db_0 db_1 db_2 db_3 db_4
   go_wp2_with fail
   go_roundw
   case rel => exact ⟨j + 1, by omega, by go_num, OW7, MB7, low⟩
   case measure => simp [intOf]; omega
  ·obtain rfl : j = l.length := by omega
   have own := OW.out
   have fa : frontD (l.map Td.d) l.length = l.map Td.d := by have := frontD_all (l.map Td.d); rwa [List.length_map] at this
   rw [fa] at own
   have PL := Lib.hid (PLI.out _ _ (Ds.of own.r))
   clear OW own fa PLI
   go_wp2_with ((with_reducible refine wp_loadMem (MB) ?_ ?_ ?_); rfl; rfl)
   (with_reducible refine PL.out.mono ?_); rintro e w3 ⟨⟨y, s, f, rfl, hy, pa⟩, hb3⟩
   have PA := Lib.hid pa
   replace low := gCall low hb3
   clear hb3 PL pa MB
   obtain ⟨-, rfl, told⟩ : y = runM m (l.map Td.d) ∧ f = 0 ∧ Told w3 s (l.map Td.d).length (runV m (l.map Td.d)) := by
    rcases PA.out with ⟨h, -⟩ | ⟨-, h1, h2, h3⟩
    ·exact absurd hall h
    ·exact ⟨h1, h2, h3⟩
   rw [List.length_map] at told
   have TS := Lib.hid (told.call (gAlloc (Below.refl w3.heap.size w3) (.cells (memA y) 29))).sl
   replace low := gAlloc low (.cells (memA y) 29)
   have EL := Lib.hid (EF.out s _ (HL.out.call low) TS.out)
   obtain ⟨gs, rfl, -⟩ := told.some
   clear PA told EF TS
   go_wp2_with (first | (with_reducible refine wp_newMem ?_) | ((with_reducible refine wp_storeNew (zeroL_length) (hy) ?_ ?_ ?_); rfl; rfl))
   (with_reducible refine EL.out.mono ?_); rintro e w5 ⟨rfl, hb5⟩
   replace low := gCall low hb5
   clear hb5 EL
   go_wp2_with fail
   go_ret2
   exact ⟨rfl, low⟩
theorem legal_is : orderTells.LegalIs := fun m u l w hm h => by
 by_cases hE : toldE 200 l = 0
 ·rw [hE]
  simpa using legal_good m u l w hm h hE
 ·have e : (toldE 200 l == 0) = false := by simpa using hE
  rw [e, Bool.false_and]
  exact legal_bad m u l w h hE
end Go.Proofs.YtcegjehoejgofaaGreat
