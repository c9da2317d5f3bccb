/-
Proved: what check and Memory of package tally return, for every list of events that can be read; they change nothing that was there. No condition.
-/
import Derived.Test.YtcegjehoejgofaaTallyFacts
namespace Go.Proofs.Ytcegjehoejgofaa
open Go.ChangeShapes Go.WideShapes Go.ChangeAt Go.RowKit Go.Joins

set_option maxHeartbeats 2000000 in
theorem tallyCheck_any (n s y b : Int) (v : Value) (l : List Ev) (w : World) (h : elE.R w v l) :
    Calls Try.prog 13 #[cfg n s y b, v] w fun e w' => e = .returned (.int .i64 (tallyE n s y b l)) ∧ Below w.heap.size w w' := by
  obtain ⟨_, A, c, rfl, g1, g2, g3⟩ := h
  have G3 := Lib.hid g3
  unfold maxLen at g2
  clear g3
  have low := Below.refl w.heap.size w
  have cb := boxNext low 23 #[.int .i64 n, .int .i64 s, .int .i64 y, .int .i64 b]
  replace low := gAlloc low (.cells #[.int .i64 n, .int .i64 s, .int .i64 y, .int .i64 b] 23)
  try simp only [World.size_alloc] at cb
  cases hB : cfgB n s y b with
  | false =>
    have C := Lib.hid fun w => check_bad n s y b w hB
    have E := Lib.hid (show tallyE n s y b l = 4 by unfold tallyE; rw [if_pos hB])
    rw [E.out]
    clear hB E G3
    go_enter Try.func13, Try.ntmps13
    go_wp2_with fail
    (with_reducible refine (C.out _).mono ?_); rintro e w1 ⟨rfl, hb⟩
    replace cb := cb.call hb
    replace low := gCall low hb
    clear hb
    go_wp2_with fail
    go_ret
    exact ⟨rfl, low⟩
  | true =>
    have C := Lib.hid fun w => check_ok n s y b w hB
    by_cases hk : (200 : Int) < (l.length : Int)
    · have E := Lib.hid (show tallyE n s y b l = 2 by unfold tallyE; rw [if_neg (by rw [hB]; simp), if_pos (by omega)])
      rw [E.out]
      clear hB E G3
      go_enter Try.func13, Try.ntmps13
      go_wp2_with fail
      (with_reducible refine (C.out _).mono ?_); rintro e w1 ⟨rfl, hb⟩
      replace cb := cb.call hb
      replace low := gCall low hb
      clear hb
      go_wp2_with fail
      go_ret
      exact ⟨rfl, low⟩
    · have E := Lib.hid (show tallyE n s y b l = nodeE n l by unfold tallyE; rw [if_neg (by rw [hB]; simp), if_neg (by omega)])
      rw [E.out]
      generalize hT : nodeE n l = T
      have HT := Lib.hid hT
      clear hB E hT
      go_enter Try.func13, Try.ntmps13
      go_wp2_with fail
      (with_reducible refine (C.out _).mono ?_); rintro e w1 ⟨rfl, hb⟩
      replace cb := cb.call hb
      replace low := gCall low hb
      clear hb
      go_wp2_with fail
      have CB := Lib.hid cb
      go_loopw [19] (fun i wr => ∃ j : Nat, j ≤ l.length ∧ i = .int .i64 j ∧ Hid (nodeE n (l.drop j) = T) ∧ Box wr w.heap.size 23 #[.int .i64 n, .int .i64 s, .int .i64 y, .int .i64 b] ∧ Below w.heap.size w wr) (fun i _ => l.length - (intOf i).toNat)
      case atStart => exact ⟨0, Nat.zero_le _, rfl, Lib.hid (by rw [List.drop_zero]; exact HT.out), CB.out, low⟩
      case round =>
        clear cb low C CB
        obtain ⟨j, hj, rfl, hs, cb, low⟩ := hrel
        by_cases hlt : j < l.length
        · obtain ⟨b2, o2, rfl, hb2, hc2⟩ := G3.out (by omega)
          have hd : l[j]? = some l[j] := List.getElem?_eq_getElem _
          generalize l[j] = x at hd
          obtain ⟨c0, c1, c2, c3, c4, c5⟩ := evAt_of hc2 hb2 low hd
          have e := hs.out
          rw [nodeE_at hd] at e
          have E := Lib.hid e
          have DF := Lib.hid fun w => atomicRight_any x.d w
          generalize hde : deedE x.d = de at DF E
          obtain ⟨⟨dn, dk, da, dv⟩, tv, bv⟩ := x
          simp only at c0 c1 c2 c3 c4 c5
          have j0 : (0 : Int) ≤ j := by omega
          have j1 : (j : Int) < l.length := by omega
          clear hd hc2 hs e hde
          have db := boxNext low 43 #[.int .i64 dn, .int .i64 dk, .int .i64 da, .int .u64 dv, .int .u64 tv, .bool bv]
          replace low := gAlloc low (.cells #[.int .i64 dn, .int .i64 dk, .int .i64 da, .int .u64 dv, .int .u64 tv, .bool bv] 43)
          replace cb := cb.alloc (.cells #[.int .i64 dn, .int .i64 dk, .int .i64 da, .int .u64 dv, .int .u64 tv, .bool bv] 43)
          try simp only [World.size_alloc] at db
          have db_0 := db.at_ 0 rfl
          have db_1 := db.at_ 1 rfl
          have db_2 := db.at_ 2 rfl
          have db_3 := db.at_ 3 rfl
          have db_4 := db.at_ 4 rfl
          have db_5 := db.at_ 5 rfl
          go_wp2_with fail
          (with_reducible refine (DF.out _).mono ?_); rintro e w2 ⟨rfl, hb3⟩
          clear db_0 db_1 db_2 db_3 db_4 db_5
          replace db := db.call hb3
          replace cb := cb.call hb3
          replace low := gCall low hb3
          clear hb3 c0 c1 c2 c3 c4 c5 DF
          by_cases h0 : de = 0
          · subst h0
            by_cases h4 : n ≤ dn
            · obtain rfl : 4 = T := by
                have := E.out
                simpa [h4] using this
              have h4' : decide (n ≤ dn) = true := decide_eq_true h4
              clear h4 E
              have db_0 := db.at_ 0 rfl
              have cb_0 := cb.at_ 0 rfl
              go_wp2_with fail
              go_ret
              exact ⟨rfl, low⟩
            · have h4' : decide (n ≤ dn) = false := decide_eq_false h4
              have NX : Hid (nodeE n (l.drop (j + 1)) = T) := Lib.hid (by
                have := E.out
                simpa [h4] using this)
              clear h4 E
              have db_0 := db.at_ 0 rfl
              have cb_0 := cb.at_ 0 rfl
              go_wp2_with fail
              clear db_0 cb_0
              go_roundw
              case rel => exact ⟨j + 1, by omega, by go_num, NX, cb, low⟩
              case measure => simp [intOf]; omega
          · obtain rfl : de = T := by
              have := E.out
              simpa [h0] using this
            have h0' : (de != 0) = true := by simpa using h0
            clear h0 E
            go_wp2_with fail
            go_ret
            exact ⟨rfl, low⟩
        · obtain rfl : j = l.length := by omega
          obtain rfl : 0 = T := by
            have := hs.out
            rw [List.drop_length] at this
            exact this
          go_wp2_with fail
          go_ret
          exact ⟨rfl, low⟩

/-- The memory that Memory gives. -/
def memE (m : List Int) (l : List Ev) : List Int := if memF l = 0 then runM m (evD l) else zeroL
set_option maxHeartbeats 1000000 in
theorem tallyMem_large (m : List Int) (v : Value) (l : List Ev) (w : World) (h : elE.R w v l) (hr : 200 < l.length) : Calls Try.prog 7 #[memV m, v] w fun e w' =>
    e = .returned (.tuple #[memV zeroL, .int .i64 2]) ∧ Below w.heap.size w w' := by
  obtain ⟨_, A, c, rfl, h1, h2, h3⟩ := h
  clear h3
  have low := Below.refl w.heap.size w
  have mb := boxNext low 28 (memA m)
  replace low := gAlloc low (.cells (memA m) 28)
  try simp only [World.size_alloc] at mb
  have ob := boxNext low 28 (memA zeroL)
  replace low := gAlloc low (.cells (memA zeroL) 28)
  replace mb := mb.alloc (.cells (memA zeroL) 28)
  try simp only [World.size_alloc] at ob
  go_enter Try.func7, Try.ntmps7
  go_wp2_with (first | (with_reducible refine wp_newMem ?_) | (with_reducible refine wp_zeroMem ?_) | ((with_reducible refine wp_storeMem (⟨ob, zeroL_length⟩) (zeroL_length) ?_ ?_ ?_); rfl; rfl))
  intro w3 m3 st
  replace low := st.low low (by omega)
  clear st ob
  go_wp2_with fail
  refine bodyPost_ret (v := .tuple #[memV zeroL, .int .i64 2]) (results_mem2 Try.results7 rfl rfl m3) rfl ⟨rfl, low⟩

set_option maxHeartbeats 2000000 in
theorem tallyMem_few (m : List Int) (hm : m.length = 64) (v : Value) (l : List Ev) (w : World) (h : elE.R w v l) (hr : l.length ≤ 200) : Calls Try.prog 7 #[memV m, v] w fun e w' =>
    e = .returned (.tuple #[memV (memE m l), .int .i64 (memF l)]) ∧ Below w.heap.size w w' := by
  obtain ⟨_, A, c, rfl, h1, h2, h3⟩ := h
  have H3 := Lib.hid h3
  have EL := Lib.hid (evD_length l)
  have MF := Lib.hid (show memF l = runE (evD l) from if_neg (by omega))
  have hr2 : (l.length : Int) ≤ 200 := by omega
  unfold maxLen at h2
  clear h3
  have low := Below.refl w.heap.size w
  have xb := boxNext low 28 (memA m)
  replace low := gAlloc low (.cells (memA m) 28)
  try simp only [World.size_alloc] at xb
  have ob := boxNext low 28 (memA zeroL)
  replace low := gAlloc low (.cells (memA zeroL) 28)
  replace xb := xb.alloc (.cells (memA zeroL) 28)
  try simp only [World.size_alloc] at ob
  have mb : Mb _ _ m := ⟨xb, hm⟩
  clear xb
  go_enter Try.func7, Try.ntmps7
  go_wp2_with (with_reducible refine wp_newMem ?_)
  go_loopw [17] (fun i wr => ∃ j : Nat, j ≤ l.length ∧ i = .int .i64 j ∧ Hid (runE ((evD l).take j) = 0) ∧ Mb wr w.heap.size (runM m ((evD l).take j)) ∧ Box wr (w.heap.size + 1) 28 (memA zeroL) ∧
      Below w.heap.size w wr) (fun i _ => l.length - (intOf i).toNat)
  case atStart => exact ⟨0, Nat.zero_le _, rfl, Lib.hid rfl, mb, ob, low⟩
  case round =>
    clear mb ob low
    obtain ⟨j, hj, rfl, he, mb, ob, low⟩ := hrel
    by_cases hlt : j < l.length
    · obtain ⟨b, o, rfl, hb, hc⟩ := H3.out (by omega)
      have hx : l[j]? = some l[j] := List.getElem?_eq_getElem _
      generalize l[j] = x at hx
      obtain ⟨c0, c1, c2, c3, c4, c5⟩ := evAt_of hc hb low hx
      have HX := Lib.hid (evD_at hx)
      obtain ⟨xd, tv, bv⟩ := x
      simp only at c0 c1 c2 c3 c4 c5
      replace HX : Hid ((evD l)[j]? = some xd) := HX
      have hl1 := mb.2
      have OK := Lib.hid fun W (h : deedE xd = 0) => atomicDo_ok (runM m ((evD l).take j)) hl1 xd h W
      have BAD := Lib.hid fun W (h : deedE xd ≠ 0) => atomicDo_bad (runM m ((evD l).take j)) xd h W
      have hl2 := doM_length xd hl1
      have k0 : (0 : Int) ≤ j := by omega
      have k1 : (j : Int) < l.length := by omega
      clear hx hc
      have db := Box.new wr 43 #[.int .i64 xd.nd, .int .i64 xd.kd, .int .i64 xd.ad, .int .u64 xd.vl, .int .u64 tv, .bool bv]
      have mb1 := mb.alloc (.cells #[.int .i64 xd.nd, .int .i64 xd.kd, .int .i64 xd.ad, .int .u64 xd.vl, .int .u64 tv, .bool bv] 43)
      have ob1 := ob.alloc (.cells #[.int .i64 xd.nd, .int .i64 xd.kd, .int .i64 xd.ad, .int .u64 xd.vl, .int .u64 tv, .bool bv] 43)
      have low1 := gAlloc low (.cells #[.int .i64 xd.nd, .int .i64 xd.kd, .int .i64 xd.ad, .int .u64 xd.vl, .int .u64 tv, .bool bv] 43)
      have db_0 := db.at_ 0 rfl
      have db_1 := db.at_ 1 rfl
      have db_2 := db.at_ 2 rfl
      have db_3 := db.at_ 3 rfl
      have db_4 := db.at_ 4 rfl
      have db_5 := db.at_ 5 rfl
      go_wp2_with ((with_reducible refine wp_loadMem (mb1) ?_ ?_ ?_); rfl; rfl)
      clear db_0 db_1 db_2 db_3 db_4 db_5
      clear c0 c1 c2 c3 c4 c5 db
      by_cases hE : deedE xd = 0
      · have OK2 := Lib.hid fun W => OK.out W hE
        have HE := Lib.hid (show runE ((evD l).take (j + 1)) = 0 by rw [take_more HX.out, runE_append, if_pos he.out]; simp [runE, hE])
        have HM := Lib.hid (show doM (runM m ((evD l).take j)) xd = runM m ((evD l).take (j + 1)) by rw [take_more HX.out, runM_append]; rfl)
        clear OK BAD hE
        (with_reducible refine (OK2.out _).mono ?_); rintro e w2 ⟨rfl, hb2⟩
        replace mb1 := mb1.call hb2
        replace ob1 := ob1.call hb2
        replace low1 := gCall low1 hb2
        clear hb2 mb ob low OK2
        generalize doM (runM m ((evD l).take j)) xd = m2 at *
        generalize doV (runM m ((evD l).take j)) xd = v2 at *
        have nb := Mb.new (l := m2) w2 hl2
        replace mb1 := mb1.alloc (.cells (memA m2) 28)
        replace ob1 := ob1.alloc (.cells (memA m2) 28)
        replace low1 := gAlloc low1 (.cells (memA m2) 28)
        go_wp2_with (first | (with_reducible refine wp_newMem ?_) | ((with_reducible refine wp_storeNew (zeroL_length) (hl2) ?_ ?_ ?_); rfl; rfl) | ((with_reducible refine wp_loadMem (nb) ?_ ?_ ?_); rfl; rfl) | ((with_reducible refine wp_storeMem (mb1) (hl2) ?_ ?_ ?_); rfl; rfl))
        intro w3 m3 st
        replace ob1 := st.box ob1 (by omega)
        replace low1 := st.low low1 (by omega)
        clear st nb mb1
        go_wp2_with fail
        go_roundw
        case rel => exact ⟨j + 1, by omega, by go_num, HE, by rw [← HM.out]; exact m3, ob1, low1⟩
        case measure => simp [intOf]; omega
      · have BAD2 := Lib.hid fun W => BAD.out W hE
        have HE := Lib.hid (show runE (evD l) = deedE xd by
          have e := List.take_append_drop j (evD l)
          have hj2 : j < (evD l).length := by have := EL.out; omega
          rw [← e, runE_append, if_pos he.out, List.drop_eq_getElem_cons hj2]
          have := HX.out
          rw [List.getElem?_eq_getElem hj2] at this
          cases this
          simp [runE, hE])
        have hE2 : (deedE xd != 0) = true := by simpa using hE
        have HE3 := Lib.hid hE
        clear OK BAD hE
        (with_reducible refine (BAD2.out _).mono ?_); rintro e w2 ⟨rfl, hb2⟩
        replace ob1 := ob1.call hb2
        replace low1 := gCall low1 hb2
        clear hb2 mb ob low BAD2 mb1
        replace ob1 := ob1.alloc (.cells (memA zeroL) 28)
        replace low1 := gAlloc low1 (.cells (memA zeroL) 28)
        go_wp2_with (first | (with_reducible refine wp_newMem ?_) | (with_reducible refine wp_zeroMem ?_) | ((with_reducible refine wp_storeNew (zeroL_length) (zeroL_length) ?_ ?_ ?_); rfl; rfl) | ((with_reducible refine wp_storeMem (⟨ob1, zeroL_length⟩) (zeroL_length) ?_ ?_ ?_); rfl; rfl))
        intro w3 m3 st
        replace low1 := st.low low1 (by omega)
        clear st ob1
        go_wp2_with fail
        refine bodyPost_ret (v := .tuple #[memV zeroL, .int .i64 (deedE xd)]) (results_mem2 Try.results7 rfl rfl m3) rfl ⟨?_, low1⟩
        have e1 : memF l = deedE xd := MF.out.trans HE.out
        have e2 : memE m l = zeroL := if_neg (by rw [e1]; exact HE3.out)
        rw [e1, e2]
    · obtain rfl : j = l.length := by omega
      have hl2 := mb.2
      go_wp2_with (first | ((with_reducible refine wp_loadMem (mb) ?_ ?_ ?_); rfl; rfl) | ((with_reducible refine wp_storeMem (⟨ob, zeroL_length⟩) (hl2) ?_ ?_ ?_); rfl; rfl))
      intro w3 m3 st
      replace low := st.low low (by omega)
      clear st ob mb
      go_wp2_with fail
      have tk : (evD l).take l.length = evD l := List.take_of_length_le (by rw [EL.out]; exact Nat.le_refl _)
      rw [tk] at m3 he
      refine bodyPost_ret (v := .tuple #[memV (runM m (evD l)), .int .i64 0]) (results_mem2 Try.results7 rfl rfl m3) rfl ⟨?_, low⟩
      have e1 : memF l = 0 := MF.out.trans he.out
      have e2 : memE m l = runM m (evD l) := if_pos e1
      rw [e1, e2]
theorem tallyMem_is (m : List Int) (hm : m.length = 64) (v : Value) (l : List Ev) (w : World) (h : elE.R w v l) : Calls Try.prog 7 #[memV m, v] w fun e w' =>
    e = .returned (.tuple #[memV (memE m l), .int .i64 (memF l)]) ∧ Below w.heap.size w w' := by
  by_cases hr : 200 < l.length
  · have e1 : memF l = 2 := if_pos hr
    have e2 : memE m l = zeroL := if_neg (by rw [e1]; decide)
    rw [e1, e2]
    exact tallyMem_large m v l w h hr
  · exact tallyMem_few m hm v l w h (by omega)
theorem memE_length {m : List Int} (hm : m.length = 64) (l : List Ev) : (memE m l).length = 64 := by
  unfold memE
  split
  · exact runM_length hm _
  · exact zeroL_length
end Go.Proofs.Ytcegjehoejgofaa
