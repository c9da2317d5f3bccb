/-
Proved: the law 'ProgTells' returns true for every argument, and changes nothing that was there. No condition.
-/
import Derived.Test.YtckmcfpeemkdoaaProgTellsA
import Derived.Test.YtckmcfpeemkdoaaRefProgs
import Derived.Test.YtckmcfpeemkdoaaOpsEqual
import Derived.Test.YtckmcfpeemkdoaaIntsEqual
import Derived.Deep.CutBlock
namespace Go.Proofs.Ytckmcfpeemkdoaa.progTells
open Go.ChangeShapes Go.WideShapes Go.ChangeAt Go.RowKit Go.Joins

theorem progs_fine {n s y b : Int} {p : List (List Dd)} (h : progsE n s y b p = 0) : p.length ≤ 8 ∧ ∀ (k : Nat) l, p[k]? = some l → l.length ≤ 20 := by
  obtain ⟨h1, h2, h3⟩ := progsE_zero h
  have := cfgB_iff.1 h1
  exact ⟨by omega, fun k l hk => (listE_zero.1 h3 k l hk).1⟩
theorem merge_fine {n s y b : Int} {p : List (List Dd)} {q : Nat} (h : mergeE n s y b p q = 0) : progsE n s y b p = 0 ∧ q ≤ 200 := by
  unfold mergeE at h
  by_cases h0 : progsE n s y b p = 0
  · rw [if_neg (by simpa using h0)] at h
    refine ⟨h0, ?_⟩
    rcases Nat.lt_or_ge 200 q with h1 | h1
    · rw [if_pos h1] at h; cases h
    · exact h1
  · rw [if_pos h0] at h
    exact absurd h h0

theorem configFault_is (n s y b : Int) (w : World) : Calls Try.prog 12 #[cfg n s y b] w fun e w' => e = .returned (.int .i64 (if cfgB n s y b = false then 4 else 0)) ∧ Below w.heap.size w w' := by
  cases h : cfgB n s y b
  · exact configFault_bad n s y b w h
  · exact configFault_ok n s y b w h
theorem split_start (n s y b : Int) (l : List Dd) : (if cfgB n s y b = false then (4 : Int) else if 200 < l.length then 2 else 0) =
    if (if cfgB n s y b = false then (4 : Int) else 0) ≠ 0 then (if cfgB n s y b = false then 4 else 0) else if 200 < l.length then 2 else 0 := by
  cases cfgB n s y b <;> simp
theorem splitE_zero {n s y b : Int} {l : List Dd} (h : splitE n s y b l = 0) : (2 ≤ n ∧ n ≤ 8) ∧ l.length ≤ 200 := by
  unfold splitE at h
  by_cases h1 : cfgB n s y b = false
  · rw [if_pos h1] at h; cases h
  · rw [if_neg h1] at h
    have := cfgB_iff.1 (by simpa using h1)
    rcases Nat.lt_or_ge 200 l.length with h2 | h2
    · rw [if_pos h2] at h; cases h
    · exact ⟨by omega, h2⟩

set_option maxRecDepth 10000 in
set_option maxHeartbeats 8000000 in
theorem walk_any (n s y b : Int) (v av pv lv : Value) (p : List (List Dd)) (xs picks : List Int) (node : Int) (l : List Dd) (w : World) (h : Ps w v p) (ha : Sl w w.heap.size 1 av xs.length (xs.map (Value.int .i64)))
    (hpk : Sl w w.heap.size 1 pv picks.length (picks.map (Value.int .i64))) (hd : Ds w lv l) :
    Calls Try.prog 3 #[cfg n s y b, v, av, .int .i64 node, pv, lv] w fun e w' => e = .returned (.bool true) ∧ Below w.heap.size w w' := by
  have HP := Lib.hid h
  have HA := Lib.hid ha
  have HK := Lib.hid hpk
  have HD := Lib.hid hd
  obtain ⟨A1, c1, rfl⟩ := h.shape
  obtain ⟨_, A2, c2, rfl, _⟩ := ha
  obtain ⟨_, A4, c4, rfl, _⟩ := hpk
  obtain ⟨A5, c5, rfl⟩ := hd.el.shape
  have NX := Lib.hid fun w h ha => next_is (.slice A1 p.length c1) (.slice A2 xs.length c2) p xs node w h ha
  have MG := Lib.hid fun w h hp => merge_is n s y b (.slice A1 p.length c1) (.slice A4 picks.length c4) p picks w h hp
  have SP := Lib.hid fun w h => split_is n s y b (.slice A5 l.length c5) l w h
  have PF := Lib.hid fun w h => progsFault_any n s y b (.slice A1 p.length c1) p w h
  have PC := Lib.hid fun w h => progCheck_any n s y b (.slice A1 p.length c1) p w h
  clear h hd
  have low := Below.refl w.heap.size w
  have cb := boxNext low 23 #[.int .i64 n, .int .i64 s, .int .i64 y, .int .i64 b]
  replace low := gAlloc low (.cells #[.int .i64 n, .int .i64 s, .int .i64 y, .int .i64 b] 23)
  try simp only [World.size_alloc] at cb
  go_enter Try.func3, Try.ntmps3
  go_wp2_with fail
  (with_reducible refine (NX.out _ (HP.out.call low) (HA.out.call low)).mono ?_); rintro e w1 ⟨⟨d, B, E1, rfl, nr⟩, hb⟩
  replace cb := cb.call hb
  replace low := gCall low hb
  clear hb
  have NR := Lib.hid nr
  clear nr NX
  obtain ⟨dn, dk, da, dv⟩ := d
  have db := boxNext low 30 #[.int .i64 dn, .int .i64 dk, .int .i64 da, .int .u64 dv]
  replace low := gAlloc low (.cells #[.int .i64 dn, .int .i64 dk, .int .i64 da, .int .u64 dv] 30)
  replace cb := cb.alloc (.cells #[.int .i64 dn, .int .i64 dk, .int .i64 da, .int .u64 dv] 30)
  try simp only [World.size_alloc] at db
  have cb_0 := cb.at_ 0 rfl
  have cb_1 := cb.at_ 1 rfl
  have cb_2 := cb.at_ 2 rfl
  have cb_3 := cb.at_ 3 rfl
  go_wp2_with fail
  (with_reducible refine (MG.out _ (HP.out.call low) (HK.out.call low)).mono ?_); rintro e w2 ⟨⟨Am, mm, cm, At, mt, ct, rfl, mr⟩, hb⟩
  replace db := db.call hb
  replace cb := cb.call hb
  replace low := gCall low hb
  clear hb
  have MR := Lib.hid mr
  clear mr MG
  clear cb_0 cb_1 cb_2 cb_3
  have cb_0 := cb.at_ 0 rfl
  have cb_1 := cb.at_ 1 rfl
  have cb_2 := cb.at_ 2 rfl
  have cb_3 := cb.at_ 3 rfl
  go_wp2_with fail
  (with_reducible refine (SP.out _ (HD.out.call low)).mono ?_); rintro e w3 ⟨⟨As, ms, cs, rfl, sr⟩, hb⟩
  replace db := db.call hb
  replace MR := Lib.hid (MR.out.call hb)
  replace cb := cb.call hb
  replace low := gCall low hb
  clear hb
  have SR := Lib.hid sr
  clear sr SP
  clear cb_0 cb_1 cb_2 cb_3
  have cb_0 := cb.at_ 0 rfl
  have cb_1 := cb.at_ 1 rfl
  have cb_2 := cb.at_ 2 rfl
  have cb_3 := cb.at_ 3 rfl
  go_wp2_with fail
  (with_reducible refine (PF.out _ (HP.out.call low)).mono ?_); rintro e w4 ⟨rfl, hb⟩
  replace db := db.call hb
  replace MR := Lib.hid (MR.out.call hb)
  replace SR := Lib.hid (SR.out.call hb)
  replace cb := cb.call hb
  replace low := gCall low hb
  clear hb
  clear cb_0 cb_1 cb_2 cb_3
  clear PF
  have cb_0 := cb.at_ 0 rfl
  have cb_1 := cb.at_ 1 rfl
  have cb_2 := cb.at_ 2 rfl
  have cb_3 := cb.at_ 3 rfl
  go_wp2_with fail
  (with_reducible refine (PC.out _ (HP.out.call low)).mono ?_); rintro e w5 ⟨rfl, hb⟩
  replace db := db.call hb
  replace MR := Lib.hid (MR.out.call hb)
  replace SR := Lib.hid (SR.out.call hb)
  replace cb := cb.call hb
  replace low := gCall low hb
  clear hb
  clear cb_0 cb_1 cb_2 cb_3
  clear PC
  go_upto_block 0 with fail
  go_cut [] from 60 (fun wx => Below w5.heap.size w5 wx)
  case first =>
    as_aux_lemma =>
      have near := Below.refl w5.heap.size w5
      clear MR SR HD HK
      rcases NR.out with ⟨hbad, e1, rfl, rfl⟩ | ⟨k, l0, a, rfl, hxl, hp, hx, h0, rfl, hh⟩
      · obtain ⟨rfl, rfl, rfl, rfl⟩ : dn = 0 ∧ dk = 0 ∧ da = 0 ∧ dv = 0 := by cases e1; exact ⟨rfl, rfl, rfl, rfl⟩
        have eqx := fun w => eqDeed noD noD w
        rw [(eqD_iff noD noD).2 rfl] at eqx
        simp only [Dd.val, Dd.arr] at eqx
        clear e1 NR
        by_cases r1 : node < 0
        · clear hbad
          have db_0 := db.at_ 0 rfl
          have db_1 := db.at_ 1 rfl
          have db_2 := db.at_ 2 rfl
          have db_3 := db.at_ 3 rfl
          go_wp2_with fail
          go_meet
          exact near
        · have r1' : (0 : Int) ≤ node := by omega
          by_cases r2 : (p.length : Int) ≤ node
          · have r2' : decide ((p.length : Int) ≤ node) = true := decide_eq_true r2
            clear hbad
            have db_0 := db.at_ 0 rfl
            have db_1 := db.at_ 1 rfl
            have db_2 := db.at_ 2 rfl
            have db_3 := db.at_ 3 rfl
            go_wp2_with fail
            go_meet
            exact near
          · have r2' : decide ((p.length : Int) ≤ node) = false := decide_eq_false r2
            by_cases r3 : xs.length = p.length
            · have r3' : ((xs.length : Int) != (p.length : Int)) = false := by simp [r3]
              obtain ⟨k, rfl⟩ : ∃ k : Nat, node = k := ⟨node.toNat, by omega⟩
              obtain ⟨a, ha, hneg⟩ : ∃ a, xs[k]? = some a ∧ a < 0 := by
                rcases hbad with h | h | h | ⟨a, h1, h2⟩
                · omega
                · omega
                · exact absurd r3 h
                · exact ⟨a, by simpa using h1, h2⟩
              have r2n : decide (p.length ≤ k) = false := decide_eq_false (by omega)
              obtain ⟨_, A6, c6, e6, g1, g2, g3⟩ := HA.out
              obtain ⟨rfl, rfl⟩ : A2 = A6 ∧ c2 = c6 := by injection e6 with e5 _ e6; exact ⟨e5, e6⟩
              obtain ⟨b, o, rfl, hb, hc⟩ := g3 (by omega)
              have ca := int_at hc hb low ha
              have k1 : (k : Int) < xs.length := by omega
              unfold maxLen at g2
              clear hbad hc r2 r3 ha g3 e6
              have db_0 := db.at_ 0 rfl
              have db_1 := db.at_ 1 rfl
              have db_2 := db.at_ 2 rfl
              have db_3 := db.at_ 3 rfl
              go_wp2_with fail
              go_meet
              exact near
            · have r3' : ((xs.length : Int) != (p.length : Int)) = true := by simp; omega
              clear hbad r3
              have db_0 := db.at_ 0 rfl
              have db_1 := db.at_ 1 rfl
              have db_2 := db.at_ 2 rfl
              have db_3 := db.at_ 3 rfl
              go_wp2_with fail
              go_meet
              exact near
      · obtain ⟨_, A6, c6, e6, g1, g2, g3⟩ := HA.out
        obtain ⟨rfl, rfl⟩ : A2 = A6 ∧ c2 = c6 := by injection e6 with e5 _ e6; exact ⟨e5, e6⟩
        have hk := (List.getElem?_eq_some_iff.1 hp).1
        obtain ⟨b1, o1, rfl, hb1, hc1⟩ := g3 (by omega)
        obtain ⟨A7, c7, e7, g4, g5, g6⟩ := HP.out.ex
        obtain ⟨rfl, rfl⟩ : A1 = A7 ∧ c1 = c7 := by injection e7 with e5 _ e6; exact ⟨e5, e6⟩
        obtain ⟨b2, o2, rfl, hb2, hc2⟩ := g6 (by omega)
        obtain ⟨A8, c8, e8, ds⟩ := hc2 k l0 hp
        have DS := Lib.hid ds
        have ca := int_at hc1 hb1 low hx
        have cp := (low.cell (p := ⟨b2, o2 + k, none⟩) hb2).trans e8
        have k0 : (0 : Int) ≤ k := by omega
        have k1 : (k : Int) < p.length := by omega
        have k2 : (k : Int) < xs.length := by omega
        have r2' : decide ((p.length : Int) ≤ k) = false := decide_eq_false (by omega)
        have r2n : decide (p.length ≤ k) = false := decide_eq_false (by omega)
        have r3' : ((xs.length : Int) != (p.length : Int)) = false := by simp [hxl]
        unfold maxLen at g2 g5
        clear g3 g6 hc1 hc2 e6 e7 e8 ds hp hx hxl NR
        rcases hh with ⟨hE, e1, rfl⟩ | ⟨j, rfl, hd, rfl⟩
        · obtain ⟨rfl, rfl, rfl, rfl⟩ : dn = 0 ∧ dk = 0 ∧ da = 0 ∧ dv = 0 := by cases e1; exact ⟨rfl, rfl, rfl, rfl⟩
          have eqx := fun w => eqDeed noD noD w
          rw [(eqD_iff noD noD).2 rfl] at eqx
          simp only [Dd.val, Dd.arr] at eqx
          have E' : decide ((l0.length : Int) ≤ a) = true := decide_eq_true hE
          clear e1
          have db_0 := db.at_ 0 rfl
          have db_1 := db.at_ 1 rfl
          have db_2 := db.at_ 2 rfl
          have db_3 := db.at_ 3 rfl
          go_wp2_with fail
          go_quiet (fail)
          go_wp2_with fail
          go_meet
          exact gDrewN near _
        · have E' : decide ((l0.length : Int) ≤ j) = false := decide_eq_false (by have := (List.getElem?_eq_some_iff.1 hd).1; omega)
          have En : decide (l0.length ≤ j) = false := decide_eq_false (by have := (List.getElem?_eq_some_iff.1 hd).1; omega)
          have j1 : (j : Int) < l0.length := by have := (List.getElem?_eq_some_iff.1 hd).1; omega
          obtain ⟨_, A4, c4, e4, g1, g2, g3⟩ := DS.out
          obtain ⟨rfl, rfl⟩ : A8 = A4 ∧ c8 = c4 := by injection e4 with e5 _ e6; exact ⟨e5, e6⟩
          obtain ⟨b3, o3, rfl, hb3, hc3⟩ := g3 (by omega)
          obtain ⟨x0, x1, x2, x3⟩ := deedAt_of hc3 hb3 low hd
          have eqx := fun w => eqDeed ⟨dn, dk, da, dv⟩ ⟨dn, dk, da, dv⟩ w
          rw [(eqD_iff ⟨dn, dk, da, dv⟩ ⟨dn, dk, da, dv⟩).2 rfl] at eqx
          simp only [Dd.val, Dd.arr] at eqx
          simp only at x0 x1 x2 x3
          unfold maxLen at g2
          clear g3 hc3 hd e4 DS
          have db_0 := db.at_ 0 rfl
          have db_1 := db.at_ 1 rfl
          have db_2 := db.at_ 2 rfl
          have db_3 := db.at_ 3 rfl
          go_wp2_with fail
          go_quiet (fail)
          go_wp2_with fail
          go_quiet (fail)
          go_wp2_with fail
          go_meet
          exact gDrewN (gDrewN near _) _
  case rest =>
    replace low := gCall low hcut
    replace cb := cb.call hcut
    replace MR := Lib.hid (MR.out.call hcut)
    replace SR := Lib.hid (SR.out.call hcut)
    clear hcut db NR HA
    have ME := Lib.hid (show mergeE n s y b p picks.length = if progsE n s y b p ≠ 0 then progsE n s y b p else if 200 < picks.length then 2 else 0 from rfl)
    have HM := Lib.hid (merge_fine (n := n) (s := s) (y := y) (b := b) (p := p) (q := picks.length))
    have HL := Lib.hid (progs_fine (n := n) (s := s) (y := y) (b := b) (p := p))
    generalize mergeE n s y b p picks.length = M at *
    generalize progsE n s y b p = E at *
    go_upto_region 15 with fail
    go_cut [141] from 135 (fun v wx => v = .bool (decide (E = 0 ∧ 200 < picks.length)) ∧ wx = wc)
    case first =>
      as_aux_lemma =>
        try clear MR
        try clear HK
        clear SR HP HD ME
        by_cases h1 : E = 0
        · by_cases h2 : 200 < picks.length
          · have h2' : (200 : Int) < picks.length := by omega
            have D := Lib.hid (decide_eq_true (p := E = 0 ∧ 200 < picks.length) ⟨h1, h2⟩)
            have h1' : (E == 0) = true := by simpa using h1
            clear h1 h2
            go_wp2_with fail
            go_meet
            exact ⟨congrArg Value.bool D.out.symm, rfl⟩
          · have h2' : ¬ (200 : Int) < picks.length := by omega
            have D := Lib.hid (decide_eq_false (p := E = 0 ∧ 200 < picks.length) (fun h => h2 h.2))
            have h1' : (E == 0) = true := by simpa using h1
            clear h1 h2
            go_wp2_with fail
            go_meet
            exact ⟨congrArg Value.bool D.out.symm, rfl⟩
        · have D := Lib.hid (decide_eq_false (p := E = 0 ∧ 200 < picks.length) (fun h => h1 h.1))
          have h1' : (E == 0) = false := by simpa using h1
          clear h1
          go_wp2_with fail
          go_meet
          exact ⟨congrArg Value.bool D.out.symm, rfl⟩
    case rest =>
      obtain ⟨rfl, rfl⟩ := hcut
      generalize hD : decide (E = 0 ∧ 200 < picks.length) = bD at *
      have HB := Lib.hid hD
      clear hD
      go_upto_if 141 with fail
      go_cut [21] from 135 (fun v wx => v = .int .i64 M ∧ wx = wc)
      case first =>
        as_aux_lemma =>
          try clear MR
          try clear HK
          clear SR HP HD
          cases bD
          · have D := Lib.hid (show M = E by
              have := of_decide_eq_false HB.out
              rw [ME.out]
              by_cases h1 : E = 0
              · rw [if_neg (by simpa using h1), if_neg (fun h => this ⟨h1, h⟩), h1]
              · rw [if_pos h1])
            clear HB ME
            go_wp2_with fail
            go_meet
            exact ⟨by rw [D.out], rfl⟩
          · have D := Lib.hid (show M = 2 by
              have := of_decide_eq_true HB.out
              rw [ME.out, if_neg (by simpa using this.1), if_pos this.2])
            clear HB ME
            go_wp2_with fail
            go_meet
            exact ⟨by rw [D.out], rfl⟩
      case rest =>
        obtain ⟨rfl, rfl⟩ := hcut
        clear HB ME
        go_upto_if 143 with fail
        go_cut [] from 144 (fun wx => Below wc.heap.size wc wx)
        case first =>
          as_aux_lemma =>
            have near := Below.refl wc.heap.size wc
            clear SR HD cb
            by_cases hM : M = 0
            · subst hM
              rcases MR.out with ⟨h, _⟩ | ⟨_, rfl, rfl, ds, sl⟩
              · exact absurd rfl h
              have RD := Lib.hid ds
              have RI := Lib.hid sl
              clear ds sl MR
              obtain ⟨hE, hq⟩ := HM.out rfl
              obtain ⟨p8, l20⟩ := HL.out hE
              have L20 := Lib.hid l20
              obtain ⟨A7, c7, e7, g4, g5, g6⟩ := HP.out.ex
              obtain ⟨rfl, rfl⟩ : A1 = A7 ∧ c1 = c7 := by injection e7 with e5 _ e6; exact ⟨e5, e6⟩
              have P3 := Lib.hid g6
              obtain ⟨_, A6, c6, e6, g1, g2, g3⟩ := HK.out
              obtain ⟨rfl, rfl⟩ : A4 = A6 ∧ c4 = c6 := by injection e6 with e5 _ e6; exact ⟨e5, e6⟩
              have G3 := Lib.hid g3
              have hq' : (picks.length : Int) ≤ 200 := by omega
              unfold maxLen at g2 g5
              obtain ⟨i0, hi, hz0, hz1, hz2⟩ := info_parts info_deed
              have HI := Lib.hid hi
              have HZ := Lib.hid (And.intro hz0 (And.intro hz1 hz2))
              clear hE l20 g3 g6 e6 e7 hi hz0 hz1 hz2 HM HL
              obtain ⟨w6, MK, ti, hb2⟩ := make_ints p.length (by omega) wc
              have zz := low.size
              have zt := hb2.size
              have ti := Lib.hid ti
              replace near := gCall near hb2
              clear hb2
              go_wp2_with fail
              clear MK
              go_loopw [22, 160] (fun mv i wr => ∃ k : Nat, k ≤ picks.length ∧ i = .int .i64 k ∧ Hid (wr.ownsRow wc.heap.size 30 4 mv (mergeL p (picks.take k)).1.length (deedsC (mergeL p (picks.take k)).1)) ∧
                  Hid (OwnI wr wc.heap.size (.slice (some ⟨wc.heap.size, 0, none⟩) p.length p.length) (mergeL p (picks.take k)).2) ∧ Below wc.heap.size wc wr) (fun _ i _ => picks.length - (intOf i).toNat)
              case atStart => exact ⟨0, Nat.zero_le _, rfl, Lib.hid (World.ownsRow_nil _ _ _ _), ti, near⟩
              case round =>
                clear ti near
                obtain ⟨i, hi, rfl, mr, ti, near⟩ := hrel
                by_cases hlt : i < picks.length
                · obtain ⟨bb, o, rfl, hb, hc⟩ := G3.out (by omega)
                  have hx : picks[i]? = some picks[i] := List.getElem?_eq_getElem _
                  generalize picks[i] = x at hx
                  have cx := int_at hc hb (gCall low near) hx
                  have good := mergeL_good p (picks.take i)
                  have few := mergeL_few p picks i
                  have NX := Lib.hid (mergeL_snoc (p := p) hx)
                  generalize mergeL p (picks.take i) = S at *
                  have i0' : (0 : Int) ≤ i := by omega
                  have i1 : (i : Int) < picks.length := by omega
                  clear hx hc
                  have zr := near.size
                  rcases step_cases good x with ⟨hout, e⟩ | ⟨q, l1, j, rfl, hp, hj, hjl, hst⟩
                  · have NXT := Lib.hid (NX.out.trans e)
                    clear NX good e
                    by_cases x0 : x < 0
                    · have x1 : decide (0 ≤ x) = false := decide_eq_false (by omega)
                      clear hout
                      go_wp2_with fail
                      go_quiet (fail)
                      go_wp2_with fail
                      go_roundw
                      case rel => exact ⟨i + 1, by omega, by go_num, by rw [NXT.out]; exact Lib.hid (own_below mr.out (gDrewN (Below.refl _ _) _)), by rw [NXT.out]; exact Lib.hid (ti.out.drewN _), gDrewN near _⟩
                      case measure => simp [intOf]; omega
                    · have x1 : (0 : Int) ≤ x := by omega
                      have x2 : decide (x < (p.length : Int)) = false := decide_eq_false (by omega)
                      clear hout
                      go_wp2_with fail
                      go_quiet (fail)
                      go_wp2_with fail
                      go_roundw
                      case rel => exact ⟨i + 1, by omega, by go_num, by rw [NXT.out]; exact Lib.hid (own_below mr.out (gDrewN (Below.refl _ _) _)), by rw [NXT.out]; exact Lib.hid (ti.out.drewN _), gDrewN near _⟩
                      case measure => simp [intOf]; omega
                  · obtain ⟨b1, o1, rfl, hb1, hc1⟩ := P3.out (by have := (List.getElem?_eq_some_iff.1 hp).1; omega)
                    obtain ⟨A8, c8, e8, ds⟩ := hc1 q l1 hp
                    have DS := Lib.hid ds
                    have cp := ((gCall low near).cell (p := ⟨b1, o1 + q, none⟩) hb1).trans e8
                    have ct := ti.out.at_ hj
                    have q0 : (0 : Int) ≤ q := by omega
                    have q1 : (q : Int) < p.length := by have := (List.getElem?_eq_some_iff.1 hp).1; omega
                    have l20 := L20.out q l1 hp
                    have HJ := Lib.hid hj
                    rcases hst with ⟨e1, e⟩ | ⟨d, hd, e⟩
                    · have NXT := Lib.hid (NX.out.trans e)
                      have En : decide (j < l1.length) = false := decide_eq_false (by omega)
                      have Ei : decide ((j : Int) < (l1.length : Int)) = false := decide_eq_false (by omega)
                      clear NX good e e1 hp hj e8 ds hc1
                      go_wp2_with fail
                      go_quiet (fail)
                      go_wp2_with fail
                      go_roundw
                      case rel => exact ⟨i + 1, by omega, by go_num, by rw [NXT.out]; exact Lib.hid (own_below mr.out (gDrewN (Below.refl _ _) _)), by rw [NXT.out]; exact Lib.hid (ti.out.drewN _), gDrewN near _⟩
                      case measure => simp [intOf]; omega
                    · have NXT := Lib.hid (NX.out.trans e)
                      obtain ⟨_, A9, c9, e9, k1, k2, k3⟩ := DS.out
                      obtain ⟨rfl, rfl⟩ : A8 = A9 ∧ c8 = c9 := by injection e9 with e5 _ e6; exact ⟨e5, e6⟩
                      have jl := (List.getElem?_eq_some_iff.1 hd).1
                      obtain ⟨b3, o3, rfl, hb3, hc3⟩ := k3 (by omega)
                      obtain ⟨x0, x1, x2, x3⟩ := deedAt_of hc3 hb3 (gCall low near) hd
                      have j0 : (0 : Int) ≤ j := by omega
                      have j1 : (j : Int) < l1.length := by omega
                      obtain ⟨an, ak, aa, av⟩ := d
                      simp only at x0 x1 x2 x3 NXT
                      unfold maxLen at k2
                      clear NX good e hp hj hd e8 ds hc1 e9 k3 hc3 DS
                      go_wp2_with fail
                      go_quiet (fail)
                      go_wp2_with fail
                      rename_i nq K0 hK0
                      have mr1 := own_below mr.out (gDrewN (Below.refl wr.heap.size wr) nq)
                      have ti1 := ti.out.drewN nq
                      have near1 := gDrewN near nq
                      replace cp : (wr.drewN nq).cell? ⟨b1, o1 + q, none⟩ = _ := cp
                      replace ct : (wr.drewN nq).cell? ⟨wc.heap.size, q, none⟩ = _ := ct
                      replace x0 : (wr.drewN nq).cell? ⟨b3, o3 + j * 4, none⟩ = _ := x0
                      replace x1 : (wr.drewN nq).cell? ⟨b3, o3 + j * 4 + 1, none⟩ = _ := x1
                      replace x2 : (wr.drewN nq).cell? ⟨b3, o3 + j * 4 + 2, none⟩ = _ := x2
                      replace x3 : (wr.drewN nq).cell? ⟨b3, o3 + j * 4 + 3, none⟩ = _ := x3
                      have MR1 := Lib.hid mr1
                      have TI1 := Lib.hid ti1
                      clear mr ti near mr1 ti1
                      generalize wr.drewN nq = wy at *
                      refine wp_region_noPanic ?_
                      refine wp_region_held_drew (S := fun w' => w'.cell? ⟨b1, o1 + q, none⟩ = some (.slice (some ⟨b3, o3, none⟩) l1.length c8) ∧ w'.cell? ⟨wc.heap.size, q, none⟩ = some (.int .i64 (j : Int)) ∧
                        w'.cell? ⟨b3, o3 + j * 4, none⟩ = some (.int .i64 an) ∧ w'.cell? ⟨b3, o3 + j * 4 + 1, none⟩ = some (.int .i64 ak) ∧ w'.cell? ⟨b3, o3 + j * 4 + 2, none⟩ = some (.int .i64 aa) ∧ w'.cell? ⟨b3, o3 + j * 4 + 3, none⟩ = some (.int .u64 av)) (by kernel_rfl) ⟨drewC cp, drewC ct, drewC x0, drewC x1, drewC x2, drewC x3⟩ (fun hHeld => ?_)
                      clear x0 x1 x2 x3 cp ct
                      refine takeFirst (i := 0) (v := ?_) rfl (by kernel_rfl) (by kernel_rfl) (by kernel_rfl) (by rfl) (fun _ _ _ h => h) ?_ (by assumption) ?_
                      rotate_left
                      · (intro w hSw; go_simp; try (with_reducible rfl))
                      try simp only [Act.put, List.setIfInBounds_toArray, List.set_cons_zero, List.set_cons_succ]
                      refine takeFirst (i := 1) (v := ?_) rfl (by kernel_rfl) (by kernel_rfl) (by kernel_rfl) (by rfl) (fun _ _ _ h => h) ?_ (by assumption) ?_
                      rotate_left
                      · (intro w hSw; go_simp; try (with_reducible rfl))
                      try simp only [Act.put, List.setIfInBounds_toArray, List.set_cons_zero, List.set_cons_succ]
                      refine takeFirst (i := 2) (v := ?_) rfl (by kernel_rfl) (by kernel_rfl) (by kernel_rfl) (by rfl) (fun _ _ _ h => h) ?_ (by assumption) ?_
                      rotate_left
                      · (intro w hSw; go_simp; try (with_reducible rfl))
                      try simp only [Act.put, List.setIfInBounds_toArray, List.set_cons_zero, List.set_cons_succ]
                      refine takeFirst (i := 3) (v := ?_) rfl (by kernel_rfl) (by kernel_rfl) (by kernel_rfl) (by rfl) (fun _ _ _ h => h) ?_ (by assumption) ?_
                      rotate_left
                      · (intro w hSw; go_simp; try (with_reducible rfl))
                      try simp only [Act.put, List.setIfInBounds_toArray, List.set_cons_zero, List.set_cons_succ]
                      refine takeFirst (i := 4) (v := ?_) rfl (by kernel_rfl) (by kernel_rfl) (by kernel_rfl) (by rfl) (fun _ _ _ h => h) ?_ (by assumption) ?_
                      rotate_left
                      · (intro w hSw; go_simp; try (with_reducible rfl))
                      try simp only [Act.put, List.setIfInBounds_toArray, List.set_cons_zero, List.set_cons_succ]
                      refine takeFirst (i := 5) (v := ?_) rfl (by kernel_rfl) (by kernel_rfl) (by kernel_rfl) (by rfl) (fun _ _ _ h => h) ?_ (by assumption) ?_
                      rotate_left
                      · (intro w hSw; go_simp; try (with_reducible rfl))
                      try simp only [Act.put, List.setIfInBounds_toArray, List.set_cons_zero, List.set_cons_succ]
                      refine takeFirst (i := 6) (v := ?_) rfl (by kernel_rfl) (by kernel_rfl) (by kernel_rfl) (by rfl) (fun _ _ _ h => h) ?_ (by assumption) ?_
                      rotate_left
                      · (intro w hSw; go_simp; try (with_reducible rfl))
                      try simp only [Act.put, List.setIfInBounds_toArray, List.set_cons_zero, List.set_cons_succ]
                      refine takeFirst (i := 7) (v := ?_) rfl (by kernel_rfl) (by kernel_rfl) (by kernel_rfl) (by rfl) (fun _ _ _ h => h) ?_ (by assumption) ?_
                      rotate_left
                      · (intro w hSw; go_simp; try (with_reducible rfl))
                      try simp only [Act.put, List.setIfInBounds_toArray, List.set_cons_zero, List.set_cons_succ]
                      refine takeFirst (i := 8) (v := ?_) rfl (by kernel_rfl) (by kernel_rfl) (by kernel_rfl) (by rfl) (fun _ _ _ h => h) ?_ (by assumption) ?_
                      rotate_left
                      · (intro w hSw; go_simp; try (with_reducible rfl))
                      try simp only [Act.put, List.setIfInBounds_toArray, List.set_cons_zero, List.set_cons_succ]
                      refine takeFirst (i := 9) (v := ?_) rfl (by kernel_rfl) (by kernel_rfl) (by kernel_rfl) (by rfl) (fun _ _ _ h => h) ?_ (by assumption) ?_
                      rotate_left
                      · (intro w hSw; go_simp; try (with_reducible rfl))
                      try simp only [Act.put, List.setIfInBounds_toArray, List.set_cons_zero, List.set_cons_succ]
                      refine takeFirst (i := 10) (v := ?_) rfl (by kernel_rfl) (by kernel_rfl) (by kernel_rfl) (by rfl) (fun _ _ _ h => h) ?_ (by assumption) ?_
                      rotate_left
                      · (intro w hSw; go_simp; try (with_reducible rfl))
                      try simp only [Act.put, List.setIfInBounds_toArray, List.set_cons_zero, List.set_cons_succ]
                      refine stepNext (i := 11) (by kernel_rfl) rfl (by rfl) (fun K hK => ?_)
                      go_simp
                      have MR2 := Lib.hid (own_below MR1.out ((gAlloc (Below.refl wy.heap.size wy) (.cells #[.int .i64 an, .int .i64 ak, .int .i64 aa, .int .u64 av] 30)).drew))
                      have TI2 := Lib.hid ((TI1.out.alloc (.cells #[.int .i64 an, .int .i64 ak, .int .i64 aa, .int .u64 av] 30)).drew)
                      have near2 := (gAlloc near1 (.cells #[.int .i64 an, .int .i64 ak, .int .i64 aa, .int .u64 av] 30)).drew
                      have news := Lib.hid fun i u' h => deed_laid wy 30 ⟨an, ak, aa, av⟩ wy.heap.size i u' rfl h
                      clear MR1 TI1 near1
                      obtain ⟨hh0, hh1, hh2, hh3, hh4, hh5⟩ := hHeld
                      have hHeld := (And.intro (drewC (allocC (.cells #[.int .i64 an, .int .i64 ak, .int .i64 aa, .int .u64 av] 30) hh0)) (And.intro (drewC (allocC (.cells #[.int .i64 an, .int .i64 ak, .int .i64 aa, .int .u64 av] 30) hh1)) (And.intro (drewC (allocC (.cells #[.int .i64 an, .int .i64 ak, .int .i64 aa, .int .u64 av] 30) hh2)) (And.intro (drewC (allocC (.cells #[.int .i64 an, .int .i64 ak, .int .i64 aa, .int .u64 av] 30) hh3)) (And.intro (drewC (allocC (.cells #[.int .i64 an, .int .i64 ak, .int .i64 aa, .int .u64 av] 30) hh4)) (drewC (allocC (.cells #[.int .i64 an, .int .i64 ak, .int .i64 aa, .int .u64 av] 30) hh5)))))))
                      clear hh0 hh1 hh2 hh3 hh4 hh5
                      refine hK.out _ _ hHeld ?_
                      clear hK K
                      try simp only [Act.put]
                      try simp only [List.setIfInBounds_toArray, List.set_cons_zero, List.set_cons_succ]
                      refine stepNext (i := 12) (by kernel_rfl) rfl (by rfl) (fun K hK => ?_)
                      refine wp_append_own _ (.tmp 184) (.tmp 195) 26 rfl wc.heap.size 30 i0 (.agg #[.int .i64 0, .int .i64 0, .int .i64 0, .int .u64 0]) 4 32 Try.underlying26 HI.out HZ.out.1 HZ.out.2.1 HZ.out.2.2 rfl (by decide) _ _ _ rfl MR2.out ⟨wy.heap.size, 0, none⟩ 1 1 (Dd.cells ⟨an, ak, aa, av⟩) rfl rfl news.out (deed_cells1 _) ?f3 ?f4 ?f5 ?_
                      case f3 => unfold maxLen; omega
                      case f4 => omega
                      case f5 => exact near2.size
                      intro v4 w4 own4 grow4 _
                      have hne := TI2.out.ne MR2.out (by decide)
                      have ti4 := Lib.hid (TI2.out.grown grow4 hne)
                      have near4 : Below wc.heap.size wc w4 := near2.grown grow4 near2.size (fun g e => (MR2.out.lt _ e).1)
                      have lo : ∀ g, g < wc.heap.size → some g ≠ u22.ownBlock := fun g hg e => by have := MR2.out.lt _ e.symm; omega
                      have z1 := low.size
                      obtain ⟨hh0, hh1, hh2, hh3, hh4, hh5⟩ := hHeld
                      have hHeld := And.intro (grow4.cell hh0 (lo _ (by dsimp only; omega))) (And.intro (grow4.cell hh1 hne) (And.intro (grow4.cell hh2 (lo _ (by dsimp only; omega))) (And.intro (grow4.cell hh3 (lo _ (by dsimp only; omega))) (And.intro (grow4.cell hh4 (lo _ (by dsimp only; omega))) (grow4.cell hh5 (lo _ (by dsimp only; omega)))))))
                      clear hh0 hh1 hh2 hh3 hh4 hh5
                      obtain ⟨A4', c4', rfl⟩ := own_shape own4
                      have ct := ti4.out.at_ HJ.out
                      have ft := ti4.out.free q
                      have M4 := Lib.hid (ti4.out.row_far own4 (by decide) q (.int .i64 ((j + 1 : Nat) : Int)))
                      have T4 := Lib.hid (ti4.out.set q ((j + 1 : Nat) : Int))
                      have L4 := Lib.hid (gSet near4 (p := ⟨wc.heap.size, q, none⟩) (by dsimp only; omega) (.int .i64 ((j + 1 : Nat) : Int)))
                      refine hK.out _ _ hHeld ?_
                      clear hK K
                      try simp only [Act.put]
                      try simp only [List.setIfInBounds_toArray, List.set_cons_zero, List.set_cons_succ]
                      refine takeFirst (i := 13) (v := ?_) rfl (by kernel_rfl) (by kernel_rfl) (by kernel_rfl) (by rfl) (fun _ _ _ h => h) ?_ (by assumption) ?_
                      rotate_left
                      · (intro w hSw; go_simp; try (with_reducible rfl))
                      try simp only [Act.put, List.setIfInBounds_toArray, List.set_cons_zero, List.set_cons_succ]
                      refine wpAnyH_done (by kernel_rfl) ?_ _
                      refine NoPanic.normal ?_
                      clear hHeld own4 grow4 hne near4 near2 lo MR2 TI2 ti4 news
                      go_wp2_with fail
                      go_roundw
                      case rel => exact ⟨i + 1, by omega, by go_num, by rw [NXT.out, List.length_append, List.length_singleton, deedsC_snoc]; exact M4, by rw [NXT.out]; exact T4, L4.out⟩
                      case measure => simp [intOf]; omega
                · obtain rfl : i = picks.length := by omega
                  rw [List.take_length] at mr ti
                  generalize mergeL p picks = S at *
                  clear G3 P3 L20
                  go_wp2_with fail
                  (with_reducible refine (equalDeeds_yes _ _ S.1 _ (RD.out.call near) ⟨Sl.ofOwn mr.out⟩).mono ?_); rintro e w7 ⟨rfl, hb⟩
                  replace near := gCall near hb
                  replace ti := Lib.hid (ti.out.call hb)
                  clear hb mr
                  go_wp2_with fail
                  (with_reducible refine (equalInts_yes _ _ S.2.length S.2 _ (RI.out.call near) ti.out.sl).mono ?_); rintro e w8 ⟨rfl, hb⟩
                  replace near := gCall near hb
                  clear hb ti
                  go_wp2_with fail
                  go_meet
                  exact near
            · have hM' : (M != 0) = true := by simpa using hM
              rcases MR.out with ⟨_, rfl, rfl⟩ | ⟨h, _⟩
              · clear MR hM
                go_wp2_with fail
                go_meet
                exact near
              · exact absurd h hM
        case rest =>
          replace low := gCall low hcut
          replace cb := cb.call hcut
          replace SR := Lib.hid (SR.out.call hcut)
          clear hcut MR HK HM HL
          as_aux_lemma =>
            have CF := Lib.hid fun wX => configFault_is n s y b wX
            have cb_0 := cb.at_ 0 rfl
            have cb_1 := cb.at_ 1 rfl
            have cb_2 := cb.at_ 2 rfl
            have cb_3 := cb.at_ 3 rfl
            go_wp2_with fail
            (with_reducible refine (CF.out _).mono ?_); rintro e w6 ⟨rfl, hb⟩
            replace cb := cb.call hb
            replace SR := Lib.hid (SR.out.call hb)
            replace low := gCall low hb
            clear hb
            clear cb_0 cb_1 cb_2 cb_3
            clear CF
            have SZ := Lib.hid (splitE_zero (n := n) (s := s) (y := y) (b := b) (l := l))
            have RN := Lib.hid (runS_all n s y b l)
            have ME := Lib.hid (split_start n s y b l)
            generalize (if cfgB n s y b = false then (4 : Int) else 0) = C0 at *
            generalize (if cfgB n s y b = false then (4 : Int) else if 200 < l.length then 2 else 0) = b0 at *
            generalize splitE n s y b l = ES at *
            go_upto_region 32 with fail
            go_cut [226] from 220 (fun v wx => v = .bool (decide (C0 = 0 ∧ 200 < l.length)) ∧ wx = w6)
            case first =>
              as_aux_lemma =>
                try clear MR
                try clear HK
                clear SR HP HD ME
                by_cases h1 : C0 = 0
                · by_cases h2 : 200 < l.length
                  · have h2' : (200 : Int) < l.length := by omega
                    have D := Lib.hid (decide_eq_true (p := C0 = 0 ∧ 200 < l.length) ⟨h1, h2⟩)
                    have h1' : (C0 == 0) = true := by simpa using h1
                    clear h1 h2
                    go_wp2_with fail
                    go_meet
                    exact ⟨congrArg Value.bool D.out.symm, rfl⟩
                  · have h2' : ¬ (200 : Int) < l.length := by omega
                    have D := Lib.hid (decide_eq_false (p := C0 = 0 ∧ 200 < l.length) (fun h => h2 h.2))
                    have h1' : (C0 == 0) = true := by simpa using h1
                    clear h1 h2
                    go_wp2_with fail
                    go_meet
                    exact ⟨congrArg Value.bool D.out.symm, rfl⟩
                · have D := Lib.hid (decide_eq_false (p := C0 = 0 ∧ 200 < l.length) (fun h => h1 h.1))
                  have h1' : (C0 == 0) = false := by simpa using h1
                  clear h1
                  go_wp2_with fail
                  go_meet
                  exact ⟨congrArg Value.bool D.out.symm, rfl⟩
            case rest =>
              obtain ⟨rfl, rfl⟩ := hcut
              generalize hD : decide (C0 = 0 ∧ 200 < l.length) = bD at *
              have HB := Lib.hid hD
              clear hD
              go_upto_if 226 with fail
              go_cut [21] from 220 (fun v wx => v = .int .i64 b0 ∧ wx = wc)
              case first =>
                as_aux_lemma =>
                  try clear MR
                  try clear HK
                  clear SR HP HD
                  cases bD
                  · have D := Lib.hid (show b0 = C0 by
                      have := of_decide_eq_false HB.out
                      rw [ME.out]
                      by_cases h1 : C0 = 0
                      · rw [if_neg (by simpa using h1), if_neg (fun h => this ⟨h1, h⟩), h1]
                      · rw [if_pos h1])
                    clear HB ME
                    go_wp2_with fail
                    go_meet
                    exact ⟨by rw [D.out], rfl⟩
                  · have D := Lib.hid (show b0 = 2 by
                      have := of_decide_eq_true HB.out
                      rw [ME.out, if_neg (by simpa using this.1), if_pos this.2])
                    clear HB ME
                    go_wp2_with fail
                    go_meet
                    exact ⟨by rw [D.out], rfl⟩
              case rest =>
                obtain ⟨rfl, rfl⟩ := hcut
                clear HB ME
                obtain ⟨_, A6, c6, e6, g1, g2, g3⟩ := HD.out
                obtain ⟨rfl, rfl⟩ : A5 = A6 ∧ c5 = c6 := by injection e6 with e5 _ e6; exact ⟨e5, e6⟩
                have G3 := Lib.hid g3
                unfold maxLen at g2
                clear g3 e6
                go_wp2_with fail
                go_loopw [21, 229] (fun bv i wr => ∃ j : Nat, j ≤ l.length ∧ i = .int .i64 j ∧ bv = .int .i64 (runS n b0 (l.take j)) ∧ Box wr w.heap.size 23 #[.int .i64 n, .int .i64 s, .int .i64 y, .int .i64 b] ∧ Below wc.heap.size wc wr) (fun _ i _ => l.length - (intOf i).toNat)
                case atStart => exact ⟨0, Nat.zero_le _, rfl, rfl, cb, Below.refl _ _⟩
                case round =>
                  clear cb
                  obtain ⟨j, hj, rfl, rfl, cb, near⟩ := hrel
                  by_cases hlt : j < l.length
                  · obtain ⟨bb, o, rfl, hb, hc⟩ := G3.out (by omega)
                    have hx : l[j]? = some l[j] := List.getElem?_eq_getElem _
                    generalize l[j] = x at hx
                    obtain ⟨x0, x1, x2, x3⟩ := deedAt_of hc hb (gCall low near) hx
                    have NXT := Lib.hid (runS_snoc (n := n) (b := b0) hx)
                    have DF := Lib.hid fun w => deedFault_any x w
                    have NS := Lib.hid (show ∀ c, nextS n c x = if c ≠ 0 then c else if deedE x ≠ 0 then deedE x else if n ≤ x.nd then 4 else 0 from fun _ => rfl)
                    generalize runS n b0 (l.take j) = bj at *
                    generalize deedE x = de at DF NS
                    obtain ⟨an, ak, aa, av⟩ := x
                    simp only at x0 x1 x2 x3 NS
                    have j0 : (0 : Int) ≤ j := by omega
                    have j1 : (j : Int) < l.length := by omega
                    clear hx hc
                    have xb := Box.new wr 30 #[.int .i64 an, .int .i64 ak, .int .i64 aa, .int .u64 av]
                    replace cb := cb.alloc (.cells #[.int .i64 an, .int .i64 ak, .int .i64 aa, .int .u64 av] 30)
                    replace near := gAlloc near (.cells #[.int .i64 an, .int .i64 ak, .int .i64 aa, .int .u64 av] 30)
                    by_cases hb0 : bj = 0
                    · subst hb0
                      go_wp2_with fail
                      (with_reducible refine (DF.out _).mono ?_); rintro e w7 ⟨rfl, hb7⟩
                      replace xb := xb.call hb7
                      replace cb := cb.call hb7
                      replace near := gCall near hb7
                      clear hb7 DF x0 x1 x2 x3
                      by_cases hde : de = 0
                      · subst hde
                        by_cases hn : n ≤ an
                        · have V := Lib.hid (show runS n b0 (l.take (j + 1)) = 4 by rw [NXT.out, NS.out, if_neg (by decide), if_neg (by decide), if_pos hn])
                          have hn' : decide (n ≤ an) = true := decide_eq_true hn
                          clear hn NXT NS
                          have cb_0 := cb.at_ 0 rfl
                          have cb_1 := cb.at_ 1 rfl
                          have cb_2 := cb.at_ 2 rfl
                          have cb_3 := cb.at_ 3 rfl
                          have xb_0 := xb.at_ 0 rfl
                          have xb_1 := xb.at_ 1 rfl
                          have xb_2 := xb.at_ 2 rfl
                          have xb_3 := xb.at_ 3 rfl
                          go_wp2_with fail
                          clear cb_0 cb_1 cb_2 cb_3 xb_0 xb_1 xb_2 xb_3
                          go_roundw
                          case rel => exact ⟨j + 1, by omega, by go_num, by rw [V.out], cb, near⟩
                          case measure => simp [intOf]; omega
                        · have V := Lib.hid (show runS n b0 (l.take (j + 1)) = 0 by rw [NXT.out, NS.out, if_neg (by decide), if_neg (by decide), if_neg hn])
                          have hn' : decide (n ≤ an) = false := decide_eq_false hn
                          clear hn NXT NS
                          have cb_0 := cb.at_ 0 rfl
                          have cb_1 := cb.at_ 1 rfl
                          have cb_2 := cb.at_ 2 rfl
                          have cb_3 := cb.at_ 3 rfl
                          have xb_0 := xb.at_ 0 rfl
                          have xb_1 := xb.at_ 1 rfl
                          have xb_2 := xb.at_ 2 rfl
                          have xb_3 := xb.at_ 3 rfl
                          go_wp2_with fail
                          clear cb_0 cb_1 cb_2 cb_3 xb_0 xb_1 xb_2 xb_3
                          go_roundw
                          case rel => exact ⟨j + 1, by omega, by go_num, by rw [V.out], cb, near⟩
                          case measure => simp [intOf]; omega
                      · have V := Lib.hid (show runS n b0 (l.take (j + 1)) = de by rw [NXT.out, NS.out, if_neg (by decide), if_pos hde])
                        have hd' : (de == 0) = false := by simpa using hde
                        clear hde NXT NS
                        have cb_0 := cb.at_ 0 rfl
                        have cb_1 := cb.at_ 1 rfl
                        have cb_2 := cb.at_ 2 rfl
                        have cb_3 := cb.at_ 3 rfl
                        have xb_0 := xb.at_ 0 rfl
                        have xb_1 := xb.at_ 1 rfl
                        have xb_2 := xb.at_ 2 rfl
                        have xb_3 := xb.at_ 3 rfl
                        go_wp2_with fail
                        clear cb_0 cb_1 cb_2 cb_3 xb_0 xb_1 xb_2 xb_3
                        go_roundw
                        case rel => exact ⟨j + 1, by omega, by go_num, by rw [V.out], cb, near⟩
                        case measure => simp [intOf]; omega
                    · have V := Lib.hid (show runS n b0 (l.take (j + 1)) = bj by rw [NXT.out, NS.out, if_pos hb0])
                      have hd' : (bj == 0) = false := by simpa using hb0
                      clear hb0 NXT NS DF
                      have cb_0 := cb.at_ 0 rfl
                      have cb_1 := cb.at_ 1 rfl
                      have cb_2 := cb.at_ 2 rfl
                      have cb_3 := cb.at_ 3 rfl
                      have xb_0 := xb.at_ 0 rfl
                      have xb_1 := xb.at_ 1 rfl
                      have xb_2 := xb.at_ 2 rfl
                      have xb_3 := xb.at_ 3 rfl
                      go_wp2_with fail
                      clear cb_0 cb_1 cb_2 cb_3 xb_0 xb_1 xb_2 xb_3
                      go_roundw
                      case rel => exact ⟨j + 1, by omega, by go_num, by rw [V.out], cb, near⟩
                      case measure => simp [intOf]; omega
                  · obtain rfl : j = l.length := by omega
                    rw [List.take_length, RN.out]
                    replace low := gCall low near
                    replace SR := Lib.hid (SR.out.call near)
                    clear near RN G3
                    by_cases hE : ES = 0
                    · subst hE
                      rcases SR.out with ⟨h, _⟩ | ⟨_, rfl, ps⟩
                      · exact absurd rfl h
                      obtain ⟨⟨n2, n8⟩, l200⟩ := SZ.out rfl
                      have PS := Lib.hid ps
                      have hnn : ((n.toNat : Int) != n) = false := by simp; omega
                      have L200 := Lib.hid l200
                      obtain ⟨A9, c9, e9, k4, k5, k6⟩ := ps.ex
                      rw [splitL_length] at e9 k4 k6
                      obtain ⟨rfl, rfl⟩ : As = A9 ∧ cs = c9 := by injection e9 with e5 _ e6; exact ⟨e5, e6⟩
                      have Q3 := Lib.hid k6
                      have SA := Lib.hid fun k (hk : k < n.toNat) => splitL_at l hk
                      have m8 : n.toNat ≤ 8 := by omega
                      unfold maxLen at k5
                      clear ps SR SZ e9 k6 l200
                      have cb_0 := cb.at_ 0 rfl
                      go_wp2_with fail
                      clear cb_0
                      clear cb
                      generalize hm : n.toNat = m at *
                      go_loopw [268] (fun i wx => ∃ k : Nat, k ≤ m ∧ i = .int .i64 k ∧ Below wr.heap.size wr wx) (fun i _ => m - (intOf i).toNat)
                      case atStart => exact ⟨0, Nat.zero_le _, rfl, Below.refl _ _⟩
                      case round =>
                        obtain ⟨k, hk, rfl, near⟩ := hrel
                        by_cases hlt2 : k < m
                        · obtain ⟨b3, o3, rfl, hb3, hc3⟩ := Q3.out (by omega)
                          obtain ⟨A7, c7, e7, d7⟩ := hc3 k _ (SA.out k hlt2)
                          rename World => wX
                          have k0 : (0 : Int) ≤ k := by omega
                          have k1 : (k : Int) < m := by omega
                          have kb := Box.new wX 3 #[.int .i64 k]
                          have lowk := gAlloc (gCall low near) (.cells #[.int .i64 k] 3)
                          have neark := gAlloc near (.cells #[.int .i64 k] 3)
                          have CL := Lib.hid (cloneDeeds_any _ l _ (HD.out.call lowk) L200.out)
                          have EF := Lib.hid (show (l.filter fun x => !(x.nd != (k : Int))) = onD k l by
                            unfold onD
                            congr 1
                            funext x
                            simp [bne])
                          clear near hc3
                          go_wp2_with fail
                          (with_reducible refine CL.out.mono ?_); rintro e w7 ⟨⟨v7, rfl, own⟩, hb7⟩
                          have DL := Lib.hid (deleteDeeds 16 (fun _ _ => by kernel_rfl) wX.heap.size (fun x => x.nd != (k : Int)) _ v7 l _ w7 hb7.size hb7 own L200.out
                            (fun x W hW => notOn_any k wX.heap.size x W ((kb.below hW kb.lt).at_ 0 rfl)))
                          rw [EF.out] at DL
                          clear CL EF own
                          go_wp2_with fail
                          (with_reducible refine DL.out.mono ?_); rintro e w8 ⟨⟨dv, rfl, dd⟩, hb8⟩
                          have kb8 := (kb.call hb7).below hb8 kb.lt
                          have near8 := (gCall neark hb7).trans (hb8.mono neark.size)
                          have e8 := (near8.cell (p := ⟨b3, o3 + k, none⟩) hb3).trans e7
                          have d8 := d7.call near8
                          clear DL hb7 hb8 kb lowk neark e7 d7
                          have kb8_0 := kb8.at_ 0 rfl
                          go_wp2_with fail
                          clear kb8_0
                          (with_reducible refine (equalDeeds_yes _ _ (onD k l) _ d8 dd).mono ?_); rintro e w9 ⟨rfl, hb9⟩
                          have near9 := gCall near8 hb9
                          clear hb9 near8 d8 dd e8 kb8
                          go_wp2_with fail
                          go_roundw
                          case rel => exact ⟨k + 1, by omega, by go_num, near9⟩
                          case measure => simp [intOf]; omega
                        · obtain rfl : k = m := by omega
                          go_wp2_with fail
                          go_ret
                          exact ⟨rfl, gCall low near⟩
                    · rcases SR.out with ⟨_, rfl⟩ | ⟨h, _⟩
                      · have hE' : (ES != 0) = true := by simpa using hE
                        clear SR SZ hE
                        go_wp2_with fail
                        go_ret
                        exact ⟨rfl, low⟩
                      · exact absurd h hE

theorem walk (v0 v1 v2 v3 v4 v5 : Value) (w : World) (h0 : IsCfg v0) (h1 : IsProgs w v1) (h2 : IsInts w v2) (h3 : IsInt v3) (h4 : IsInts w v4) (h5 : IsDeeds w v5) :
    Calls Try.prog 3 #[v0, v1, v2, v3, v4, v5] w fun e w' => e = .returned (.bool true) ∧ Below w.heap.size w w' := by
  obtain ⟨n, s, y, b, rfl, -, -, -, -⟩ := h0
  obtain ⟨p, hp⟩ := h1
  obtain ⟨xs, hx, -⟩ := h2
  obtain ⟨node, rfl, -⟩ := h3
  obtain ⟨ks, hk, -⟩ := h4
  obtain ⟨l, hl⟩ := h5
  exact walk_any n s y b v1 v2 v4 v5 p xs ks node l w hp hx hk hl

set_option maxRecDepth 100000 in
theorem lifted (os : Os) (started : os.Started) (H : Type) (enc : TypeId × Value → H) :
    ReturnsInHanded {} Try.checked os 3 .any (Rows.progTellsSpec.pre6 enc Try.prog Try.f3 Rows.progTellsRow.domain false) (Rows.progTellsSpec.post enc Try.prog Try.f3 false true false false) := by
  refine returnsInHanded_of_change (C := Try.checked) own started (by kernel_rfl) Try.func3
    (ChangeSpec.witness6 (enc := enc) (C := Try.checked) false ⟨#[], #[.agg #[.int .i64 0, .int .i64 0, .int .i64 0, .int .i64 0], .slice none 0 0, .slice none 0 0, .int .i64 0, .slice none 0 0, .slice none 0 0], []⟩ 8 (by kernel_rfl) (by kernel_rfl) (by kernel_rfl) (by kernel_rfl)) ?_
  intro W base args ds gs before hval0 hW hcnd _
  have hval : ∀ (j : Nat) t v, Try.f3.params[j]? = some t → args[j]? = some v → Value.okWide Try.prog W .any base t v := hval0
  have hW' := hW
  obtain ⟨p, q, hA0, hV, rfl, hfz, hnd⟩ := hW
  have hA : DataW.TrodAll enc Try.prog W 0 (fun _ => true) true Try.f3.params.toList args.toList ds p := hA0
  rw [Try.params3] at hA hval
  obtain ⟨v0, vs0, d0, ds0, p0, q0, hargs, rfl, rfl, h0, r0⟩ := trodAll_cons hA
  obtain ⟨v1, vs1, d1, ds1, p1, q1, rfl, rfl, rfl, h1, r1⟩ := trodAll_cons r0
  obtain ⟨v2, vs2, d2, ds2, p2, q2, rfl, rfl, rfl, h2, r2⟩ := trodAll_cons r1
  obtain ⟨v3, vs3, d3, ds3, p3, q3, rfl, rfl, rfl, h3, r3⟩ := trodAll_cons r2
  obtain ⟨v4, vs4, d4, ds4, p4, q4, rfl, rfl, rfl, h4, r4⟩ := trodAll_cons r3
  obtain ⟨v5, vs5, d5, ds5, p5, q5, rfl, rfl, rfl, h5, r5⟩ := trodAll_cons r4
  obtain ⟨rfl, rfl, rfl⟩ := trodAll_nil r5
  obtain rfl : args = #[v0, v1, v2, v3, v4, v5] := by cases args; simp_all
  have k0 := openCfg (hval 0 23 v0 rfl rfl) h0
  have k1 := openProgs (hval 1 24 v1 rfl rfl) h1
  have k2 := openInts (hval 2 25 v2 rfl rfl) h2
  have k3 := openInt (hval 3 3 v3 rfl rfl) h3
  have k4 := openInts (hval 4 25 v4 rfl rfl) h4
  have k5 := openDeeds (hval 5 26 v5 rfl rfl) h5
  obtain ⟨rfl, rfl⟩ := trodVars_none hV
  clear hA0 hval0
  refine (walk v0 v1 v2 v3 v4 v5 W k0 k1 k2 k3 k4 k5).mono fun e W' ⟨he, bel⟩ => ⟨_, he, ?_⟩
  exact law_post (by kernel_rfl) (by kernel_rfl) rfl hW' rfl rfl rfl bel

theorem over : Rows.progTellsRow.holds Try.pinned (OpenSpec.ofChange Rows.progTellsSpec) :=
  OpenClaim.holds_of_wide 3 Try.f3 rfl rfl rfl rfl rfl rfl rfl ⟨rfl, rfl, rfl, rfl, rfl⟩ rfl rfl rfl rfl rfl (by kernel_rfl) Try.func3 (by kernel_rfl)
    (of_decide_eq_true (by kernel_rfl)) (by unfold Func.isWrapper; first | (rw [if_pos (by decide +kernel)]; kernel_rfl) | (rw [if_neg (by decide +kernel)]; exact ⟨rfl, rfl⟩))
    (fun os started H enc _ => lifted os started H enc)

/-- The statement. -/
theorem progTells_holds : Rows.ProgTellsSaid := over
end Go.Proofs.Ytckmcfpeemkdoaa.progTells
namespace Go.Proofs.Ytckmcfpeemkdoaa
theorem progTells_holds : Rows.ProgTellsSaid := progTells.progTells_holds
#print axioms progTells_holds
end Go.Proofs.Ytckmcfpeemkdoaa
