/-
Proved: a call of TallyTells with arguments that can be read gives true: the walk of the law, which text TallyTells frames. No condition.
-/
import Derived.Test.YtcegjehoejgofaaRefTally
import Derived.Test.YtcegjehoejgofaaTallyLogs
import Derived.Test.YtcegjehoejgofaaEvOpen
import Derived.Test.YtcegjehoejgofaaRefLow
import Derived.Test.YtcegjehoejgofaaRefOps
import Derived.Test.YtcegjehoejgofaaRefAtomic
import Derived.Test.YtcegjehoejgofaaBank2
import Derived.Deep.CutBlock
import Derived.BigQuiet
namespace Go.Proofs.Ytcegjehoejgofaa.tallyTells
open Go.ChangeShapes Go.WideShapes Go.ChangeAt Go.RowKit Go.Joins

/-- The law's own reckoning behind j events: of the memory, of the other two. -/
def bad0 (l : List Ev) : Int := if 200 < l.length then 2 else 0
def memAt (l : List Ev) (j : Nat) : Int := if 200 < l.length then 2 else runE ((evD l).take j)
theorem memAt_zero (l : List Ev) : memAt l 0 = bad0 l := by
  unfold memAt bad0
  rw [List.take_zero, runE]
theorem memAt_all (l : List Ev) : memAt l l.length = memF l := by
  unfold memAt memF
  rw [List.take_of_length_le (by rw [evD_length]; exact Nat.le_refl _)]
theorem memAt_bad {l : List Ev} {j : Nat} {x : Ev} (h : l[j]? = some x) (h0 : memAt l j ≠ 0) : memAt l (j + 1) = memAt l j := by
  unfold memAt at *
  by_cases hl : 200 < l.length
  · rw [if_pos hl, if_pos hl]
  · rw [if_neg hl] at h0
    rw [if_neg hl, if_neg hl, take_more (evD_at h), runE_append, if_neg h0]
theorem memAt_good {l : List Ev} {j : Nat} {x : Ev} (h : l[j]? = some x) (h0 : memAt l j = 0) : memAt l (j + 1) = deedE x.d := by
  unfold memAt at *
  by_cases hl : 200 < l.length
  · rw [if_pos hl] at h0
    cases h0
  · rw [if_neg hl] at h0
    rw [if_neg hl, take_more (evD_at h), runE_append, if_pos h0]
    unfold runE
    by_cases hd : deedE x.d = 0
    · rw [if_pos hd, hd]; rfl
    · rw [if_neg hd]
theorem runM_more {m : List Int} {l : List Ev} {j : Nat} {x : Ev} (h : l[j]? = some x) : runM m ((evD l).take (j + 1)) = doM (runM m ((evD l).take j)) x.d := by
  rw [take_more (evD_at h), runM_append]
  rfl
def bad1 (n s y b : Int) (l : List Ev) : Int := if cfgB n s y b = false then 4 else bad0 l
def tAt (n s y b : Int) (l : List Ev) (j : Nat) : Int := if cfgB n s y b = false then 4 else if 200 < l.length then 2 else nodeE n (l.take j)
theorem tAt_zero (n s y b : Int) (l : List Ev) : tAt n s y b l 0 = bad1 n s y b l := by
  unfold tAt bad1 bad0
  rw [List.take_zero, nodeE]
theorem tAt_all (n s y b : Int) (l : List Ev) : tAt n s y b l l.length = tallyE n s y b l := by
  unfold tAt tallyE
  rw [List.take_length]
theorem nodeE_snoc (n : Int) (x : Ev) : ∀ l : List Ev, nodeE n (l ++ [x]) = if nodeE n l ≠ 0 then nodeE n l else nodeE n [x]
  | [] => by simp [nodeE]
  | z :: r => by
    have e1 : nodeE n (z :: r ++ [x]) = if deedE z.d ≠ 0 then deedE z.d else if n ≤ z.d.nd then 4 else nodeE n (r ++ [x]) := rfl
    have e2 : nodeE n (z :: r) = if deedE z.d ≠ 0 then deedE z.d else if n ≤ z.d.nd then 4 else nodeE n r := rfl
    rw [e1, e2, nodeE_snoc n x r]
    by_cases h : deedE z.d = 0
    · by_cases h2 : n ≤ z.d.nd <;> simp [h, h2]
    · simp [h]
theorem tAt_bad {n s y b : Int} {l : List Ev} {j : Nat} {x : Ev} (h : l[j]? = some x) (h0 : tAt n s y b l j ≠ 0) : tAt n s y b l (j + 1) = tAt n s y b l j := by
  unfold tAt at *
  by_cases hc : cfgB n s y b = false
  · rw [if_pos hc, if_pos hc]
  · rw [if_neg hc] at h0 ⊢
    by_cases hl : 200 < l.length
    · rw [if_pos hl, if_neg hc, if_pos hl]
    · rw [if_neg hl] at h0
      rw [if_neg hl, if_neg hc, if_neg hl, take_snoc h, nodeE_snoc, if_pos h0]
theorem tAt_good {n s y b : Int} {l : List Ev} {j : Nat} {x : Ev} (h : l[j]? = some x) (h0 : tAt n s y b l j = 0) : tAt n s y b l (j + 1) = if deedE x.d ≠ 0 then deedE x.d else if n ≤ x.d.nd then 4 else 0 := by
  unfold tAt at *
  by_cases hc : cfgB n s y b = false
  · rw [if_pos hc] at h0; cases h0
  · rw [if_neg hc] at h0 ⊢
    by_cases hl : 200 < l.length
    · rw [if_pos hl] at h0; cases h0
    · rw [if_neg hl] at h0
      rw [if_neg hl, take_snoc h, nodeE_snoc, if_neg (by simpa using h0), nodeE]
      rfl
theorem configFault_is (n s y b : Int) (w : World) : Calls Try.prog 10 #[cfg n s y b] w fun e w' => e = .returned (.int .i64 (if cfgB n s y b = false then 4 else 0)) ∧ Below w.heap.size w w' := by
  cases h : cfgB n s y b
  · exact configFault_bad n s y b w h
  · exact configFault_ok n s y b w h
/-- The literal 'Memory{}', behind a guard. -/
theorem wp_zeroMemG {ops : Array Oper} {rest : List Oper} {a : Act} {Q : Exit → Act → World → Prop} {w : World} {dst : Option Tmp} {t : TypeId} {pos : String} {after : Array Edge} {gd : Option (Nat × Bool)} (hw : Region.wanted ⟨dst, .build 28 #[], t, pos, after, gd⟩ (yielded ops a.tmps) = true) (h : wpList Try.prog ops Q rest (a.put dst (memV zeroL)) w) :
    wpList Try.prog ops Q (⟨dst, .build 28 #[], t, pos, after, gd⟩ :: rest) a w := by
  unfold wpList
  rw [if_pos hw]
  refine .inl ?_
  have e : (Instr.build 28 #[]).run Try.prog w = .ok (memV zeroL) w := by kernel_rfl
  unfold Oper.wp execOp
  simp only [Array.map_empty, e, Sem.run_bind, Sem.run_pure, Result.andThen_ok]
  exact h
abbrev evA (dn dk da dv tv : Int) (bv : Bool) : Array Value := #[.int .i64 dn, .int .i64 dk, .int .i64 da, .int .u64 dv, .int .u64 tv, .bool bv]
set_option maxRecDepth 10000 in
set_option maxHeartbeats 8000000 in
theorem walk (c mv lv : Value) (w : World) (hc : IsCfg c) (hm : IsMem mv) (hl : IsEvs w lv) :
    Calls Try.prog 3 #[c, mv, lv] w fun e w' => e = .returned (.bool true) ∧ Below w.heap.size w w' := by
  obtain ⟨n, s, y, b, rfl, _⟩ := hc
  obtain ⟨m, rfl, hm⟩ := hm
  obtain ⟨l, hl⟩ := hl
  have TC := Lib.hid fun w h => tallyCounts_is n s y b lv l w h
  have TL := Lib.hid fun w h => tallyLogs_is n s y b lv l w h
  have TM := Lib.hid fun w h => tallyMem_is m hm lv l w h
  have ML := Lib.hid (memE_length hm l)
  have HR := Lib.hid hl
  obtain ⟨_, A, cc, rfl, g1, g2, g3⟩ := hl
  have G3 := Lib.hid g3
  unfold maxLen at g2
  clear g3
  have low := Below.refl w.heap.size w
  have cb := boxNext low 23 #[.int .i64 n, .int .i64 s, .int .i64 y, .int .i64 b]
  replace low := gAlloc low (.cells #[.int .i64 n, .int .i64 s, .int .i64 y, .int .i64 b] 23)
  try simp only [World.size_alloc] at cb
  have mb := boxNext low 28 (memA m)
  replace low := gAlloc low (.cells (memA m) 28)
  replace cb := cb.alloc (.cells (memA m) 28)
  try simp only [World.size_alloc] at mb
  have MB : Mb _ _ m := ⟨mb, hm⟩
  clear mb
  go_enter Try.func3, Try.ntmps3
  have cb_0 := cb.at_ 0 rfl
  have cb_1 := cb.at_ 1 rfl
  have cb_2 := cb.at_ 2 rfl
  have cb_3 := cb.at_ 3 rfl
  go_wp2_with (with_reducible refine wp_newMem ?_)
  (with_reducible refine (TL.out _ (HR.out.call low)).mono ?_); rintro e w1 ⟨⟨A2, m2, c2, rfl, lg⟩, hb⟩
  clear cb_0 cb_1 cb_2 cb_3
  replace cb := cb.call hb
  replace MB := MB.call hb
  replace low := gCall low hb
  have LG := Lib.hid lg
  clear hb TL lg
  have cb_0 := cb.at_ 0 rfl
  have cb_1 := cb.at_ 1 rfl
  have cb_2 := cb.at_ 2 rfl
  have cb_3 := cb.at_ 3 rfl
  go_wp2_with fail
  (with_reducible refine (TC.out _ (HR.out.call low)).mono ?_); rintro e w2 ⟨⟨A1, m1, c1, rfl, cn⟩, hb⟩
  clear cb_0 cb_1 cb_2 cb_3
  replace cb := cb.call hb
  replace MB := MB.call hb
  replace low := gCall low hb
  have CN := Lib.hid cn
  have L12 := Lib.hid hb
  clear hb TC cn
  go_wp2_with ((with_reducible refine wp_loadMem (MB) ?_ ?_ ?_); rfl; rfl)
  (with_reducible refine (TM.out _ (HR.out.call low)).mono ?_); rintro e w3 ⟨rfl, hb⟩
  replace cb := cb.call hb
  replace MB := MB.call hb
  replace low := gCall low hb
  have L23 := Lib.hid hb
  clear hb TM
  have hme := ML.out
  have nb := Mb.new (l := memE m l) w3 hme
  replace cb := cb.alloc (.cells (memA (memE m l)) 28)
  replace MB := MB.alloc (.cells (memA (memE m l)) 28)
  replace low := gAlloc low (.cells (memA (memE m l)) 28)
  replace L23 := Lib.hid (gAlloc L23.out (.cells (memA (memE m l)) 28))
  go_upto_if 46 with (first | (with_reducible refine wp_newMem ?_) | ((with_reducible refine wp_storeNew (zeroL_length) (hme) ?_ ?_ ?_); rfl; rfl))
  generalize w3.alloc (.cells (memA (memE m l)) 28) = w4 at *
  go_cut [13] from 44 (fun v wx => v = .int .i64 (bad0 l) ∧ wx = w4)
  case first =>
    as_aux_lemma =>
      by_cases h200 : 200 < l.length
      · have k1 : (200 : Int) < l.length := by omega
        have e1 : bad0 l = 2 := if_pos h200
        have k2 : decide ((200 : Int) < (l.length : Int)) = true := decide_eq_true k1
        have E1 := Lib.hid e1
        clear h200 e1
        go_wp2_with fail
        go_meet
        exact ⟨by rw [E1.out], rfl⟩
      · have k1 : ¬ (200 : Int) < l.length := by omega
        have e1 : bad0 l = 0 := if_neg h200
        have k2 : decide ((200 : Int) < (l.length : Int)) = false := decide_eq_false k1
        have E1 := Lib.hid e1
        clear h200 e1
        go_wp2_with fail
        go_meet
        exact ⟨by rw [E1.out], rfl⟩
  case rest =>
    obtain ⟨rfl, rfl⟩ := hcut
    have NB := Lib.hid (Mb.new (l := m) wc hm)
    have LQ := Lib.hid low
    go_wp2_with (first | ((with_reducible refine wp_loadMem (MB) ?_ ?_ ?_); rfl; rfl) | (with_reducible refine wp_newMem ?_) | ((with_reducible refine wp_storeNew (zeroL_length) (hm) ?_ ?_ ?_); rfl; rfl))
    clear MB low
    as_aux_lemma =>
      go_loopw [15, 51] (fun ev i wr => ∃ j : Nat, j ≤ l.length ∧ i = .int .i64 j ∧ ev = .int .i64 (memAt l j) ∧ Hid (∃ X, Mb wr wc.heap.size X ∧ (memAt l j = 0 → X = runM m ((evD l).take j))) ∧ Below wc.heap.size wc wr) (fun _ i _ => l.length - (intOf i).toNat)
      case atStart => exact ⟨0, Nat.zero_le _, rfl, by rw [memAt_zero], Lib.hid ⟨m, NB.out, fun _ => by rw [List.take_zero]; rfl⟩, gAlloc (Below.refl _ _) _⟩
      case round =>
        obtain ⟨j, hj, rfl, rfl, hX, near⟩ := hrel
        by_cases hlt : j < l.length
        · obtain ⟨X, xb, hx0⟩ := hX.out
          have HX0 := Lib.hid hx0
          obtain ⟨b2, o2, rfl, hb2, hc2⟩ := G3.out (by omega)
          have hx : l[j]? = some l[j] := List.getElem?_eq_getElem _
          generalize l[j] = x at hx
          have low := gCall LQ.out near
          obtain ⟨c0, c1, c2, c3, c4, c5⟩ := evAt_of hc2 hb2 low hx
          have HX := Lib.hid hx
          have j0 : (0 : Int) ≤ j := by omega
          have j1 : (j : Int) < l.length := by omega
          clear hx hc2 hX hx0 low
          obtain ⟨⟨dn, dk, da, dv⟩, tv, bv⟩ := x
          simp only at c0 c1 c2 c3 c4 c5
          have db := Box.new wr 43 (evA dn dk da dv tv bv)
          replace xb := xb.alloc (.cells (evA dn dk da dv tv bv) 43)
          replace near := gAlloc near (.cells (evA dn dk da dv tv bv) 43)
          have db_0 := db.at_ 0 rfl
          have db_1 := db.at_ 1 rfl
          have db_2 := db.at_ 2 rfl
          have db_3 := db.at_ 3 rfl
          have db_4 := db.at_ 4 rfl
          have db_5 := db.at_ 5 rfl
          by_cases h0 : memAt l j = 0
          · as_aux_lemma =>
              have h0' : (memAt l j == 0) = true := by simpa using h0
              have MA := Lib.hid (memAt_good HX.out h0)
              have RM := Lib.hid (runM_more (m := m) HX.out)
              have HX1 := Lib.hid (HX0.out h0)
              have DF1 := Lib.hid fun w => deedFault_any ⟨dn, dk, da, dv⟩ w
              generalize memAt l j = mj at *
              clear h0 HX0
              go_wp2_with fail
              (with_reducible refine (DF1.out _).mono ?_); rintro e w7 ⟨rfl, hb⟩
              replace xb := xb.call hb
              replace near := gCall near hb
              clear db_0 db_1 db_2 db_3 db_4 db_5
              replace db := db.call hb
              clear hb DF1 c0 c1 c2 c3 c4 c5
              by_cases hd : deedE ⟨dn, dk, da, dv⟩ = 0
              · as_aux_lemma =>
                  have P2 := Lib.hid fun W => plain_ok X xb.2 ⟨dn, dk, da, dv⟩ hd W
                  have hl2 := doM_length ⟨dn, dk, da, dv⟩ xb.2
                  have M0 := Lib.hid (MA.out.trans hd)
                  rw [hd]
                  have XE := HX1.out
                  rw [XE] at P2 xb hl2
                  rw [← RM.out] at hl2
                  replace P2 := Lib.hid fun W => P2.out W
                  rw [← RM.out] at P2
                  clear hd MA HX1 XE RM
                  generalize runM m ((evD l).take j) = X0 at *
                  generalize hX1 : runM m ((evD l).take (j + 1)) = X1 at *
                  have HX1 := Lib.hid hX1
                  clear hX1
                  generalize doV X0 ⟨dn, dk, da, dv⟩ = v8 at *
                  have db_0 := db.at_ 0 rfl
                  have db_1 := db.at_ 1 rfl
                  have db_2 := db.at_ 2 rfl
                  have db_3 := db.at_ 3 rfl
                  have db_4 := db.at_ 4 rfl
                  have db_5 := db.at_ 5 rfl
                  go_wp2_with ((with_reducible refine wp_loadMem (xb) ?_ ?_ ?_); rfl; rfl)
                  (with_reducible refine (P2.out _).mono ?_); rintro e w8 ⟨rfl, hb⟩
                  replace xb := xb.call hb
                  replace near := gCall near hb
                  clear db_0 db_1 db_2 db_3 db_4 db_5
                  clear hb P2 db
                  go_wp2_with ((with_reducible refine wp_storeMem (xb) (hl2) ?_ ?_ ?_); rfl; rfl)
                  intro w9 m9 st
                  replace near := st.low near (Nat.le_refl _)
                  clear st xb
                  go_wp2_with fail
                  go_roundw
                  case rel => exact ⟨j + 1, by omega, by go_num, by rw [M0.out], Lib.hid ⟨X1, m9, fun _ => HX1.out.symm⟩, near⟩
                  case measure => simp [intOf]; omega
              · as_aux_lemma =>
                  have hd' : (deedE ⟨dn, dk, da, dv⟩ == 0) = false := by simpa using hd
                  have HD := Lib.hid hd
                  generalize deedE ⟨dn, dk, da, dv⟩ = de at *
                  clear hd HX1 RM
                  go_wp2_with fail
                  go_roundw
                  case rel => exact ⟨j + 1, by omega, by go_num, by rw [MA.out], Lib.hid ⟨X, xb, fun h => absurd (MA.out.symm.trans h) HD.out⟩, near⟩
                  case measure => simp [intOf]; omega
          · as_aux_lemma =>
              have h0' : (memAt l j == 0) = false := by simpa using h0
              have MA := Lib.hid (memAt_bad HX.out h0)
              have H0 := Lib.hid h0
              generalize memAt l j = mj at *
              clear h0
              go_wp2_with fail
              go_roundw
              case rel => exact ⟨j + 1, by omega, by go_num, by rw [MA.out], Lib.hid ⟨X, xb, fun h => absurd (MA.out.symm.trans h) H0.out⟩, near⟩
              case measure => simp [intOf]; omega
        · obtain rfl : j = l.length := by omega
          as_aux_lemma =>
            obtain ⟨X, xb, hx0⟩ := hX.out
            rw [memAt_all] at hx0 ⊢
            rw [List.take_of_length_le (by rw [evD_length]; exact Nat.le_refl _)] at hx0
            have HX0 := Lib.hid hx0
            replace nb := nb.call near
            replace cb := cb.call near
            have LR := Lib.hid (gCall LQ.out near)
            have LR2 := Lib.hid (gCall L23.out near)
            clear hX hx0 near
            go_upto_region 17 with fail
            go_cut [94] from 70 (fun v wx => v = .bool false ∧ wx = wr)
            case first =>
              as_aux_lemma =>
                by_cases hE : memF l = 0
                · have eX := HX0.out hE
                  have eN : memE m l = runM m (evD l) := if_pos hE
                  rw [eN] at nb
                  rw [eX] at xb
                  have h6 := xb.2
                  have eqM := eqMem (runM m (evD l)) (runM m (evD l)) h6 h6
                  have eq1 : sameM (runM m (evD l)) (runM m (evD l)) = true := by simp [sameM]
                  generalize runM m (evD l) = Y at *
                  generalize memF l = E at *
                  subst hE
                  clear HX0 eX eN
                  go_wp2_with (first | ((with_reducible refine wp_loadMem (nb) ?_ ?_ ?_); rfl; rfl) | ((with_reducible refine wp_loadMem (xb) ?_ ?_ ?_); rfl; rfl))
                  go_meet
                  exact ⟨rfl, rfl⟩
                · have eN : memE m l = zeroL := if_neg hE
                  rw [eN] at nb
                  have h6 := nb.2
                  have eqM := eqMem zeroL zeroL h6 h6
                  have eq1 : sameM zeroL zeroL = true := by simp [sameM]
                  have e1 : (memF l != 0) = true := by simpa using hE
                  have e2 : (memF l == 0) = false := by simpa using hE
                  have e3 : (memF l != memF l) = false := by simp
                  generalize memF l = E at *
                  clear HX0 hE eN
                  go_wp2_with (first | ((with_reducible refine wp_loadMem (nb) ?_ ?_ ?_); rfl; rfl) | ((with_reducible refine wp_zeroMemG ?_ ?_); rfl))
                  go_meet
                  exact ⟨rfl, rfl⟩
            case rest =>
              obtain ⟨rfl, rfl⟩ := hcut
              clear HX0 xb nb
              have cb_0 := cb.at_ 0 rfl
              have cb_1 := cb.at_ 1 rfl
              have cb_2 := cb.at_ 2 rfl
              have cb_3 := cb.at_ 3 rfl
              go_wp2_with fail
              (with_reducible refine (configFault_is n s y b _).mono ?_); rintro e w6 ⟨rfl, hb⟩
              clear cb_0 cb_1 cb_2 cb_3
              replace cb := cb.call hb
              have L6 := Lib.hid (gCall LR.out hb)
              have L26 := Lib.hid (gCall LR2.out hb)
              clear hb LR LR2
              generalize hcf : (if cfgB n s y b = false then (4 : Int) else 0) = cf at *
              have B1 := Lib.hid (show (cf = 4 ∧ bad1 n s y b l = 4) ∨ (cf = 0 ∧ bad1 n s y b l = bad0 l) by
                unfold bad1
                by_cases hcB : cfgB n s y b = false
                · rw [if_pos hcB] at hcf ⊢; exact .inl ⟨hcf.symm, rfl⟩
                · rw [if_neg hcB] at hcf ⊢; exact .inr ⟨hcf.symm, rfl⟩)
              clear hcf
              go_upto_if 98 with fail
              go_cut [13] from 97 (fun v wx => v = .int .i64 (bad1 n s y b l) ∧ wx = w6)
              case first =>
                as_aux_lemma =>
                  rcases B1.out with ⟨h1, h2⟩ | ⟨h1, h2⟩
                  · have E1 := Lib.hid (show bad1 n s y b l = cf from h2.trans h1.symm)
                    have c1 : (cf != 0) = true := by rw [h1]; decide
                    clear h1 h2 B1
                    go_wp2_with fail
                    go_meet
                    exact ⟨by rw [E1.out], rfl⟩
                  · have E1 := Lib.hid h2
                    have c1 : (cf != 0) = false := by rw [h1]; decide
                    clear h1 h2 B1
                    go_wp2_with fail
                    go_meet
                    exact ⟨by rw [E1.out], rfl⟩
              case rest =>
                obtain ⟨rfl, rfl⟩ := hcut
                clear B1
                go_wp2_with fail
                have CB0 := Lib.hid cb
                clear cb
                go_loopw [13, 102] (fun ev i wx => ∃ j : Nat, j ≤ l.length ∧ i = .int .i64 j ∧ ev = .int .i64 (tAt n s y b l j) ∧ Box wx w.heap.size 23 #[.int .i64 n, .int .i64 s, .int .i64 y, .int .i64 b] ∧ Below wc.heap.size wc wx) (fun _ i _ => l.length - (intOf i).toNat)
                case atStart => exact ⟨0, Nat.zero_le _, rfl, by rw [tAt_zero], CB0.out, Below.refl _ _⟩
                case round =>
                  clear CB0
                  obtain ⟨j, hj, rfl, rfl, cb, near⟩ := hrel
                  rename World => wx
                  by_cases hlt : j < l.length
                  · obtain ⟨b2, o2, rfl, hb2, hc2⟩ := G3.out (by omega)
                    have hx : l[j]? = some l[j] := List.getElem?_eq_getElem _
                    generalize l[j] = x at hx
                    have low := gCall L6.out near
                    obtain ⟨c0, c1, c2, c3, c4, c5⟩ := evAt_of hc2 hb2 low hx
                    have HX := Lib.hid hx
                    have j0 : (0 : Int) ≤ j := by omega
                    have j1 : (j : Int) < l.length := by omega
                    clear hx hc2 low
                    obtain ⟨⟨dn, dk, da, dv⟩, tv, bv⟩ := x
                    simp only at c0 c1 c2 c3 c4 c5
                    have db := Box.new wx 43 (evA dn dk da dv tv bv)
                    replace cb := cb.alloc (.cells (evA dn dk da dv tv bv) 43)
                    replace near := gAlloc near (.cells (evA dn dk da dv tv bv) 43)
                    have db_0 := db.at_ 0 rfl
                    have db_1 := db.at_ 1 rfl
                    have db_2 := db.at_ 2 rfl
                    have db_3 := db.at_ 3 rfl
                    have db_4 := db.at_ 4 rfl
                    have db_5 := db.at_ 5 rfl
                    by_cases h0 : tAt n s y b l j = 0
                    · as_aux_lemma =>
                        have h0' : (tAt n s y b l j == 0) = true := by simpa using h0
                        have MA := Lib.hid (tAt_good HX.out h0)
                        have DF1 := Lib.hid fun w => deedFault_any ⟨dn, dk, da, dv⟩ w
                        generalize tAt n s y b l j = mj at *
                        clear h0
                        go_wp2_with fail
                        (with_reducible refine (DF1.out _).mono ?_); rintro e w7 ⟨rfl, hb⟩
                        replace cb := cb.call hb
                        replace near := gCall near hb
                        clear db_0 db_1 db_2 db_3 db_4 db_5
                        replace db := db.call hb
                        clear hb DF1 c0 c1 c2 c3 c4 c5
                        generalize deedE ⟨dn, dk, da, dv⟩ = de at *
                        by_cases hd : de = 0
                        · as_aux_lemma =>
                            subst hd
                            have db_0 := db.at_ 0 rfl
                            have cb_0 := cb.at_ 0 rfl
                            by_cases hn : n ≤ dn
                            · as_aux_lemma =>
                                have hn' : decide (n ≤ dn) = true := decide_eq_true hn
                                have M0 := Lib.hid (show tAt n s y b l (j + 1) = 4 by rw [MA.out]; simp [hn])
                                clear hn MA
                                go_wp2_with fail
                                go_roundw
                                case rel => exact ⟨j + 1, by omega, by go_num, by rw [M0.out], cb, near⟩
                                case measure => simp [intOf]; omega
                            · as_aux_lemma =>
                                have hn' : decide (n ≤ dn) = false := decide_eq_false hn
                                have M0 := Lib.hid (show tAt n s y b l (j + 1) = 0 by rw [MA.out]; simp [hn])
                                clear hn MA
                                go_wp2_with fail
                                go_roundw
                                case rel => exact ⟨j + 1, by omega, by go_num, by rw [M0.out], cb, near⟩
                                case measure => simp [intOf]; omega
                        · as_aux_lemma =>
                            have hd' : (de == 0) = false := by simpa using hd
                            have M0 := Lib.hid (show tAt n s y b l (j + 1) = de by rw [MA.out, if_pos hd])
                            clear hd MA
                            go_wp2_with fail
                            go_roundw
                            case rel => exact ⟨j + 1, by omega, by go_num, by rw [M0.out], cb, near⟩
                            case measure => simp [intOf]; omega
                    · as_aux_lemma =>
                        have h0' : (tAt n s y b l j == 0) = false := by simpa using h0
                        have MA := Lib.hid (tAt_bad HX.out h0)
                        generalize tAt n s y b l j = mj at *
                        clear h0
                        go_wp2_with fail
                        go_roundw
                        case rel => exact ⟨j + 1, by omega, by go_num, by rw [MA.out], cb, near⟩
                        case measure => simp [intOf]; omega
                  · obtain rfl : j = l.length := by omega
                    rw [tAt_all]
                    have LX := Lib.hid (gCall L6.out near)
                    have LX2 := Lib.hid (gCall L26.out near)
                    clear near
                    as_aux_lemma =>
                      by_cases hE : tallyE n s y b l = 0
                      · obtain ⟨hcB, hl2, hn⟩ := tallyE_zero.1 hE
                        have hn8 := cfgB_iff.1 hcB
                        have ND := nodeE_zero.1 hn
                        rcases CN.out with ⟨h, _⟩ | ⟨_, rfl, cr⟩
                        · exact absurd hE h
                        rcases LG.out with ⟨h, _⟩ | ⟨_, rfl, lr⟩
                        · exact absurd hE h
                        obtain ⟨N, rfl⟩ : ∃ N : Nat, n = N := ⟨n.toNat, by omega⟩
                        simp only [Int.toNat_natCast] at cr lr ⊢
                        have hN : N ≤ 8 := by omega
                        have NK := Lib.hid (fun (x : Ev) (hx : x ∈ l) => (show (0 ≤ x.d.nd ∧ x.d.nd < (N : Int)) ∧ 1 ≤ x.d.kd ∧ x.d.kd ≤ 4 by
                          have h1 := ND x hx
                          have h2 := deedE_ok h1.1
                          exact ⟨⟨h2.1.1, h1.2⟩, h2.2.1⟩))
                        obtain ⟨_, A9, c9, e9, q1, q2, q3⟩ := cr
                        simp only [Value.slice.injEq] at e9
                        obtain ⟨rfl, -, rfl⟩ := e9
                        have C3 := Lib.hid q3
                        obtain ⟨A9, c9, e9, r1, r2, r3⟩ := lr.ex
                        simp only [Value.slice.injEq] at e9
                        obtain ⟨rfl, -, rfl⟩ := e9
                        have L3 := Lib.hid r3
                        have e2 : ((N : Int) != (N : Int)) = false := by simp
                        rw [hE]
                        obtain ⟨i0, hi, hz0, hz1, hz2⟩ := info_parts info_told
                        have HI := Lib.hid hi
                        have HZ := Lib.hid (And.intro hz0 (And.intro hz1 hz2))
                        clear CN LG hcB hn hn8 ND q1 q2 q3 r1 r2 r3 lr hE hi hz0 hz1 hz2
                        have cb_0 := cb.at_ 0 rfl
                        have cb_1 := cb.at_ 1 rfl
                        have cb_2 := cb.at_ 2 rfl
                        have cb_3 := cb.at_ 3 rfl
                        go_wp2_with fail
                        clear cb_0 cb_1 cb_2 cb_3
                        clear cb
                        go_loopw [164] (fun i wr => ∃ k : Nat, k ≤ N ∧ i = .int .i64 k ∧ Below wx.heap.size wx wr) (fun i _ => N - (intOf i).toNat)
                        case atStart => exact ⟨0, Nat.zero_le _, rfl, Below.refl _ _⟩
                        case round =>
                          obtain ⟨k, hk, rfl, near⟩ := hrel
                          rename World => wr
                          by_cases hlt3 : k < N
                          · have k0 : (0 : Int) ≤ k := by omega
                            have k1 : (k : Int) < N := by omega
                            have LY := Lib.hid (gCall LX.out near)
                            have LY2 := Lib.hid (gCall LX2.out near)
                            have NR := Lib.hid near
                            clear near
                            have wb0 := Box.new wr 50 #[.int .i64 0, .int .i64 0, .int .i64 0, .int .i64 0, .int .i64 0]
                            have own0 : (wr.alloc (.cells #[.int .i64 0, .int .i64 0, .int .i64 0, .int .i64 0, .int .i64 0] 50)).ownsRow wr.heap.size 52 5 (.slice none 0 0) (keyT.on k (evTd (l.take 0))).length (elT.C (keyT.on k (evTd (l.take 0)))) := by
                              rw [List.take_zero]
                              exact World.ownsRow_nil _ _ _ _
                            have OW0 := Lib.hid own0
                            have WB0 := Lib.hid wb0
                            clear own0 wb0
                            go_wp2_with fail
                            go_loopw [22, 169] (fun mv i wy => ∃ j : Nat, j ≤ l.length ∧ i = .int .i64 j ∧ Hid (wy.ownsRow wr.heap.size 52 5 mv (keyT.on k (evTd (l.take j))).length (elT.C (keyT.on k (evTd (l.take j))))) ∧
                              Hid (Box wy wr.heap.size 50 (Cn.arr (cntOf k (l.take j)))) ∧ Below wr.heap.size wr wy) (fun _ i _ => l.length - (intOf i).toNat)
                            case atStart => exact ⟨0, Nat.zero_le _, rfl, OW0, WB0, gAlloc (Below.refl _ _) _⟩
                            case round =>
                              clear OW0 WB0
                              obtain ⟨j, hj, rfl, hown, hwb, near⟩ := hrel
                              rename World => wy
                              by_cases hlt : j < l.length
                              · obtain ⟨b2, o2, rfl, hb2, hc2⟩ := G3.out (by omega)
                                have hx : l[j]? = some l[j] := List.getElem?_eq_getElem _
                                generalize l[j] = x at hx
                                have low := gCall LY.out near
                                obtain ⟨c0, c1, c2, c3, c4, c5⟩ := evAt_of hc2 hb2 low hx
                                have TK := Lib.hid (evTd_more hx)
                                have TS := Lib.hid (take_snoc hx)
                                have kd := (NK.out x (List.mem_of_getElem? hx)).2
                                have ci := cntOf_in k (l.take j)
                                have tl : ((l.take j).length : Int) ≤ 200 := by rw [List.length_take]; omega
                                have PL0 := Lib.hid (show (keyT.on k (evTd (l.take j))).length ≤ 200 from Nat.le_trans (KeyEl.on_length (E := keyT) k _) (by rw [evTd_length, List.length_take]; omega))
                                have j0 : (0 : Int) ≤ j := by omega
                                have j1 : (j : Int) < l.length := by omega
                                clear hx hc2 low
                                obtain ⟨⟨dn, dk, da, dv⟩, tv, bv⟩ := x
                                simp only at c0 c1 c2 c3 c4 c5 kd TK
                                have SN := Lib.hid (cntOf_snoc k (l.take j) ⟨⟨dn, dk, da, dv⟩, tv, bv⟩)
                                have db := Box.new wy 43 (evA dn dk da dv tv bv)
                                have OW := Lib.hid (own_below hown.out (gAlloc (Below.refl wy.heap.size wy) (.cells (evA dn dk da dv tv bv) 43)))
                                have WB := Lib.hid (hwb.out.alloc (.cells (evA dn dk da dv tv bv) 43))
                                replace near := gAlloc near (.cells (evA dn dk da dv tv bv) 43)
                                clear hown hwb
                                have db_0 := db.at_ 0 rfl
                                have db_1 := db.at_ 1 rfl
                                have db_2 := db.at_ 2 rfl
                                have db_3 := db.at_ 3 rfl
                                have db_4 := db.at_ 4 rfl
                                have db_5 := db.at_ 5 rfl
                                by_cases hq : dn = k
                                · subst hq
                                  as_aux_lemma =>
                                    have hq' : ((k : Int) != (k : Int)) = false := by simp
                                    have N1 := Lib.hid (show keyT.on k (evTd (l.take (j + 1))) = keyT.on k (evTd (l.take j)) ++ [⟨⟨(k : Int), dk, da, dv⟩, tv⟩] by rw [TK.out]; exact KeyEl.on_same _ rfl)
                                    have N2 := Lib.hid (show cntOf k (l.take (j + 1)) = addC (cntOf k (l.take j)) ⟨⟨(k : Int), dk, da, dv⟩, tv, bv⟩ by rw [TS.out, SN.out, if_pos rfl])
                                    clear TK TS SN
                                    generalize keyT.on k (evTd (l.take j)) = P at *
                                    generalize cntOf k (l.take j) = cq at *
                                    have ow3 := OW.out
                                    go_wp2_with (at_builtin; refine wpList_append_own _ rfl _ _ 48 rfl wr.heap.size 52 i0 (.agg #[.int .i64 0, .int .i64 0, .int .i64 0, .int .u64 0, .int .u64 0]) 5 40 Try.underlying48 HI.out HZ.out.1 HZ.out.2.1 HZ.out.2.2 rfl (by decide) _ _ _ rfl (ow3.alloc _) ⟨wy.heap.size + 1, 0, none⟩ 1 1 (Td.cells ⟨⟨(k : Int), dk, da, dv⟩, tv⟩) rfl rfl ?g1 ?g2 ?g3 ?g4 ?g5 ?_)
                                    case g1 => exact fun q u hu => told_new2 (wy.alloc (.cells (evA (k : Int) dk da dv tv bv) 43)) 52 ⟨⟨(k : Int), dk, da, dv⟩, tv⟩ _ q u (by simp) hu
                                    case g2 => exact elT.one _
                                    case g3 => have := PL0.out; unfold maxLen; omega
                                    case g4 => have := PL0.out; omega
                                    case g5 => have := near.size; simp at this ⊢; omega
                                    intro v10 w10 own10 grow10 _
                                    have ne1 := own_ne (ow3.alloc (.cells #[.int .i64 (k : Int), .int .i64 dk, .int .i64 da, .int .u64 dv, .int .u64 tv] 52)) (WB.out.alloc (.cells #[.int .i64 (k : Int), .int .i64 dk, .int .i64 da, .int .u64 dv, .int .u64 tv] 52)) (show 50 ≠ 52 by decide)
                                    have ne2 := own_ne (ow3.alloc (.cells #[.int .i64 (k : Int), .int .i64 dk, .int .i64 da, .int .u64 dv, .int .u64 tv] 52)) (db.alloc (.cells #[.int .i64 (k : Int), .int .i64 dk, .int .i64 da, .int .u64 dv, .int .u64 tv] 52)) (show 43 ≠ 52 by decide)
                                    have wb := (WB.out.alloc (.cells #[.int .i64 (k : Int), .int .i64 dk, .int .i64 da, .int .u64 dv, .int .u64 tv] 52)).grown grow10 ne1
                                    have xb := (db.alloc (.cells #[.int .i64 (k : Int), .int .i64 dk, .int .i64 da, .int .u64 dv, .int .u64 tv] 52)).grown grow10 ne2
                                    have ol := (ow3.alloc (.cells #[.int .i64 (k : Int), .int .i64 dk, .int .i64 da, .int .u64 dv, .int .u64 tv] 52)).lt
                                    have near10 : Below wr.heap.size wr w10 := (gAlloc near (.cells #[.int .i64 (k : Int), .int .i64 dk, .int .i64 da, .int .u64 dv, .int .u64 tv] 52)).grown grow10 (by have := near.size; simp at this ⊢; omega) (fun g e => (ol g e).1)
                                    clear db_0 db_1 db_2 db_3 db_4 db_5
                                    have OW10 := Lib.hid own10
                                    have NEAR := Lib.hid near10
                                    clear ne1 ne2 ol near10 own10 grow10 db WB OW ow3 near
                                    obtain ⟨ld, st, sw, pt, rg⟩ := cq
                                    obtain ⟨k1', k2', k3', k4', k5'⟩ := ci
                                    simp only at k1' k2' k3' k4' k5'
                                    replace wb : Box w10 wr.heap.size 50 #[.int .i64 ld, .int .i64 st, .int .i64 sw, .int .i64 pt, .int .i64 rg] := wb
                                    replace xb : Box w10 wy.heap.size 43 #[.int .i64 (k : Int), .int .i64 dk, .int .i64 da, .int .u64 dv, .int .u64 tv, .bool bv] := xb
                                    have kd4 : dk = 1 ∨ dk = 2 ∨ dk = 3 ∨ dk = 4 := by omega
                                    have f0 := wb.frozen 0
                                    have f1 := wb.frozen 1
                                    have f2 := wb.frozen 2
                                    have f3 := wb.frozen 3
                                    have f4 := wb.frozen 4
                                    clear kd
                                    rcases kd4 with rfl | rfl | rfl | rfl
                                    · as_aux_lemma =>
                                        have S1 := Stored.cell1 w10 ⟨wr.heap.size, 0, none⟩ (.int .i64 (ld + 1))
                                        have B1 := wb.set 0 (.int .i64 (ld + 1))
                                        have O1 := own_stored OW10.out S1 (own_ne OW10.out wb (show 50 ≠ 52 by decide))
                                        have L1 := S1.low NEAR.out (Nat.le_refl _)
                                        cases bv with
                                        | false =>
                                          as_aux_lemma =>
                                            have eC := Lib.hid (show addC ⟨ld, st, sw, pt, rg⟩ ⟨⟨(k : Int), 1, da, dv⟩, tv, false⟩ = ⟨ld + 1, st, sw, pt, rg⟩ by simp [addC, one1])
                                            have B1' := Lib.hid (show Box _ _ 50 (Cn.arr ⟨ld + 1, st, sw, pt, rg⟩) from B1)
                                            have O1' := Lib.hid O1
                                            have L1' := Lib.hid L1
                                            clear S1 B1 O1 L1
                                            have wb_0 := wb.at_ 0 rfl
                                            have wb_1 := wb.at_ 1 rfl
                                            have wb_2 := wb.at_ 2 rfl
                                            have wb_3 := wb.at_ 3 rfl
                                            have wb_4 := wb.at_ 4 rfl
                                            have xb_1 := xb.at_ 1 rfl
                                            have xb_5 := xb.at_ 5 rfl
                                            go_wp2_with fail
                                            clear wb_0 wb_1 wb_2 wb_3 wb_4 xb_1 xb_5
                                            go_roundw
                                            case rel => exact ⟨j + 1, by omega, by go_num, Lib.hid (by rw [N1.out, List.length_append, elT.C_snoc]; exact O1'.out), Lib.hid (by rw [N2.out, eC.out]; exact B1'.out), L1'.out⟩
                                            case measure => simp [intOf]; omega
                                        | true =>
                                          as_aux_lemma =>
                                            have eC := Lib.hid (show addC ⟨ld, st, sw, pt, rg⟩ ⟨⟨(k : Int), 1, da, dv⟩, tv, true⟩ = ⟨ld + 1, st, sw, pt, rg + 1⟩ by simp [addC, one1])
                                            have y4 : (w10.setCell ⟨wr.heap.size, 0, none⟩ (.int .i64 (ld + 1))).cell? ⟨wr.heap.size, 4, none⟩ = some (.int .i64 rg) := B1.at_ 4 rfl
                                            have y4f := B1.frozen 4
                                            have B2 := B1.set 4 (.int .i64 (rg + 1))
                                            have S2 := Stored.cell1 (w10.setCell ⟨wr.heap.size, 0, none⟩ (.int .i64 (ld + 1))) ⟨wr.heap.size, 4, none⟩ (.int .i64 (rg + 1))
                                            have O2 := own_stored O1 S2 (own_ne O1 B1 (show 50 ≠ 52 by decide))
                                            have L2 := Lib.hid (S2.low L1 (Nat.le_refl _))
                                            have B2' := Lib.hid (show Box _ _ 50 (Cn.arr ⟨ld + 1, st, sw, pt, rg + 1⟩) from B2)
                                            have O2' := Lib.hid O2
                                            clear S1 B1 O1 L1 S2 B2 O2
                                            have wb_0 := wb.at_ 0 rfl
                                            have wb_1 := wb.at_ 1 rfl
                                            have wb_2 := wb.at_ 2 rfl
                                            have wb_3 := wb.at_ 3 rfl
                                            have wb_4 := wb.at_ 4 rfl
                                            have xb_1 := xb.at_ 1 rfl
                                            have xb_5 := xb.at_ 5 rfl
                                            go_wp2_with fail
                                            clear wb_0 wb_1 wb_2 wb_3 wb_4 xb_1 xb_5
                                            go_roundw
                                            case rel => exact ⟨j + 1, by omega, by go_num, Lib.hid (by rw [N1.out, List.length_append, elT.C_snoc]; exact O2'.out), Lib.hid (by rw [N2.out, eC.out]; exact B2'.out), L2.out⟩
                                            case measure => simp [intOf]; omega
                                    · as_aux_lemma =>
                                        have S1 := Stored.cell1 w10 ⟨wr.heap.size, 1, none⟩ (.int .i64 (st + 1))
                                        have B1 := wb.set 1 (.int .i64 (st + 1))
                                        have O1 := own_stored OW10.out S1 (own_ne OW10.out wb (show 50 ≠ 52 by decide))
                                        have L1 := S1.low NEAR.out (Nat.le_refl _)
                                        cases bv with
                                        | false =>
                                          as_aux_lemma =>
                                            have eC := Lib.hid (show addC ⟨ld, st, sw, pt, rg⟩ ⟨⟨(k : Int), 2, da, dv⟩, tv, false⟩ = ⟨ld, st + 1, sw, pt, rg⟩ by simp [addC, one1])
                                            have B1' := Lib.hid (show Box _ _ 50 (Cn.arr ⟨ld, st + 1, sw, pt, rg⟩) from B1)
                                            have O1' := Lib.hid O1
                                            have L1' := Lib.hid L1
                                            clear S1 B1 O1 L1
                                            have wb_0 := wb.at_ 0 rfl
                                            have wb_1 := wb.at_ 1 rfl
                                            have wb_2 := wb.at_ 2 rfl
                                            have wb_3 := wb.at_ 3 rfl
                                            have wb_4 := wb.at_ 4 rfl
                                            have xb_1 := xb.at_ 1 rfl
                                            have xb_5 := xb.at_ 5 rfl
                                            go_wp2_with fail
                                            clear wb_0 wb_1 wb_2 wb_3 wb_4 xb_1 xb_5
                                            go_roundw
                                            case rel => exact ⟨j + 1, by omega, by go_num, Lib.hid (by rw [N1.out, List.length_append, elT.C_snoc]; exact O1'.out), Lib.hid (by rw [N2.out, eC.out]; exact B1'.out), L1'.out⟩
                                            case measure => simp [intOf]; omega
                                        | true =>
                                          as_aux_lemma =>
                                            have eC := Lib.hid (show addC ⟨ld, st, sw, pt, rg⟩ ⟨⟨(k : Int), 2, da, dv⟩, tv, true⟩ = ⟨ld, st + 1, sw, pt, rg + 1⟩ by simp [addC, one1])
                                            have y4 : (w10.setCell ⟨wr.heap.size, 1, none⟩ (.int .i64 (st + 1))).cell? ⟨wr.heap.size, 4, none⟩ = some (.int .i64 rg) := B1.at_ 4 rfl
                                            have y4f := B1.frozen 4
                                            have B2 := B1.set 4 (.int .i64 (rg + 1))
                                            have S2 := Stored.cell1 (w10.setCell ⟨wr.heap.size, 1, none⟩ (.int .i64 (st + 1))) ⟨wr.heap.size, 4, none⟩ (.int .i64 (rg + 1))
                                            have O2 := own_stored O1 S2 (own_ne O1 B1 (show 50 ≠ 52 by decide))
                                            have L2 := Lib.hid (S2.low L1 (Nat.le_refl _))
                                            have B2' := Lib.hid (show Box _ _ 50 (Cn.arr ⟨ld, st + 1, sw, pt, rg + 1⟩) from B2)
                                            have O2' := Lib.hid O2
                                            clear S1 B1 O1 L1 S2 B2 O2
                                            have wb_0 := wb.at_ 0 rfl
                                            have wb_1 := wb.at_ 1 rfl
                                            have wb_2 := wb.at_ 2 rfl
                                            have wb_3 := wb.at_ 3 rfl
                                            have wb_4 := wb.at_ 4 rfl
                                            have xb_1 := xb.at_ 1 rfl
                                            have xb_5 := xb.at_ 5 rfl
                                            go_wp2_with fail
                                            clear wb_0 wb_1 wb_2 wb_3 wb_4 xb_1 xb_5
                                            go_roundw
                                            case rel => exact ⟨j + 1, by omega, by go_num, Lib.hid (by rw [N1.out, List.length_append, elT.C_snoc]; exact O2'.out), Lib.hid (by rw [N2.out, eC.out]; exact B2'.out), L2.out⟩
                                            case measure => simp [intOf]; omega
                                    · as_aux_lemma =>
                                        have S1 := Stored.cell1 w10 ⟨wr.heap.size, 2, none⟩ (.int .i64 (sw + 1))
                                        have B1 := wb.set 2 (.int .i64 (sw + 1))
                                        have O1 := own_stored OW10.out S1 (own_ne OW10.out wb (show 50 ≠ 52 by decide))
                                        have L1 := S1.low NEAR.out (Nat.le_refl _)
                                        cases bv with
                                        | false =>
                                          as_aux_lemma =>
                                            have eC := Lib.hid (show addC ⟨ld, st, sw, pt, rg⟩ ⟨⟨(k : Int), 3, da, dv⟩, tv, false⟩ = ⟨ld, st, sw + 1, pt, rg⟩ by simp [addC, one1])
                                            have B1' := Lib.hid (show Box _ _ 50 (Cn.arr ⟨ld, st, sw + 1, pt, rg⟩) from B1)
                                            have O1' := Lib.hid O1
                                            have L1' := Lib.hid L1
                                            clear S1 B1 O1 L1
                                            have wb_0 := wb.at_ 0 rfl
                                            have wb_1 := wb.at_ 1 rfl
                                            have wb_2 := wb.at_ 2 rfl
                                            have wb_3 := wb.at_ 3 rfl
                                            have wb_4 := wb.at_ 4 rfl
                                            have xb_1 := xb.at_ 1 rfl
                                            have xb_5 := xb.at_ 5 rfl
                                            go_wp2_with fail
                                            clear wb_0 wb_1 wb_2 wb_3 wb_4 xb_1 xb_5
                                            go_roundw
                                            case rel => exact ⟨j + 1, by omega, by go_num, Lib.hid (by rw [N1.out, List.length_append, elT.C_snoc]; exact O1'.out), Lib.hid (by rw [N2.out, eC.out]; exact B1'.out), L1'.out⟩
                                            case measure => simp [intOf]; omega
                                        | true =>
                                          as_aux_lemma =>
                                            have eC := Lib.hid (show addC ⟨ld, st, sw, pt, rg⟩ ⟨⟨(k : Int), 3, da, dv⟩, tv, true⟩ = ⟨ld, st, sw + 1, pt, rg + 1⟩ by simp [addC, one1])
                                            have y4 : (w10.setCell ⟨wr.heap.size, 2, none⟩ (.int .i64 (sw + 1))).cell? ⟨wr.heap.size, 4, none⟩ = some (.int .i64 rg) := B1.at_ 4 rfl
                                            have y4f := B1.frozen 4
                                            have B2 := B1.set 4 (.int .i64 (rg + 1))
                                            have S2 := Stored.cell1 (w10.setCell ⟨wr.heap.size, 2, none⟩ (.int .i64 (sw + 1))) ⟨wr.heap.size, 4, none⟩ (.int .i64 (rg + 1))
                                            have O2 := own_stored O1 S2 (own_ne O1 B1 (show 50 ≠ 52 by decide))
                                            have L2 := Lib.hid (S2.low L1 (Nat.le_refl _))
                                            have B2' := Lib.hid (show Box _ _ 50 (Cn.arr ⟨ld, st, sw + 1, pt, rg + 1⟩) from B2)
                                            have O2' := Lib.hid O2
                                            clear S1 B1 O1 L1 S2 B2 O2
                                            have wb_0 := wb.at_ 0 rfl
                                            have wb_1 := wb.at_ 1 rfl
                                            have wb_2 := wb.at_ 2 rfl
                                            have wb_3 := wb.at_ 3 rfl
                                            have wb_4 := wb.at_ 4 rfl
                                            have xb_1 := xb.at_ 1 rfl
                                            have xb_5 := xb.at_ 5 rfl
                                            go_wp2_with fail
                                            clear wb_0 wb_1 wb_2 wb_3 wb_4 xb_1 xb_5
                                            go_roundw
                                            case rel => exact ⟨j + 1, by omega, by go_num, Lib.hid (by rw [N1.out, List.length_append, elT.C_snoc]; exact O2'.out), Lib.hid (by rw [N2.out, eC.out]; exact B2'.out), L2.out⟩
                                            case measure => simp [intOf]; omega
                                    · as_aux_lemma =>
                                        have S1 := Stored.cell1 w10 ⟨wr.heap.size, 3, none⟩ (.int .i64 (pt + 1))
                                        have B1 := wb.set 3 (.int .i64 (pt + 1))
                                        have O1 := own_stored OW10.out S1 (own_ne OW10.out wb (show 50 ≠ 52 by decide))
                                        have L1 := S1.low NEAR.out (Nat.le_refl _)
                                        cases bv with
                                        | false =>
                                          as_aux_lemma =>
                                            have eC := Lib.hid (show addC ⟨ld, st, sw, pt, rg⟩ ⟨⟨(k : Int), 4, da, dv⟩, tv, false⟩ = ⟨ld, st, sw, pt + 1, rg⟩ by simp [addC, one1])
                                            have B1' := Lib.hid (show Box _ _ 50 (Cn.arr ⟨ld, st, sw, pt + 1, rg⟩) from B1)
                                            have O1' := Lib.hid O1
                                            have L1' := Lib.hid L1
                                            clear S1 B1 O1 L1
                                            have wb_0 := wb.at_ 0 rfl
                                            have wb_1 := wb.at_ 1 rfl
                                            have wb_2 := wb.at_ 2 rfl
                                            have wb_3 := wb.at_ 3 rfl
                                            have wb_4 := wb.at_ 4 rfl
                                            have xb_1 := xb.at_ 1 rfl
                                            have xb_5 := xb.at_ 5 rfl
                                            go_wp2_with fail
                                            clear wb_0 wb_1 wb_2 wb_3 wb_4 xb_1 xb_5
                                            go_roundw
                                            case rel => exact ⟨j + 1, by omega, by go_num, Lib.hid (by rw [N1.out, List.length_append, elT.C_snoc]; exact O1'.out), Lib.hid (by rw [N2.out, eC.out]; exact B1'.out), L1'.out⟩
                                            case measure => simp [intOf]; omega
                                        | true =>
                                          as_aux_lemma =>
                                            have eC := Lib.hid (show addC ⟨ld, st, sw, pt, rg⟩ ⟨⟨(k : Int), 4, da, dv⟩, tv, true⟩ = ⟨ld, st, sw, pt + 1, rg + 1⟩ by simp [addC, one1])
                                            have y4 : (w10.setCell ⟨wr.heap.size, 3, none⟩ (.int .i64 (pt + 1))).cell? ⟨wr.heap.size, 4, none⟩ = some (.int .i64 rg) := B1.at_ 4 rfl
                                            have y4f := B1.frozen 4
                                            have B2 := B1.set 4 (.int .i64 (rg + 1))
                                            have S2 := Stored.cell1 (w10.setCell ⟨wr.heap.size, 3, none⟩ (.int .i64 (pt + 1))) ⟨wr.heap.size, 4, none⟩ (.int .i64 (rg + 1))
                                            have O2 := own_stored O1 S2 (own_ne O1 B1 (show 50 ≠ 52 by decide))
                                            have L2 := Lib.hid (S2.low L1 (Nat.le_refl _))
                                            have B2' := Lib.hid (show Box _ _ 50 (Cn.arr ⟨ld, st, sw, pt + 1, rg + 1⟩) from B2)
                                            have O2' := Lib.hid O2
                                            clear S1 B1 O1 L1 S2 B2 O2
                                            have wb_0 := wb.at_ 0 rfl
                                            have wb_1 := wb.at_ 1 rfl
                                            have wb_2 := wb.at_ 2 rfl
                                            have wb_3 := wb.at_ 3 rfl
                                            have wb_4 := wb.at_ 4 rfl
                                            have xb_1 := xb.at_ 1 rfl
                                            have xb_5 := xb.at_ 5 rfl
                                            go_wp2_with fail
                                            clear wb_0 wb_1 wb_2 wb_3 wb_4 xb_1 xb_5
                                            go_roundw
                                            case rel => exact ⟨j + 1, by omega, by go_num, Lib.hid (by rw [N1.out, List.length_append, elT.C_snoc]; exact O2'.out), Lib.hid (by rw [N2.out, eC.out]; exact B2'.out), L2.out⟩
                                            case measure => simp [intOf]; omega
                                · as_aux_lemma =>
                                    have hq' : (dn != (k : Int)) = true := by simpa using hq
                                    have N1 := Lib.hid (show keyT.on k (evTd (l.take (j + 1))) = keyT.on k (evTd (l.take j)) by rw [TK.out]; exact KeyEl.on_other _ (by exact hq))
                                    have N2 := Lib.hid (show cntOf k (l.take (j + 1)) = cntOf k (l.take j) by rw [TS.out, SN.out, if_neg (by exact hq)])
                                    clear hq ci tl
                                    go_wp2_with fail
                                    go_roundw
                                    case rel => exact ⟨j + 1, by omega, by go_num, by rw [N1.out]; exact OW, by rw [N2.out]; exact WB, near⟩
                                    case measure => simp [intOf]; omega
                              · obtain rfl : j = l.length := by omega
                                rw [List.take_length] at hown hwb
                                as_aux_lemma =>
                                  obtain ⟨b2, o2, rfl, hb2, hc2⟩ := L3.out (by rw [logsL_length]; simpa using (by omega : 0 < N))
                                  obtain ⟨A8, c8, e8, ds⟩ := hc2 k _ (logsL_at (n := (N : Int)) (es := l) (k := k) (by simpa using hlt3))
                                  obtain ⟨b3, o3, rfl, hb3, hc3⟩ := C3.out (by rw [cntL_length]; omega)
                                  have hx := cntL_at (n := N) (l := l) hlt3
                                  have LW : Below w2.heap.size w2 wy := gCall LY2.out near
                                  have LV : Below w1.heap.size w1 wy := gCall L12.out LW
                                  have cl := (LV.cell (p := ⟨b2, o2 + k, none⟩) hb2).trans e8
                                  have z0 : wy.cell? ⟨b3, o3 + k * 5, none⟩ = some (.int .i64 (cntOf k l).ld) := El.R.at_ (E := elC) hc3 hb3 LW hx 0 _ (by decide) rfl
                                  have z1 : wy.cell? ⟨b3, o3 + k * 5 + 1, none⟩ = some (.int .i64 (cntOf k l).st) := El.R.at_ (E := elC) hc3 hb3 LW hx 1 _ (by decide) rfl
                                  have z2 : wy.cell? ⟨b3, o3 + k * 5 + 2, none⟩ = some (.int .i64 (cntOf k l).sw) := El.R.at_ (E := elC) hc3 hb3 LW hx 2 _ (by decide) rfl
                                  have z3 : wy.cell? ⟨b3, o3 + k * 5 + 3, none⟩ = some (.int .i64 (cntOf k l).pt) := El.R.at_ (E := elC) hc3 hb3 LW hx 3 _ (by decide) rfl
                                  have z4 : wy.cell? ⟨b3, o3 + k * 5 + 4, none⟩ = some (.int .i64 (cntOf k l).rg) := El.R.at_ (E := elC) hc3 hb3 LW hx 4 _ (by decide) rfl
                                  have wb := hwb.out
                                  have SO := Sl.ofOwn hown.out
                                  obtain ⟨A7, c7, rfl⟩ := own_shape hown.out
                                  have DS := ds.call LV
                                  have CON2 := Lib.hid fun nn => Calls.quiet_of (sameTolds_quiet _ _ _ (wy.drewN nn) (El.R.drewN DS nn) (El.R.drewN (E := elT) SO nn))
                                  have LOW := Lib.hid (gCall NR.out near)
                                  generalize cntOf k l = cq at *
                                  obtain ⟨ld, st, sw, pt, rg⟩ := cq
                                  simp only at z0 z1 z2 z3 z4
                                  replace wb : Box wy wr.heap.size 50 #[.int .i64 ld, .int .i64 st, .int .i64 sw, .int .i64 pt, .int .i64 rg] := wb
                                  have eqC := fun w => eqCount ld st sw pt rg w
                                  clear hc2 hc3 hx LW LV e8 ds SO DS hown hwb near L3 C3 L12 LY LY2 LX LX2
                                  have wb_0 := wb.at_ 0 rfl
                                  have wb_1 := wb.at_ 1 rfl
                                  have wb_2 := wb.at_ 2 rfl
                                  have wb_3 := wb.at_ 3 rfl
                                  have wb_4 := wb.at_ 4 rfl
                                  go_wp2_with fail
                                  go_quiet (first | (go_at_call 11; exact CON2.out _))
                                  go_wp2_with fail
                                  clear wb_0 wb_1 wb_2 wb_3 wb_4
                                  go_roundw
                                  case rel => exact ⟨k + 1, by omega, by go_num, gDrewN LOW.out _⟩
                                  case measure => simp [intOf]; omega
                          · obtain rfl : k = N := by omega
                            have low := gCall LX.out near
                            go_wp2_with fail
                            go_ret
                            exact ⟨rfl, low⟩
                      · have e1 : (tallyE n s y b l != 0) = true := by simpa using hE
                        have e3 : (tallyE n s y b l == tallyE n s y b l) = true := by simp
                        rcases CN.out with ⟨_, rfl, rfl, rfl⟩ | ⟨h, _⟩
                        · rcases LG.out with ⟨_, rfl, rfl, rfl⟩ | ⟨h, _⟩
                          · have low := LX.out
                            generalize tallyE n s y b l = E at *
                            clear CN LG hE
                            go_wp2_with fail
                            go_ret
                            exact ⟨rfl, low⟩
                          · exact absurd h hE
                        · exact absurd h hE
end Go.Proofs.Ytcegjehoejgofaa.tallyTells
