/-
Proved: the law 'RingTells' where the configuration and the number of slots are right.
-/
import Derived.Test.YtiefeeondeablaaRingTellsA
namespace Go.Proofs.Ytiefeeondeablaa.ringTells
open Go.ChangeShapes Go.WideShapes Go.ChangeAt Go.RowKit Go.Joins

/-- The first slots of a new ring. -/
def emptL (n : Int) (j : Nat) : List Sw := (List.range j).map fun (i : Nat) => ⟨(i : Int) % n, false, 0, 0⟩
theorem emptL_succ (n : Int) (j : Nat) : ringC (emptL n (j + 1)) = ringC (emptL n j) ++ [.int .i64 ((j : Int) % n), .bool false, .int .i64 0, .int .i64 0] := by
  unfold emptL
  rw [List.range_succ, List.map_append, ringC_append]
  rfl
theorem emptL_length (n : Int) (j : Nat) : (emptL n j).length = j := by simp [emptL]
theorem emptL_all (n : Int) (m : Nat) : newR n m m = emptL n m := by
  unfold newR emptL
  refine List.map_congr_left fun i hi => ?_
  rw [if_pos (by simpa using hi)]
  unfold nodeAt
  rw [Int.zero_add, Int.emod_emod]

set_option maxRecDepth 20000 in
set_option maxHeartbeats 4000000 in
theorem walk_right (n s y b : Int) (m : Nat) (v : Value) (l : List Sw) (node t : Int) (w : World) (h : Rs w v l) (hc : cntE n s y b m = 0) :
    Calls Try.prog 3 #[cfg n s y b, .int .i64 m, v, .int .i64 node, .int .i64 t] w fun e w' => e = .returned (.bool true) ∧ Below w.heap.size w w' := by
  obtain ⟨hB, k1, k8⟩ := cntE_ok hc
  have hn := cfgB_iff.1 hB
  obtain ⟨nn2, nn8, -⟩ := hn
  have CF := Lib.hid fun w => configFault_ok n s y b w hB
  have NW := Lib.hid fun w => ringNew_ok n s y b m w hc
  rw [emptL_all] at NW
  obtain ⟨k, hkm⟩ : ∃ k : Int, k = m := ⟨_, rfl⟩
  have H := Lib.hid h
  have PU := Lib.hid fun w hw => put_is n s y b v l node t w hw
  have SP := Lib.hid fun w hw => step_is n s y b v l w hw
  have LO := Lib.hid fun w => longest_any n s y b k w
  have RF := Lib.hid fun w hw => ringFault_any n s y b v l w hw
  have CK := Lib.hid fun w hw => ringCheck_any n s y b v l w hw
  have RG := Lib.hid fun w hw (hE : ringE n s y b l = 0) => refStep_any n s y b v l w hw hE
  have UN := Lib.hid fun w hw => refUnder_any v l node w hw
  have RP := Lib.hid fun w hw h0 h8 => refPut_any v l node t w hw h0 h8
  have EX := Lib.hid (rputE_right (n := n) (s := s) (y := y) (b := b) (l := l) (node := node) (t := t))
  have EW := Lib.hid (rputE_wrong (n := n) (s := s) (y := y) (b := b) (l := l) (node := node) (t := t))
  have M8 : ringE n s y b l = 0 → 0 < l.length ∧ l.length ≤ 8 := fun h => by
    obtain ⟨_, h1, h2, _⟩ := ringE_zero.1 h
    exact ⟨h1, h2⟩
  generalize ringE n s y b l = E at *
  generalize rputE n s y b l node t = X at *
  replace M8 := Lib.hid M8
  obtain ⟨A, c, rfl⟩ := h.shape
  clear h
  rw [hkm, hc, if_pos rfl] at LO
  clear hkm
  have k1' : ¬ (m : Int) < 1 := by omega
  have k8' : ¬ (8 : Int) < m := by omega
  obtain ⟨i0, hi, hz0, hz1, hz2⟩ := info_parts info_slot
  have HI := Lib.hid hi
  have HZ := Lib.hid (And.intro hz0 (And.intro hz1 hz2))
  clear hc hB hi hz0 hz1 hz2
  have low := Below.refl w.heap.size w
  have cb := boxNext low 23 #[.int .i64 n, .int .i64 s, .int .i64 y, .int .i64 b]
  replace low := gAlloc low (.cells #[.int .i64 n, .int .i64 s, .int .i64 y, .int .i64 b] 23)
  try simp only [World.size_alloc] at cb
  go_enter Try.func3, Try.ntmps3
  go_wp2_with fail
  (with_reducible refine (NW.out _).mono ?_); rintro e w1 ⟨⟨fv, rfl, ff⟩, hb⟩
  have FV := Lib.hid ff.rs
  obtain ⟨Af, cf, rfl⟩ := ff.shape
  rw [emptL_length] at FV ⊢
  clear ff
  replace cb := cb.call hb
  replace low := gCall low hb
  clear hb
  have cb_0 := cb.at_ 0 rfl
  have cb_1 := cb.at_ 1 rfl
  have cb_2 := cb.at_ 2 rfl
  have cb_3 := cb.at_ 3 rfl
  go_wp2_with fail
  (with_reducible refine (PU.out _ (H.out.call low)).mono ?_); rintro e w2 ⟨⟨Ap, mp, cp, Bp, rfl, pu⟩, hb⟩
  replace cb := cb.call hb
  replace low := gCall low hb
  have PI := Lib.hid pu
  clear pu
  replace FV := Lib.hid (FV.out.call hb)
  clear hb
  clear cb_0 cb_1 cb_2 cb_3
  have cb_0 := cb.at_ 0 rfl
  have cb_1 := cb.at_ 1 rfl
  have cb_2 := cb.at_ 2 rfl
  have cb_3 := cb.at_ 3 rfl
  go_wp2_with fail
  (with_reducible refine (SP.out _ (H.out.call low)).mono ?_); rintro e w3 ⟨⟨As, ms, cs, At, mt, ct, rfl, sp⟩, hb⟩
  replace cb := cb.call hb
  replace low := gCall low hb
  replace PI := Lib.hid (PI.out.call hb)
  have SI := Lib.hid sp
  clear sp
  replace FV := Lib.hid (FV.out.call hb)
  clear hb
  clear cb_0 cb_1 cb_2 cb_3
  have cb_0 := cb.at_ 0 rfl
  have cb_1 := cb.at_ 1 rfl
  have cb_2 := cb.at_ 2 rfl
  have cb_3 := cb.at_ 3 rfl
  go_wp2_with fail
  (with_reducible refine (LO.out _).mono ?_); rintro e w4 ⟨rfl, hb⟩
  replace cb := cb.call hb
  replace low := gCall low hb
  replace PI := Lib.hid (PI.out.call hb)
  replace SI := Lib.hid (SI.out.call hb)
  replace FV := Lib.hid (FV.out.call hb)
  clear hb
  clear cb_0 cb_1 cb_2 cb_3
  have cb_0 := cb.at_ 0 rfl
  have cb_1 := cb.at_ 1 rfl
  have cb_2 := cb.at_ 2 rfl
  have cb_3 := cb.at_ 3 rfl
  go_wp2_with fail
  (with_reducible refine (CF.out _).mono ?_); rintro e w5 ⟨rfl, hb⟩
  replace cb := cb.call hb
  replace low := gCall low hb
  replace PI := Lib.hid (PI.out.call hb)
  replace SI := Lib.hid (SI.out.call hb)
  replace FV := Lib.hid (FV.out.call hb)
  clear hb
  clear cb_0 cb_1 cb_2 cb_3
  clear NW PU SP LO CF
  go_wp2_with fail
  rename World => wB
  have near := Below.refl wB.heap.size wB
  have mm := emptL_length n m
  have MM := Lib.hid mm
  clear mm
  go_loopw [22, 88] (fun wv i wr => ∃ j : Nat, j ≤ m ∧ i = .int .i64 j ∧ Hid (wr.ownsRow wB.heap.size 38 4 wv j (ringC (emptL n j))) ∧ Below wB.heap.size wB wr) (fun _ i _ => m - (intOf i).toNat)
  case atStart => exact ⟨0, Nat.zero_le _, rfl, Lib.hid (World.ownsRow_nil _ _ _ _), near⟩
  case round =>
    clear near
    obtain ⟨j, hj, rfl, row, near⟩ := hrel
    have ZR := Lib.hid near.size
    by_cases hlt : j < m
    · have j0 : (0 : Int) ≤ j := by omega
      have j1 : (j : Int) < m := by omega
      have cb0 := (cb.call near).at_ 0 rfl
      have ES := Lib.hid (emptL_succ n j)
      have RW1 := Lib.hid (row.out.alloc (.cells #[.int .i64 ((j : Int) % n), .bool false, .int .i64 0, .int .i64 0] 38))
      have DB := Lib.hid (Box.new wr 38 #[.int .i64 ((j : Int) % n), .bool false, .int .i64 0, .int .i64 0])
      clear row
      go_wp2_with (at_builtin; refine wpList_append_own _ rfl _ _ 25 rfl wB.heap.size 38 i0 (.agg slot0) 4 32 Try.underlying25 HI.out HZ.out.1 HZ.out.2.1 HZ.out.2.2 rfl (by decide) _ _ _ rfl RW1.out ⟨wr.heap.size, 0, none⟩ 1 1 [.int .i64 ((j : Int) % n), .bool false, .int .i64 0, .int .i64 0] rfl rfl ?c1 ?c2 ?c3 ?c4 ?c5 ?_)
      case c1 =>
        intro q u hq
        have e : (⟨wr.heap.size, 0, none⟩ : Addr).add q = ⟨wr.heap.size, q, none⟩ := by cases q <;> simp [Addr.add]
        rw [e, DB.out.cell, ← Array.getElem?_toList]
        exact hq
      case c2 => intro u hu; simp at hu; rcases hu with rfl | rfl | rfl <;> rfl
      case c3 => unfold maxLen; omega
      case c4 => omega
      case c5 => (have := ZR.out; simp; omega)
      intro v4 w4 own4 grow4 _
      have near4 := (gAlloc near (.cells #[.int .i64 ((j : Int) % n), .bool false, .int .i64 0, .int .i64 0] 38)).grown grow4 (by have := ZR.out; simp; omega) (row_from RW1.out)
      rw [← ES.out] at own4
      have ROW4 := Lib.hid own4
      clear own4 grow4 RW1 DB ES near cb0
      go_wp2_with fail
      go_roundw
      case rel => exact ⟨j + 1, by omega, by go_num, ROW4, near4⟩
      case measure => simp [intOf]; omega
    · obtain rfl : j = m := by omega
      have RV := Lib.hid (show Rs wr _ (emptL n j) from ⟨by have := Sl.ofOwn row.out; rwa [emptL_length]⟩)
      replace FV := Lib.hid (FV.out.call near)
      replace cb := cb.call near
      replace low := gCall low near
      replace PI := Lib.hid (PI.out.call near)
      replace SI := Lib.hid (SI.out.call near)
      clear row near ZR hlt
      go_wp2_with fail
      (with_reducible refine (sameRing_yes _ _ (emptL n j) _ ?_ RV.out).mono ?_)
      · have := FV.out
        exact this
      rintro e w5 ⟨rfl, hb⟩
      replace cb := cb.call hb
      replace low := gCall low hb
      replace PI := Lib.hid (PI.out.call hb)
      replace SI := Lib.hid (SI.out.call hb)
      clear hb FV RV
      have cb_0 := cb.at_ 0 rfl
      have cb_1 := cb.at_ 1 rfl
      have cb_2 := cb.at_ 2 rfl
      have cb_3 := cb.at_ 3 rfl
      go_wp2_with fail
      (with_reducible refine (RF.out _ (H.out.call low)).mono ?_); rintro e w6 ⟨rfl, hb⟩
      replace cb := cb.call hb
      replace low := gCall low hb
      replace PI := Lib.hid (PI.out.call hb)
      replace SI := Lib.hid (SI.out.call hb)
      clear hb
      clear cb_0 cb_1 cb_2 cb_3
      have cb_0 := cb.at_ 0 rfl
      have cb_1 := cb.at_ 1 rfl
      have cb_2 := cb.at_ 2 rfl
      have cb_3 := cb.at_ 3 rfl
      go_wp2_with fail
      (with_reducible refine (CK.out _ (H.out.call low)).mono ?_); rintro e w7 ⟨rfl, hb⟩
      replace cb := cb.call hb
      replace low := gCall low hb
      replace PI := Lib.hid (PI.out.call hb)
      replace SI := Lib.hid (SI.out.call hb)
      clear hb RF CK
      clear cb_0 cb_1 cb_2 cb_3
      by_cases hE : E = 0
      · have eX := Lib.hid (EX.out hE)
        have RGE := Lib.hid fun w hw => RG.out w hw hE
        have ME := Lib.hid (M8.out hE)
        clear EX EW RG M8
        subst hE
        rcases SI.out with ⟨h, _⟩ | ⟨_, rfl, rs, sl⟩
        · exact absurd rfl h
        have RS := Lib.hid rs
        have SL := Lib.hid sl
        clear rs sl SI
        obtain rfl : ms = l.length := by
          obtain ⟨_, A3, c3, e3, _⟩ := RS.out
          injection e3 with _ e4 _
          rw [e4, List.length_map]
        have cb_0 := cb.at_ 0 rfl
        have cb_1 := cb.at_ 1 rfl
        have cb_2 := cb.at_ 2 rfl
        have cb_3 := cb.at_ 3 rfl
        go_wp2_with fail
        (with_reducible refine (RGE.out _ (H.out.call low)).mono ?_); rintro e w8 ⟨⟨xv, lv, rfl, rx, sx⟩, hb⟩
        replace cb := cb.call hb
        replace low := gCall low hb
        replace PI := Lib.hid (PI.out.call hb)
        replace RS := Lib.hid (RS.out.call hb)
        replace SL := Lib.hid (SL.out.call hb)
        have RX := Lib.hid rx
        have SX := Lib.hid sx
        clear hb rx sx RGE
        clear cb_0 cb_1 cb_2 cb_3
        go_wp2_with fail
        (with_reducible refine (sameRing_yes _ _ _ _ RS.out RX.out).mono ?_); rintro e w9 ⟨rfl, hb⟩
        replace cb := cb.call hb
        replace low := gCall low hb
        replace PI := Lib.hid (PI.out.call hb)
        replace SL := Lib.hid (SL.out.call hb)
        replace SX := Lib.hid (SX.out.call hb)
        clear hb RS RX
        go_wp2_with fail
        (with_reducible refine (equalInts_yes _ _ _ _ _ SL.out SX.out).mono ?_); rintro e w10 ⟨rfl, hb⟩
        replace cb := cb.call hb
        replace low := gCall low hb
        replace PI := Lib.hid (PI.out.call hb)
        clear hb SL SX
        have cb_0 := cb.at_ 0 rfl
        by_cases hr : node < 0 ∨ n ≤ node ∨ t < 0 ∨ 9 < t
        · obtain rfl : X = 4 := by
            rw [eX.out, if_neg]
            rintro ⟨h1, h2⟩
            have := nodB_iff.1 h1
            have := waitB_iff.1 h2
            omega
          rcases PI.out with ⟨_, rfl, rfl, rfl, rfl⟩ | ⟨h, _⟩
          · clear PI UN RP eX
            by_cases r1 : node < 0
            · clear hr
              go_wp2_with fail
              go_ret
              exact ⟨rfl, low⟩
            · by_cases r2 : n ≤ node
              · have r2' : decide (n ≤ node) = true := decide_eq_true r2
                clear hr
                go_wp2_with fail
                go_ret
                exact ⟨rfl, low⟩
              · have r2' : decide (n ≤ node) = false := decide_eq_false r2
                by_cases r3 : t < 0
                · clear hr
                  go_wp2_with fail
                  go_ret
                  exact ⟨rfl, low⟩
                · have r4 : 9 < t := by omega
                  clear hr
                  go_wp2_with fail
                  go_ret
                  exact ⟨rfl, low⟩
          · cases h
        · have r1 : ¬ node < 0 := by omega
          have r2 : decide (n ≤ node) = false := decide_eq_false (by omega)
          have r2' : ¬ n ≤ node := by omega
          have r3 : ¬ t < 0 := by omega
          have r4 : ¬ 9 < t := by omega
          replace eX := Lib.hid (eX.out.trans (if_pos ⟨nodB_iff.2 (by omega), waitB_iff.2 (by omega)⟩))
          clear hr
          go_wp2_with fail
          (with_reducible refine (UN.out _ (H.out.call low)).mono ?_); rintro e w11 ⟨rfl, hb⟩
          replace low := gCall low hb
          replace PI := Lib.hid (PI.out.call hb)
          clear hb cb UN
          cases hf : filB l node
          · obtain rfl : X = 0 := by rw [eX.out, hf]; rfl
            rcases PI.out with ⟨h, _⟩ | ⟨_, rfl, rp⟩
            · exact absurd rfl h
            have RPI := Lib.hid rp
            have m1 := ME.out
            clear rp PI eX hf
            go_wp2_with fail
            (with_reducible refine (RP.out _ (H.out.call low) m1.1 m1.2).mono ?_); rintro e w12 ⟨⟨yv, rfl, ry⟩, hb⟩
            replace low := gCall low hb
            replace RPI := Lib.hid (RPI.out.call hb)
            have RY := Lib.hid ry
            generalize l.any (freS node) = Z at *
            clear hb ry RP m1
            go_wp2_with fail
            (with_reducible refine (sameRing_yes _ _ _ _ RPI.out RY.out).mono ?_); rintro e w13 ⟨rfl, hb⟩
            replace low := gCall low hb
            clear hb RPI RY
            go_wp2_with fail
            go_ret
            exact ⟨rfl, low⟩
          · obtain rfl : X = 6 := by rw [eX.out, hf]; rfl
            rcases PI.out with ⟨_, rfl, rfl, rfl, rfl⟩ | ⟨h, _⟩
            · clear PI eX hf RP
              go_wp2_with fail
              go_ret
              exact ⟨rfl, low⟩
            · cases h
      · obtain rfl : X = E := EW.out hE
        have hE' : (X != 0) = true := by simpa using hE
        rcases PI.out with ⟨_, rfl, rfl, rfl, rfl⟩ | ⟨h, _⟩
        · rcases SI.out with ⟨_, rfl, rfl⟩ | ⟨h, _⟩
          · clear PI SI hE EX EW RG UN RP
            go_wp2_with fail
            go_ret
            exact ⟨rfl, low⟩
          · exact absurd h hE
        · exact absurd h hE
end Go.Proofs.Ytiefeeondeablaa.ringTells
