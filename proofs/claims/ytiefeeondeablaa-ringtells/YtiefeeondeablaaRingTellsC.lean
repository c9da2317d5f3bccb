/-
Proved: the law 'RingTells' where the number of slots is too great.
-/
import Derived.Test.YtiefeeondeablaaRingTellsA
namespace Go.Proofs.Ytiefeeondeablaa.ringTells
open Go.ChangeShapes Go.WideShapes Go.ChangeAt Go.RowKit Go.Joins

set_option maxRecDepth 20000 in
set_option maxHeartbeats 4000000 in
theorem walk_many (n s y b k : Int) (v : Value) (l : List Sw) (node t : Int) (w : World) (h : Rs w v l) (hB : cfgB n s y b = true) (hk : 8 < k) :
    Calls Try.prog 3 #[cfg n s y b, .int .i64 k, v, .int .i64 node, .int .i64 t] w fun e w' => e = .returned (.bool true) ∧ Below w.heap.size w w' := by
  have CF := Lib.hid fun w => configFault_ok n s y b w hB
  have hc : cntE n s y b k = 4 := by unfold cntE; rw [if_neg (by omega)]
  have NW := Lib.hid fun w => ringNew_bad n s y b k w (by rw [hc]; decide)
  have H := Lib.hid h
  have PU := Lib.hid fun w hw => put_is n s y b v l node t w hw
  have SP := Lib.hid fun w hw => step_is n s y b v l w hw
  have LO := Lib.hid fun w => longest_any n s y b k w
  have RF := Lib.hid fun w hw => ringFault_any n s y b v l w hw
  have CK := Lib.hid fun w hw => ringCheck_any n s y b v l w hw
  have RG := Lib.hid fun w hw (hE : ringE n s y b l = 0) => refStep_any n s y b v l w hw hE
  have UN := Lib.hid fun w hw => refUnder_any v l node w hw
  have RP := Lib.hid fun w hw h0 h8 => refPut_any v l node t w hw h0 h8
  have EX := Lib.hid (rputE_right (n := n) (s := s) (y := y) (b := b) (l := l) (node := node) (t := t))
  have EW := Lib.hid (rputE_wrong (n := n) (s := s) (y := y) (b := b) (l := l) (node := node) (t := t))
  have M8 : ringE n s y b l = 0 → 0 < l.length ∧ l.length ≤ 8 := fun h => by
    obtain ⟨_, h1, h2, _⟩ := ringE_zero.1 h
    exact ⟨h1, h2⟩
  generalize ringE n s y b l = E at *
  generalize rputE n s y b l node t = X at *
  replace M8 := Lib.hid M8
  obtain ⟨A, c, rfl⟩ := h.shape
  clear h
  rw [hc, if_neg (by decide)] at LO
  have hk1 : ¬ k < 1 := by omega
  clear hc hB
  have low := Below.refl w.heap.size w
  have cb := boxNext low 23 #[.int .i64 n, .int .i64 s, .int .i64 y, .int .i64 b]
  replace low := gAlloc low (.cells #[.int .i64 n, .int .i64 s, .int .i64 y, .int .i64 b] 23)
  try simp only [World.size_alloc] at cb
  go_enter Try.func3, Try.ntmps3
  go_wp2_with fail
  (with_reducible refine (NW.out _).mono ?_); rintro e w1 ⟨rfl, hb⟩
  replace cb := cb.call hb
  replace low := gCall low hb
  clear hb
  have cb_0 := cb.at_ 0 rfl
  have cb_1 := cb.at_ 1 rfl
  have cb_2 := cb.at_ 2 rfl
  have cb_3 := cb.at_ 3 rfl
  go_wp2_with fail
  (with_reducible refine (PU.out _ (H.out.call low)).mono ?_); rintro e w2 ⟨⟨Ap, mp, cp, Bp, rfl, pu⟩, hb⟩
  replace cb := cb.call hb
  replace low := gCall low hb
  have PI := Lib.hid pu
  clear pu
  skip
  clear hb
  clear cb_0 cb_1 cb_2 cb_3
  have cb_0 := cb.at_ 0 rfl
  have cb_1 := cb.at_ 1 rfl
  have cb_2 := cb.at_ 2 rfl
  have cb_3 := cb.at_ 3 rfl
  go_wp2_with fail
  (with_reducible refine (SP.out _ (H.out.call low)).mono ?_); rintro e w3 ⟨⟨As, ms, cs, At, mt, ct, rfl, sp⟩, hb⟩
  replace cb := cb.call hb
  replace low := gCall low hb
  replace PI := Lib.hid (PI.out.call hb)
  have SI := Lib.hid sp
  clear sp
  skip
  clear hb
  clear cb_0 cb_1 cb_2 cb_3
  have cb_0 := cb.at_ 0 rfl
  have cb_1 := cb.at_ 1 rfl
  have cb_2 := cb.at_ 2 rfl
  have cb_3 := cb.at_ 3 rfl
  go_wp2_with fail
  (with_reducible refine (LO.out _).mono ?_); rintro e w4 ⟨rfl, hb⟩
  replace cb := cb.call hb
  replace low := gCall low hb
  replace PI := Lib.hid (PI.out.call hb)
  replace SI := Lib.hid (SI.out.call hb)
  skip
  clear hb
  clear cb_0 cb_1 cb_2 cb_3
  have cb_0 := cb.at_ 0 rfl
  have cb_1 := cb.at_ 1 rfl
  have cb_2 := cb.at_ 2 rfl
  have cb_3 := cb.at_ 3 rfl
  go_wp2_with fail
  (with_reducible refine (CF.out _).mono ?_); rintro e w5 ⟨rfl, hb⟩
  replace cb := cb.call hb
  replace low := gCall low hb
  replace PI := Lib.hid (PI.out.call hb)
  replace SI := Lib.hid (SI.out.call hb)
  skip
  clear hb
  clear cb_0 cb_1 cb_2 cb_3
  clear NW PU SP LO CF
  have cb_0 := cb.at_ 0 rfl
  have cb_1 := cb.at_ 1 rfl
  have cb_2 := cb.at_ 2 rfl
  have cb_3 := cb.at_ 3 rfl
  go_wp2_with fail
  (with_reducible refine (RF.out _ (H.out.call low)).mono ?_); rintro e w6 ⟨rfl, hb⟩
  replace cb := cb.call hb
  replace low := gCall low hb
  replace PI := Lib.hid (PI.out.call hb)
  replace SI := Lib.hid (SI.out.call hb)
  clear hb
  clear cb_0 cb_1 cb_2 cb_3
  have cb_0 := cb.at_ 0 rfl
  have cb_1 := cb.at_ 1 rfl
  have cb_2 := cb.at_ 2 rfl
  have cb_3 := cb.at_ 3 rfl
  go_wp2_with fail
  (with_reducible refine (CK.out _ (H.out.call low)).mono ?_); rintro e w7 ⟨rfl, hb⟩
  replace cb := cb.call hb
  replace low := gCall low hb
  replace PI := Lib.hid (PI.out.call hb)
  replace SI := Lib.hid (SI.out.call hb)
  clear hb RF CK
  clear cb_0 cb_1 cb_2 cb_3
  by_cases hE : E = 0
  · have eX := Lib.hid (EX.out hE)
    have RGE := Lib.hid fun w hw => RG.out w hw hE
    have ME := Lib.hid (M8.out hE)
    clear EX EW RG M8
    subst hE
    rcases SI.out with ⟨h, _⟩ | ⟨_, rfl, rs, sl⟩
    · exact absurd rfl h
    have RS := Lib.hid rs
    have SL := Lib.hid sl
    clear rs sl SI
    obtain rfl : ms = l.length := by
      obtain ⟨_, A3, c3, e3, _⟩ := RS.out
      injection e3 with _ e4 _
      rw [e4, List.length_map]
    have cb_0 := cb.at_ 0 rfl
    have cb_1 := cb.at_ 1 rfl
    have cb_2 := cb.at_ 2 rfl
    have cb_3 := cb.at_ 3 rfl
    go_wp2_with fail
    (with_reducible refine (RGE.out _ (H.out.call low)).mono ?_); rintro e w8 ⟨⟨xv, lv, rfl, rx, sx⟩, hb⟩
    replace cb := cb.call hb
    replace low := gCall low hb
    replace PI := Lib.hid (PI.out.call hb)
    replace RS := Lib.hid (RS.out.call hb)
    replace SL := Lib.hid (SL.out.call hb)
    have RX := Lib.hid rx
    have SX := Lib.hid sx
    clear hb rx sx RGE
    clear cb_0 cb_1 cb_2 cb_3
    go_wp2_with fail
    (with_reducible refine (sameRing_yes _ _ _ _ RS.out RX.out).mono ?_); rintro e w9 ⟨rfl, hb⟩
    replace cb := cb.call hb
    replace low := gCall low hb
    replace PI := Lib.hid (PI.out.call hb)
    replace SL := Lib.hid (SL.out.call hb)
    replace SX := Lib.hid (SX.out.call hb)
    clear hb RS RX
    go_wp2_with fail
    (with_reducible refine (equalInts_yes _ _ _ _ _ SL.out SX.out).mono ?_); rintro e w10 ⟨rfl, hb⟩
    replace cb := cb.call hb
    replace low := gCall low hb
    replace PI := Lib.hid (PI.out.call hb)
    clear hb SL SX
    have cb_0 := cb.at_ 0 rfl
    by_cases hr : node < 0 ∨ n ≤ node ∨ t < 0 ∨ 9 < t
    · obtain rfl : X = 4 := by
        rw [eX.out, if_neg]
        rintro ⟨h1, h2⟩
        have := nodB_iff.1 h1
        have := waitB_iff.1 h2
        omega
      rcases PI.out with ⟨_, rfl, rfl, rfl, rfl⟩ | ⟨h, _⟩
      · clear PI UN RP eX
        by_cases r1 : node < 0
        · clear hr
          go_wp2_with fail
          go_ret
          exact ⟨rfl, low⟩
        · by_cases r2 : n ≤ node
          · have r2' : decide (n ≤ node) = true := decide_eq_true r2
            clear hr
            go_wp2_with fail
            go_ret
            exact ⟨rfl, low⟩
          · have r2' : decide (n ≤ node) = false := decide_eq_false r2
            by_cases r3 : t < 0
            · clear hr
              go_wp2_with fail
              go_ret
              exact ⟨rfl, low⟩
            · have r4 : 9 < t := by omega
              clear hr
              go_wp2_with fail
              go_ret
              exact ⟨rfl, low⟩
      · cases h
    · have r1 : ¬ node < 0 := by omega
      have r2 : decide (n ≤ node) = false := decide_eq_false (by omega)
      have r2' : ¬ n ≤ node := by omega
      have r3 : ¬ t < 0 := by omega
      have r4 : ¬ 9 < t := by omega
      replace eX := Lib.hid (eX.out.trans (if_pos ⟨nodB_iff.2 (by omega), waitB_iff.2 (by omega)⟩))
      clear hr
      go_wp2_with fail
      (with_reducible refine (UN.out _ (H.out.call low)).mono ?_); rintro e w11 ⟨rfl, hb⟩
      replace low := gCall low hb
      replace PI := Lib.hid (PI.out.call hb)
      clear hb cb UN
      cases hf : filB l node
      · obtain rfl : X = 0 := by rw [eX.out, hf]; rfl
        rcases PI.out with ⟨h, _⟩ | ⟨_, rfl, rp⟩
        · exact absurd rfl h
        have RPI := Lib.hid rp
        have m1 := ME.out
        clear rp PI eX hf
        go_wp2_with fail
        (with_reducible refine (RP.out _ (H.out.call low) m1.1 m1.2).mono ?_); rintro e w12 ⟨⟨yv, rfl, ry⟩, hb⟩
        replace low := gCall low hb
        replace RPI := Lib.hid (RPI.out.call hb)
        have RY := Lib.hid ry
        generalize l.any (freS node) = Z at *
        clear hb ry RP m1
        go_wp2_with fail
        (with_reducible refine (sameRing_yes _ _ _ _ RPI.out RY.out).mono ?_); rintro e w13 ⟨rfl, hb⟩
        replace low := gCall low hb
        clear hb RPI RY
        go_wp2_with fail
        go_ret
        exact ⟨rfl, low⟩
      · obtain rfl : X = 6 := by rw [eX.out, hf]; rfl
        rcases PI.out with ⟨_, rfl, rfl, rfl, rfl⟩ | ⟨h, _⟩
        · clear PI eX hf RP
          go_wp2_with fail
          go_ret
          exact ⟨rfl, low⟩
        · cases h
  · obtain rfl : X = E := EW.out hE
    have hE' : (X != 0) = true := by simpa using hE
    rcases PI.out with ⟨_, rfl, rfl, rfl, rfl⟩ | ⟨h, _⟩
    · rcases SI.out with ⟨_, rfl, rfl⟩ | ⟨h, _⟩
      · clear PI SI hE EX EW RG UN RP
        go_wp2_with fail
        go_ret
        exact ⟨rfl, low⟩
      · exact absurd h hE
    · exact absurd h hE
end Go.Proofs.Ytiefeeondeablaa.ringTells
