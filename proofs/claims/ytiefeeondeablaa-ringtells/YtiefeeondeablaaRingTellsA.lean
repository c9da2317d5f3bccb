/-
Proved: what New, Put and Step give, as the law 'RingTells' asks for them; the law where the configuration is wrong.
-/
import Derived.Test.YtiefeeondeablaaRefRing2
import Derived.Test.YtiefeeondeablaaRefRing3
import Derived.Test.YtiefeeondeablaaIntsEqual
namespace Go.Proofs.Ytiefeeondeablaa.ringTells
open Go.ChangeShapes Go.WideShapes Go.ChangeAt Go.RowKit Go.Joins

/-- What Put gives: E is the error of the ring, X that of Put. -/
def PutIs (_n : Int) (l : List Sw) (node t _E X : Int) (A : Option Addr) (m c : Nat) (B : Bool) (w : World) : Prop :=
  (X ≠ 0 ∧ A = none ∧ m = 0 ∧ c = 0 ∧ B = false) ∨ (X = 0 ∧ B = l.any (freS node) ∧ Rs w (.slice A m c) (putR l node t))
theorem PutIs.call {n : Int} {l : List Sw} {node t E X : Int} {A : Option Addr} {m c : Nat} {B : Bool} {w w' : World} (h : PutIs n l node t E X A m c B w) (hb : Below w.heap.size w w') : PutIs n l node t E X A m c B w' := by
  rcases h with h | ⟨h1, h2, h3⟩
  · exact .inl h
  · exact .inr ⟨h1, h2, h3.call hb⟩
theorem put_is (n s y b : Int) (v : Value) (l : List Sw) (node t : Int) (w : World) (h : Rs w v l) :
    Calls Try.prog 7 #[cfg n s y b, v, .int .i64 node, .int .i64 t] w fun e w' =>
      (∃ A m c B, e = .returned (.tuple #[.slice A m c, .bool B, .int .i64 (rputE n s y b l node t)]) ∧ PutIs n l node t (ringE n s y b l) (rputE n s y b l node t) A m c B w') ∧ Below w.heap.size w w' := by
  by_cases hE : rputE n s y b l node t = 0
  · refine (ringPut_ok n s y b v l node t w h hE).mono ?_
    rintro e w' ⟨⟨v', rfl, f⟩, hb⟩
    obtain ⟨A, c, rfl⟩ := f.shape
    rw [hE]
    exact ⟨⟨A, _, c, _, rfl, .inr ⟨rfl, rfl, f.rs⟩⟩, hb⟩
  · refine (ringPut_bad n s y b v l node t w h hE).mono ?_
    rintro e w' ⟨rfl, hb⟩
    exact ⟨⟨none, 0, 0, false, rfl, .inl ⟨hE, rfl, rfl, rfl, rfl⟩⟩, hb⟩
/-- What Step gives. -/
def StepIs (n : Int) (l : List Sw) (E : Int) (A : Option Addr) (m c : Nat) (A2 : Option Addr) (m2 c2 : Nat) (w : World) : Prop :=
  (E ≠ 0 ∧ m = 0 ∧ m2 = 0) ∨
    (E = 0 ∧ m2 = (tolL (backL n l) 8).length ∧ Rs w (.slice A m c) (l.map (advS n)) ∧ Sl w w.heap.size 1 (.slice A2 m2 c2) (tolL (backL n l) 8).length ((tolL (backL n l) 8).map (Value.int .i64)))
theorem StepIs.call {n : Int} {l : List Sw} {E : Int} {A : Option Addr} {m c : Nat} {A2 : Option Addr} {m2 c2 : Nat} {w w' : World} (h : StepIs n l E A m c A2 m2 c2 w) (hb : Below w.heap.size w w') : StepIs n l E A m c A2 m2 c2 w' := by
  rcases h with h | ⟨h1, h2, h3, h4⟩
  · exact .inl h
  · exact .inr ⟨h1, h2, h3.call hb, h4.call hb⟩
theorem step_is (n s y b : Int) (v : Value) (l : List Sw) (w : World) (h : Rs w v l) :
    Calls Try.prog 8 #[cfg n s y b, v] w fun e w' =>
      (∃ A m c A2 m2 c2, e = .returned (.tuple #[.slice A m c, .slice A2 m2 c2, .int .i64 (ringE n s y b l)]) ∧ StepIs n l (ringE n s y b l) A m c A2 m2 c2 w') ∧ Below w.heap.size w w' := by
  by_cases hE : ringE n s y b l = 0
  · refine (ringStep_ok n s y b v l w h hE).mono ?_
    rintro e w' ⟨⟨v', bv, ts, rfl, f, hp, hu, row⟩, hb⟩
    obtain ⟨g1, _, _, ok⟩ := ringE_zero.1 hE
    have := cfgB_iff.1 g1
    obtain rfl := told_eq ok (by omega) hp hu
    obtain ⟨A, c, rfl⟩ := f.shape
    have sl := Sl.ofOwn row
    obtain ⟨A2, c2, rfl⟩ : ∃ A c, bv = .slice A (tolL (backL n l) 8).length c := by obtain ⟨_, A, c, e, _⟩ := sl; exact ⟨A, c, e⟩
    rw [hE]
    exact ⟨⟨A, _, c, A2, _, c2, rfl, .inr ⟨rfl, rfl, f.rs, sl⟩⟩, hb⟩
  · refine (ringStep_bad n s y b v l w h hE).mono ?_
    rintro e w' ⟨rfl, hb⟩
    exact ⟨⟨none, 0, 0, none, 0, 0, rfl, .inl ⟨hE, rfl, rfl⟩⟩, hb⟩

/-- The error of Put, of a right ring. -/
theorem rputE_right {n s y b : Int} {l : List Sw} {node t : Int} (h : ringE n s y b l = 0) : rputE n s y b l node t = if nodB n node = true ∧ waitB t = true then (if filB l node = true then 6 else 0) else 4 := by
  unfold rputE
  rw [if_pos h]
theorem rputE_wrong {n s y b : Int} {l : List Sw} {node t : Int} (h : ringE n s y b l ≠ 0) : rputE n s y b l node t = ringE n s y b l := by
  unfold rputE
  rw [if_neg h]

set_option maxRecDepth 20000 in
set_option maxHeartbeats 4000000 in
theorem walk_bad (n s y b k : Int) (v : Value) (l : List Sw) (node t : Int) (w : World) (h : Rs w v l) (hB : cfgB n s y b = false) :
    Calls Try.prog 3 #[cfg n s y b, .int .i64 k, v, .int .i64 node, .int .i64 t] w fun e w' => e = .returned (.bool true) ∧ Below w.heap.size w w' := by
  have CF := Lib.hid fun w => configFault_bad n s y b w hB
  have hc : cntE n s y b k = 4 := by unfold cntE; rw [if_neg (by rw [hB]; simp)]
  have hE : ringE n s y b l ≠ 0 := fun h => by
    have := (ringE_zero.1 h).1
    rw [hB] at this
    cases this
  have NW := Lib.hid fun w => ringNew_bad n s y b k w (by rw [hc]; decide)
  have H := Lib.hid h
  have PU := Lib.hid fun w hw => put_is n s y b v l node t w hw
  have SP := Lib.hid fun w hw => step_is n s y b v l w hw
  have LO := Lib.hid fun w => longest_any n s y b k w
  have RF := Lib.hid fun w hw => ringFault_any n s y b v l w hw
  have CK := Lib.hid fun w hw => ringCheck_any n s y b v l w hw
  have RG := Lib.hid fun w hw (hE : ringE n s y b l = 0) => refStep_any n s y b v l w hw hE
  have UN := Lib.hid fun w hw => refUnder_any v l node w hw
  have RP := Lib.hid fun w hw h0 h8 => refPut_any v l node t w hw h0 h8
  have EX := Lib.hid (rputE_right (n := n) (s := s) (y := y) (b := b) (l := l) (node := node) (t := t))
  have EW := Lib.hid (rputE_wrong (n := n) (s := s) (y := y) (b := b) (l := l) (node := node) (t := t))
  have M8 : ringE n s y b l = 0 → 0 < l.length ∧ l.length ≤ 8 := fun h => by
    obtain ⟨_, h1, h2, _⟩ := ringE_zero.1 h
    exact ⟨h1, h2⟩
  generalize ringE n s y b l = E at *
  generalize rputE n s y b l node t = X at *
  replace M8 := Lib.hid M8
  obtain ⟨A, c, rfl⟩ := h.shape
  clear h
  rw [hc, if_neg (by decide)] at LO
  clear hc hB
  have HE := Lib.hid hE
  clear hE
  have low := Below.refl w.heap.size w
  have cb := boxNext low 23 #[.int .i64 n, .int .i64 s, .int .i64 y, .int .i64 b]
  replace low := gAlloc low (.cells #[.int .i64 n, .int .i64 s, .int .i64 y, .int .i64 b] 23)
  try simp only [World.size_alloc] at cb
  go_enter Try.func3, Try.ntmps3
  go_wp2_with fail
  (with_reducible refine (NW.out _).mono ?_); rintro e w1 ⟨rfl, hb⟩
  replace cb := cb.call hb
  replace low := gCall low hb
  clear hb
  have cb_0 := cb.at_ 0 rfl
  have cb_1 := cb.at_ 1 rfl
  have cb_2 := cb.at_ 2 rfl
  have cb_3 := cb.at_ 3 rfl
  go_wp2_with fail
  (with_reducible refine (PU.out _ (H.out.call low)).mono ?_); rintro e w2 ⟨⟨Ap, mp, cp, Bp, rfl, pu⟩, hb⟩
  replace cb := cb.call hb
  replace low := gCall low hb
  have PI := Lib.hid pu
  clear pu
  skip
  clear hb
  clear cb_0 cb_1 cb_2 cb_3
  have cb_0 := cb.at_ 0 rfl
  have cb_1 := cb.at_ 1 rfl
  have cb_2 := cb.at_ 2 rfl
  have cb_3 := cb.at_ 3 rfl
  go_wp2_with fail
  (with_reducible refine (SP.out _ (H.out.call low)).mono ?_); rintro e w3 ⟨⟨As, ms, cs, At, mt, ct, rfl, sp⟩, hb⟩
  replace cb := cb.call hb
  replace low := gCall low hb
  replace PI := Lib.hid (PI.out.call hb)
  have SI := Lib.hid sp
  clear sp
  skip
  clear hb
  clear cb_0 cb_1 cb_2 cb_3
  have cb_0 := cb.at_ 0 rfl
  have cb_1 := cb.at_ 1 rfl
  have cb_2 := cb.at_ 2 rfl
  have cb_3 := cb.at_ 3 rfl
  go_wp2_with fail
  (with_reducible refine (LO.out _).mono ?_); rintro e w4 ⟨rfl, hb⟩
  replace cb := cb.call hb
  replace low := gCall low hb
  replace PI := Lib.hid (PI.out.call hb)
  replace SI := Lib.hid (SI.out.call hb)
  skip
  clear hb
  clear cb_0 cb_1 cb_2 cb_3
  have cb_0 := cb.at_ 0 rfl
  have cb_1 := cb.at_ 1 rfl
  have cb_2 := cb.at_ 2 rfl
  have cb_3 := cb.at_ 3 rfl
  go_wp2_with fail
  (with_reducible refine (CF.out _).mono ?_); rintro e w5 ⟨rfl, hb⟩
  replace cb := cb.call hb
  replace low := gCall low hb
  replace PI := Lib.hid (PI.out.call hb)
  replace SI := Lib.hid (SI.out.call hb)
  skip
  clear hb
  clear cb_0 cb_1 cb_2 cb_3
  clear NW PU SP LO CF
  have hE := HE.out
  clear HE
  have cb_0 := cb.at_ 0 rfl
  have cb_1 := cb.at_ 1 rfl
  have cb_2 := cb.at_ 2 rfl
  have cb_3 := cb.at_ 3 rfl
  go_wp2_with fail
  (with_reducible refine (RF.out _ (H.out.call low)).mono ?_); rintro e w6 ⟨rfl, hb⟩
  replace cb := cb.call hb
  replace low := gCall low hb
  replace PI := Lib.hid (PI.out.call hb)
  replace SI := Lib.hid (SI.out.call hb)
  clear hb
  clear cb_0 cb_1 cb_2 cb_3
  have cb_0 := cb.at_ 0 rfl
  have cb_1 := cb.at_ 1 rfl
  have cb_2 := cb.at_ 2 rfl
  have cb_3 := cb.at_ 3 rfl
  go_wp2_with fail
  (with_reducible refine (CK.out _ (H.out.call low)).mono ?_); rintro e w7 ⟨rfl, hb⟩
  replace cb := cb.call hb
  replace low := gCall low hb
  replace PI := Lib.hid (PI.out.call hb)
  replace SI := Lib.hid (SI.out.call hb)
  clear hb RF CK
  clear cb_0 cb_1 cb_2 cb_3
  obtain rfl : X = E := EW.out hE
  have hE' : (X != 0) = true := by simpa using hE
  rcases PI.out with ⟨_, rfl, rfl, rfl, rfl⟩ | ⟨h, _⟩
  · rcases SI.out with ⟨_, rfl, rfl⟩ | ⟨h, _⟩
    · clear PI SI hE EX EW RG UN RP
      go_wp2_with fail
      go_ret
      exact ⟨rfl, low⟩
    · exact absurd h hE
  · exact absurd h hE
end Go.Proofs.Ytiefeeondeablaa.ringTells
