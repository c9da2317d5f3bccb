/-
Proved: what the reference's VictimOf returns, for a tree that is right. Condition: the tree is right.
-/
import Derived.Test.YtmodajmjmdigfaaRefPlru3
namespace Go.Proofs.Ytmodajmjmdigfaa
open Go.ChangeShapes Go.WideShapes Go.ChangeAt Go.RowKit Go.Joins Go.Maps

/-- Does a bit lead to the way, while entries 'left' are still to come? -/
def okx (f : Int → Option Bool) (left : Lit → Bool) (x : Int) (bit : Bool) : Bool :=
  match f x with
  | some g => left (.int .i64 x) || (bit == g)
  | none => true

def okAll (f : Int → Option Bool) (left : Lit → Bool) (a b c : Bool) : Bool := okx f left 0 a && okx f left 1 b && okx f left 2 c

/-- Do all bits lead to way k? -/
def matchB (a b c : Bool) (n k : Int) : Bool := okAll (road n k) (fun _ => false) a b c

theorem okx_hit {f : Int → Option Bool} {left : Lit → Bool} {x : Int} {g : Bool} (h : f x = some g) (bit : Bool) : okx f (fun z => left z && !z.sameKey (.int .i64 x)) x bit = (bit == g) := by
  unfold okx
  simp [h, sameKey_int]

theorem okx_miss {f : Int → Option Bool} {left : Lit → Bool} {x y : Int} (h : y ≠ x) (bit : Bool) : okx f (fun z => left z && !z.sameKey (.int .i64 x)) y bit = okx f left y bit := by
  unfold okx
  cases e : f y with
  | none => rfl
  | some g => simp [sameKey_int, h]

theorem okx_left {f : Int → Option Bool} {left : Lit → Bool} {x : Int} (h : left (.int .i64 x) = true) (bit : Bool) : okx f left x bit = true := by
  unfold okx
  cases f x <;> simp [h]

theorem okAll_start {f : Int → Option Bool} {left : Lit → Bool} (h : ∀ x, left (.int .i64 x) = (f x).isSome) (a b c : Bool) : okAll f left a b c = true := by
  have k : ∀ x bit, okx f left x bit = true := by
    intro x bit
    unfold okx
    cases e : f x with
    | none => rfl
    | some g => simp [h, e]
  simp [okAll, k]

theorem okAll_end {f : Int → Option Bool} {left : Lit → Bool} (h : ∀ kl, left kl = false) (a b c : Bool) : okAll f left a b c = okAll f (fun _ => false) a b c := by
  have e : left = fun _ => false := funext h
  rw [e]

theorem okAll_step0 {f : Int → Option Bool} {left : Lit → Bool} {g : Bool} (h : f 0 = some g) (hl : left (.int .i64 0) = true) (a b c : Bool) : okAll f (fun z => left z && !z.sameKey (.int .i64 0)) a b c = (okAll f left a b c && (a == g)) := by
  unfold okAll
  rw [okx_hit h, okx_miss (by decide), okx_miss (by decide), okx_left hl]
  cases (a == g) <;> simp

theorem okAll_step1 {f : Int → Option Bool} {left : Lit → Bool} {g : Bool} (h : f 1 = some g) (hl : left (.int .i64 1) = true) (a b c : Bool) : okAll f (fun z => left z && !z.sameKey (.int .i64 1)) a b c = (okAll f left a b c && (b == g)) := by
  unfold okAll
  rw [okx_hit h, okx_miss (by decide), okx_miss (by decide), okx_left hl]
  cases (b == g) <;> simp

theorem okAll_step2 {f : Int → Option Bool} {left : Lit → Bool} {g : Bool} (h : f 2 = some g) (hl : left (.int .i64 2) = true) (a b c : Bool) : okAll f (fun z => left z && !z.sameKey (.int .i64 2)) a b c = (okAll f left a b c && (c == g)) := by
  unfold okAll
  rw [okx_hit h, okx_miss (by decide), okx_miss (by decide), okx_left hl]
  cases (c == g) <;> simp

theorem victim_least {a b c : Bool} {n : Int} (h : treeE a b c n = 0) : 0 ≤ victimN a b c n ∧ victimN a b c n < n ∧ matchB a b c n (victimN a b c n) = true ∧ ∀ k : Nat, (k : Int) < victimN a b c n → matchB a b c n k = false := by
  obtain ⟨hn1, hn4⟩ := treeE_range h
  have hn : n = 1 ∨ n = 2 ∨ n = 3 ∨ n = 4 := by omega
  have hv : victimN a b c n = 0 ∨ victimN a b c n = 1 ∨ victimN a b c n = 2 ∨ victimN a b c n = 3 := by
    unfold victimN
    cases a <;> cases b <;> cases c <;> (by_cases e : n ≤ 2) <;> simp [e]
  refine ⟨?_, ?_, ?_, ?_⟩
  · omega
  · rcases hn with rfl | rfl | rfl | rfl <;> (revert h; cases a <;> cases b <;> cases c <;> decide)
  · rcases hn with rfl | rfl | rfl | rfl <;> (revert h; cases a <;> cases b <;> cases c <;> decide)
  · intro k hk
    have hk' : k = 0 ∨ k = 1 ∨ k = 2 := by omega
    rcases hk' with rfl | rfl | rfl <;> rcases hn with rfl | rfl | rfl | rfl <;> (revert h hk; cases a <;> cases b <;> cases c <;> decide)

set_option maxHeartbeats 4000000 in
theorem victimOf_ok (a b c : Bool) (n : Int) (w : World) (h : treeE a b c n = 0) :
    Calls Try.prog 88 #[tree a b c, .int .i64 n] w fun e w' => e = .returned (.int .i64 (victimN a b c n)) ∧ Below w.heap.size w w' := by
  obtain ⟨hn1, hn4⟩ := treeE_range h
  obtain ⟨v0, v1, v2, v3⟩ := victim_least h
  have V2 := Lib.hid v2
  have V3 := Lib.hid v3
  clear h v2 v3
  generalize victimN a b c n = v at *
  go_enter Try.func88, Try.ntmps88
  go_wp2_with fail
  refine (bits_any _ _ _ _).mono ?_; rintro e w1 ⟨rfl, hb⟩
  have low1 : Below w.heap.size w w1 := gCall (gAlloc (Below.refl _ _) _) hb
  have z1 := low1.size
  clear hb
  go_wp2_with fail
  have arr1 := Box.new w1 129 #[.bool a, .bool b, .bool c]
  have low1' : Below w.heap.size w (w1.alloc (.cells #[.bool a, .bool b, .bool c] 129)) := gAlloc low1 _
  go_loopw [13] (fun i wr => ∃ k : Nat, (k : Int) ≤ v ∧ i = .int .i64 k ∧ Box wr w1.heap.size 129 #[.bool a, .bool b, .bool c] ∧ Below w.heap.size w wr) (fun i _ => (n - intOf i).toNat)
  case atStart => exact ⟨0, by omega, rfl, arr1, low1'⟩
  case round =>
    obtain ⟨k, hk, rfl, arr, low⟩ := hrel
    clear arr1 low1' low1
    have hkn : (k : Int) < n := by omega
    go_wp2_with fail
    with_reducible refine (road_any _ _ _ hn1 hn4).mono ?_
    rintro e w2 ⟨_, rfl, ⟨mb, D, rfl, hmb, own, isr⟩, hb2⟩
    have arr2 := arr.below hb2 arr.lt
    have low2 := gCall low hb2
    have za := arr.lt
    clear arr low hb2
    go_wp2_with (at_range; refine wpList_range_own _ rfl _ 131 rfl 3 4 lawK Try.underlying131 _ mb 2 _ rfl own ?_)
    intro w3 rg3 g3 s3
    have low3 : Below w.heap.size w w3 := low2.grown g3 low2.size (fun j e => by cases e)
    have arr3 := arr2.grown g3 (by simp)
    have zr : w1.heap.size < w2.heap.size := arr2.lt
    clear low2 arr2 own g3 s3
    generalize w2.heap.size = r at *
    have ISR := Lib.hid isr
    clear isr
    go_wp2_with fail
    go_loopw [7] (fun o ws => ∃ (left : Lit → Bool) (cnt : Nat), ws.ranges Try.prog 3 (plainElem Try.prog 4) mb r 2 D left cnt ∧ (∀ x, left (.int .i64 x) = true → (road n k x).isSome = true) ∧
        o = .bool (okAll (road n k) left a b c) ∧ Box ws w1.heap.size 129 #[.bool a, .bool b, .bool c] ∧ Below w.heap.size w ws) (fun _ ws => ws.rangeLeft mb r)
    case atStart =>
      have hl : ∀ x, Maps.has D (.int .i64 x) = (road n k x).isSome := fun x => (ISR.out.2 x).1
      exact ⟨_, _, rg3, fun x hx => by rw [← hl]; exact hx, by rw [okAll_start hl], arr3, low3⟩
    case round =>
      obtain ⟨left, cnt, rg, dom, rfl, arr, low⟩ := hrel
      clear rg3 low3 arr3
      have DOM := Lib.hid dom
      clear dom
      go_wp2_with (at_next; refine wpList_next_ib _ rfl _ rfl 3 4 lawK Try.underlying3 Try.underlying4 mb r 2 _ _ _ rfl rg ?_ ?_)
      · intro hl0
        rw [okAll_end hl0]
        have e1 : okAll (road n k) (fun _ => false) a b c = matchB a b c n k := rfl
        rw [e1]
        clear hl0 e1
        by_cases hkv : (k : Int) = v
        · subst hkv
          rw [V2.out]
          go_wp2_with fail
          go_ret
          exact ⟨rfl, low⟩
        · rw [V3.out k (by omega)]
          go_wp2_with fail
          go_roundw
          case rel => exact ⟨k + 1, by omega, by go_num, arr, low⟩
          case measure => simp [intOf]; omega
      · intro x gv w4 cnt4 hlx hat rg4 hlt g4 hen
        obtain ⟨g, rfl, hat⟩ := hat
        have hx := road_at ISR.out (DOM.out x hlx) hat
        have arr4 := arr.grown g4 (by intro e; injection e; omega)
        have low4 : Below w.heap.size w w4 := low.grown g4 low.size (fun j e => by cases e; omega)
        have dom4 : ∀ z, (left (.int .i64 z) && !(Lit.int .i64 z).sameKey (.int .i64 x)) = true → (road n k z).isSome = true := fun z hz => DOM.out z (by simp at hz; exact hz.1)
        have d0 : w4.cell? ⟨w1.heap.size, 0, none⟩ = some (.bool a) := arr4.cell 0
        have d1 : w4.cell? ⟨w1.heap.size, 1, none⟩ = some (.bool b) := arr4.cell 1
        have d2 : w4.cell? ⟨w1.heap.size, 2, none⟩ = some (.bool c) := arr4.cell 2
        have M4 := Lib.hid (And.intro rg4.left_eq (And.intro rg.left_eq hlt))
        have D4 := Lib.hid dom4
        have HL := Lib.hid hlx
        clear hat hlx hlt g4 arr low rg dom4
        rcases road_dom (by rw [hx]; rfl) with rfl | rfl | rfl
        all_goals
          have HX := Lib.hid hx
          clear hx
          generalize ho : okAll (road n k) left a b c = o
          have HO := Lib.hid ho
          clear ho
          cases o
          all_goals
            go_wp2_with fail
            go_roundw
            case rel =>
              refine ⟨_, _, rg4, D4.out, ?_, arr4, low4⟩
              first
                | (rw [okAll_step0 HX.out HL.out, HO.out]; rfl)
                | (rw [okAll_step1 HX.out HL.out, HO.out]; rfl)
                | (rw [okAll_step2 HX.out HL.out, HO.out]; rfl)
            case measure =>
              obtain ⟨m1, m2, m3⟩ := M4.out
              rw [m1, m2]
              exact m3
end Go.Proofs.Ytmodajmjmdigfaa
