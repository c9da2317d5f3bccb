/-
Proved: what the reference's Touched and VictimOf return, for a tree that is right. Condition: the tree is right and the way is in range.
-/
import Derived.Test.YtmodajmjmdigfaaRefPlru2
namespace Go.Proofs.Ytmodajmjmdigfaa
open Go.ChangeShapes Go.WideShapes Go.ChangeAt Go.RowKit Go.Joins Go.Maps

theorem grownSet (w : World) (p : Addr) (u : Value) : w.grownBy (w.setCell p u) (some p.block) :=
  ⟨rfl, rfl, rfl, by simp [World.setCell], fun k _ hne => Below.heap_setCell w p u k (fun e => hne (by rw [e]))⟩

theorem plainElem_bool_shape {P : Program} {e : TypeId} (he : P.underlying e = some .bool) {v : Value} {z : DataW Unit × List MemPlace} (h : plainElem P e v = some z) : ∃ a, v = .bool a ∧ z = (.lit (.bool a), []) := by
  unfold plainElem at h
  rw [he] at h
  cases v <;> simp at h
  exact ⟨_, rfl, h.symm⟩

/-- The value that a map as read has at an int is this bool. -/
def BoolAt (D : DataW Unit) (x : Int) (v : Value) : Prop := ∃ c, v = .bool c ∧ ∀ zd, D.atKey (.int .i64 x) zd = .lit (.bool c)

/-- The step of a range over a map of bools that ints lead to. -/
theorem wpList_next_ib {P : Program} (w : World) {ops : Array Oper} {rest : List Oper} {o : Oper} {a : Act} {Q : Exit → Act → World → Prop} (hg : o.guard = none) (it : Operand) (hop : o.op = Op.next it false) (k e : TypeId) (K : Keyed P k)
    (hk : P.underlying k = some (.int .i64)) (he : P.underlying e = some .bool) (b r n : Nat) (D : DataW Unit) (left : Lit → Bool) (cnt : Nat)
    (hit : a.eval it = .pointer (some ⟨r, 0, none⟩)) (h : w.ranges P k (plainElem P e) b r n D left cnt)
    (hDone : (∀ kl, left kl = false) → wpList P ops Q rest (a.put o.dst (.tuple #[.bool false])) w)
    (hMore : ∀ (x : Int) (cv : Value) (w' : World) (cnt' : Nat), left (.int .i64 x) = true → BoolAt D x cv → w'.ranges P k (plainElem P e) b r n D (fun z => left z && !z.sameKey (.int .i64 x)) cnt' → cnt' < cnt →
      w.grownBy w' (some r) → (Instr.entry (.pointer (some ⟨r, 0, none⟩))).run P w' = .ok (.tuple #[.int .i64 x, cv]) w' → wpList P ops Q rest (a.put o.dst (.tuple #[.bool true, .int .i64 x, cv])) w') :
    wpList P ops Q (o :: rest) a w :=
  wpList_next_ranges w hg it hop k K (plainElem P e) (Value.int .i64) Value.bool (fun key kl hkey => by obtain ⟨x, rfl, _⟩ := Maps.keyOf_int_inv hk hkey; exact ⟨x, rfl⟩) (fun v y hv => by obtain ⟨c, rfl, _⟩ := plainElem_bool_shape he hv; exact ⟨c, rfl⟩)
    b r n D left cnt hit h (fun _ h => hDone h) (fun x c kl y w' cnt' hkey hlk hv hat hrg hlt hgr _ hen => by
      obtain ⟨x', ex, rfl, _⟩ := Maps.keyOf_int_inv hk hkey
      cases ex
      obtain ⟨c', ec, rfl⟩ := plainElem_bool_shape he hv
      cases ec
      exact hMore x (.bool c) w' cnt' hlk ⟨c, rfl, hat⟩ hrg hlt hgr hen)

theorem road_dom {n k x : Int} (h : (road n k x).isSome = true) : x = 0 ∨ x = 1 ∨ x = 2 := by
  unfold road at h
  split at h
  · split at h <;> simp_all
  · split at h
    · split at h
      · simp_all
      · split at h
        · split at h <;> simp_all
        · split at h
          · rename_i hh; exact Or.inr (Or.inr hh.2)
          · simp at h
    · simp at h

theorem road_at {D : DataW Unit} {f : Int → Option Bool} (h : IsRoad D f) {x : Int} {c : Bool} (hs : (f x).isSome = true) (hat : ∀ zd, D.atKey (.int .i64 x) zd = .lit (.bool c)) : f x = some c := by
  cases e : f x with
  | none => rw [e] at hs; cases hs
  | some g =>
    have := (h.2 x).2 g e (.lit (.bool c))
    rw [hat] at this
    injection this with this
    injection this with this
    rw [this]

theorem sameKey_int (x y : Int) : (Lit.int .i64 x).sameKey (.int .i64 y) = decide (x = y) := by
  by_cases e : x = y
  · subst e; simp [Lit.sameKey]
  · rw [sameKey_ne (by intro k; injection k with _ k; exact e k)]; simp [e]

/-- What a bit is while entries 'left' are still to come. -/
def mix (f : Int → Option Bool) (left : Lit → Bool) (x : Int) (old : Bool) : Bool :=
  match f x with
  | some g => if left (.int .i64 x) then old else !g
  | none => old

theorem mix_start {f : Int → Option Bool} {left : Lit → Bool} (h : ∀ x, left (.int .i64 x) = (f x).isSome) (x : Int) (old : Bool) : mix f left x old = old := by
  unfold mix
  cases e : f x with
  | none => rfl
  | some g => simp [h, e]

theorem mix_end {f : Int → Option Bool} {left : Lit → Bool} (h : ∀ kl, left kl = false) (x : Int) (old : Bool) : mix f left x old = match f x with | some g => !g | none => old := by
  unfold mix
  cases e : f x with
  | none => rfl
  | some g => simp [h]

theorem mix_hit {f : Int → Option Bool} {left : Lit → Bool} {x : Int} {g : Bool} (h : f x = some g) (old : Bool) : mix f (fun z => left z && !z.sameKey (.int .i64 x)) x old = !g := by
  unfold mix
  simp [h, sameKey_int]

theorem mix_miss {f : Int → Option Bool} {left : Lit → Bool} {x y : Int} (h : y ≠ x) (old : Bool) : mix f (fun z => left z && !z.sameKey (.int .i64 x)) y old = mix f left y old := by
  unfold mix
  cases e : f y with
  | none => rfl
  | some g => simp [sameKey_int, h]

/-- The tree whose bits on the road are set. -/
def touchR (a b c : Bool) (n k : Int) : Bool × Bool × Bool :=
  (match road n k 0 with | some g => !g | none => a, match road n k 1 with | some g => !g | none => b, match road n k 2 with | some g => !g | none => c)

theorem touchR_eq {a b c : Bool} {n k : Int} (h : treeE a b c n = 0) (h0 : 0 ≤ k) (h1 : k < n) : touchR a b c n k = touchT a b c n k := by
  obtain ⟨hn1, hn4⟩ := treeE_range h
  have hn : n = 1 ∨ n = 2 ∨ n = 3 ∨ n = 4 := by omega
  have hk : k = 0 ∨ k = 1 ∨ k = 2 ∨ k = 3 := by omega
  rcases hn with rfl | rfl | rfl | rfl <;> rcases hk with rfl | rfl | rfl | rfl <;> first | omega | (revert h; cases a <;> cases b <;> cases c <;> decide)

set_option maxHeartbeats 4000000 in
theorem touched_road (a b c : Bool) (n k : Int) (w : World) (h1 : 1 ≤ n) (h4 : n ≤ 4) :
    Calls Try.prog 62 #[tree a b c, .int .i64 n, .int .i64 k] w fun e w' => e = .returned (treeOf (touchR a b c n k)) ∧ Below w.heap.size w w' := by
  go_enter Try.func62, Try.ntmps62
  go_wp2_with fail
  refine (bits_any _ _ _ _).mono ?_; rintro e w1 ⟨rfl, hb⟩
  have low1 : Below w.heap.size w w1 := gCall (gAlloc (gAlloc (Below.refl _ _) _) _) hb
  have res1 : Box w1 (w.heap.size + 1) 24 #[.bool false, .bool false, .bool false] := by
    have := Box.new (w.alloc (.cells #[.bool a, .bool b, .bool c] 24)) 24 #[.bool false, .bool false, .bool false]
    simp only [World.size_alloc] at this
    exact this.below hb (by simp)
  clear hb
  go_wp2_with fail
  with_reducible refine (road_any _ _ _ h1 h4).mono ?_
  rintro e w2 ⟨v, rfl, ⟨mb, D, rfl, hmb, own, isr⟩, hb2⟩
  have low2 : Below w.heap.size w w2 := gCall (gAlloc low1 _) hb2
  have arr2 : Box w2 w1.heap.size 129 #[.bool a, .bool b, .bool c] := (Box.new w1 129 _).below hb2 (by simp)
  have res2 := (res1.alloc (.cells #[.bool a, .bool b, .bool c] 129)).below hb2 (by have := res1.lt; simp; omega)
  simp only [World.size_alloc] at hmb
  have z1 : w.heap.size + 1 < w1.heap.size := res1.lt
  clear low1 res1 hb2
  go_wp2_with (at_range; refine wpList_range_own _ rfl _ 131 rfl 3 4 lawK Try.underlying131 _ mb 2 _ rfl own ?_)
  intro w3 rg3 g3 s3
  have low3 : Below w.heap.size w w3 := low2.grown g3 low2.size (fun j e => by cases e)
  have arr3 := arr2.grown g3 (by simp)
  have res3 := res2.grown g3 (by simp)
  have z2 := low2.size
  have zr : w1.heap.size < w2.heap.size := arr2.lt
  clear low2 arr2 res2 own g3 s3
  generalize w2.heap.size = r at *
  have ISR := Lib.hid isr
  clear isr
  go_wp2_with fail
  go_loopw [8] (fun _ wr => ∃ (left : Lit → Bool) (cnt : Nat), wr.ranges Try.prog 3 (plainElem Try.prog 4) mb r 2 D left cnt ∧ (∀ x, left (.int .i64 x) = true → (road n k x).isSome = true) ∧
      Box wr w1.heap.size 129 #[.bool (mix (road n k) left 0 a), .bool (mix (road n k) left 1 b), .bool (mix (road n k) left 2 c)] ∧ Box wr (w.heap.size + 1) 24 #[.bool false, .bool false, .bool false] ∧ Below w.heap.size w wr) (fun _ wr => wr.rangeLeft mb r)
  case atStart =>
    have hl : ∀ x, Maps.has D (.int .i64 x) = (road n k x).isSome := fun x => (ISR.out.2 x).1
    refine ⟨_, _, rg3, fun x hx => by rw [← hl]; exact hx, ?_, res3, low3⟩
    rw [mix_start hl, mix_start hl, mix_start hl]
    exact arr3
  case round =>
    obtain ⟨left, cnt, rg, dom, arr, res, low⟩ := hrel
    clear rg3 low3 arr3 res3
    have DOM := Lib.hid dom
    clear dom
    go_wp2_with (at_next; refine wpList_next_ib _ rfl _ rfl 3 4 lawK Try.underlying3 Try.underlying4 mb r 2 _ _ _ rfl rg ?_ ?_)
    · intro hl0
      have HL := Lib.hid hl0
      clear hl0
      have e0 := arr.cell 0
      have e1 := arr.cell 1
      have e2 := arr.cell 2
      rw [mix_end HL.out, mix_end HL.out, mix_end HL.out] at e0 e1 e2
      have f0 := res.frozen 0
      have f1 := res.frozen 1
      have f2 := res.frozen 2
      have r0 : wr.cell? ⟨w.heap.size + 1, 0, none⟩ = some (.bool false) := res.cell 0
      have r1 : wr.cell? ⟨w.heap.size + 1, 1, none⟩ = some (.bool false) := res.cell 1
      have r2 : wr.cell? ⟨w.heap.size + 1, 2, none⟩ = some (.bool false) := res.cell 2
      obtain ⟨x, hx⟩ : ∃ x, (match road n k 0 with | some g => !g | none => a) = x := ⟨_, rfl⟩
      obtain ⟨y, hy⟩ : ∃ x, (match road n k 1 with | some g => !g | none => b) = x := ⟨_, rfl⟩
      obtain ⟨z, hz⟩ : ∃ x, (match road n k 2 with | some g => !g | none => c) = x := ⟨_, rfl⟩
      have HR := Lib.hid (show touchR a b c n k = (x, y, z) by rw [touchR, hx, hy, hz])
      rw [hx, hy, hz] at e0 e1 e2
      have e0' : wr.cell? ⟨w1.heap.size, 0, none⟩ = some (.bool x) := e0
      have e1' : wr.cell? ⟨w1.heap.size, 1, none⟩ = some (.bool y) := e1
      have e2' : wr.cell? ⟨w1.heap.size, 2, none⟩ = some (.bool z) := e2
      clear hx hy hz e0 e1 e2
      go_wp2_with fail
      refine bodyPost_ret (v := treeOf (x, y, z)) (by simp [results, Try.results62, go_sem, r0, r1, r2]) rfl ⟨by rw [HR.out], ?_⟩
      exact gSet (gSet (gSet low (by simp) _) (by simp) _) (by simp) _
    · intro x gv w4 cnt4 hlx hat rg4 hlt g4 hen
      obtain ⟨g, rfl, hat⟩ := hat
      have hx := road_at ISR.out (DOM.out x hlx) hat
      have arr4 := arr.grown g4 (by intro e; injection e; omega)
      have res4 := res.grown g4 (by intro e; injection e; omega)
      have low4 : Below w.heap.size w w4 := low.grown g4 low.size (fun j e => by cases e; omega)
      have dom4 : ∀ z, (left (.int .i64 z) && !(Lit.int .i64 z).sameKey (.int .i64 x)) = true → (road n k z).isSome = true := fun z hz => DOM.out z (by simp at hz; exact hz.1)
      have f0 := arr4.frozen 0
      have f1 := arr4.frozen 1
      have f2 := arr4.frozen 2
      have d0 : w4.cell? ⟨w1.heap.size, 0, none⟩ = some _ := arr4.cell 0
      have d1 : w4.cell? ⟨w1.heap.size, 1, none⟩ = some _ := arr4.cell 1
      have d2 : w4.cell? ⟨w1.heap.size, 2, none⟩ = some _ := arr4.cell 2
      have M4 := Lib.hid (And.intro rg4.left_eq (And.intro rg.left_eq hlt))
      have D4 := Lib.hid dom4
      clear hat hlx hlt g4 arr res low rg dom4
      rcases road_dom (by rw [hx]; rfl) with rfl | rfl | rfl
      all_goals
        have HX := Lib.hid hx
        clear hx
        go_wp2_with fail
        go_roundw
        case rel =>
          refine ⟨_, _, rg4.kept (grownSet _ _ _) (by simp; omega) (by simp; omega), D4.out, ?_, res4.far (by simp; omega) _, gSet low4 (by simp; omega) _⟩
          first
            | (rw [mix_hit HX.out, mix_miss (by decide), mix_miss (by decide)]; exact arr4.set 0 _)
            | (rw [mix_hit HX.out, mix_miss (by decide), mix_miss (by decide)]; exact arr4.set 1 _)
            | (rw [mix_hit HX.out, mix_miss (by decide), mix_miss (by decide)]; exact arr4.set 2 _)
        case measure =>
          obtain ⟨m1, m2, m3⟩ := M4.out
          rw [(rg4.kept (grownSet w4 _ _) (by simp; omega) (by simp; omega)).left_eq, m2]
          exact m3

theorem touched_ok (a b c : Bool) (n k : Int) (w : World) (h : treeE a b c n = 0) (h0 : 0 ≤ k) (h1 : k < n) :
    Calls Try.prog 62 #[tree a b c, .int .i64 n, .int .i64 k] w fun e w' => e = .returned (treeOf (touchT a b c n k)) ∧ Below w.heap.size w w' := by
  obtain ⟨hn1, hn4⟩ := treeE_range h
  rw [← touchR_eq h h0 h1]
  exact touched_road a b c n k w hn1 hn4
end Go.Proofs.Ytmodajmjmdigfaa
