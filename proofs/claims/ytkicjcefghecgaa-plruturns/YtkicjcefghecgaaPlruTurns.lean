/-
Proved: the law 'PlruTurns' returns true for every argument, and changes nothing that was there. No condition.
-/
import Derived.Test.YtkicjcefghecgaaPlru3
import Derived.Test.YtkicjcefghecgaaSlices
namespace Go.Proofs.Ytkicjcefghecgaa.plruTurns
open Go.ChangeShapes Go.WideShapes Go.ChangeAt Go.RowKit

/-- The tree behind k touches of whoever is to go. -/
def turnT (a b c : Bool) (n : Int) : Nat → Bool × Bool × Bool
  | 0 => (a, b, c)
  | k + 1 => touchT (turnT a b c n k).1 (turnT a b c n k).2.1 (turnT a b c n k).2.2 n (victimN (turnT a b c n k).1 (turnT a b c n k).2.1 (turnT a b c n k).2.2 n)

def turnV (a b c : Bool) (n : Int) (k : Nat) : Int := victimN (turnT a b c n k).1 (turnT a b c n k).2.1 (turnT a b c n k).2.2 n

/-- Who has had its turn behind k rounds. -/
def turnL (a b c : Bool) (n : Int) : Nat → List Int
  | 0 => []
  | k + 1 => turnL a b c n k ++ [turnV a b c n k]

theorem turnL_length (a b c : Bool) (n : Int) (k : Nat) : (turnL a b c n k).length = k := by
  induction k with
  | zero => rfl
  | succ k ih => simp [turnL, ih]

def turnOk (a b c : Bool) (n : Int) (k : Nat) : Bool :=
  decide (treeE (turnT a b c n k).1 (turnT a b c n k).2.1 (turnT a b c n k).2.2 n = 0) && decide (turnV a b c n k ∉ turnL a b c n k) && decide (0 ≤ turnV a b c n k) && decide (turnV a b c n k < n)

theorem turns (a b c : Bool) (n : Int) (h : treeE a b c n = 0) (h3 : n ≠ 3) (k : Nat) (hk : (k : Int) < n) : turnOk a b c n k = true := by
  obtain ⟨hn1, hn4⟩ := treeE_range h
  have hn : n = 1 ∨ n = 2 ∨ n = 4 := by omega
  have hj : k = 0 ∨ k = 1 ∨ k = 2 ∨ k = 3 := by omega
  rcases hn with rfl | rfl | rfl <;> rcases hj with rfl | rfl | rfl | rfl <;> first | omega | (revert h; cases a <;> cases b <;> cases c <;> decide)

theorem info_int : (Try.prog.info? 3).map (fun i => (i.zero, i.size, i.bytes)) = some (some (.int .i64 0), 1, 8) := by kernel_rfl

set_option maxHeartbeats 1000000 in
theorem walk_bad (a b c : Bool) (n : Int) (w : World) (h : treeE a b c n ≠ 0 ∨ n = 3) :
    Calls Try.prog 8 #[tree a b c, .int .i64 n] w fun e w' => e = .returned (.bool true) ∧ Below w.heap.size w w' := by
  by_cases h0 : treeE a b c n = 0
  · obtain rfl : n = 3 := by rcases h with h | h; exact absurd h0 h; exact h
    have H0 := Lib.hid h0
    clear h h0
    go_enter Try.func8, Try.ntmps8
    go_wp2_with fail
    refine (plrus_yes _).mono ?_; rintro e w1 ⟨rfl, hb⟩
    obtain ⟨hc, hf⟩ := bcell hb
    go_wp2_with fail
    with_reducible refine (plruCheck_zero _ _ _ _ _ H0.out).mono ?_
    rintro e w2 ⟨rfl, hb2⟩
    go_wp2_with fail
    go_ret
    exact ⟨rfl, gCall (gCall (gAlloc (Below.refl _ _) _) hb) hb2⟩
  · have h0' : (treeE a b c n != 0) = true := by simpa using h0
    clear h h0
    go_enter Try.func8, Try.ntmps8
    go_wp2_with fail
    refine (plrus_yes _).mono ?_; rintro e w1 ⟨rfl, hb⟩
    obtain ⟨hc, hf⟩ := bcell hb
    go_wp2_with fail
    with_reducible refine (plruCheck_any _ _ _ _ _).mono ?_
    rintro e w2 ⟨rfl, hb2⟩
    go_wp2_with fail
    go_ret
    exact ⟨rfl, gCall (gCall (gAlloc (Below.refl _ _) _) hb) hb2⟩

set_option maxHeartbeats 4000000 in
theorem walk_good (a b c : Bool) (n : Int) (w : World) (h0 : treeE a b c n = 0) (h3 : n ≠ 3) :
    Calls Try.prog 8 #[tree a b c, .int .i64 n] w fun e w' => e = .returned (.bool true) ∧ Below w.heap.size w w' := by
  obtain ⟨hn1, hn4⟩ := treeE_range h0
  have HT := Lib.hid (turns a b c n h0 h3)
  have H0 := Lib.hid h0
  have h3' : (n == 3) = false := by simpa using h3
  obtain ⟨i0, hi, hz0, hz1, hz2⟩ := info_parts info_int
  have HI := Lib.hid hi
  have HZ := Lib.hid (And.intro hz0 (And.intro hz1 hz2))
  clear h0 h3 hi hz0 hz1 hz2
  go_enter Try.func8, Try.ntmps8
  go_wp2_with fail
  refine (plrus_yes _).mono ?_; rintro e w1 ⟨rfl, hb⟩
  obtain ⟨hc, hf⟩ := bcell hb
  go_wp2_with fail
  with_reducible refine (plruCheck_zero _ _ _ _ _ H0.out).mono ?_
  rintro e w2 ⟨rfl, hb2⟩
  replace hb2 := gCall hb hb2
  clear hc hf hb
  have B2 : Box w2 w.heap.size 40 #[.bool a, .bool b, .bool c] := (Box.new w 40 _).below hb2 (by simp)
  have L2 : Below w.heap.size w w2 := gCall (gAlloc (Below.refl _ _) _) hb2
  have z2 : w.heap.size < w2.heap.size := B2.lt
  clear hb2
  go_wp2_with fail
  go_loopw [5, 19] (fun s i wr => ∃ k : Nat, (k : Int) ≤ n ∧ i = .int .i64 k ∧ wr.ownsRow (w.heap.size + 1) 3 1 s k ((turnL a b c n k).map (Value.int .i64)) ∧
      Box wr w.heap.size 40 #[.bool (turnT a b c n k).1, .bool (turnT a b c n k).2.1, .bool (turnT a b c n k).2.2] ∧ Below w.heap.size w wr) (fun _ i _ => (n - intOf i).toNat)
  case atStart => exact ⟨0, by omega, rfl, World.ownsRow_nil _ _ _ _, B2, L2⟩
  case round =>
    obtain ⟨k, hk, rfl, hown, hbox, hlow⟩ := hrel
    by_cases hlt : (k : Int) < n
    · have ok := HT.out k hlt
      have E1 := Lib.hid (show turnT a b c n (k + 1) = touchT (turnT a b c n k).1 (turnT a b c n k).2.1 (turnT a b c n k).2.2 n (turnV a b c n k) from rfl)
      have E2 := Lib.hid (show turnL a b c n (k + 1) = turnL a b c n k ++ [turnV a b c n k] from rfl)
      have E3 := Lib.hid (show victimN (turnT a b c n k).1 (turnT a b c n k).2.1 (turnT a b c n k).2.2 n = turnV a b c n k from rfl)
      have E4 := turnL_length a b c n k
      simp only [turnOk, Bool.and_eq_true, decide_eq_true_eq] at ok
      obtain ⟨⟨⟨ok1, ok2⟩, ok3⟩, ok4⟩ := ok
      generalize turnT a b c n k = t at *
      generalize turnL a b c n k = L at *
      generalize turnV a b c n k = v at *
      obtain ⟨x, y, z⟩ := t
      simp only at hbox E1 E3 ok1
      have OK1 := Lib.hid ok1
      have OK2 := Lib.hid ok2
      have HE4 := Lib.hid E4
      clear ok1 ok2 E4
      have c0 : wr.cell? ⟨w.heap.size, 0, none⟩ = some (.bool x) := hbox.cell 0
      have c1 : wr.cell? ⟨w.heap.size, 1, none⟩ = some (.bool y) := hbox.cell 1
      have c2 : wr.cell? ⟨w.heap.size, 2, none⟩ = some (.bool z) := hbox.cell 2
      go_wp2_with fail
      with_reducible refine (victim_ok _ _ _ _ _ OK1.out).mono ?_
      rintro e w3 ⟨rfl, hb3⟩
      rw [E3.out]
      have own3 := own_below hown hb3
      have box3 := hbox.below hb3 hbox.lt
      replace hlow := gCall hlow hb3
      have n2 : decide (v ∈ L) = false := by simpa using OK2.out
      clear hown hbox hb3 c0 c1 c2
      go_wp2_with fail
      with_reducible refine (contains_any _ k L v _ (Sl.ofOwn own3)).mono ?_
      rintro e w3' ⟨rfl, rfl⟩
      go_wp2_with (at_builtin; refine wpList_append_own _ rfl _ _ 24 rfl (w.heap.size + 1) 3 i0 (.int .i64 0) 1 8 Try.underlying24 HI.out HZ.out.1 HZ.out.2.1 HZ.out.2.2 rfl (by decide) _ _ _ rfl (own3.alloc _) ⟨w3.heap.size, 0, none⟩ 1 1 [.int .i64 v] rfl rfl ?c1 ?c2 ?c3 ?c4 ?c5 ?_)
      case c1 =>
        intro j u hj
        match j, hj with
        | 0, hj => simp at hj; subst hj; simp [Addr.add]
      case c2 => intro u hu; simp at hu; subst hu; rfl
      case c3 => unfold maxLen; omega
      case c4 => omega
      case c5 => have := box3.lt; simp; omega
      intro v4 w4 own4 grow4 _
      have box4 := (box3.alloc (.cells #[.int .i64 v] 3)).grown grow4 (fun e => by have := own3.lt _ e.symm; omega)
      have low4 : Below w.heap.size w w4 := (gAlloc hlow _).grown grow4 (by have := box3.lt; simp; omega) (fun g e => by have := own3.lt _ e; omega)
      have d0 : w4.cell? ⟨w.heap.size, 0, none⟩ = some (.bool x) := box4.cell 0
      have d1 : w4.cell? ⟨w.heap.size, 1, none⟩ = some (.bool y) := box4.cell 1
      have d2 : w4.cell? ⟨w.heap.size, 2, none⟩ = some (.bool z) := box4.cell 2
      clear grow4 box3 own3 hlow
      go_wp2_with fail
      with_reducible refine (touch_ok _ _ _ _ _ _ OK1.out ok3 ok4).mono ?_
      rintro e w5 ⟨rfl, hb5⟩
      have own5 := own_below own4 hb5
      have box5 := box4.below hb5 box4.lt
      have low5 := gCall low4 hb5
      clear d0 d1 d2 own4 box4 low4 hb5
      have f0 := box5.frozen 0
      have f1 := box5.frozen 1
      have f2 := box5.frozen 2
      have d0 : w5.cell? ⟨w.heap.size, 0, none⟩ = some (.bool x) := box5.cell 0
      have d1 : w5.cell? ⟨w.heap.size, 1, none⟩ = some (.bool y) := box5.cell 1
      have d2 : w5.cell? ⟨w.heap.size, 2, none⟩ = some (.bool z) := box5.cell 2
      go_wp2_with fail
      go_roundw
      case rel =>
        refine ⟨k + 1, by omega, by go_num, ?_, ?_, ?_⟩
        · rw [E2.out, List.map_append]
          exact ownsRow_setCell_below (ownsRow_setCell_below (ownsRow_setCell_below own5 (by simp) _) (by simp) _) (by simp) _
        · rw [E1.out]
          exact ((box5.set 0 _).set 1 _).set 2 _
        · exact gSet (gSet (gSet low5 (by simp) _) (by simp) _) (by simp) _
      case measure => simp [intOf]; omega
    · go_wp2_with fail
      go_ret
      exact ⟨rfl, hlow⟩

theorem walk (v0 v1 : Value) (w : World) (h0 : IsTree v0) (h1 : IsInt v1) :
    Calls Try.prog 8 #[v0, v1] w fun e w' => e = .returned (.bool true) ∧ Below w.heap.size w w' := by
  obtain ⟨a, b, c, rfl⟩ := h0
  obtain ⟨n, rfl, _⟩ := h1
  by_cases h : treeE a b c n ≠ 0 ∨ n = 3
  · exact walk_bad a b c n w h
  · exact walk_good a b c n w (by by_cases k : treeE a b c n = 0; exact k; exact absurd (Or.inl k) h) (fun k => h (Or.inr k))

set_option maxRecDepth 100000 in
theorem lifted (os : Os) (started : os.Started) (H : Type) (enc : TypeId × Value → H) :
    ReturnsInHanded {} Try.checked os 8 .any (Rows.plruTurnsSpec.pre6 enc Try.prog Try.f8 Rows.plruTurnsRow.domain false) (Rows.plruTurnsSpec.post enc Try.prog Try.f8 false true false false) := by
  refine returnsInHanded_of_change (C := Try.checked) own started (by kernel_rfl) Try.func8
    (ChangeSpec.witness6 (enc := enc) (C := Try.checked) false ⟨#[], #[tree false false false, .int .i64 2], []⟩ 8 (by kernel_rfl) (by kernel_rfl) (by kernel_rfl) (by kernel_rfl)) ?_
  intro W base args ds gs before hval0 hW hcnd _
  have hval : ∀ (j : Nat) t v, Try.f8.params[j]? = some t → args[j]? = some v → Value.okWide Try.prog W .any base t v := hval0
  have hW' := hW
  obtain ⟨p, q, hA0, hV, rfl, hfz, hnd⟩ := hW
  have hA : DataW.TrodAll enc Try.prog W 0 (fun _ => true) true Try.f8.params.toList args.toList ds p := hA0
  rw [Try.params8] at hA hval
  obtain ⟨v0, vs0, d0, ds0, p0, q0, hargs, rfl, rfl, h0, r0⟩ := trodAll_cons hA
  obtain ⟨v1, vs1, d1, ds1, p1, q1, rfl, rfl, rfl, h1, r1⟩ := trodAll_cons r0
  obtain ⟨rfl, rfl, rfl⟩ := trodAll_nil r1
  obtain rfl : args = #[v0, v1] := by cases args; simp_all
  have k0 := openTree (hval 0 40 v0 rfl rfl) h0
  have k1 := openInt (hval 1 3 v1 rfl rfl) h1
  obtain ⟨rfl, rfl⟩ := trodVars_none hV
  clear hA0 hval0
  refine (walk v0 v1 W k0 k1).mono fun e W' ⟨he, bel⟩ => ⟨_, he, ?_⟩
  exact law_post (by kernel_rfl) (by kernel_rfl) rfl hW' rfl rfl rfl bel

theorem over : Rows.plruTurnsRow.holds Try.pinned (OpenSpec.ofChange Rows.plruTurnsSpec) :=
  OpenClaim.holds_of_wide 8 Try.f8 rfl rfl rfl rfl rfl rfl rfl ⟨rfl, rfl, rfl, rfl, rfl⟩ rfl rfl rfl rfl rfl (by kernel_rfl) Try.func8 (by kernel_rfl)
    (of_decide_eq_true (by kernel_rfl)) (by unfold Func.isWrapper; first | (rw [if_pos (by decide +kernel)]; kernel_rfl) | (rw [if_neg (by decide +kernel)]; exact ⟨rfl, rfl⟩))
    (fun os started H enc _ => lifted os started H enc)

/-- The statement. -/
theorem plruTurns_holds : Rows.PlruTurnsSaid := over
end Go.Proofs.Ytkicjcefghecgaa.plruTurns
namespace Go.Proofs.Ytkicjcefghecgaa
theorem plruTurns_holds : Rows.PlruTurnsSaid := plruTurns.plruTurns_holds
#print axioms plruTurns_holds
end Go.Proofs.Ytkicjcefghecgaa
