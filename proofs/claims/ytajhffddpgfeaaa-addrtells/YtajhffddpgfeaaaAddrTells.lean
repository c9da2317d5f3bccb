/-
Proved: the law 'AddrTells' returns true for every argument, and changes nothing that was there. No condition.
-/
import Derived.Test.YtajhffddpgfeaaaRefLow
namespace Go.Proofs.Ytajhffddpgfeaaa.addrTells
open Go.ChangeShapes Go.WideShapes Go.ChangeAt Go.RowKit

/-- What is known of the line of an address, whether it is one (g) or not. -/
def LineIs (a l j e : Int) (g : Bool) : Prop :=
  (∀ W, Calls Try.prog 7 #[.int .i64 a] W fun r w' => r = .returned (.tuple #[.int .i64 l, .int .i64 j, .int .i64 e]) ∧ W = w') ∧
  (∀ W, Calls Try.prog 11 #[.int .i64 a] W fun r w' => r = .returned (.bool g) ∧ W = w') ∧
  (g = true → 0 ≤ l ∧ l ≤ 15 ∧ 0 ≤ j ∧ j ≤ 3 ∧ e = 0 ∧ 4 * l + j = a) ∧ (g = false → l = 0 ∧ j = 0 ∧ e = 4)

theorem lineIs (a : Int) : ∃ l j e g, LineIs a l j e g := by
  by_cases h : 0 ≤ a ∧ a ≤ 63
  · exact ⟨a / 4, a % 4, 0, true, fun W => line_ok a W h.1 h.2, fun W => goodAddr_yes a W h.1 h.2, fun _ => by omega, fun h => by cases h⟩
  · exact ⟨0, 0, 4, false, fun W => line_out a W (by omega), fun W => goodAddr_no a W (by omega), (fun h => by cases h), fun _ => ⟨rfl, rfl, rfl⟩⟩

theorem nodeAt_zero {n f : Int} (h0 : 0 ≤ f) (h1 : f < n) : nodeAt n f 0 = f := by
  rw [nodeAt, Int.zero_emod, Int.add_zero]; exact Int.emod_eq_of_lt h0 h1
theorem nodeAt_emod {n f k : Int} : nodeAt n f (k % n) = nodeAt n f k := by
  rw [nodeAt, nodeAt, Int.emod_emod]
theorem nodeAt_next {n f q : Int} : nodeAt n f (q + 1) = (nodeAt n f q + 1) % n := by
  rw [nodeAt, nodeAt, Int.add_emod_emod, Int.add_emod_emod, Int.emod_add_emod, Int.add_assoc]
theorem nodeAt_wrap {n f q : Int} (hn : 0 < n) (_h : 0 ≤ q) (hw : nodeAt n f q + 1 = n) : nodeAt n f (q + 1) = 0 := by
  rw [nodeAt_next, hw, Int.emod_self]
theorem nodeAt_succ {n f q : Int} (hn : 0 < n) (_h : 0 ≤ q) (hw : ¬ nodeAt n f q + 1 = n) : nodeAt n f (q + 1) = nodeAt n f q + 1 := by
  have h0 := nodeAt_nonneg (n := n) (f := f) (k := q) hn
  have h1 := nodeAt_lt (n := n) (f := f) (k := q) hn
  rw [nodeAt_next]; exact Int.emod_eq_of_lt (by omega) (by omega)

set_option maxRecDepth 100000 in
set_option maxHeartbeats 4000000 in
theorem walk_bad (n s y b a l f k : Int) (w : World) (hB : cfgB n s y b = false) :
    Calls Try.prog 4 #[cfg n s y b, .int .i64 a, .int .i64 l, .int .i64 f, .int .i64 k] w fun e w' => e = .returned (.bool true) ∧ Below w.heap.size w w' := by
  obtain ⟨l1, j1, e1, g, CL, CG, hy, hn⟩ := lineIs a
  have HB := Lib.hid hB
  have HL := Lib.hid CL
  have HG := Lib.hid CG
  clear hB CL CG
  cases g with
  | true =>
    obtain ⟨d1, d2, d3, d4, rfl, d5⟩ := hy rfl
    have d6 : (4 * l1 + j1 != a) = false := by simpa using d5
    clear hy hn d5
    go_enter Try.func4, Try.ntmps4
    go_wp2_with fail
    (with_reducible refine (HL.out _).mono ?_); rintro e w' ⟨rfl, rfl⟩
    go_wp2_with fail
    (with_reducible refine (set_bad n s y b l _ (.inl HB.out)).mono ?_); rintro e w1 ⟨rfl, hb⟩
    obtain ⟨hc, hf⟩ := bcell hb
    go_wp2_with fail
    (with_reducible refine (bank_bad n s y b l _ (.inl HB.out)).mono ?_); rintro e w2 ⟨rfl, hbn⟩
    replace hb := gCall hb hbn
    clear hc hf hbn
    obtain ⟨hc, hf⟩ := bcell hb
    go_wp2_with fail
    (with_reducible refine (node_bad n s y b f k _ HB.out).mono ?_); rintro e w3 ⟨rfl, hbn⟩
    replace hb := gCall hb hbn
    clear hc hf hbn
    obtain ⟨hc, hf⟩ := bcell hb
    go_wp2_with fail
    (with_reducible refine (HG.out _).mono ?_); rintro e w' ⟨rfl, rfl⟩
    go_wp2_with fail
    (with_reducible refine (HG.out _).mono ?_); rintro e w' ⟨rfl, rfl⟩
    go_wp2_with fail
    (with_reducible refine (configFault_bad n s y b _ HB.out).mono ?_); rintro e w4 ⟨rfl, hbn⟩
    replace hb := gCall hb hbn
    clear hc hf hbn
    obtain ⟨hc, hf⟩ := bcell hb
    go_wp2_with fail
    (with_reducible refine (check_bad n s y b _ HB.out).mono ?_); rintro e w5 ⟨rfl, hbn⟩
    replace hb := gCall hb hbn
    clear hc hf hbn
    obtain ⟨hc, hf⟩ := bcell hb
    go_wp2_with fail
    go_ret
    exact ⟨rfl, gCall (gAlloc (Below.refl _ _) _) hb⟩
  | false =>
    obtain ⟨rfl, rfl, rfl⟩ := hn rfl
    clear hy hn
    go_enter Try.func4, Try.ntmps4
    go_wp2_with fail
    (with_reducible refine (HL.out _).mono ?_); rintro e w' ⟨rfl, rfl⟩
    go_wp2_with fail
    (with_reducible refine (set_bad n s y b l _ (.inl HB.out)).mono ?_); rintro e w1 ⟨rfl, hb⟩
    obtain ⟨hc, hf⟩ := bcell hb
    go_wp2_with fail
    (with_reducible refine (bank_bad n s y b l _ (.inl HB.out)).mono ?_); rintro e w2 ⟨rfl, hbn⟩
    replace hb := gCall hb hbn
    clear hc hf hbn
    obtain ⟨hc, hf⟩ := bcell hb
    go_wp2_with fail
    (with_reducible refine (node_bad n s y b f k _ HB.out).mono ?_); rintro e w3 ⟨rfl, hbn⟩
    replace hb := gCall hb hbn
    clear hc hf hbn
    obtain ⟨hc, hf⟩ := bcell hb
    go_wp2_with fail
    (with_reducible refine (HG.out _).mono ?_); rintro e w' ⟨rfl, rfl⟩
    go_wp2_with fail
    (with_reducible refine (HG.out _).mono ?_); rintro e w' ⟨rfl, rfl⟩
    go_wp2_with fail
    (with_reducible refine (configFault_bad n s y b _ HB.out).mono ?_); rintro e w4 ⟨rfl, hbn⟩
    replace hb := gCall hb hbn
    clear hc hf hbn
    obtain ⟨hc, hf⟩ := bcell hb
    go_wp2_with fail
    (with_reducible refine (check_bad n s y b _ HB.out).mono ?_); rintro e w5 ⟨rfl, hbn⟩
    replace hb := gCall hb hbn
    clear hc hf hbn
    obtain ⟨hc, hf⟩ := bcell hb
    go_wp2_with fail
    go_ret
    exact ⟨rfl, gCall (gAlloc (Below.refl _ _) _) hb⟩

set_option maxRecDepth 100000 in
set_option maxHeartbeats 4000000 in
theorem walk_lineout_nodeout (n s y b a l f k : Int) (w : World) (hB : cfgB n s y b = true) (hl : l < 0 ∨ 15 < l) (hk : f < 0 ∨ n ≤ f ∨ k < 0) :
    Calls Try.prog 4 #[cfg n s y b, .int .i64 a, .int .i64 l, .int .i64 f, .int .i64 k] w fun e w' => e = .returned (.bool true) ∧ Below w.heap.size w w' := by
  obtain ⟨l1, j1, e1, g, CL, CG, hy, hn⟩ := lineIs a
  have HB := Lib.hid hB
  have HL := Lib.hid CL
  have HG := Lib.hid CG
  clear hB CL CG
  have hs : 2 ≤ n ∧ n ≤ 8 ∧ 1 ≤ s ∧ s ≤ 4 ∧ 1 ≤ b ∧ b ≤ 4 := by have := cfgB_iff.1 HB.out; omega
  obtain ⟨hs1, hs2, hs3, hs4, hs5, hs6⟩ := hs
  cases g with
  | true =>
    obtain ⟨d1, d2, d3, d4, rfl, d5⟩ := hy rfl
    have d6 : (4 * l1 + j1 != a) = false := by simpa using d5
    clear hy hn d5
    go_enter Try.func4, Try.ntmps4
    go_wp2_with fail
    (with_reducible refine (HL.out _).mono ?_); rintro e w' ⟨rfl, rfl⟩
    go_wp2_with fail
    (with_reducible refine (set_bad n s y b l _ (.inr hl)).mono ?_); rintro e w1 ⟨rfl, hb⟩
    obtain ⟨hc, hf⟩ := bcell hb
    go_wp2_with fail
    (with_reducible refine (bank_bad n s y b l _ (.inr hl)).mono ?_); rintro e w2 ⟨rfl, hbn⟩
    replace hb := gCall hb hbn
    clear hc hf hbn
    obtain ⟨hc, hf⟩ := bcell hb
    go_wp2_with fail
    (with_reducible refine (node_out n s y b f k _ HB.out hk).mono ?_); rintro e w3 ⟨rfl, hbn⟩
    replace hb := gCall hb hbn
    clear hc hf hbn
    obtain ⟨hc, hf⟩ := bcell hb
    go_wp2_with fail
    (with_reducible refine (HG.out _).mono ?_); rintro e w' ⟨rfl, rfl⟩
    go_wp2_with fail
    (with_reducible refine (HG.out _).mono ?_); rintro e w' ⟨rfl, rfl⟩
    go_wp2_with fail
    (with_reducible refine (configFault_ok n s y b _ HB.out).mono ?_); rintro e w4 ⟨rfl, hbn⟩
    replace hb := gCall hb hbn
    clear hc hf hbn
    obtain ⟨hc, hf⟩ := bcell hb
    go_wp2_with fail
    (with_reducible refine (check_ok n s y b _ HB.out).mono ?_); rintro e w5 ⟨rfl, hbn⟩
    replace hb := gCall hb hbn
    clear hc hf hbn
    obtain ⟨hc, hf⟩ := bcell hb
    go_wp2_with fail
    (with_reducible refine (goodLine_no l _ hl).mono ?_); rintro e w' ⟨rfl, rfl⟩
    go_wp2_with fail
    all_goals go_ret
    all_goals exact ⟨rfl, gCall (gAlloc (Below.refl _ _) _) hb⟩
  | false =>
    obtain ⟨rfl, rfl, rfl⟩ := hn rfl
    clear hy hn
    go_enter Try.func4, Try.ntmps4
    go_wp2_with fail
    (with_reducible refine (HL.out _).mono ?_); rintro e w' ⟨rfl, rfl⟩
    go_wp2_with fail
    (with_reducible refine (set_bad n s y b l _ (.inr hl)).mono ?_); rintro e w1 ⟨rfl, hb⟩
    obtain ⟨hc, hf⟩ := bcell hb
    go_wp2_with fail
    (with_reducible refine (bank_bad n s y b l _ (.inr hl)).mono ?_); rintro e w2 ⟨rfl, hbn⟩
    replace hb := gCall hb hbn
    clear hc hf hbn
    obtain ⟨hc, hf⟩ := bcell hb
    go_wp2_with fail
    (with_reducible refine (node_out n s y b f k _ HB.out hk).mono ?_); rintro e w3 ⟨rfl, hbn⟩
    replace hb := gCall hb hbn
    clear hc hf hbn
    obtain ⟨hc, hf⟩ := bcell hb
    go_wp2_with fail
    (with_reducible refine (HG.out _).mono ?_); rintro e w' ⟨rfl, rfl⟩
    go_wp2_with fail
    (with_reducible refine (HG.out _).mono ?_); rintro e w' ⟨rfl, rfl⟩
    go_wp2_with fail
    (with_reducible refine (configFault_ok n s y b _ HB.out).mono ?_); rintro e w4 ⟨rfl, hbn⟩
    replace hb := gCall hb hbn
    clear hc hf hbn
    obtain ⟨hc, hf⟩ := bcell hb
    go_wp2_with fail
    (with_reducible refine (check_ok n s y b _ HB.out).mono ?_); rintro e w5 ⟨rfl, hbn⟩
    replace hb := gCall hb hbn
    clear hc hf hbn
    obtain ⟨hc, hf⟩ := bcell hb
    go_wp2_with fail
    (with_reducible refine (goodLine_no l _ hl).mono ?_); rintro e w' ⟨rfl, rfl⟩
    go_wp2_with fail
    all_goals go_ret
    all_goals exact ⟨rfl, gCall (gAlloc (Below.refl _ _) _) hb⟩

set_option maxRecDepth 100000 in
set_option maxHeartbeats 4000000 in
theorem walk_line_nodeout (n s y b a l f k : Int) (w : World) (hB : cfgB n s y b = true) (hl0 : 0 ≤ l) (hl1 : l ≤ 15) (hk : f < 0 ∨ n ≤ f ∨ k < 0) :
    Calls Try.prog 4 #[cfg n s y b, .int .i64 a, .int .i64 l, .int .i64 f, .int .i64 k] w fun e w' => e = .returned (.bool true) ∧ Below w.heap.size w w' := by
  obtain ⟨l1, j1, e1, g, CL, CG, hy, hn⟩ := lineIs a
  have HB := Lib.hid hB
  have HL := Lib.hid CL
  have HG := Lib.hid CG
  clear hB CL CG
  have hs : 2 ≤ n ∧ n ≤ 8 ∧ 1 ≤ s ∧ s ≤ 4 ∧ 1 ≤ b ∧ b ≤ 4 := by have := cfgB_iff.1 HB.out; omega
  obtain ⟨hs1, hs2, hs3, hs4, hs5, hs6⟩ := hs
  cases g with
  | true =>
    obtain ⟨d1, d2, d3, d4, rfl, d5⟩ := hy rfl
    have d6 : (4 * l1 + j1 != a) = false := by simpa using d5
    clear hy hn d5
    go_enter Try.func4, Try.ntmps4
    go_wp2_with fail
    (with_reducible refine (HL.out _).mono ?_); rintro e w' ⟨rfl, rfl⟩
    go_wp2_with fail
    (with_reducible refine (set_ok n s y b l _ HB.out hl0 hl1).mono ?_); rintro e w1 ⟨rfl, hb⟩
    obtain ⟨hc, hf⟩ := bcell hb
    go_wp2_with fail
    (with_reducible refine (bank_ok n s y b l _ HB.out hl0 hl1).mono ?_); rintro e w2 ⟨rfl, hbn⟩
    replace hb := gCall hb hbn
    clear hc hf hbn
    obtain ⟨hc, hf⟩ := bcell hb
    go_wp2_with fail
    (with_reducible refine (node_out n s y b f k _ HB.out hk).mono ?_); rintro e w3 ⟨rfl, hbn⟩
    replace hb := gCall hb hbn
    clear hc hf hbn
    obtain ⟨hc, hf⟩ := bcell hb
    go_wp2_with fail
    (with_reducible refine (HG.out _).mono ?_); rintro e w' ⟨rfl, rfl⟩
    go_wp2_with fail
    (with_reducible refine (HG.out _).mono ?_); rintro e w' ⟨rfl, rfl⟩
    go_wp2_with fail
    (with_reducible refine (configFault_ok n s y b _ HB.out).mono ?_); rintro e w4 ⟨rfl, hbn⟩
    replace hb := gCall hb hbn
    clear hc hf hbn
    obtain ⟨hc, hf⟩ := bcell hb
    go_wp2_with fail
    (with_reducible refine (check_ok n s y b _ HB.out).mono ?_); rintro e w5 ⟨rfl, hbn⟩
    replace hb := gCall hb hbn
    clear hc hf hbn
    obtain ⟨hc, hf⟩ := bcell hb
    go_wp2_with fail
    (with_reducible refine (goodLine_yes l _ hl0 hl1).mono ?_); rintro e w' ⟨rfl, rfl⟩
    go_wp2_with fail
    all_goals go_ret
    all_goals exact ⟨rfl, gCall (gAlloc (Below.refl _ _) _) hb⟩
  | false =>
    obtain ⟨rfl, rfl, rfl⟩ := hn rfl
    clear hy hn
    go_enter Try.func4, Try.ntmps4
    go_wp2_with fail
    (with_reducible refine (HL.out _).mono ?_); rintro e w' ⟨rfl, rfl⟩
    go_wp2_with fail
    (with_reducible refine (set_ok n s y b l _ HB.out hl0 hl1).mono ?_); rintro e w1 ⟨rfl, hb⟩
    obtain ⟨hc, hf⟩ := bcell hb
    go_wp2_with fail
    (with_reducible refine (bank_ok n s y b l _ HB.out hl0 hl1).mono ?_); rintro e w2 ⟨rfl, hbn⟩
    replace hb := gCall hb hbn
    clear hc hf hbn
    obtain ⟨hc, hf⟩ := bcell hb
    go_wp2_with fail
    (with_reducible refine (node_out n s y b f k _ HB.out hk).mono ?_); rintro e w3 ⟨rfl, hbn⟩
    replace hb := gCall hb hbn
    clear hc hf hbn
    obtain ⟨hc, hf⟩ := bcell hb
    go_wp2_with fail
    (with_reducible refine (HG.out _).mono ?_); rintro e w' ⟨rfl, rfl⟩
    go_wp2_with fail
    (with_reducible refine (HG.out _).mono ?_); rintro e w' ⟨rfl, rfl⟩
    go_wp2_with fail
    (with_reducible refine (configFault_ok n s y b _ HB.out).mono ?_); rintro e w4 ⟨rfl, hbn⟩
    replace hb := gCall hb hbn
    clear hc hf hbn
    obtain ⟨hc, hf⟩ := bcell hb
    go_wp2_with fail
    (with_reducible refine (check_ok n s y b _ HB.out).mono ?_); rintro e w5 ⟨rfl, hbn⟩
    replace hb := gCall hb hbn
    clear hc hf hbn
    obtain ⟨hc, hf⟩ := bcell hb
    go_wp2_with fail
    (with_reducible refine (goodLine_yes l _ hl0 hl1).mono ?_); rintro e w' ⟨rfl, rfl⟩
    go_wp2_with fail
    all_goals go_ret
    all_goals exact ⟨rfl, gCall (gAlloc (Below.refl _ _) _) hb⟩

set_option maxRecDepth 100000 in
set_option maxHeartbeats 4000000 in
theorem walk_lineout_node (n s y b a l f k : Int) (w : World) (hB : cfgB n s y b = true) (hl : l < 0 ∨ 15 < l) (hf0 : 0 ≤ f) (hf1 : f < n) (hk0 : 0 ≤ k) (hk1 : k ≤ 9223372036854775807) :
    Calls Try.prog 4 #[cfg n s y b, .int .i64 a, .int .i64 l, .int .i64 f, .int .i64 k] w fun e w' => e = .returned (.bool true) ∧ Below w.heap.size w w' := by
  obtain ⟨l1, j1, e1, g, CL, CG, hy, hn⟩ := lineIs a
  have HB := Lib.hid hB
  have HL := Lib.hid CL
  have HG := Lib.hid CG
  clear hB CL CG
  have hs : 2 ≤ n ∧ n ≤ 8 ∧ 1 ≤ s ∧ s ≤ 4 ∧ 1 ≤ b ∧ b ≤ 4 := by have := cfgB_iff.1 HB.out; omega
  obtain ⟨hs1, hs2, hs3, hs4, hs5, hs6⟩ := hs
  have m1 : 0 ≤ k % n := Int.emod_nonneg _ (by omega)
  have m2 : k % n < n := Int.emod_lt_of_pos _ (by omega)
  cases g with
  | true =>
    obtain ⟨d1, d2, d3, d4, rfl, d5⟩ := hy rfl
    have d6 : (4 * l1 + j1 != a) = false := by simpa using d5
    clear hy hn d5
    go_enter Try.func4, Try.ntmps4
    go_wp2_with fail
    (with_reducible refine (HL.out _).mono ?_); rintro e w' ⟨rfl, rfl⟩
    go_wp2_with fail
    (with_reducible refine (set_bad n s y b l _ (.inr hl)).mono ?_); rintro e w1 ⟨rfl, hb⟩
    obtain ⟨hc, hf⟩ := bcell hb
    go_wp2_with fail
    (with_reducible refine (bank_bad n s y b l _ (.inr hl)).mono ?_); rintro e w2 ⟨rfl, hbn⟩
    replace hb := gCall hb hbn
    clear hc hf hbn
    obtain ⟨hc, hf⟩ := bcell hb
    go_wp2_with fail
    (with_reducible refine (node_ok n s y b f k _ HB.out hf0 hf1 hk0 hk1).mono ?_); rintro e w3 ⟨rfl, hbn⟩
    replace hb := gCall hb hbn
    clear hc hf hbn
    obtain ⟨hc, hf⟩ := bcell hb
    go_wp2_with fail
    (with_reducible refine (HG.out _).mono ?_); rintro e w' ⟨rfl, rfl⟩
    go_wp2_with fail
    (with_reducible refine (HG.out _).mono ?_); rintro e w' ⟨rfl, rfl⟩
    go_wp2_with fail
    (with_reducible refine (configFault_ok n s y b _ HB.out).mono ?_); rintro e w4 ⟨rfl, hbn⟩
    replace hb := gCall hb hbn
    clear hc hf hbn
    obtain ⟨hc, hf⟩ := bcell hb
    go_wp2_with fail
    (with_reducible refine (check_ok n s y b _ HB.out).mono ?_); rintro e w5 ⟨rfl, hbn⟩
    replace hb := gCall hb hbn
    clear hc hf hbn
    obtain ⟨hc, hf⟩ := bcell hb
    go_wp2_with fail
    (with_reducible refine (goodLine_no l _ hl).mono ?_); rintro e w' ⟨rfl, rfl⟩
    go_wp2_with fail
    go_loop [23, 181] (fun x i => ∃ q : Int, 0 ≤ q ∧ q ≤ k % n ∧ i = .int .i64 q ∧ x = .int .i64 (nodeAt n f q)) (fun _ i => (k % n - intOf i).toNat)
    case atStart => exact ⟨0, by omega, by omega, rfl, by rw [nodeAt_zero hf0 hf1]⟩
    case round =>
      obtain ⟨q, hq0, hq1, rfl, rfl⟩ := hrel
      have hv0 : 0 ≤ nodeAt n f q := nodeAt_nonneg (by omega)
      have hv1 : nodeAt n f q < n := nodeAt_lt (by omega)
      by_cases hlt : q < k % n
      · by_cases hw : nodeAt n f q + 1 = n
        · have hw1 : (nodeAt n f q + 1 == n) = true := by simpa using hw
          have HW := Lib.hid (nodeAt_wrap (by omega) hq0 hw)
          clear hw
          go_wp2_with fail
          go_round
          case rel => exact ⟨q + 1, by omega, by omega, rfl, by rw [HW.out]⟩
          case measure => simp [intOf]; omega
        · have hw1 : (nodeAt n f q + 1 == n) = false := by simpa using hw
          have HW := Lib.hid (nodeAt_succ (by omega) hq0 hw)
          clear hw
          go_wp2_with fail
          go_round
          case rel => exact ⟨q + 1, by omega, by omega, rfl, by rw [HW.out]⟩
          case measure => simp [intOf]; omega
      · have hend : (nodeAt n f k == nodeAt n f q) = true := by rw [show q = k % n by omega, nodeAt_emod]; exact beq_self_eq_true _
        go_wp2_with fail
        go_ret
        exact ⟨rfl, gCall (gAlloc (Below.refl _ _) _) hb⟩
  | false =>
    obtain ⟨rfl, rfl, rfl⟩ := hn rfl
    clear hy hn
    go_enter Try.func4, Try.ntmps4
    go_wp2_with fail
    (with_reducible refine (HL.out _).mono ?_); rintro e w' ⟨rfl, rfl⟩
    go_wp2_with fail
    (with_reducible refine (set_bad n s y b l _ (.inr hl)).mono ?_); rintro e w1 ⟨rfl, hb⟩
    obtain ⟨hc, hf⟩ := bcell hb
    go_wp2_with fail
    (with_reducible refine (bank_bad n s y b l _ (.inr hl)).mono ?_); rintro e w2 ⟨rfl, hbn⟩
    replace hb := gCall hb hbn
    clear hc hf hbn
    obtain ⟨hc, hf⟩ := bcell hb
    go_wp2_with fail
    (with_reducible refine (node_ok n s y b f k _ HB.out hf0 hf1 hk0 hk1).mono ?_); rintro e w3 ⟨rfl, hbn⟩
    replace hb := gCall hb hbn
    clear hc hf hbn
    obtain ⟨hc, hf⟩ := bcell hb
    go_wp2_with fail
    (with_reducible refine (HG.out _).mono ?_); rintro e w' ⟨rfl, rfl⟩
    go_wp2_with fail
    (with_reducible refine (HG.out _).mono ?_); rintro e w' ⟨rfl, rfl⟩
    go_wp2_with fail
    (with_reducible refine (configFault_ok n s y b _ HB.out).mono ?_); rintro e w4 ⟨rfl, hbn⟩
    replace hb := gCall hb hbn
    clear hc hf hbn
    obtain ⟨hc, hf⟩ := bcell hb
    go_wp2_with fail
    (with_reducible refine (check_ok n s y b _ HB.out).mono ?_); rintro e w5 ⟨rfl, hbn⟩
    replace hb := gCall hb hbn
    clear hc hf hbn
    obtain ⟨hc, hf⟩ := bcell hb
    go_wp2_with fail
    (with_reducible refine (goodLine_no l _ hl).mono ?_); rintro e w' ⟨rfl, rfl⟩
    go_wp2_with fail
    go_loop [23, 181] (fun x i => ∃ q : Int, 0 ≤ q ∧ q ≤ k % n ∧ i = .int .i64 q ∧ x = .int .i64 (nodeAt n f q)) (fun _ i => (k % n - intOf i).toNat)
    case atStart => exact ⟨0, by omega, by omega, rfl, by rw [nodeAt_zero hf0 hf1]⟩
    case round =>
      obtain ⟨q, hq0, hq1, rfl, rfl⟩ := hrel
      have hv0 : 0 ≤ nodeAt n f q := nodeAt_nonneg (by omega)
      have hv1 : nodeAt n f q < n := nodeAt_lt (by omega)
      by_cases hlt : q < k % n
      · by_cases hw : nodeAt n f q + 1 = n
        · have hw1 : (nodeAt n f q + 1 == n) = true := by simpa using hw
          have HW := Lib.hid (nodeAt_wrap (by omega) hq0 hw)
          clear hw
          go_wp2_with fail
          go_round
          case rel => exact ⟨q + 1, by omega, by omega, rfl, by rw [HW.out]⟩
          case measure => simp [intOf]; omega
        · have hw1 : (nodeAt n f q + 1 == n) = false := by simpa using hw
          have HW := Lib.hid (nodeAt_succ (by omega) hq0 hw)
          clear hw
          go_wp2_with fail
          go_round
          case rel => exact ⟨q + 1, by omega, by omega, rfl, by rw [HW.out]⟩
          case measure => simp [intOf]; omega
      · have hend : (nodeAt n f k == nodeAt n f q) = true := by rw [show q = k % n by omega, nodeAt_emod]; exact beq_self_eq_true _
        go_wp2_with fail
        go_ret
        exact ⟨rfl, gCall (gAlloc (Below.refl _ _) _) hb⟩

set_option maxRecDepth 100000 in
set_option maxHeartbeats 4000000 in
theorem walk_line_node (n s y b a l f k : Int) (w : World) (hB : cfgB n s y b = true) (hl0 : 0 ≤ l) (hl1 : l ≤ 15) (hf0 : 0 ≤ f) (hf1 : f < n) (hk0 : 0 ≤ k) (hk1 : k ≤ 9223372036854775807) :
    Calls Try.prog 4 #[cfg n s y b, .int .i64 a, .int .i64 l, .int .i64 f, .int .i64 k] w fun e w' => e = .returned (.bool true) ∧ Below w.heap.size w w' := by
  obtain ⟨l1, j1, e1, g, CL, CG, hy, hn⟩ := lineIs a
  have HB := Lib.hid hB
  have HL := Lib.hid CL
  have HG := Lib.hid CG
  clear hB CL CG
  have hs : 2 ≤ n ∧ n ≤ 8 ∧ 1 ≤ s ∧ s ≤ 4 ∧ 1 ≤ b ∧ b ≤ 4 := by have := cfgB_iff.1 HB.out; omega
  obtain ⟨hs1, hs2, hs3, hs4, hs5, hs6⟩ := hs
  have m1 : 0 ≤ k % n := Int.emod_nonneg _ (by omega)
  have m2 : k % n < n := Int.emod_lt_of_pos _ (by omega)
  cases g with
  | true =>
    obtain ⟨d1, d2, d3, d4, rfl, d5⟩ := hy rfl
    have d6 : (4 * l1 + j1 != a) = false := by simpa using d5
    clear hy hn d5
    go_enter Try.func4, Try.ntmps4
    go_wp2_with fail
    (with_reducible refine (HL.out _).mono ?_); rintro e w' ⟨rfl, rfl⟩
    go_wp2_with fail
    (with_reducible refine (set_ok n s y b l _ HB.out hl0 hl1).mono ?_); rintro e w1 ⟨rfl, hb⟩
    obtain ⟨hc, hf⟩ := bcell hb
    go_wp2_with fail
    (with_reducible refine (bank_ok n s y b l _ HB.out hl0 hl1).mono ?_); rintro e w2 ⟨rfl, hbn⟩
    replace hb := gCall hb hbn
    clear hc hf hbn
    obtain ⟨hc, hf⟩ := bcell hb
    go_wp2_with fail
    (with_reducible refine (node_ok n s y b f k _ HB.out hf0 hf1 hk0 hk1).mono ?_); rintro e w3 ⟨rfl, hbn⟩
    replace hb := gCall hb hbn
    clear hc hf hbn
    obtain ⟨hc, hf⟩ := bcell hb
    go_wp2_with fail
    (with_reducible refine (HG.out _).mono ?_); rintro e w' ⟨rfl, rfl⟩
    go_wp2_with fail
    (with_reducible refine (HG.out _).mono ?_); rintro e w' ⟨rfl, rfl⟩
    go_wp2_with fail
    (with_reducible refine (configFault_ok n s y b _ HB.out).mono ?_); rintro e w4 ⟨rfl, hbn⟩
    replace hb := gCall hb hbn
    clear hc hf hbn
    obtain ⟨hc, hf⟩ := bcell hb
    go_wp2_with fail
    (with_reducible refine (check_ok n s y b _ HB.out).mono ?_); rintro e w5 ⟨rfl, hbn⟩
    replace hb := gCall hb hbn
    clear hc hf hbn
    obtain ⟨hc, hf⟩ := bcell hb
    go_wp2_with fail
    (with_reducible refine (goodLine_yes l _ hl0 hl1).mono ?_); rintro e w' ⟨rfl, rfl⟩
    go_wp2_with fail
    go_loop [23, 181] (fun x i => ∃ q : Int, 0 ≤ q ∧ q ≤ k % n ∧ i = .int .i64 q ∧ x = .int .i64 (nodeAt n f q)) (fun _ i => (k % n - intOf i).toNat)
    case atStart => exact ⟨0, by omega, by omega, rfl, by rw [nodeAt_zero hf0 hf1]⟩
    case round =>
      obtain ⟨q, hq0, hq1, rfl, rfl⟩ := hrel
      have hv0 : 0 ≤ nodeAt n f q := nodeAt_nonneg (by omega)
      have hv1 : nodeAt n f q < n := nodeAt_lt (by omega)
      by_cases hlt : q < k % n
      · by_cases hw : nodeAt n f q + 1 = n
        · have hw1 : (nodeAt n f q + 1 == n) = true := by simpa using hw
          have HW := Lib.hid (nodeAt_wrap (by omega) hq0 hw)
          clear hw
          go_wp2_with fail
          go_round
          case rel => exact ⟨q + 1, by omega, by omega, rfl, by rw [HW.out]⟩
          case measure => simp [intOf]; omega
        · have hw1 : (nodeAt n f q + 1 == n) = false := by simpa using hw
          have HW := Lib.hid (nodeAt_succ (by omega) hq0 hw)
          clear hw
          go_wp2_with fail
          go_round
          case rel => exact ⟨q + 1, by omega, by omega, rfl, by rw [HW.out]⟩
          case measure => simp [intOf]; omega
      · have hend : (nodeAt n f k == nodeAt n f q) = true := by rw [show q = k % n by omega, nodeAt_emod]; exact beq_self_eq_true _
        go_wp2_with fail
        go_ret
        exact ⟨rfl, gCall (gAlloc (Below.refl _ _) _) hb⟩
  | false =>
    obtain ⟨rfl, rfl, rfl⟩ := hn rfl
    clear hy hn
    go_enter Try.func4, Try.ntmps4
    go_wp2_with fail
    (with_reducible refine (HL.out _).mono ?_); rintro e w' ⟨rfl, rfl⟩
    go_wp2_with fail
    (with_reducible refine (set_ok n s y b l _ HB.out hl0 hl1).mono ?_); rintro e w1 ⟨rfl, hb⟩
    obtain ⟨hc, hf⟩ := bcell hb
    go_wp2_with fail
    (with_reducible refine (bank_ok n s y b l _ HB.out hl0 hl1).mono ?_); rintro e w2 ⟨rfl, hbn⟩
    replace hb := gCall hb hbn
    clear hc hf hbn
    obtain ⟨hc, hf⟩ := bcell hb
    go_wp2_with fail
    (with_reducible refine (node_ok n s y b f k _ HB.out hf0 hf1 hk0 hk1).mono ?_); rintro e w3 ⟨rfl, hbn⟩
    replace hb := gCall hb hbn
    clear hc hf hbn
    obtain ⟨hc, hf⟩ := bcell hb
    go_wp2_with fail
    (with_reducible refine (HG.out _).mono ?_); rintro e w' ⟨rfl, rfl⟩
    go_wp2_with fail
    (with_reducible refine (HG.out _).mono ?_); rintro e w' ⟨rfl, rfl⟩
    go_wp2_with fail
    (with_reducible refine (configFault_ok n s y b _ HB.out).mono ?_); rintro e w4 ⟨rfl, hbn⟩
    replace hb := gCall hb hbn
    clear hc hf hbn
    obtain ⟨hc, hf⟩ := bcell hb
    go_wp2_with fail
    (with_reducible refine (check_ok n s y b _ HB.out).mono ?_); rintro e w5 ⟨rfl, hbn⟩
    replace hb := gCall hb hbn
    clear hc hf hbn
    obtain ⟨hc, hf⟩ := bcell hb
    go_wp2_with fail
    (with_reducible refine (goodLine_yes l _ hl0 hl1).mono ?_); rintro e w' ⟨rfl, rfl⟩
    go_wp2_with fail
    go_loop [23, 181] (fun x i => ∃ q : Int, 0 ≤ q ∧ q ≤ k % n ∧ i = .int .i64 q ∧ x = .int .i64 (nodeAt n f q)) (fun _ i => (k % n - intOf i).toNat)
    case atStart => exact ⟨0, by omega, by omega, rfl, by rw [nodeAt_zero hf0 hf1]⟩
    case round =>
      obtain ⟨q, hq0, hq1, rfl, rfl⟩ := hrel
      have hv0 : 0 ≤ nodeAt n f q := nodeAt_nonneg (by omega)
      have hv1 : nodeAt n f q < n := nodeAt_lt (by omega)
      by_cases hlt : q < k % n
      · by_cases hw : nodeAt n f q + 1 = n
        · have hw1 : (nodeAt n f q + 1 == n) = true := by simpa using hw
          have HW := Lib.hid (nodeAt_wrap (by omega) hq0 hw)
          clear hw
          go_wp2_with fail
          go_round
          case rel => exact ⟨q + 1, by omega, by omega, rfl, by rw [HW.out]⟩
          case measure => simp [intOf]; omega
        · have hw1 : (nodeAt n f q + 1 == n) = false := by simpa using hw
          have HW := Lib.hid (nodeAt_succ (by omega) hq0 hw)
          clear hw
          go_wp2_with fail
          go_round
          case rel => exact ⟨q + 1, by omega, by omega, rfl, by rw [HW.out]⟩
          case measure => simp [intOf]; omega
      · have hend : (nodeAt n f k == nodeAt n f q) = true := by rw [show q = k % n by omega, nodeAt_emod]; exact beq_self_eq_true _
        go_wp2_with fail
        go_ret
        exact ⟨rfl, gCall (gAlloc (Below.refl _ _) _) hb⟩

theorem walk (v0 v1 v2 v3 v4 : Value) (w : World) (h0 : IsCfg v0) (h1 : IsInt v1) (h2 : IsInt v2) (h3 : IsInt v3) (h4 : IsInt v4) :
    Calls Try.prog 4 #[v0, v1, v2, v3, v4] w fun e w' => e = .returned (.bool true) ∧ Below w.heap.size w w' := by
  obtain ⟨n, s, y, b, rfl, _, _, _, _⟩ := h0
  obtain ⟨a, rfl, _⟩ := h1
  obtain ⟨l, rfl, _⟩ := h2
  obtain ⟨f, rfl, _⟩ := h3
  obtain ⟨k, rfl, hk, hk1⟩ := h4
  cases hB : cfgB n s y b with
  | false => exact walk_bad n s y b a l f k w hB
  | true =>
    by_cases cl : l < 0 ∨ 15 < l
    · by_cases cn : f < 0 ∨ n ≤ f ∨ k < 0
      · exact walk_lineout_nodeout n s y b a l f k w hB cl cn
      · exact walk_lineout_node n s y b a l f k w hB cl (by omega) (by omega) (by omega) hk1
    · by_cases cn : f < 0 ∨ n ≤ f ∨ k < 0
      · exact walk_line_nodeout n s y b a l f k w hB (by omega) (by omega) cn
      · exact walk_line_node n s y b a l f k w hB (by omega) (by omega) (by omega) (by omega) (by omega) hk1

set_option maxRecDepth 100000 in
theorem lifted (os : Os) (started : os.Started) (H : Type) (enc : TypeId × Value → H) :
    ReturnsInHanded {} Try.checked os 4 .any (Rows.addrTellsSpec.pre6 enc Try.prog Try.f4 Rows.addrTellsRow.domain false) (Rows.addrTellsSpec.post enc Try.prog Try.f4 false true false false) := by
  refine returnsInHanded_of_change (C := Try.checked) own started (by kernel_rfl) Try.func4
    (ChangeSpec.witness6 (enc := enc) (C := Try.checked) false ⟨#[], #[cfg 0 0 0 0, .int .i64 0, .int .i64 0, .int .i64 0, .int .i64 0], []⟩ 8 (by kernel_rfl) (by kernel_rfl) (by kernel_rfl) (by kernel_rfl)) ?_
  intro W base args ds gs before hval0 hW hcnd _
  have hval : ∀ (j : Nat) t v, Try.f4.params[j]? = some t → args[j]? = some v → Value.okWide Try.prog W .any base t v := hval0
  have hW' := hW
  obtain ⟨p, q, hA0, hV, rfl, hfz, hnd⟩ := hW
  have hA : DataW.TrodAll enc Try.prog W 0 (fun _ => true) true Try.f4.params.toList args.toList ds p := hA0
  rw [Try.params4] at hA hval
  obtain ⟨v0, vs0, d0, ds0, p0, q0, hargs, rfl, rfl, h0, r0⟩ := trodAll_cons hA
  obtain ⟨v1, vs1, d1, ds1, p1, q1, rfl, rfl, rfl, h1, r1⟩ := trodAll_cons r0
  obtain ⟨v2, vs2, d2, ds2, p2, q2, rfl, rfl, rfl, h2, r2⟩ := trodAll_cons r1
  obtain ⟨v3, vs3, d3, ds3, p3, q3, rfl, rfl, rfl, h3, r3⟩ := trodAll_cons r2
  obtain ⟨v4, vs4, d4, ds4, p4, q4, rfl, rfl, rfl, h4, r4⟩ := trodAll_cons r3
  obtain ⟨rfl, rfl, rfl⟩ := trodAll_nil r4
  obtain rfl : args = #[v0, v1, v2, v3, v4] := by cases args; simp_all
  have k0 := openCfg (hval 0 28 v0 rfl rfl) h0
  have k1 := openInt (hval 1 3 v1 rfl rfl) h1
  have k2 := openInt (hval 2 3 v2 rfl rfl) h2
  have k3 := openInt (hval 3 3 v3 rfl rfl) h3
  have k4 := openInt (hval 4 3 v4 rfl rfl) h4
  obtain ⟨rfl, rfl⟩ := trodVars_none hV
  clear hA0 hval0
  refine (walk v0 v1 v2 v3 v4 W k0 k1 k2 k3 k4).mono fun e W' ⟨he, bel⟩ => ⟨_, he, ?_⟩
  exact law_post (by kernel_rfl) (by kernel_rfl) rfl hW' rfl rfl rfl bel

theorem over : Rows.addrTellsRow.holds Try.pinned (OpenSpec.ofChange Rows.addrTellsSpec) :=
  OpenClaim.holds_of_wide 4 Try.f4 rfl rfl rfl rfl rfl rfl rfl ⟨rfl, rfl, rfl, rfl, rfl⟩ rfl rfl rfl rfl rfl (by kernel_rfl) Try.func4 (by kernel_rfl)
    (of_decide_eq_true (by kernel_rfl)) (by unfold Func.isWrapper; first | (rw [if_pos (by decide +kernel)]; kernel_rfl) | (rw [if_neg (by decide +kernel)]; exact ⟨rfl, rfl⟩))
    (fun os started H enc _ => lifted os started H enc)

/-- The statement. -/
theorem addrTells_holds : Rows.AddrTellsSaid := over
end Go.Proofs.Ytajhffddpgfeaaa.addrTells
namespace Go.Proofs.Ytajhffddpgfeaaa
theorem addrTells_holds : Rows.AddrTellsSaid := addrTells.addrTells_holds
#print axioms addrTells_holds
end Go.Proofs.Ytajhffddpgfeaaa
