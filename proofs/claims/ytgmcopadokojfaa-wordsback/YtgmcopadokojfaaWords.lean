/-
Proved: what Load, Store and Swap of package words return, for every argument; none of them changes anything that was there. No condition.
-/
import Derived.Test.YtgmcopadokojfaaOpen
import Derived.Test.YtgmcopadokojfaaFlatEq
namespace Go.Proofs.Ytgmcopadokojfaa
open Go.ChangeShapes Go.WideShapes Go.ChangeAt Go.RowKit Go.Joins

section
variable {H : Type} {enc : TypeId × Value → H} {W : World} {base : Nat} {v : Value} {d : DataW H} {p : List MemPlace}
theorem openLine (hv : Value.okWide Try.prog W .any base 24 v) (h : DataW.Trod enc Try.prog W 0 (fun _ => true) true 24 v d p) : IsLine v := by
  obtain ⟨cs, rfl, hk⟩ := flat_value (n := 2) (ks := [.int .u64, .int .u64, .int .u64, .int .u64]) (by kernel_rfl) (.inr ⟨_, _, Try.underlying24⟩) hv h
  match cs, hk with
  | [c0, c1, c2, c3], hk =>
    obtain ⟨⟨a, rfl, wa⟩, ⟨b, rfl, wb⟩, ⟨c, rfl, wc⟩, ⟨d, rfl, wd⟩, _⟩ := hk
    exact ⟨a, b, c, d, rfl, bounds_u64 wa, bounds_u64 wb, bounds_u64 wc, bounds_u64 wd⟩
end

/-- '==' on lines. -/
theorem eqLine (a b c d a' b' c' d' : Int) (w : World) : (Op.equalIn 10000 24 (line a b c d) (line a' b' c' d')).run Try.prog w = .ok (a == a' && (b == b' && (c == c' && d == d'))) w := by
  have := equal_flat (P := Try.prog) 2 24 [.int .u64, .int .u64, .int .u64, .int .u64] (by kernel_rfl) (by kernel_rfl) 10000 (by omega) w [.int .u64 a, .int .u64 b, .int .u64 c, .int .u64 d] [.int .u64 a', .int .u64 b', .int .u64 c', .int .u64 d'] (line a b c d) (line a' b' c' d')
    ⟨⟨a, rfl⟩, ⟨b, rfl⟩, ⟨c, rfl⟩, ⟨d, rfl⟩, trivial⟩ ⟨⟨a', rfl⟩, ⟨b', rfl⟩, ⟨c', rfl⟩, ⟨d', rfl⟩, trivial⟩ (by simp [ValIs, Try.underlying24]) (by simp [ValIs, Try.underlying24])
  simpa [eqCells, scEq] using this

/-- Word k of a line. -/
def wordAt (a b c d k : Int) : Int := if k = 0 then a else if k = 1 then b else if k = 2 then c else if k = 3 then d else 0

/-- What is said of the number of a word. -/
def wordE (k : Int) : Int := if 0 ≤ k ∧ k ≤ 3 then 0 else 4

/-- A line with another word k. -/
def putA (a k v : Int) : Int := if k = 0 then v else if k = 1 ∨ k = 2 ∨ k = 3 then a else 0
def putB (b k v : Int) : Int := if k = 1 then v else if k = 0 ∨ k = 2 ∨ k = 3 then b else 0
def putC (c k v : Int) : Int := if k = 2 then v else if k = 0 ∨ k = 1 ∨ k = 3 then c else 0
def putD (d k v : Int) : Int := if k = 3 then v else if k = 0 ∨ k = 1 ∨ k = 2 then d else 0
abbrev putL (a b c d k v : Int) : Value := line (putA a k v) (putB b k v) (putC c k v) (putD d k v)

theorem isWord_in (k : Int) (w : World) (h0 : 0 ≤ k) (h3 : k ≤ 3) : Calls Try.prog 14 #[.int .i64 k] w fun e w' => e = .returned (.bool true) ∧ w = w' := by
  go_enter Try.func14, Try.ntmps14
  go_wp2
  go_ret
  exact ⟨by simp; omega, rfl⟩

theorem isWord_out (k : Int) (w : World) (h : k < 0 ∨ 3 < k) : Calls Try.prog 14 #[.int .i64 k] w fun e w' => e = .returned (.bool false) ∧ w = w' := by
  by_cases h0 : k < 0
  all_goals
    go_enter Try.func14, Try.ntmps14
    go_wp2
    go_ret
    exact ⟨by simp <;> omega, rfl⟩

theorem four (k : Int) (h0 : 0 ≤ k) (h3 : k ≤ 3) : k = 0 ∨ k = 1 ∨ k = 2 ∨ k = 3 := by omega

theorem put_out (a b c d k v : Int) (h : k < 0 ∨ 3 < k) : putL a b c d k v = line 0 0 0 0 ∧ wordAt a b c d k = 0 ∧ wordE k = 4 := by
  simp only [putL, putA, putB, putC, putD, wordAt, wordE]
  repeat rw [if_neg (by omega)]
  exact ⟨rfl, rfl, rfl⟩

set_option maxHeartbeats 4000000 in
theorem load_any (a b c d k : Int) (w : World) : Calls Try.prog 6 #[line a b c d, .int .i64 k] w fun e w' => e = .returned (.tuple #[.int .u64 (wordAt a b c d k), .int .i64 (wordE k)]) ∧ Below w.heap.size w w' := by
  by_cases h : k < 0 ∨ 3 < k
  · rw [(put_out a b c d k 0 h).2.1, (put_out a b c d k 0 h).2.2]
    have H := Lib.hid h
    clear h
    go_enter Try.func6, Try.ntmps6
    go_wp2_with fail
    refine (isWord_out _ _ H.out).mono ?_; rintro e w' ⟨rfl, rfl⟩
    go_wp2_with fail
    go_ret2
    exact ⟨rfl, gAlloc (Below.refl _ _) _⟩
  · rcases four k (by omega) (by omega) with rfl | rfl | rfl | rfl
    all_goals
      clear h
      go_enter Try.func6, Try.ntmps6
      go_wp2_with fail
      refine (isWord_in _ _ (by decide) (by decide)).mono ?_; rintro e w' ⟨rfl, rfl⟩
      go_wp2_with fail
      go_ret2
      exact ⟨rfl, gAlloc (Below.refl _ _) _⟩

set_option maxHeartbeats 4000000 in
theorem store_any (a b c d k v : Int) (w : World) : Calls Try.prog 7 #[line a b c d, .int .i64 k, .int .u64 v] w fun e w' => e = .returned (.tuple #[putL a b c d k v, .int .i64 (wordE k)]) ∧ Below w.heap.size w w' := by
  by_cases h : k < 0 ∨ 3 < k
  · rw [(put_out a b c d k v h).1, (put_out a b c d k v h).2.2]
    have H := Lib.hid h
    clear h
    go_enter Try.func7, Try.ntmps7
    go_wp2_with fail
    refine (isWord_out _ _ H.out).mono ?_; rintro e w' ⟨rfl, rfl⟩
    go_wp2_with fail
    refine bodyPost_ret (v := .tuple #[line 0 0 0 0, .int .i64 4]) (by simp [results, Try.results7, go_sem]) rfl ⟨rfl, ?_⟩
    repeat (refine gSet ?_ (by simp) _)
    exact gAlloc (gAlloc (Below.refl _ _) _) _
  · rcases four k (by omega) (by omega) with rfl | rfl | rfl | rfl
    all_goals
      clear h
      go_enter Try.func7, Try.ntmps7
      go_wp2_with fail
      refine (isWord_in _ _ (by decide) (by decide)).mono ?_; rintro e w' ⟨rfl, rfl⟩
      go_wp2_with fail
      refine bodyPost_ret (v := .tuple #[putL a b c d _ v, .int .i64 0]) (by simp [results, Try.results7, go_sem, putA, putB, putC, putD]) rfl ⟨rfl, ?_⟩
      repeat (refine gSet ?_ (by simp) _)
      exact gAlloc (gAlloc (Below.refl _ _) _) _

set_option maxHeartbeats 4000000 in
theorem swap_any (a b c d k v : Int) (w : World) : Calls Try.prog 8 #[line a b c d, .int .i64 k, .int .u64 v] w fun e w' => e = .returned (.tuple #[putL a b c d k v, .int .u64 (wordAt a b c d k), .int .i64 (wordE k)]) ∧ Below w.heap.size w w' := by
  by_cases h : k < 0 ∨ 3 < k
  · rw [(put_out a b c d k v h).1, (put_out a b c d k v h).2.1, (put_out a b c d k v h).2.2]
    have H := Lib.hid h
    clear h
    go_enter Try.func8, Try.ntmps8
    go_wp2_with fail
    refine (isWord_out _ _ H.out).mono ?_; rintro e w' ⟨rfl, rfl⟩
    go_wp2_with fail
    refine bodyPost_ret (v := .tuple #[line 0 0 0 0, .int .u64 0, .int .i64 4]) (by simp [results, Try.results8, go_sem]) rfl ⟨rfl, ?_⟩
    repeat (refine gSet ?_ (by simp) _)
    exact gAlloc (gAlloc (Below.refl _ _) _) _
  · rcases four k (by omega) (by omega) with rfl | rfl | rfl | rfl
    all_goals
      clear h
      go_enter Try.func8, Try.ntmps8
      go_wp2_with fail
      refine (isWord_in _ _ (by decide) (by decide)).mono ?_; rintro e w' ⟨rfl, rfl⟩
      go_wp2_with fail
      refine bodyPost_ret (v := .tuple #[putL a b c d _ v, .int .u64 (wordAt a b c d _), .int .i64 0]) (by simp [results, Try.results8, go_sem, putA, putB, putC, putD, wordAt]) rfl ⟨rfl, ?_⟩
      repeat (refine gSet ?_ (by simp) _)
      exact gAlloc (gAlloc (Below.refl _ _) _) _

theorem wordy_yes (w : World) : Calls Try.prog 12 #[] w fun e w' => e = .returned (.bool true) ∧ Below w.heap.size w w' := by
  have T := Lib.hid fun W => load_any 0 5 0 0 1 W
  go_enter Try.func12, Try.ntmps12
  go_wp2_with fail
  with_reducible refine (T.out _).mono ?_
  rintro e w1 ⟨rfl, hb⟩
  simp only [wordAt, wordE]
  go_wp2_with fail
  go_ret
  exact ⟨rfl, hb⟩
end Go.Proofs.Ytgmcopadokojfaa
