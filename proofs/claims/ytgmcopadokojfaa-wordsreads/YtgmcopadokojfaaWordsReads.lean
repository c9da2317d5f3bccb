/-
Proved: the law 'WordsReads' returns true for every argument, and changes nothing that was there. No condition.
-/
import Derived.Test.YtgmcopadokojfaaWords
import Derived.Test.YtgmcopadokojfaaGood
namespace Go.Proofs.Ytgmcopadokojfaa.wordsReads
open Go.ChangeShapes Go.WideShapes Go.ChangeAt Go.RowKit

theorem put_same (a b c d k v : Int) (h0 : 0 ≤ k) (h3 : k ≤ 3) : wordAt (putA a k v) (putB b k v) (putC c k v) (putD d k v) k = v := by
  rcases four k h0 h3 with rfl | rfl | rfl | rfl <;> rfl

theorem put_other (a b c d k o v : Int) (h0 : 0 ≤ k) (h3 : k ≤ 3) (ho : o ≠ k) : wordAt (putA a k v) (putB b k v) (putC c k v) (putD d k v) o = wordAt a b c d o := by
  rcases four k h0 h3 with rfl | rfl | rfl | rfl <;> by_cases h0 : o = 0 <;> by_cases h1 : o = 1 <;> by_cases h2 : o = 2 <;> by_cases h3 : o = 3 <;> first | omega | (simp [putA, putB, putC, putD, wordAt, h0, h1, h2, h3])

set_option maxHeartbeats 1000000 in
theorem walk_bad (a b c d k o v : Int) (w : World) (h : k < 0 ∨ 3 < k) :
    Calls Try.prog 4 #[line a b c d, .int .i64 k, .int .i64 o, .int .u64 v] w fun e w' => e = .returned (.bool true) ∧ Below w.heap.size w w' := by
  have S := Lib.hid fun W => store_any a b c d k v W
  have P := Lib.hid fun W => swap_any a b c d k v W
  obtain ⟨h1, h2, h3⟩ := put_out a b c d k v h
  rw [h1, h3] at S
  rw [h1, h2, h3] at P
  clear h h1 h2 h3
  have eqL := eqLine
  have low := Below.refl w.heap.size w
  have bx := Box.new w 24 #[.int .u64 a, .int .u64 b, .int .u64 c, .int .u64 d]
  replace low := gAlloc low (.cells #[.int .u64 a, .int .u64 b, .int .u64 c, .int .u64 d] 24)
  go_enter Try.func4, Try.ntmps4
  go_wp2_with fail
  (with_reducible refine (wordy_yes _).mono ?_); rintro e w1 ⟨rfl, hb⟩
  replace bx := bx.call hb
  replace low := gCall low hb
  clear hb
  have bx_0 := bx.at_ 0 rfl
  have bx_1 := bx.at_ 1 rfl
  have bx_2 := bx.at_ 2 rfl
  have bx_3 := bx.at_ 3 rfl
  go_wp2_with fail
  (with_reducible refine (S.out _).mono ?_); rintro e w2 ⟨rfl, hb⟩
  replace bx := bx.call hb
  replace low := gCall low hb
  clear hb bx_0 bx_1 bx_2 bx_3
  have x := Box.new w2 24 #[.int .u64 0, .int .u64 0, .int .u64 0, .int .u64 0]
  replace low := gAlloc low (.cells #[.int .u64 0, .int .u64 0, .int .u64 0, .int .u64 0] 24)
  replace bx := bx.alloc (.cells #[.int .u64 0, .int .u64 0, .int .u64 0, .int .u64 0] 24)
  have bx_0 := bx.at_ 0 rfl
  have bx_1 := bx.at_ 1 rfl
  have bx_2 := bx.at_ 2 rfl
  have bx_3 := bx.at_ 3 rfl
  go_wp2_with fail
  (with_reducible refine (P.out _).mono ?_); rintro e w3 ⟨rfl, hb⟩
  replace bx := bx.call hb
  replace x := x.call hb
  replace low := gCall low hb
  clear hb bx_0 bx_1 bx_2 bx_3
  have y := Box.new w3 24 #[.int .u64 0, .int .u64 0, .int .u64 0, .int .u64 0]
  replace low := gAlloc low (.cells #[.int .u64 0, .int .u64 0, .int .u64 0, .int .u64 0] 24)
  replace bx := bx.alloc (.cells #[.int .u64 0, .int .u64 0, .int .u64 0, .int .u64 0] 24)
  replace x := x.alloc (.cells #[.int .u64 0, .int .u64 0, .int .u64 0, .int .u64 0] 24)
  have x_0 := x.at_ 0 rfl
  have x_1 := x.at_ 1 rfl
  have x_2 := x.at_ 2 rfl
  have x_3 := x.at_ 3 rfl
  have y_0 := y.at_ 0 rfl
  have y_1 := y.at_ 1 rfl
  have y_2 := y.at_ 2 rfl
  have y_3 := y.at_ 3 rfl
  go_wp2_with fail
  go_ret
  exact ⟨rfl, low⟩

set_option maxHeartbeats 4000000 in
theorem walk_good (a b c d k o v : Int) (w : World) (h0 : 0 ≤ k) (h3 : k ≤ 3) :
    Calls Try.prog 4 #[line a b c d, .int .i64 k, .int .i64 o, .int .u64 v] w fun e w' => e = .returned (.bool true) ∧ Below w.heap.size w w' := by
  have S := Lib.hid fun W => store_any a b c d k v W
  have P := Lib.hid fun W => swap_any a b c d k v W
  have L1 := Lib.hid fun W => load_any (putA a k v) (putB b k v) (putC c k v) (putD d k v) k W
  have L2 := Lib.hid fun W => load_any (putA a k v) (putB b k v) (putC c k v) (putD d k v) o W
  have L3 := Lib.hid fun W => load_any a b c d o W
  have L4 := Lib.hid fun W => load_any a b c d k W
  have hk : wordE k = 0 := if_pos ⟨h0, h3⟩
  have e1 := put_same a b c d k v h0 h3
  have e2 := put_other a b c d k o v h0 h3
  rw [hk] at S P L1 L4
  unfold putL at S P
  rw [e1] at L1
  generalize wordAt (putA a k v) (putB b k v) (putC c k v) (putD d k v) o = q at L2 e2
  generalize putA a k v = x0 at S P L1 L2
  generalize putB b k v = x1 at S P L1 L2
  generalize putC c k v = x2 at S P L1 L2
  generalize putD d k v = x3 at S P L1 L2
  generalize wordAt a b c d k = old at P L4
  generalize wordAt a b c d o = q' at L3 e2
  have hq : (o == k) = true ∨ ((o == k) = false ∧ (q == q') = true) := by
    by_cases ho : o = k
    · exact .inl (by simpa using ho)
    · exact .inr ⟨by simpa using ho, by simpa using e2 ho⟩
  clear e1 e2 hk h0 h3
  have eqL := eqLine
  rcases hq with hq | ⟨hq, hq2⟩
  all_goals
    have low := Below.refl w.heap.size w
    have bx := Box.new w 24 #[.int .u64 a, .int .u64 b, .int .u64 c, .int .u64 d]
    replace low := gAlloc low (.cells #[.int .u64 a, .int .u64 b, .int .u64 c, .int .u64 d] 24)
    go_enter Try.func4, Try.ntmps4
    go_wp2_with fail
    (with_reducible refine (wordy_yes _).mono ?_); rintro e w1 ⟨rfl, hb⟩
    replace bx := bx.call hb
    replace low := gCall low hb
    clear hb
    have bx_0 := bx.at_ 0 rfl
    have bx_1 := bx.at_ 1 rfl
    have bx_2 := bx.at_ 2 rfl
    have bx_3 := bx.at_ 3 rfl
    go_wp2_with fail
    (with_reducible refine (S.out _).mono ?_); rintro e w2 ⟨rfl, hb⟩
    replace bx := bx.call hb
    replace low := gCall low hb
    clear hb bx_0 bx_1 bx_2 bx_3
    have x := Box.new w2 24 #[.int .u64 x0, .int .u64 x1, .int .u64 x2, .int .u64 x3]
    replace low := gAlloc low (.cells #[.int .u64 x0, .int .u64 x1, .int .u64 x2, .int .u64 x3] 24)
    replace bx := bx.alloc (.cells #[.int .u64 x0, .int .u64 x1, .int .u64 x2, .int .u64 x3] 24)
    have bx_0 := bx.at_ 0 rfl
    have bx_1 := bx.at_ 1 rfl
    have bx_2 := bx.at_ 2 rfl
    have bx_3 := bx.at_ 3 rfl
    go_wp2_with fail
    (with_reducible refine (P.out _).mono ?_); rintro e w3 ⟨rfl, hb⟩
    replace bx := bx.call hb
    replace x := x.call hb
    replace low := gCall low hb
    clear hb bx_0 bx_1 bx_2 bx_3
    have y := Box.new w3 24 #[.int .u64 x0, .int .u64 x1, .int .u64 x2, .int .u64 x3]
    replace low := gAlloc low (.cells #[.int .u64 x0, .int .u64 x1, .int .u64 x2, .int .u64 x3] 24)
    replace bx := bx.alloc (.cells #[.int .u64 x0, .int .u64 x1, .int .u64 x2, .int .u64 x3] 24)
    replace x := x.alloc (.cells #[.int .u64 x0, .int .u64 x1, .int .u64 x2, .int .u64 x3] 24)
    have x_0 := x.at_ 0 rfl
    have x_1 := x.at_ 1 rfl
    have x_2 := x.at_ 2 rfl
    have x_3 := x.at_ 3 rfl
    go_wp2_with fail
    (with_reducible refine (L1.out _).mono ?_); rintro e w4 ⟨rfl, hb⟩
    replace bx := bx.call hb
    replace x := x.call hb
    replace y := y.call hb
    replace low := gCall low hb
    clear hb x_0 x_1 x_2 x_3
    have x_0 := x.at_ 0 rfl
    have x_1 := x.at_ 1 rfl
    have x_2 := x.at_ 2 rfl
    have x_3 := x.at_ 3 rfl
    go_wp2_with fail
    (with_reducible refine (L2.out _).mono ?_); rintro e w5 ⟨rfl, hb⟩
    replace bx := bx.call hb
    replace x := x.call hb
    replace y := y.call hb
    replace low := gCall low hb
    clear hb x_0 x_1 x_2 x_3
    have bx_0 := bx.at_ 0 rfl
    have bx_1 := bx.at_ 1 rfl
    have bx_2 := bx.at_ 2 rfl
    have bx_3 := bx.at_ 3 rfl
    go_wp2_with fail
    (with_reducible refine (L3.out _).mono ?_); rintro e w6 ⟨rfl, hb⟩
    replace bx := bx.call hb
    replace x := x.call hb
    replace y := y.call hb
    replace low := gCall low hb
    clear hb bx_0 bx_1 bx_2 bx_3
    have bx_0 := bx.at_ 0 rfl
    have bx_1 := bx.at_ 1 rfl
    have bx_2 := bx.at_ 2 rfl
    have bx_3 := bx.at_ 3 rfl
    go_wp2_with fail
    (with_reducible refine (L4.out _).mono ?_); rintro e w7 ⟨rfl, hb⟩
    replace bx := bx.call hb
    replace x := x.call hb
    replace y := y.call hb
    replace low := gCall low hb
    clear hb bx_0 bx_1 bx_2 bx_3
    go_wp2_with fail
    with_reducible refine (good_yes _ 3 _ (by omega) ?_).mono ?_
    · intro j hj
      have : j = 0 ∨ j = 1 ∨ j = 2 := by omega
      rcases this with rfl | rfl | rfl <;> go_simp
    rintro e w8 ⟨rfl, rfl⟩
    replace x := x.alloc (.cells #[.int .i64 0, .int .i64 0, .int .i64 0] 25)
    replace y := y.alloc (.cells #[.int .i64 0, .int .i64 0, .int .i64 0] 25)
    have x_0 := x.at_ 0 rfl
    have x_1 := x.at_ 1 rfl
    have x_2 := x.at_ 2 rfl
    have x_3 := x.at_ 3 rfl
    have y_0 := y.at_ 0 rfl
    have y_1 := y.at_ 1 rfl
    have y_2 := y.at_ 2 rfl
    have y_3 := y.at_ 3 rfl
    go_wp2_with fail
    go_ret
    exact ⟨rfl, gAlloc low _⟩

theorem walk (v0 v1 v2 v3 : Value) (w : World) (h0 : IsLine v0) (h1 : IsInt v1) (h2 : IsInt v2) (h3 : IsU64 v3) :
    Calls Try.prog 4 #[v0, v1, v2, v3] w fun e w' => e = .returned (.bool true) ∧ Below w.heap.size w w' := by
  obtain ⟨a, b, c, d, rfl, _⟩ := h0
  obtain ⟨k, rfl, _⟩ := h1
  obtain ⟨o, rfl, _⟩ := h2
  obtain ⟨v, rfl, _⟩ := h3
  by_cases h : k < 0 ∨ 3 < k
  · exact walk_bad a b c d k o v w h
  · exact walk_good a b c d k o v w (by omega) (by omega)

set_option maxRecDepth 100000 in
theorem lifted (os : Os) (started : os.Started) (H : Type) (enc : TypeId × Value → H) :
    ReturnsInHanded {} Try.checked os 4 .any (Rows.wordsReadsSpec.pre6 enc Try.prog Try.f4 Rows.wordsReadsRow.domain false) (Rows.wordsReadsSpec.post enc Try.prog Try.f4 false true false false) := by
  refine returnsInHanded_of_change (C := Try.checked) own started (by kernel_rfl) Try.func4
    (ChangeSpec.witness6 (enc := enc) (C := Try.checked) false ⟨#[], #[line 1 2 3 4, .int .i64 0, .int .i64 1, .int .u64 5], []⟩ 8 (by kernel_rfl) (by kernel_rfl) (by kernel_rfl) (by kernel_rfl)) ?_
  intro W base args ds gs before hval0 hW hcnd _
  have hval : ∀ (j : Nat) t v, Try.f4.params[j]? = some t → args[j]? = some v → Value.okWide Try.prog W .any base t v := hval0
  have hW' := hW
  obtain ⟨p, q, hA0, hV, rfl, hfz, hnd⟩ := hW
  have hA : DataW.TrodAll enc Try.prog W 0 (fun _ => true) true Try.f4.params.toList args.toList ds p := hA0
  rw [Try.params4] at hA hval
  obtain ⟨v0, vs0, d0, ds0, p0, q0, hargs, rfl, rfl, h0, r0⟩ := trodAll_cons hA
  obtain ⟨v1, vs1, d1, ds1, p1, q1, rfl, rfl, rfl, h1, r1⟩ := trodAll_cons r0
  obtain ⟨v2, vs2, d2, ds2, p2, q2, rfl, rfl, rfl, h2, r2⟩ := trodAll_cons r1
  obtain ⟨v3, vs3, d3, ds3, p3, q3, rfl, rfl, rfl, h3, r3⟩ := trodAll_cons r2
  obtain ⟨rfl, rfl, rfl⟩ := trodAll_nil r3
  obtain rfl : args = #[v0, v1, v2, v3] := by cases args; simp_all
  have k0 := openLine (hval 0 24 v0 rfl rfl) h0
  have k1 := openInt (hval 1 3 v1 rfl rfl) h1
  have k2 := openInt (hval 2 3 v2 rfl rfl) h2
  have k3 := openU64 (hval 3 22 v3 rfl rfl) h3
  obtain ⟨rfl, rfl⟩ := trodVars_none hV
  clear hA0 hval0
  refine (walk v0 v1 v2 v3 W k0 k1 k2 k3).mono fun e W' ⟨he, bel⟩ => ⟨_, he, ?_⟩
  exact law_post (by kernel_rfl) (by kernel_rfl) rfl hW' rfl rfl rfl bel

theorem over : Rows.wordsReadsRow.holds Try.pinned (OpenSpec.ofChange Rows.wordsReadsSpec) :=
  OpenClaim.holds_of_wide 4 Try.f4 rfl rfl rfl rfl rfl rfl rfl ⟨rfl, rfl, rfl, rfl, rfl⟩ rfl rfl rfl rfl rfl (by kernel_rfl) Try.func4 (by kernel_rfl)
    (of_decide_eq_true (by kernel_rfl)) (by unfold Func.isWrapper; first | (rw [if_pos (by decide +kernel)]; kernel_rfl) | (rw [if_neg (by decide +kernel)]; exact ⟨rfl, rfl⟩))
    (fun os started H enc _ => lifted os started H enc)

/-- The statement. -/
theorem wordsReads_holds : Rows.WordsReadsSaid := over
end Go.Proofs.Ytgmcopadokojfaa.wordsReads
namespace Go.Proofs.Ytgmcopadokojfaa
theorem wordsReads_holds : Rows.WordsReadsSaid := wordsReads.wordsReads_holds
#print axioms wordsReads_holds
end Go.Proofs.Ytgmcopadokojfaa
