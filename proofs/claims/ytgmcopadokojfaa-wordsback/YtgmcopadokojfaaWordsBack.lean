/-
Proved: the law 'WordsBack' returns true for every argument, and changes nothing that was there. No condition.
-/
import Derived.Test.YtgmcopadokojfaaWords3
namespace Go.Proofs.Ytgmcopadokojfaa.wordsBack
open Go.ChangeShapes Go.WideShapes Go.ChangeAt Go.RowKit

theorem packS_size (a b c d : Int) : (packS a b c d).size = 32 := by
  show (packL a b c d).toArray.size = 32
  simp [packL_length]

/-- What was packed is unpacked as it was. -/
theorem unpack_pack (a b c d : Int) (ha : U64 a) (hb : U64 b) (hc : U64 c) (hd : U64 d) (w : World) :
    Calls Try.prog 9 #[.string (packS a b c d)] w fun e w' => e = .returned (.tuple #[line a b c d, .int .i64 0]) ∧ Below w.heap.size w w' := by
  have k := unpack_ok (packS a b c d) w (packS_size a b c d)
  rw [wordOf_packS a b c d 0 (by omega) ha, wordOf_packS a b c d 1 (by omega) hb, wordOf_packS a b c d 2 (by omega) hc, wordOf_packS a b c d 3 (by omega) hd] at k
  exact k

theorem pack_unpack (s : ByteArray) (h : s.size = 32) (w : World) :
    Calls Try.prog 10 #[line (wordOf s 0) (wordOf s 1) (wordOf s 2) (wordOf s 3)] w fun e w' => e = .returned (.string s) ∧ Below w.heap.size w w' := by
  have k := pack_any (wordOf s 0) (wordOf s 1) (wordOf s 2) (wordOf s 3) w
  rw [packS_wordOf s h] at k
  exact k

theorem walk_bad (a b c d : Int) (s : ByteArray) (ha : U64 a) (hb : U64 b) (hc : U64 c) (hd : U64 d) (w : World) (h : s.size ≠ 32) :
    Calls Try.prog 5 #[line a b c d, .string s] w fun e w' => e = .returned (.bool true) ∧ Below w.heap.size w w' := by
  have H := Lib.hid h
  have P := Lib.hid fun W => pack_any a b c d W
  have U := Lib.hid fun W => unpack_pack a b c d ha hb hc hd W
  clear h ha hb hc hd
  have low := Below.refl w.heap.size w
  have bx := Box.new w 24 #[.int .u64 a, .int .u64 b, .int .u64 c, .int .u64 d]
  replace low := gAlloc low (.cells #[.int .u64 a, .int .u64 b, .int .u64 c, .int .u64 d] 24)
  have eqL := eqLine
  go_enter Try.func5, Try.ntmps5
  go_wp2_with fail
  (with_reducible refine (wordy_yes _).mono ?_); rintro e w1 ⟨rfl, hb⟩
  replace bx := bx.call hb
  replace low := gCall low hb
  clear hb
  have bx_0 := bx.at_ 0 rfl
  have bx_1 := bx.at_ 1 rfl
  have bx_2 := bx.at_ 2 rfl
  have bx_3 := bx.at_ 3 rfl
  go_wp2_with fail
  (with_reducible refine (P.out _).mono ?_); rintro e w2 ⟨rfl, hb⟩
  replace bx := bx.call hb
  replace low := gCall low hb
  clear hb bx_0 bx_1 bx_2 bx_3
  go_wp2_with fail
  (with_reducible refine (U.out _).mono ?_); rintro e w3 ⟨rfl, hb⟩
  replace bx := bx.call hb
  replace low := gCall low hb
  clear hb
  have x := Box.new w3 24 #[.int .u64 a, .int .u64 b, .int .u64 c, .int .u64 d]
  replace low := gAlloc low (.cells #[.int .u64 a, .int .u64 b, .int .u64 c, .int .u64 d] 24)
  replace bx := bx.alloc (.cells #[.int .u64 a, .int .u64 b, .int .u64 c, .int .u64 d] 24)
  go_wp2_with fail
  (with_reducible refine (unpack_bad _ _ H.out).mono ?_); rintro e w4 ⟨rfl, hb⟩
  replace bx := bx.call hb
  replace x := x.call hb
  replace low := gCall low hb
  clear hb
  have y := Box.new w4 24 #[.int .u64 0, .int .u64 0, .int .u64 0, .int .u64 0]
  replace low := gAlloc low (.cells #[.int .u64 0, .int .u64 0, .int .u64 0, .int .u64 0] 24)
  replace bx := bx.alloc (.cells #[.int .u64 0, .int .u64 0, .int .u64 0, .int .u64 0] 24)
  replace x := x.alloc (.cells #[.int .u64 0, .int .u64 0, .int .u64 0, .int .u64 0] 24)
  have bx_0 := bx.at_ 0 rfl
  have bx_1 := bx.at_ 1 rfl
  have bx_2 := bx.at_ 2 rfl
  have bx_3 := bx.at_ 3 rfl
  have x_0 := x.at_ 0 rfl
  have x_1 := x.at_ 1 rfl
  have x_2 := x.at_ 2 rfl
  have x_3 := x.at_ 3 rfl
  go_wp2_with fail
  go_ret
  exact ⟨rfl, low⟩

theorem walk_good (a b c d : Int) (s : ByteArray) (ha : U64 a) (hb : U64 b) (hc : U64 c) (hd : U64 d) (w : World) (h : s.size = 32) :
    Calls Try.prog 5 #[line a b c d, .string s] w fun e w' => e = .returned (.bool true) ∧ Below w.heap.size w w' := by
  have P := Lib.hid fun W => pack_any a b c d W
  have U := Lib.hid fun W => unpack_pack a b c d ha hb hc hd W
  have V := Lib.hid fun W => unpack_ok s W h
  have Q := Lib.hid fun W => pack_unpack s h W
  generalize wordOf s 0 = x0 at V Q
  generalize wordOf s 1 = x1 at V Q
  generalize wordOf s 2 = x2 at V Q
  generalize wordOf s 3 = x3 at V Q
  clear h ha hb hc hd
  have low := Below.refl w.heap.size w
  have bx := Box.new w 24 #[.int .u64 a, .int .u64 b, .int .u64 c, .int .u64 d]
  replace low := gAlloc low (.cells #[.int .u64 a, .int .u64 b, .int .u64 c, .int .u64 d] 24)
  have eqL := eqLine
  go_enter Try.func5, Try.ntmps5
  go_wp2_with fail
  (with_reducible refine (wordy_yes _).mono ?_); rintro e w1 ⟨rfl, hb⟩
  replace bx := bx.call hb
  replace low := gCall low hb
  clear hb
  have bx_0 := bx.at_ 0 rfl
  have bx_1 := bx.at_ 1 rfl
  have bx_2 := bx.at_ 2 rfl
  have bx_3 := bx.at_ 3 rfl
  go_wp2_with fail
  (with_reducible refine (P.out _).mono ?_); rintro e w2 ⟨rfl, hb⟩
  replace bx := bx.call hb
  replace low := gCall low hb
  clear hb bx_0 bx_1 bx_2 bx_3
  go_wp2_with fail
  (with_reducible refine (U.out _).mono ?_); rintro e w3 ⟨rfl, hb⟩
  replace bx := bx.call hb
  replace low := gCall low hb
  clear hb
  have x := Box.new w3 24 #[.int .u64 a, .int .u64 b, .int .u64 c, .int .u64 d]
  replace low := gAlloc low (.cells #[.int .u64 a, .int .u64 b, .int .u64 c, .int .u64 d] 24)
  replace bx := bx.alloc (.cells #[.int .u64 a, .int .u64 b, .int .u64 c, .int .u64 d] 24)
  go_wp2_with fail
  (with_reducible refine (V.out _).mono ?_); rintro e w4 ⟨rfl, hb⟩
  replace bx := bx.call hb
  replace x := x.call hb
  replace low := gCall low hb
  clear hb
  have y := Box.new w4 24 #[.int .u64 x0, .int .u64 x1, .int .u64 x2, .int .u64 x3]
  replace low := gAlloc low (.cells #[.int .u64 x0, .int .u64 x1, .int .u64 x2, .int .u64 x3] 24)
  replace bx := bx.alloc (.cells #[.int .u64 x0, .int .u64 x1, .int .u64 x2, .int .u64 x3] 24)
  replace x := x.alloc (.cells #[.int .u64 x0, .int .u64 x1, .int .u64 x2, .int .u64 x3] 24)
  have bx_0 := bx.at_ 0 rfl
  have bx_1 := bx.at_ 1 rfl
  have bx_2 := bx.at_ 2 rfl
  have bx_3 := bx.at_ 3 rfl
  have x_0 := x.at_ 0 rfl
  have x_1 := x.at_ 1 rfl
  have x_2 := x.at_ 2 rfl
  have x_3 := x.at_ 3 rfl
  have y_0 := y.at_ 0 rfl
  have y_1 := y.at_ 1 rfl
  have y_2 := y.at_ 2 rfl
  have y_3 := y.at_ 3 rfl
  go_wp2_with fail
  (with_reducible refine (Q.out _).mono ?_); rintro e w5 ⟨rfl, hb⟩
  replace bx := bx.call hb
  replace x := x.call hb
  replace y := y.call hb
  replace low := gCall low hb
  clear hb bx_0 bx_1 bx_2 bx_3 x_0 x_1 x_2 x_3 y_0 y_1 y_2 y_3
  go_wp2_with fail
  go_ret
  exact ⟨rfl, low⟩

theorem walk (v0 v1 : Value) (w : World) (h0 : IsLine v0) (h1 : IsStr v1) :
    Calls Try.prog 5 #[v0, v1] w fun e w' => e = .returned (.bool true) ∧ Below w.heap.size w w' := by
  obtain ⟨a, b, c, d, rfl, ha, hb, hc, hd⟩ := h0
  obtain ⟨s, rfl, _⟩ := h1
  by_cases h : s.size = 32
  · exact walk_good a b c d s ha hb hc hd w h
  · exact walk_bad a b c d s ha hb hc hd w h

set_option maxRecDepth 100000 in
theorem lifted (os : Os) (started : os.Started) (H : Type) (enc : TypeId × Value → H) :
    ReturnsInHanded {} Try.checked os 5 .any (Rows.wordsBackSpec.pre6 enc Try.prog Try.f5 Rows.wordsBackRow.domain false) (Rows.wordsBackSpec.post enc Try.prog Try.f5 false true false false) := by
  refine returnsInHanded_of_change (C := Try.checked) own started (by kernel_rfl) Try.func5
    (ChangeSpec.witness6 (enc := enc) (C := Try.checked) false ⟨#[], #[line 1 2 3 4, .string ⟨#[]⟩], []⟩ 8 (by kernel_rfl) (by kernel_rfl) (by kernel_rfl) (by kernel_rfl)) ?_
  intro W base args ds gs before hval0 hW hcnd _
  have hval : ∀ (j : Nat) t v, Try.f5.params[j]? = some t → args[j]? = some v → Value.okWide Try.prog W .any base t v := hval0
  have hW' := hW
  obtain ⟨p, q, hA0, hV, rfl, hfz, hnd⟩ := hW
  have hA : DataW.TrodAll enc Try.prog W 0 (fun _ => true) true Try.f5.params.toList args.toList ds p := hA0
  rw [Try.params5] at hA hval
  obtain ⟨v0, vs0, d0, ds0, p0, q0, hargs, rfl, rfl, h0, r0⟩ := trodAll_cons hA
  obtain ⟨v1, vs1, d1, ds1, p1, q1, rfl, rfl, rfl, h1, r1⟩ := trodAll_cons r0
  obtain ⟨rfl, rfl, rfl⟩ := trodAll_nil r1
  obtain rfl : args = #[v0, v1] := by cases args; simp_all
  have k0 := openLine (hval 0 24 v0 rfl rfl) h0
  have k1 := openStr (hval 1 9 v1 rfl rfl) h1
  obtain ⟨rfl, rfl⟩ := trodVars_none hV
  clear hA0 hval0
  refine (walk v0 v1 W k0 k1).mono fun e W' ⟨he, bel⟩ => ⟨_, he, ?_⟩
  exact law_post (by kernel_rfl) (by kernel_rfl) rfl hW' rfl rfl rfl bel

theorem over : Rows.wordsBackRow.holds Try.pinned (OpenSpec.ofChange Rows.wordsBackSpec) :=
  OpenClaim.holds_of_wide 5 Try.f5 rfl rfl rfl rfl rfl rfl rfl ⟨rfl, rfl, rfl, rfl, rfl⟩ rfl rfl rfl rfl rfl (by kernel_rfl) Try.func5 (by kernel_rfl)
    (of_decide_eq_true (by kernel_rfl)) (by unfold Func.isWrapper; first | (rw [if_pos (by decide +kernel)]; kernel_rfl) | (rw [if_neg (by decide +kernel)]; exact ⟨rfl, rfl⟩))
    (fun os started H enc _ => lifted os started H enc)

/-- The statement. -/
theorem wordsBack_holds : Rows.WordsBackSaid := over
end Go.Proofs.Ytgmcopadokojfaa.wordsBack
namespace Go.Proofs.Ytgmcopadokojfaa
theorem wordsBack_holds : Rows.WordsBackSaid := wordsBack.wordsBack_holds
#print axioms wordsBack_holds
end Go.Proofs.Ytgmcopadokojfaa
