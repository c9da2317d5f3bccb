/-
Proved: the law 'RowTurns' returns true for every argument, and changes nothing that was there. No condition.
-/
import Derived.Test.YtmodajmjmdigfaaRowFacts
import Derived.Test.YtmodajmjmdigfaaRowOpen
import Derived.Test.YtmodajmjmdigfaaGood2
namespace Go.Proofs.Ytmodajmjmdigfaa.rowTurns
open Go.ChangeShapes Go.WideShapes Go.ChangeAt Go.RowKit Go.Joins

/-- A slice of one empty way that was just made. -/
theorem ws_made (w : World) : Ws (w.alloc (.cells zeroA 32)) (.slice (some ⟨w.heap.size, 0, none⟩) 1 1) [wy0] := by
  have own : Own (w.alloc (.cells zeroA 32)) w.heap.size (.slice (some ⟨w.heap.size, 0, none⟩) 1 1) [wy0] := by
    refine ⟨1, zeroA, rfl, Box.new w _ _, by simp, by unfold maxLen; omega, rfl, fun q y hy r hr => ?_⟩
    have hq : q = 0 := by have := set_lt hy; simpa using this
    subst hq
    simp at hy
    subst hy
    match r, hr with
    | 0, _ | 1, _ | 2, _ | 3, _ | 4, _ | 5, _ => rfl
  exact own.ws

theorem lt5 {j : Nat} (h : j < 5) : j = 0 ∨ j = 1 ∨ j = 2 ∨ j = 3 ∨ j = 4 := by omega

theorem rows_yes (w : World) : Calls Try.prog 8 #[] w fun e w' => e = .returned (.bool true) ∧ Below w.heap.size w w' := by
  have P := Lib.hid fun w' (hw : Ws w' (.slice (some ⟨w.heap.size, 0, none⟩) 1 1) [wy0]) => rowPut_ok (.slice (some ⟨w.heap.size, 0, none⟩) 1 1) [wy0] false false false 1 ⟨1, 3, 0, 0, 0, 0⟩ 0 wy0 w' hw (by decide) (by decide) rfl
  have MS : ∀ w, (Instr.makeSlice 22 (.int .i64 1) (.int .i64 1)).run Try.prog w = .ok (.slice (some ⟨w.heap.size, 0, none⟩) 1 1) (w.alloc (.cells zeroA 32)) := fun w => by kernel_rfl
  have M := Lib.hid (ws_made w)
  have low := Below.refl w.heap.size w
  go_enter Try.func8, Try.ntmps8
  go_wp2_with fail
  (with_reducible refine (P.out _ M.out).mono ?_); rintro e w1 ⟨⟨v', rfl, fr⟩, hb⟩
  replace low := gCall (gAlloc low _) hb
  obtain ⟨A', c', rfl⟩ := fr.shape
  obtain ⟨hl, A, cp, e, h1, h2, h3⟩ := fr.ws
  cases e
  obtain ⟨bb, o, rfl, hbb, hc⟩ := h3 (by simp)
  obtain ⟨c0, c1, c2, c3, c4, c5⟩ := wayAt_of (k := 0) (x := ⟨1, 3, 0, 0, 0, 0⟩) hc hbb (Below.refl _ _) rfl
  clear hb fr hc h3 h1 h2 hl
  simp only [Nat.zero_mul, Nat.add_zero] at c1
  clear c0 c2 c3 c4 c5
  go_wp2_with fail
  go_ret
  exact ⟨rfl, gAlloc (gAlloc low _) _⟩

set_option maxHeartbeats 2000000 in
theorem walk_bad (v : Value) (l : List Wy) (a b c : Bool) (n : Int) (x : Wy) (m : Int) (w : World) (h : Ws w v l) (he : putE l a b c n x ≠ 0) :
    Calls Try.prog 3 #[rowV v a b c, .int .i64 n, x.val, .int .i64 m] w fun e w' => e = .returned (.bool true) ∧ Below w.heap.size w w' := by
  have P := Lib.hid fun w' hw => rowPut_bad v l a b c n x w' hw he
  generalize putE l a b c n x = E at P he
  have he' : (E != 0) = true := by simpa using he
  clear he
  have eq0 := fun w => eqWay wy0 wy0 w
  simp only [Wy.val, wy0, show eqW ⟨0, 0, 0, 0, 0, 0⟩ ⟨0, 0, 0, 0, 0, 0⟩ = true from rfl] at eq0
  have low := Below.refl w.heap.size w
  have rb := boxNext low 26 (rowA v a b c)
  replace low := gAlloc low (.cells (rowA v a b c) 26)
  replace h := h.alloc (.cells (rowA v a b c) 26)
  try simp only [World.size_alloc] at rb
  simp only [rowA] at rb
  have xb := boxNext low 32 x.arr
  replace low := gAlloc low (.cells x.arr 32)
  replace h := h.alloc (.cells x.arr 32)
  replace rb := rb.alloc (.cells x.arr 32)
  try simp only [World.size_alloc] at xb
  simp only [Wy.arr] at xb
  go_enter Try.func3, Try.ntmps3
  go_wp2_with fail
  (with_reducible refine (rows_yes _).mono ?_); rintro e w1 ⟨rfl, hb⟩
  replace h := h.call hb
  replace rb := rb.call hb
  replace xb := xb.call hb
  replace low := gCall low hb
  clear hb
  have rb_0 := rb.at_ 0 rfl
  have rb_1 := rb.at_ 1 rfl
  have rb_2 := rb.at_ 2 rfl
  have rb_3 := rb.at_ 3 rfl
  have xb_0 := xb.at_ 0 rfl
  have xb_1 := xb.at_ 1 rfl
  have xb_2 := xb.at_ 2 rfl
  have xb_3 := xb.at_ 3 rfl
  have xb_4 := xb.at_ 4 rfl
  have xb_5 := xb.at_ 5 rfl
  go_wp2_with fail
  (with_reducible refine (P.out _ h).mono ?_); rintro e w2 ⟨rfl, hb⟩
  replace h := h.call hb
  replace low := gCall low hb
  clear hb rb_0 rb_1 rb_2 rb_3 xb_0 xb_1 xb_2 xb_3 xb_4 xb_5
  go_wp2_with fail
  go_ret
  exact ⟨rfl, gAlloc (gAlloc low _) _⟩

set_option maxRecDepth 100000 in
set_option maxHeartbeats 4000000 in
theorem walk_good (v : Value) (l : List Wy) (a b c : Bool) (n : Int) (x : Wy) (m : Int) (k : Nat) (y : Wy) (w : World) (h : Ws w v l) (he : putE l a b c n x = 0) (hk : roomN l a b c n = k) (hy : l[k]? = some y) :
    Calls Try.prog 3 #[rowV v a b c, .int .i64 n, x.val, .int .i64 m] w fun e w' => e = .returned (.bool true) ∧ Below w.heap.size w w' := by
  obtain ⟨g1, g2, g3, g4, g5, g6, g7⟩ := put_facts he hy
  have P := Lib.hid fun w' hw => rowPut_ok v l a b c n x k y w' hw he hk hy
  have R := Lib.hid fun w' hw => rowFind_ok v l a b c n m w' hw g1
  generalize touchT a b c n k = t at *
  have kl := set_lt hy
  have ll : (l.set k x).length = l.length := by simp
  generalize l.set k x = la at *
  have lb0 : (la.set k wy0).length = l.length := by simp [ll]
  have F1 := Lib.hid fun va w' (hw : Ws w' va la) => rowFind_ok va la t.1 t.2.1 t.2.2 n x.ln w' hw g2
  have F2 := Lib.hid fun va w' (hw : Ws w' va la) => rowFind_ok va la t.1 t.2.1 t.2.2 n m w' hw g2
  have T := Lib.hid fun va w' (hw : Ws w' va la) => rowTake_ok va la t.1 t.2.1 t.2.2 n x.ln k x w' hw g2 g3 g4
  generalize la.set k wy0 = lb at *
  have F3 := Lib.hid fun vb w' (hw : Ws w' vb lb) => rowFind_ok vb lb t.1 t.2.1 t.2.2 n x.ln w' hw g5
  have C1 := Lib.hid fun va w' (hw : Ws w' va la) => rowCheck_any va la t.1 t.2.1 t.2.2 n w' hw
  have C2 := Lib.hid fun vb w' (hw : Ws w' vb lb) => rowCheck_any vb lb t.1 t.2.1 t.2.2 n w' hw
  rw [g2] at C1
  rw [g5] at C2
  rw [g3] at F1
  rw [g6] at F3
  have G7 := Lib.hid (g7 m)
  have G4 := Lib.hid g4
  generalize idxP (hasW m) la = q at F2 G7
  generalize idxP (hasW m) l = z at R G7
  clear he hk hy g1 g2 g3 g4 g5 g6 g7
  obtain ⟨A, cp, rfl⟩ : ∃ A cp, v = .slice A l.length cp := by obtain ⟨_, A, c, e, _⟩ := h; exact ⟨A, c, e⟩
  have low := Below.refl w.heap.size w
  have rb := boxNext low 26 (rowA (.slice A l.length cp) a b c)
  replace low := gAlloc low (.cells (rowA (.slice A l.length cp) a b c) 26)
  replace h := h.alloc (.cells (rowA (.slice A l.length cp) a b c) 26)
  try simp only [World.size_alloc] at rb
  simp only [rowA] at rb
  have xb := boxNext low 32 x.arr
  replace low := gAlloc low (.cells x.arr 32)
  replace h := h.alloc (.cells x.arr 32)
  replace rb := rb.alloc (.cells x.arr 32)
  try simp only [World.size_alloc] at xb
  simp only [Wy.arr] at xb
  go_enter Try.func3, Try.ntmps3
  go_wp2_with fail
  (with_reducible refine (rows_yes _).mono ?_); rintro e w1 ⟨rfl, hb⟩
  replace h := h.call hb
  replace rb := rb.call hb
  replace xb := xb.call hb
  replace low := gCall low hb
  clear hb
  have rb_0 := rb.at_ 0 rfl
  have rb_1 := rb.at_ 1 rfl
  have rb_2 := rb.at_ 2 rfl
  have rb_3 := rb.at_ 3 rfl
  have xb_0 := xb.at_ 0 rfl
  have xb_1 := xb.at_ 1 rfl
  have xb_2 := xb.at_ 2 rfl
  have xb_3 := xb.at_ 3 rfl
  have xb_4 := xb.at_ 4 rfl
  have xb_5 := xb.at_ 5 rfl
  go_wp2_with fail
  (with_reducible refine (P.out _ h).mono ?_); rintro e w2 ⟨⟨va, rfl, fr⟩, hb⟩
  clear rb_0 rb_1 rb_2 rb_3 xb_0 xb_1 xb_2 xb_3 xb_4 xb_5
  replace h := h.call hb
  replace rb := rb.call hb
  replace xb := xb.call hb
  replace low := gCall low hb
  clear hb
  obtain ⟨Aa, ca, rfl⟩ := fr.shape
  have wa := fr.ws
  clear fr
  rw [ll] at wa ⊢
  have ab := boxNext low 26 (rowA (.slice Aa l.length ca) t.1 t.2.1 t.2.2)
  replace low := gAlloc low (.cells (rowA (.slice Aa l.length ca) t.1 t.2.1 t.2.2) 26)
  replace h := h.alloc (.cells (rowA (.slice Aa l.length ca) t.1 t.2.1 t.2.2) 26)
  replace rb := rb.alloc (.cells (rowA (.slice Aa l.length ca) t.1 t.2.1 t.2.2) 26)
  replace xb := xb.alloc (.cells (rowA (.slice Aa l.length ca) t.1 t.2.1 t.2.2) 26)
  replace wa := wa.alloc (.cells (rowA (.slice Aa l.length ca) t.1 t.2.1 t.2.2) 26)
  try simp only [World.size_alloc] at ab
  simp only [rowA] at ab
  have yb := boxNext low 32 y.arr
  replace low := gAlloc low (.cells y.arr 32)
  replace h := h.alloc (.cells y.arr 32)
  replace rb := rb.alloc (.cells y.arr 32)
  replace xb := xb.alloc (.cells y.arr 32)
  replace wa := wa.alloc (.cells y.arr 32)
  replace ab := ab.alloc (.cells y.arr 32)
  try simp only [World.size_alloc] at yb
  simp only [Wy.arr] at yb
  have xb_0 := xb.at_ 0 rfl
  have xb_1 := xb.at_ 1 rfl
  go_wp2_with fail
  (with_reducible refine (F1.out _ _ wa).mono ?_); rintro e w3 ⟨rfl, hb⟩
  replace h := h.call hb
  replace rb := rb.call hb
  replace xb := xb.call hb
  replace wa := wa.call hb
  replace ab := ab.call hb
  replace yb := yb.call hb
  replace low := gCall low hb
  clear hb xb_0 xb_1
  have ab_0 := ab.at_ 0 rfl
  have ab_1 := ab.at_ 1 rfl
  have ab_2 := ab.at_ 2 rfl
  have ab_3 := ab.at_ 3 rfl
  go_wp2_with fail
  (with_reducible refine (F2.out _ _ wa).mono ?_); rintro e w4 ⟨rfl, hb⟩
  replace h := h.call hb
  replace rb := rb.call hb
  replace xb := xb.call hb
  replace wa := wa.call hb
  replace ab := ab.call hb
  replace yb := yb.call hb
  replace low := gCall low hb
  clear hb ab_0 ab_1 ab_2 ab_3
  have rb_0 := rb.at_ 0 rfl
  have rb_1 := rb.at_ 1 rfl
  have rb_2 := rb.at_ 2 rfl
  have rb_3 := rb.at_ 3 rfl
  go_wp2_with fail
  (with_reducible refine (R.out _ h).mono ?_); rintro e w5 ⟨rfl, hb⟩
  replace h := h.call hb
  replace rb := rb.call hb
  replace xb := xb.call hb
  replace wa := wa.call hb
  replace ab := ab.call hb
  replace yb := yb.call hb
  replace low := gCall low hb
  clear hb rb_0 rb_1 rb_2 rb_3
  have ab_0 := ab.at_ 0 rfl
  have ab_1 := ab.at_ 1 rfl
  have ab_2 := ab.at_ 2 rfl
  have ab_3 := ab.at_ 3 rfl
  have xb_0 := xb.at_ 0 rfl
  have xb_1 := xb.at_ 1 rfl
  go_wp2_with fail
  (with_reducible refine (T.out _ _ wa).mono ?_); rintro e w6 ⟨⟨vb, rfl, fr⟩, hb⟩
  clear ab_0 ab_1 ab_2 ab_3 xb_0 xb_1
  replace xb := xb.call hb
  replace wa := wa.call hb
  replace ab := ab.call hb
  replace yb := yb.call hb
  replace low := gCall low hb
  clear hb h rb
  obtain ⟨Ab, cb, rfl⟩ := fr.shape
  have wb := fr.ws
  clear fr
  rw [lb0] at wb ⊢
  have bb := boxNext low 26 (rowA (.slice Ab l.length cb) t.1 t.2.1 t.2.2)
  replace low := gAlloc low (.cells (rowA (.slice Ab l.length cb) t.1 t.2.1 t.2.2) 26)
  replace xb := xb.alloc (.cells (rowA (.slice Ab l.length cb) t.1 t.2.1 t.2.2) 26)
  replace wa := wa.alloc (.cells (rowA (.slice Ab l.length cb) t.1 t.2.1 t.2.2) 26)
  replace ab := ab.alloc (.cells (rowA (.slice Ab l.length cb) t.1 t.2.1 t.2.2) 26)
  replace yb := yb.alloc (.cells (rowA (.slice Ab l.length cb) t.1 t.2.1 t.2.2) 26)
  replace wb := wb.alloc (.cells (rowA (.slice Ab l.length cb) t.1 t.2.1 t.2.2) 26)
  try simp only [World.size_alloc] at bb
  simp only [rowA] at bb
  have tb := boxNext low 32 x.arr
  replace low := gAlloc low (.cells x.arr 32)
  replace xb := xb.alloc (.cells x.arr 32)
  replace wa := wa.alloc (.cells x.arr 32)
  replace ab := ab.alloc (.cells x.arr 32)
  replace yb := yb.alloc (.cells x.arr 32)
  replace wb := wb.alloc (.cells x.arr 32)
  replace bb := bb.alloc (.cells x.arr 32)
  try simp only [World.size_alloc] at tb
  simp only [Wy.arr] at tb
  have xb_0 := xb.at_ 0 rfl
  have xb_1 := xb.at_ 1 rfl
  go_wp2_with fail
  (with_reducible refine (F3.out _ _ wb).mono ?_); rintro e w7 ⟨rfl, hb⟩
  replace xb := xb.call hb
  replace wa := wa.call hb
  replace ab := ab.call hb
  replace yb := yb.call hb
  replace wb := wb.call hb
  replace bb := bb.call hb
  replace tb := tb.call hb
  replace low := gCall low hb
  clear hb xb_0 xb_1
  clear P R F1 F2 F3 T
  obtain ⟨hl, A2, cx, e2, h1, h2, h3⟩ := id wa
  simp only [Value.slice.injEq] at e2
  obtain ⟨rfl, he2, rfl⟩ := e2
  clear he2
  obtain ⟨ba, oa, rfl, hba, hca⟩ := h3 (by rw [ll]; omega)
  obtain ⟨c0, c1, c2, c3, c4, c5⟩ := wayAt_of hca hba (Below.refl _ _) G4.out
  obtain ⟨x0, x1, x2, x3, x4, x5⟩ := xb.wayC
  obtain ⟨t0, t1, t2, t3, t4, t5⟩ := tb.wayC
  obtain ⟨a0, a1, a2, a3⟩ := ab.rowC
  obtain ⟨y0, y1, _, _, _, _⟩ := yb.wayC
  obtain ⟨b0, b1, b2, b3⟩ := bb.rowC
  clear hl h1 h2 h3 hca ll lb0 ab bb tb xb
  have k0 : (0 : Int) ≤ k := by omega
  have k1 : (k : Int) < l.length := by omega
  have kd : decide ((k : Int) < 0) = false := decide_eq_false (by omega)
  have ke : decide ((l.length : Int) ≤ (k : Int)) = false := decide_eq_false (by omega)
  have ke2 : decide (l.length ≤ k) = false := decide_eq_false (by omega)
  have ke3 : ¬ l.length ≤ k := by omega
  have eqx := fun w => eqWay x x w
  rw [(eqW_iff x x).2 rfl] at eqx
  simp only [Wy.val] at eqx
  go_wp2_with fail
  go_region_held3 (fun w' => w'.cell? ⟨w2.heap.size, 0, none⟩ = some (.slice (some ⟨ba, oa, none⟩) l.length ca) ∧ w'.cell? ⟨w2.heap.size, 1, none⟩ = some (.bool t.1) ∧ w'.cell? ⟨w2.heap.size, 2, none⟩ = some (.bool t.2.1) ∧ w'.cell? ⟨w2.heap.size, 3, none⟩ = some (.bool t.2.2) ∧ w'.cell? ⟨w.heap.size + 1, 0, none⟩ = some (.int .i64 x.st) ∧ w'.cell? ⟨w.heap.size + 1, 1, none⟩ = some (.int .i64 x.ln) ∧ w'.cell? ⟨w.heap.size + 1, 2, none⟩ = some (.int .u64 x.a) ∧ w'.cell? ⟨w.heap.size + 1, 3, none⟩ = some (.int .u64 x.b) ∧ w'.cell? ⟨w.heap.size + 1, 4, none⟩ = some (.int .u64 x.c) ∧ w'.cell? ⟨w.heap.size + 1, 5, none⟩ = some (.int .u64 x.d) ∧ w'.cell? ⟨w6.heap.size + 1, 0, none⟩ = some (.int .i64 x.st) ∧ w'.cell? ⟨w6.heap.size + 1, 1, none⟩ = some (.int .i64 x.ln) ∧ w'.cell? ⟨w6.heap.size + 1, 2, none⟩ = some (.int .u64 x.a) ∧ w'.cell? ⟨w6.heap.size + 1, 3, none⟩ = some (.int .u64 x.b) ∧ w'.cell? ⟨w6.heap.size + 1, 4, none⟩ = some (.int .u64 x.c) ∧ w'.cell? ⟨w6.heap.size + 1, 5, none⟩ = some (.int .u64 x.d) ∧ w'.cell? ⟨w6.heap.size, 0, none⟩ = some (.slice Ab l.length cb) ∧ w'.cell? ⟨w6.heap.size, 1, none⟩ = some (.bool t.1) ∧ w'.cell? ⟨w6.heap.size, 2, none⟩ = some (.bool t.2.1) ∧ w'.cell? ⟨w6.heap.size, 3, none⟩ = some (.bool t.2.2) ∧ w'.cell? ⟨ba, oa + k * 6, none⟩ = some (.int .i64 x.st) ∧ w'.cell? ⟨ba, oa + k * 6 + 1, none⟩ = some (.int .i64 x.ln) ∧ w'.cell? ⟨ba, oa + k * 6 + 2, none⟩ = some (.int .u64 x.a) ∧ w'.cell? ⟨ba, oa + k * 6 + 3, none⟩ = some (.int .u64 x.b) ∧ w'.cell? ⟨ba, oa + k * 6 + 4, none⟩ = some (.int .u64 x.c) ∧ w'.cell? ⟨ba, oa + k * 6 + 5, none⟩ = some (.int .u64 x.d) ∧ w'.cell? ⟨w2.heap.size + 1, 0, none⟩ = some (.int .i64 y.st) ∧ w'.cell? ⟨w2.heap.size + 1, 1, none⟩ = some (.int .i64 y.ln) ∧ Ws w' (.slice (some ⟨ba, oa, none⟩) l.length ca) la ∧ Ws w' (.slice Ab l.length cb) lb ∧ Below w.heap.size w w')
    (first
      | (with_reducible exact ⟨drewC a0, drewC a1, drewC a2, drewC a3, drewC x0, drewC x1, drewC x2, drewC x3, drewC x4, drewC x5, drewC t0, drewC t1, drewC t2, drewC t3, drewC t4, drewC t5, drewC b0, drewC b1, drewC b2, drewC b3, drewC c0, drewC c1, drewC c2, drewC c3, drewC c4, drewC c5, drewC y0, drewC y1, wa.drew, wb.drew, low.drew⟩)
      | (with_reducible assumption)
      | (go_split_ands
         refine ⟨?_, ?_, ?_, ?_, ?_, ?_, ?_, ?_, ?_, ?_, ?_, ?_, ?_, ?_, ?_, ?_, ?_, ?_, ?_, ?_, ?_, ?_, ?_, ?_, ?_, ?_, ?_, ?_, ?_, ?_, ?_⟩ <;> with_reducible (first | (refine allocC _ ?_; assumption) | (refine drewC ?_; refine allocC _ ?_; assumption) | (refine Ws.drew ?_; refine Ws.alloc ?_ _; assumption) | (refine Below.drew ?_; refine gAlloc ?_ _; assumption)))
      | (go_split_ands
         refine ⟨?_, ?_, ?_, ?_, ?_, ?_, ?_, ?_, ?_, ?_, ?_, ?_, ?_, ?_, ?_, ?_, ?_, ?_, ?_, ?_, ?_, ?_, ?_, ?_, ?_, ?_, ?_, ?_, ?_, ?_, ?_⟩ <;> with_reducible (first | (refine callC hb ?_; assumption) | (refine Ws.call ?_ hb; assumption) | (refine gCall ?_ hb; assumption))))
    (first
      | (go_at_call 12; refine (good_any _ 5 (fun _ => 0) _ (by omega) (by intro j hj; rcases lt5 hj with rfl | rfl | rfl | rfl | rfl <;> go_simp)).mono ?_; rintro e w' ⟨rfl, rfl⟩; rw [show noneB (fun _ => 0) 5 = true from rfl])
      | (go_at_call 13; refine (C1.out _ _ (by go_split_ands; assumption)).mono ?_; rintro e w' ⟨rfl, hb⟩)
      | (go_at_call 13; refine (C2.out _ _ (by go_split_ands; assumption)).mono ?_; rintro e w' ⟨rfl, hb⟩))
  rename_i hH
  obtain ⟨_, _, _, _, _, u1, _, _, _, _, _, _, _, _, _, _, _, _, _, _, _, _, _, _, _, _, u2, u3, _, _, low⟩ := hH
  clear hb wa wb C1 C2 a0 a1 a2 a3 x0 x1 x2 x3 x4 x5 t0 t1 t2 t3 t4 t5 b0 b1 b2 b3 c0 c1 c2 c3 c4 c5 y0 y1
  have g7 := G7.out
  cases hm : (m == x.ln)
  rotate_left
  · clear g7
    go_wp2_with fail
    go_ret
    exact ⟨rfl, low⟩
  have hm' : m ≠ x.ln := by simpa using hm
  have cs : ((y.st != 0) = false ∨ ((y.st != 0) = true ∧ (m == y.ln) = false) ∨ ((y.st != 0) = true ∧ (m == y.ln) = true ∧ decide (q < 0) = false) ∨ ((y.st != 0) = true ∧ (m == y.ln) = true ∧ decide (q < 0) = true ∧ decide (0 ≤ z) = false)) ∨ ((y.st != 0) = true ∧ (m == y.ln) = true ∧ decide (q < 0) = true ∧ decide (0 ≤ z) = true) := by
    cases (y.st != 0) <;> cases (m == y.ln) <;> cases decide (q < 0) <;> cases decide (0 ≤ z) <;> simp
  rcases cs with cs | ⟨s1, s2, s3, s4⟩
  rotate_left
  · clear g7 hm'
    go_wp2_with fail
    go_ret
    exact ⟨rfl, low⟩
  have hqz : (q == z) = true := by
    rcases g7 with g7 | ⟨p1, p2, p3, p4⟩ | g7
    · exact absurd g7 hm'
    · exfalso
      rcases cs with t | ⟨_, t⟩ | ⟨_, _, t⟩ | ⟨_, _, _, t⟩
      · exact p1 (by simpa using t)
      · simp at t; exact t p2
      · simp at t; omega
      · simp at t; omega
    · simp [g7]
  clear g7 hm'
  rcases cs with s1 | ⟨s1, s2⟩ | ⟨s1, s2, s3⟩ | ⟨s1, s2, s3, s4⟩
  all_goals
    go_wp2_with fail
    go_ret
    exact ⟨rfl, low⟩

theorem walk (v0 v1 v2 v3 : Value) (w : World) (h0 : IsRow w v0) (h1 : IsInt v1) (h2 : IsWay v2) (h3 : IsInt v3) :
    Calls Try.prog 3 #[v0, v1, v2, v3] w fun e w' => e = .returned (.bool true) ∧ Below w.heap.size w w' := by
  obtain ⟨s, l, a, b, c, rfl, ws⟩ := h0
  obtain ⟨n, rfl, _⟩ := h1
  obtain ⟨x, rfl⟩ := h2
  obtain ⟨m, rfl, _⟩ := h3
  by_cases he : putE l a b c n x = 0
  · obtain ⟨k, y, hk, hy⟩ := room_in (putE_ok he).1
    exact walk_good s l a b c n x m k y w ws he hk hy
  · exact walk_bad s l a b c n x m w ws he

set_option maxRecDepth 100000 in
theorem lifted (os : Os) (started : os.Started) (H : Type) (enc : TypeId × Value → H) :
    ReturnsInHanded {} Try.checked os 3 .any (Rows.rowTurnsSpec.pre6 enc Try.prog Try.f3 Rows.rowTurnsRow.domain false) (Rows.rowTurnsSpec.post enc Try.prog Try.f3 false true false false) := by
  refine returnsInHanded_of_change (C := Try.checked) own started (by kernel_rfl) Try.func3
    (ChangeSpec.witness6 (enc := enc) (C := Try.checked) false ⟨#[], #[noRow, .int .i64 2, zeroV, .int .i64 3], []⟩ 8 (by kernel_rfl) (by kernel_rfl) (by kernel_rfl) (by kernel_rfl)) ?_
  intro W base args ds gs before hval0 hW hcnd _
  have hval : ∀ (j : Nat) t v, Try.f3.params[j]? = some t → args[j]? = some v → Value.okWide Try.prog W .any base t v := hval0
  have hW' := hW
  obtain ⟨p, q, hA0, hV, rfl, hfz, hnd⟩ := hW
  have hA : DataW.TrodAll enc Try.prog W 0 (fun _ => true) true Try.f3.params.toList args.toList ds p := hA0
  rw [Try.params3] at hA hval
  obtain ⟨v0, vs0, d0, ds0, p0, q0, hargs, rfl, rfl, h0, r0⟩ := trodAll_cons hA
  obtain ⟨v1, vs1, d1, ds1, p1, q1, rfl, rfl, rfl, h1, r1⟩ := trodAll_cons r0
  obtain ⟨v2, vs2, d2, ds2, p2, q2, rfl, rfl, rfl, h2, r2⟩ := trodAll_cons r1
  obtain ⟨v3, vs3, d3, ds3, p3, q3, rfl, rfl, rfl, h3, r3⟩ := trodAll_cons r2
  obtain ⟨rfl, rfl, rfl⟩ := trodAll_nil r3
  obtain rfl : args = #[v0, v1, v2, v3] := by cases args; simp_all
  have k0 := openRow (hval 0 26 v0 rfl rfl) h0
  have k1 := openInt (hval 1 3 v1 rfl rfl) h1
  have k2 := openWay (hval 2 32 v2 rfl rfl) h2
  have k3 := openInt (hval 3 3 v3 rfl rfl) h3
  obtain ⟨rfl, rfl⟩ := trodVars_none hV
  clear hA0 hval0
  refine (walk v0 v1 v2 v3 W k0 k1 k2 k3).mono fun e W' ⟨he, bel⟩ => ⟨_, he, ?_⟩
  exact law_post (by kernel_rfl) (by kernel_rfl) rfl hW' rfl rfl rfl bel

theorem over : Rows.rowTurnsRow.holds Try.pinned (OpenSpec.ofChange Rows.rowTurnsSpec) :=
  OpenClaim.holds_of_wide 3 Try.f3 rfl rfl rfl rfl rfl rfl rfl ⟨rfl, rfl, rfl, rfl, rfl⟩ rfl rfl rfl rfl rfl (by kernel_rfl) Try.func3 (by kernel_rfl)
    (of_decide_eq_true (by kernel_rfl)) (by unfold Func.isWrapper; first | (rw [if_pos (by decide +kernel)]; kernel_rfl) | (rw [if_neg (by decide +kernel)]; exact ⟨rfl, rfl⟩))
    (fun os started H enc _ => lifted os started H enc)

/-- The statement. -/
theorem rowTurns_holds : Rows.RowTurnsSaid := over
end Go.Proofs.Ytmodajmjmdigfaa.rowTurns
namespace Go.Proofs.Ytmodajmjmdigfaa
theorem rowTurns_holds : Rows.RowTurnsSaid := rowTurns.rowTurns_holds
#print axioms rowTurns_holds
end Go.Proofs.Ytmodajmjmdigfaa
