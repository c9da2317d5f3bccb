/-
Proved: what the texts below say at the head of each. No condition but theirs.
-/
import Derived.Test.YtcegjehoejgofaaGreatRows
import Derived.WalkKit
import Derived.ProofKit
import Derived.OpenShut
import Derived.ChangeOld
import Derived.Below
import Derived.ChangeSame
import Derived.Lib.SmallJoins
import Derived.Lib.Hide
import Derived.Deep.QuietTactic
import Derived.BigQuiet
import Derived.LoopN
import Derived.Deep.Onto
import Derived.Deep.AppendLies
import Derived.Deep.Slices
import Derived.ChangeKeysEq
import Derived.Deep.MidRow
import Derived.Deep.WholeRow
import Derived.Deep.RegionHeld3
import Derived.Laws.MakeOwn
import Derived.StillTailTactics
namespace Go.Proofs.YtcegjehoejgofaaGreat
open Go.ChangeShapes Go.WideShapes Go.ChangeAt Go.RowKit
theorem own : ownKnob Tryz.prog.godebug = none := by kernel_rfl
theorem laidOut : laidOutB Tryz.prog = true := by kernel_rfl
theorem gAlloc {a w : World} (h : Below a.heap.size a w) (o : Obj) : Below a.heap.size a (w.alloc o) := h.alloc h.size o
theorem gDrewN {a w : World} (h : Below a.heap.size a w) (n : Nat) : Below a.heap.size a (w.drewN n) := ⟨h.os, h.tape, h.output, h.size, h.block⟩
theorem gCall {a w w' : World} (h : Below a.heap.size a w) (k : Below w.heap.size w w') : Below a.heap.size a w' := h.trans (k.mono h.size)
theorem gSet {a w : World} (h : Below a.heap.size a w) {p : Addr} (hp : a.heap.size ≤ p.block) (u : Value) : Below a.heap.size a (w.setCell p u) := h.setCell hp u
theorem bcell {W w1 : World} (hb : Below W.heap.size W w1) : (∀ b o, b < W.heap.size → w1.cell? ⟨b, o, none⟩ = W.cell? ⟨b, o, none⟩) ∧ (∀ b o, b < W.heap.size → w1.frozen? ⟨b, o, none⟩ = W.frozen? ⟨b, o, none⟩) :=
 ⟨fun b o h => hb.cell (p := ⟨b, o, none⟩) h, fun b o h => hb.frozen (p := ⟨b, o, none⟩) h⟩
def readable (P : Program) (ts : List TypeId) : Bool := ts.all fun t => P.readableRec t && decide (t < P.types.size)
theorem readable_cons {P : Program} {t : TypeId} {ts : List TypeId} (h : readable P (t :: ts) = true) : (P.readableRec t = true ∧ t < P.types.size) ∧ readable P ts = true := by
 simpa [readable] using h
theorem trodAll_below {H : Type} {enc : TypeId × Value → H} {P : Program} (hl : laidOutB P = true) {W W' : World} (hb : Below W.heap.size W W') :
  ∀ {ts : List TypeId} {vs : List Value} {ds : List (DataW H)} {ps : List MemPlace}, readable P ts = true →
   DataW.TrodAll enc P W 0 (fun _ => true) true ts vs ds ps → DataW.TrodAll enc P W' 0 (fun b => decide (b < W.heap.size)) true ts vs ds ps
 | [], [], [], _, _, h => h
 | [], [], _ :: _, _, _, h => h.elim
 | [], _ :: _, _, _, _, h => h.elim
 | _ :: _, [], _, _, _, h => h.elim
 | _ :: _, _ :: _, [], _, _, h => h.elim
 | t :: ts, v :: vs, d :: ds, ps, hr, h => by
  obtain ⟨⟨h1, h2⟩, hr'⟩ := readable_cons hr
  obtain ⟨p, q, hd, hq, e⟩ := h
  have lt : ∀ x ∈ p, x.block < W.heap.size := by obtain ⟨m, hm⟩ := hd; exact DataW.trod_lt m _ _ _ hm
  exact ⟨p, q, Below.trod hl h1 h2 hd hb lt, trodAll_below hl hb hr' hq, e⟩
theorem law_post {H : Type} {enc : TypeId × Value → H} {f : Func} {s : ChangeSpec} {W W' : World} {args : Array Value} {ds gs : List (DataW H)} {before : List MemPlace}
  (hr : readable Tryz.prog f.params.toList = true) (ht : f.resultTypes = #[4]) (hv : s.vars = [])
  (hW : DataW.Whole enc Tryz.prog f.params.toList s.vars false W args.toList ds gs before)
  (hres : (s.fn H (ds ++ gs)).results = [.lit (.bool true)]) (hargs : (s.fn H (ds ++ gs)).args = ds) (hvars : (s.fn H (ds ++ gs)).vars = [])
  (bel : Below W.heap.size W W') : s.post enc Tryz.prog f false true false false W args (.bool true) W' := by
 have hW' := hW
 obtain ⟨p, q, hA, hV, rfl, hfz, hnd⟩ := hW
 refine ⟨ds, gs, p ++ q, [], p, [], hW', ?_, ?_, ?_, bel.frame _, fun h => by cases h⟩
 ·rw [hres, ht]
  exact trodAll_mk1 (shut_bool Tryz.underlying4 _)
 ·rw [hargs]
  exact trodAll_below laidOut bel hr hA
 ·rw [hvars, hv]
  rfl
#print axioms law_post
end Go.Proofs.YtcegjehoejgofaaGreat
namespace Go.Proofs.YtcegjehoejgofaaGreat
open Go.ChangeShapes Go.WideShapes Go.ChangeAt Go.RowKit Go.Joins
def I64 (a : Int) : Prop := -9223372036854775808 ≤ a ∧ a ≤ 9223372036854775807
def IsInt (v : Value) : Prop := ∃ a, v = .int .i64 a ∧ I64 a
abbrev cfg (n s y b : Int) : Value := .agg #[.int .i64 n, .int .i64 s, .int .i64 y, .int .i64 b]
def IsCfg (v : Value) : Prop := ∃ n s y b, v = cfg n s y b ∧ I64 n ∧ I64 s ∧ I64 y ∧ I64 b
abbrev tree (a b c : Bool) : Value := .agg #[.bool a, .bool b, .bool c]
abbrev line (a b c d : Int) : Value := .agg #[.int .u64 a, .int .u64 b, .int .u64 c, .int .u64 d]
section
variable {H : Type} {enc : TypeId × Value → H} {W : World} {base : Nat} {v : Value} {d : DataW H} {p : List MemPlace}
set_option maxRecDepth 10000 in
theorem openInt (hv : Value.okWide Tryz.prog W .any base 3 v) (h : DataW.Trod enc Tryz.prog W 0 (fun _ => true) true 3 v d p) : IsInt v := by
 obtain ⟨a, rfl, _, _, wa⟩ := open_int Tryz.underlying3 hv h
 exact ⟨a, rfl, bounds_i64 wa⟩
theorem cells_cfg : Tryz.prog.cellsOf 23 = 4 := by kernel_rfl
set_option maxRecDepth 10000 in
theorem openCfg (hv : Value.okWide Tryz.prog W .any base 23 v) (h : DataW.Trod enc Tryz.prog W 0 (fun _ => true) true 23 v d p) : IsCfg v := by
 obtain ⟨c0, c1, c2, c3, y0, y1, y2, y3, m, rfl, _, _, h0, h1, h2, h3⟩ := open_agg4 Tryz.underlying23 (by kernel_rfl) cells_cfg hv h
 obtain ⟨a0, e0, _, w0⟩ := DataW.trod_int Tryz.underlying3 h0
 obtain ⟨a1, e1, _, w1⟩ := DataW.trod_int Tryz.underlying3 h1
 obtain ⟨a2, e2, _, w2⟩ := DataW.trod_int Tryz.underlying3 h2
 obtain ⟨a3, e3, _, w3⟩ := DataW.trod_int Tryz.underlying3 h3
 simp only [List.cons.injEq, and_true] at e0 e1 e2 e3
 subst e0 e1 e2 e3
 exact ⟨a0, a1, a2, a3, rfl, bounds_i64 w0, bounds_i64 w1, bounds_i64 w2, bounds_i64 w3⟩
end
end Go.Proofs.YtcegjehoejgofaaGreat
namespace Go.Proofs.YtcegjehoejgofaaGreat
open Go.ChangeShapes Go.WideShapes Go.ChangeAt Go.RowKit
def cfgB (n s y b : Int) : Bool := decide (2 ≤ n ∧ n ≤ 8 ∧ (s = 1 ∨ s = 2 ∨ s = 4) ∧ 1 ≤ y ∧ y ≤ 4 ∧ 1 ≤ b ∧ b ≤ 4)
theorem cfgB_iff {n s y b : Int} : cfgB n s y b = true ↔ (2 ≤ n ∧ n ≤ 8 ∧ (s = 1 ∨ s = 2 ∨ s = 4) ∧ 1 ≤ y ∧ y ≤ 4 ∧ 1 ≤ b ∧ b ≤ 4) := by
 unfold cfgB; exact decide_eq_true_iff
theorem cfgB_no {n s y b : Int} (h : cfgB n s y b = false) : n < 2 ∨ 8 < n ∨ (s ≠ 1 ∧ s ≠ 2 ∧ s ≠ 4) ∨ y < 1 ∨ 4 < y ∨ b < 1 ∨ 4 < b := by
 have : ¬ (2 ≤ n ∧ n ≤ 8 ∧ (s = 1 ∨ s = 2 ∨ s = 4) ∧ 1 ≤ y ∧ y ≤ 4 ∧ 1 ≤ b ∧ b ≤ 4) := by
  intro k; rw [cfgB_iff.2 k] at h; cases h
 omega
def nodeAt (n f k : Int) : Int := (f + k % n) % n
theorem nodeAt_nonneg {n f k : Int} (h : 0 < n) : 0 ≤ nodeAt n f k := Int.emod_nonneg _ (by omega)
theorem nodeAt_lt {n f k : Int} (h : 0 < n) : nodeAt n f k < n := Int.emod_lt_of_pos _ h
theorem within_yes (n lo hi : Int) (w : World) (h1 : lo ≤ n) (h2 : n ≤ hi) :
  Calls Tryz.prog 93 #[.int .i64 n, .int .i64 lo, .int .i64 hi] w fun e w' => e = .returned (.bool true) ∧ w = w' := by
 go_enter Tryz.func93, Tryz.ntmps93
 go_wp2
 go_ret
 exact ⟨rfl, rfl⟩
theorem within_no (n lo hi : Int) (w : World) (h : n < lo ∨ hi < n) :
  Calls Tryz.prog 93 #[.int .i64 n, .int .i64 lo, .int .i64 hi] w fun e w' => e = .returned (.bool false) ∧ w = w' := by
 by_cases h1 : n < lo
 ·go_enter Tryz.func93, Tryz.ntmps93
  go_wp2
  go_ret
  exact ⟨rfl, rfl⟩
 ·have h2 : hi < n := by omega
  have h3 : lo ≤ n := by omega
  have h4 : decide (n ≤ hi) = false := by simpa using h2
  clear h h1
  go_enter Tryz.func93, Tryz.ntmps93
  go_wp2
  go_ret
  exact ⟨rfl, rfl⟩
theorem isSets_yes (s : Int) (w : World) (h : s = 1 ∨ s = 2 ∨ s = 4) :
  Calls Tryz.prog 94 #[.int .i64 s] w fun e w' => e = .returned (.bool true) ∧ w = w' := by
 rcases h with rfl | rfl | rfl
 all_goals
  go_enter Tryz.func94, Tryz.ntmps94
  go_wp2
  go_ret
  exact ⟨rfl, rfl⟩
theorem isSets_no (s : Int) (w : World) (h1 : s ≠ 1) (h2 : s ≠ 2) (h4 : s ≠ 4) :
  Calls Tryz.prog 94 #[.int .i64 s] w fun e w' => e = .returned (.bool false) ∧ w = w' := by
 have k1 : (s == 1) = false := by simpa using h1
 have k2 : (s == 2) = false := by simpa using h2
 have k4 : (s == 4) = false := by simpa using h4
 clear h1 h2 h4
 go_enter Tryz.func94, Tryz.ntmps94
 go_wp2
 go_ret
 exact ⟨rfl, rfl⟩
theorem check_ok (n s y b : Int) (w : World) (h : cfgB n s y b = true) :
  Calls Tryz.prog 64 #[cfg n s y b] w fun e w' => e = .returned (.int .i64 0) ∧ Below w.heap.size w w' := by
 obtain ⟨h1, h2, h3, h4, h5, h6, h7⟩ := cfgB_iff.1 h
 clear h
 have H3 := Lib.hid h3
 clear h3
 go_enter Tryz.func64, Tryz.ntmps64
 go_wp2_with (first
  | (go_at_call 93; refine (within_yes _ _ _ _ (by omega) (by omega)).mono ?_; rintro e w' ⟨rfl, rfl⟩)
  | (go_at_call 94; refine (isSets_yes _ _ H3.out).mono ?_; rintro e w' ⟨rfl, rfl⟩))
 go_ret
 exact ⟨rfl, gAlloc (Below.refl _ _) _⟩
theorem check_bad (n s y b : Int) (w : World) (h : cfgB n s y b = false) :
  Calls Tryz.prog 64 #[cfg n s y b] w fun e w' => e = .returned (.int .i64 4) ∧ Below w.heap.size w w' := by
 have h' := cfgB_no h
 clear h
 by_cases a1 : n < 2 ∨ 8 < n
 ·go_enter Tryz.func64, Tryz.ntmps64
  go_wp2_with (go_at_call 93; refine (within_no _ _ _ _ (by omega)).mono ?_; rintro e w' ⟨rfl, rfl⟩)
  go_ret
  exact ⟨rfl, gAlloc (Below.refl _ _) _⟩
 by_cases a2 : s ≠ 1 ∧ s ≠ 2 ∧ s ≠ 4
 ·have A2 := Lib.hid a2
  clear a2 h'
  go_enter Tryz.func64, Tryz.ntmps64
  go_wp2_with (first
   | (go_at_call 93; refine (within_yes _ _ _ _ (by omega) (by omega)).mono ?_; rintro e w' ⟨rfl, rfl⟩)
   | (go_at_call 94; refine (isSets_no _ _ A2.out.1 A2.out.2.1 A2.out.2.2).mono ?_; rintro e w' ⟨rfl, rfl⟩))
  go_ret
  exact ⟨rfl, gAlloc (Below.refl _ _) _⟩
 have a2' : s = 1 ∨ s = 2 ∨ s = 4 := by omega
 have A2 := Lib.hid a2'
 have b1 : 2 ≤ n := by omega
 have b2 : n ≤ 8 := by omega
 clear a2 a2'
 by_cases a3 : y < 1 ∨ 4 < y
 ·clear h' a1
  go_enter Tryz.func64, Tryz.ntmps64
  go_wp2_with fail
  refine (within_yes _ _ _ _ (by omega) (by omega)).mono ?_; rintro e w' ⟨rfl, rfl⟩
  go_wp2_with fail
  refine (isSets_yes _ _ A2.out).mono ?_; rintro e w' ⟨rfl, rfl⟩
  go_wp2_with fail
  refine (within_no _ _ _ _ (by omega)).mono ?_; rintro e w' ⟨rfl, rfl⟩
  go_wp2_with fail
  go_ret
  exact ⟨rfl, gAlloc (Below.refl _ _) _⟩
 ·have b3 : 1 ≤ y := by omega
  have b4 : y ≤ 4 := by omega
  have b5 : b < 1 ∨ 4 < b := by have := A2.out; omega
  clear h' a1 a3
  go_enter Tryz.func64, Tryz.ntmps64
  go_wp2_with fail
  refine (within_yes _ _ _ _ (by omega) (by omega)).mono ?_; rintro e w' ⟨rfl, rfl⟩
  go_wp2_with fail
  refine (isSets_yes _ _ A2.out).mono ?_; rintro e w' ⟨rfl, rfl⟩
  go_wp2_with fail
  refine (within_yes _ _ _ _ (by omega) (by omega)).mono ?_; rintro e w' ⟨rfl, rfl⟩
  go_wp2_with fail
  refine (within_no _ _ _ _ (by omega)).mono ?_; rintro e w' ⟨rfl, rfl⟩
  go_wp2_with fail
  go_ret
  exact ⟨rfl, gAlloc (Below.refl _ _) _⟩
theorem checkLine_ok (n s y b l : Int) (w : World) (h : cfgB n s y b = true) (h0 : 0 ≤ l) (h1 : l ≤ 15) :
  Calls Tryz.prog 166 #[cfg n s y b, .int .i64 l] w fun e w' => e = .returned (.int .i64 0) ∧ Below w.heap.size w w' := by
 have HB := Lib.hid h
 clear h
 go_enter Tryz.func166, Tryz.ntmps166
 go_wp2_with fail
 refine (check_ok _ _ _ _ _ HB.out).mono ?_; rintro e w1 ⟨rfl, hb⟩
 obtain ⟨hc, hf⟩ := bcell hb
 go_wp2_with fail
 refine (within_yes _ _ _ _ (by omega) (by omega)).mono ?_; rintro e w' ⟨rfl, rfl⟩
 go_wp2_with fail
 go_ret
 exact ⟨rfl, gCall (gAlloc (Below.refl _ _) _) hb⟩
theorem checkLine_bad (n s y b l : Int) (w : World) (h : cfgB n s y b = false) :
  Calls Tryz.prog 166 #[cfg n s y b, .int .i64 l] w fun e w' => e = .returned (.int .i64 4) ∧ Below w.heap.size w w' := by
 have HB := Lib.hid h
 clear h
 go_enter Tryz.func166, Tryz.ntmps166
 go_wp2_with fail
 refine (check_bad _ _ _ _ _ HB.out).mono ?_; rintro e w1 ⟨rfl, hb⟩
 go_wp2_with fail
 go_ret
 exact ⟨rfl, gCall (gAlloc (Below.refl _ _) _) hb⟩
theorem checkLine_out (n s y b l : Int) (w : World) (h : cfgB n s y b = true) (h0 : l < 0 ∨ 15 < l) :
  Calls Tryz.prog 166 #[cfg n s y b, .int .i64 l] w fun e w' => e = .returned (.int .i64 4) ∧ Below w.heap.size w w' := by
 have HB := Lib.hid h
 clear h
 go_enter Tryz.func166, Tryz.ntmps166
 go_wp2_with fail
 refine (check_ok _ _ _ _ _ HB.out).mono ?_; rintro e w1 ⟨rfl, hb⟩
 obtain ⟨hc, hf⟩ := bcell hb
 go_wp2_with fail
 refine (within_no _ _ _ _ (by omega)).mono ?_; rintro e w' ⟨rfl, rfl⟩
 go_wp2_with fail
 go_ret
 exact ⟨rfl, gCall (gAlloc (Below.refl _ _) _) hb⟩
theorem checkLine_no (n s y b l : Int) (w : World) (h : cfgB n s y b = false ∨ l < 0 ∨ 15 < l) :
  Calls Tryz.prog 166 #[cfg n s y b, .int .i64 l] w fun e w' => e = .returned (.int .i64 4) ∧ Below w.heap.size w w' := by
 cases hB : cfgB n s y b with
 | false => exact checkLine_bad n s y b l w hB
 | true => exact checkLine_out n s y b l w hB (by rcases h with h | h; rw [hB] at h; cases h; exact h)
theorem line_ok (a : Int) (w : World) (h0 : 0 ≤ a) (h1 : a ≤ 63) :
  Calls Tryz.prog 91 #[.int .i64 a] w fun e w' => e = .returned (.tuple #[.int .i64 (a / 4), .int .i64 (a % 4), .int .i64 0]) ∧ w = w' := by
 go_enter Tryz.func91, Tryz.ntmps91
 go_wp2_with fail
 refine (within_yes _ _ _ _ (by omega) (by omega)).mono ?_; rintro e w' ⟨rfl, rfl⟩
 go_wp2_with fail
 go_ret3
 exact ⟨rfl, rfl⟩
theorem line_out (a : Int) (w : World) (h : a < 0 ∨ 63 < a) :
  Calls Tryz.prog 91 #[.int .i64 a] w fun e w' => e = .returned (.tuple #[.int .i64 0, .int .i64 0, .int .i64 4]) ∧ w = w' := by
 go_enter Tryz.func91, Tryz.ntmps91
 go_wp2_with fail
 refine (within_no _ _ _ _ (by omega)).mono ?_; rintro e w' ⟨rfl, rfl⟩
 go_wp2_with fail
 go_ret3
 exact ⟨rfl, rfl⟩
theorem set_ok (n s y b l : Int) (w : World) (h : cfgB n s y b = true) (h0 : 0 ≤ l) (h1 : l ≤ 15) :
  Calls Tryz.prog 144 #[cfg n s y b, .int .i64 l] w fun e w' => e = .returned (.tuple #[.int .i64 (l % s), .int .i64 0]) ∧ Below w.heap.size w w' := by
 have hs : 1 ≤ s ∧ s ≤ 4 := by have := cfgB_iff.1 h; omega
 obtain ⟨hs1, hs2⟩ := hs
 have HB := Lib.hid h
 clear h
 go_enter Tryz.func144, Tryz.ntmps144
 go_wp2_with fail
 refine (checkLine_ok _ _ _ _ _ _ HB.out h0 h1).mono ?_; rintro e w1 ⟨rfl, hb⟩
 obtain ⟨hc, hf⟩ := bcell hb
 go_wp2_with fail
 go_ret2
 exact ⟨rfl, gCall (gAlloc (Below.refl _ _) _) hb⟩
theorem set_bad (n s y b l : Int) (w : World) (h : cfgB n s y b = false ∨ l < 0 ∨ 15 < l) :
  Calls Tryz.prog 144 #[cfg n s y b, .int .i64 l] w fun e w' => e = .returned (.tuple #[.int .i64 0, .int .i64 4]) ∧ Below w.heap.size w w' := by
 have HB := Lib.hid h
 clear h
 go_enter Tryz.func144, Tryz.ntmps144
 go_wp2_with fail
 refine (checkLine_no _ _ _ _ _ _ HB.out).mono ?_; rintro e w1 ⟨rfl, hb⟩
 obtain ⟨hc, hf⟩ := bcell hb
 go_wp2_with fail
 go_ret2
 exact ⟨rfl, gCall (gAlloc (Below.refl _ _) _) hb⟩
theorem node_ok (n s y b f k : Int) (w : World) (h : cfgB n s y b = true) (h0 : 0 ≤ f) (h1 : f < n) (h2 : 0 ≤ k) (h3 : k ≤ 9223372036854775807) :
  Calls Tryz.prog 69 #[cfg n s y b, .int .i64 f, .int .i64 k] w fun e w' => e = .returned (.tuple #[.int .i64 (nodeAt n f k), .int .i64 0]) ∧ Below w.heap.size w w' := by
 have hs : 2 ≤ n ∧ n ≤ 8 := by have := cfgB_iff.1 h; omega
 obtain ⟨hs1, hs2⟩ := hs
 have m1 : 0 ≤ k % n := Int.emod_nonneg _ (by omega)
 have m2 : k % n < n := Int.emod_lt_of_pos _ (by omega)
 have HB := Lib.hid h
 clear h
 go_enter Tryz.func69, Tryz.ntmps69
 go_wp2_with fail
 refine (check_ok _ _ _ _ _ HB.out).mono ?_; rintro e w1 ⟨rfl, hb⟩
 obtain ⟨hc, hf⟩ := bcell hb
 go_wp2_with fail
 refine (within_yes _ _ _ _ (by omega) (by omega)).mono ?_; rintro e w' ⟨rfl, rfl⟩
 go_wp2_with fail
 go_quiet (fail)
 go_wp2_with fail
 go_ret2
 exact ⟨rfl, gDrewN (gCall (gAlloc (Below.refl _ _) _) hb) _⟩
end Go.Proofs.YtcegjehoejgofaaGreat
namespace Go.Proofs.YtcegjehoejgofaaGreat
open Go.ChangeShapes Go.WideShapes Go.ChangeAt Go.RowKit
def Sl (w : World) (B size : Nat) (v : Value) (n : Nat) (xs : List Value) : Prop :=
 xs.length = n * size ∧ ∃ A c, v = .slice A n c ∧ n ≤ c ∧ c ≤ maxLen ∧
  (0 < n → ∃ b o, A = some ⟨b, o, none⟩ ∧ b < B ∧ ∀ j u, xs[j]? = some u → w.cell? ⟨b, o + j, none⟩ = some u)
section
variable {w w' : World} {B B' size n : Nat} {v : Value} {xs : List Value}
theorem Sl.keep (h : Sl w B size v n xs) (hk : ∀ p : Addr, p.block < B → w'.cell? p = w.cell? p) : Sl w' B size v n xs := by
 obtain ⟨hl, A, c, e, h1, h2, h3⟩ := h
 refine ⟨hl, A, c, e, h1, h2, fun hn => ?_⟩
 obtain ⟨b, o, hA, hb, hc⟩ := h3 hn
 exact ⟨b, o, hA, hb, fun j u hu => (hk ⟨b, o + j, none⟩ hb).trans (hc j u hu)⟩
theorem Sl.below (h : Sl w B size v n xs) (hb : Below B w w') : Sl w' B size v n xs := h.keep fun _ hp => hb.cell hp
theorem Sl.more (h : Sl w B size v n xs) (hB : B ≤ B') : Sl w B' size v n xs := by
 obtain ⟨hl, A, c, e, h1, h2, h3⟩ := h
 refine ⟨hl, A, c, e, h1, h2, fun hn => ?_⟩
 obtain ⟨b, o, hA, hb, hc⟩ := h3 hn
 exact ⟨b, o, hA, by omega, hc⟩
theorem Sl.call (h : Sl w w.heap.size size v n xs) (hb : Below w.heap.size w w') : Sl w' w'.heap.size size v n xs := (h.below hb).more hb.size
theorem Sl.ofOwn {base : Nat} {e : TypeId} (h : w.ownsRow base e size v n xs) : Sl w w.heap.size size v n xs := by
 refine ⟨h.1, ?_⟩
 rcases h.2 with ⟨rfl, rfl⟩ | ⟨g, cap, cur, rfl, hg, hh, hn, hm, hcs, ht⟩
 ·exact ⟨none, 0, rfl, Nat.le_refl _, Nat.zero_le _, fun h0 => absurd h0 (by omega)⟩
 ·refine ⟨_, cap, rfl, hn, hm, fun _ => ⟨g, 0, rfl, ?_, fun j u hu => ?_⟩⟩
  ·rcases Nat.lt_or_ge g w.heap.size with hlt | hge
   ·exact hlt
   ·rw [Array.getElem?_eq_none hge] at hh; cases hh
  ·have hj : j < n * size := by
    have := List.getElem?_eq_some_iff.1 hu
    obtain ⟨hj, _⟩ := this
    have := h.1
    omega
   rw [Nat.zero_add, h.cellAt j hj, hu]
end
theorem own_below {w w' : World} {base size n : Nat} {e : TypeId} {v : Value} {xs : List Value} (h : w.ownsRow base e size v n xs) (hb : Below w.heap.size w w') : w'.ownsRow base e size v n xs := by
 refine ⟨h.1, ?_⟩
 rcases h.2 with h2 | ⟨g, cap, cur, hv, hg, hh, r⟩
 ·exact .inl h2
 ·have hlt : g < w.heap.size := by
   rcases Nat.lt_or_ge g w.heap.size with hlt | hge
   ·exact hlt
   ·rw [Array.getElem?_eq_none hge] at hh; cases hh
  exact .inr ⟨g, cap, cur, hv, hg, (hb.block g hlt).trans hh, r⟩
theorem own_shape {w : World} {base size n : Nat} {e : TypeId} {v : Value} {xs : List Value} (h : w.ownsRow base e size v n xs) : ∃ A c, v = .slice A n c := by
 rcases h.2 with ⟨rfl, rfl⟩ | ⟨g, cap, cur, rfl, _⟩
 ·exact ⟨_, _, rfl⟩
 ·exact ⟨_, _, rfl⟩
def Box (w : World) (g : Nat) (t : TypeId) (cs : Array Value) : Prop := w.heap[g]? = some (.cells cs t (0, 0))
section
variable {w w' : World} {g B : Nat} {t : TypeId} {cs : Array Value}
theorem Box.lt (h : Box w g t cs) : g < w.heap.size := by
 rcases Nat.lt_or_ge g w.heap.size with hlt | hge
 ·exact hlt
 ·unfold Box at h; rw [Array.getElem?_eq_none hge] at h; cases h
theorem Box.cell (h : Box w g t cs) (i : Nat) : w.cell? ⟨g, i, none⟩ = cs[i]? := by
 unfold Box at h
 simp [World.cell?, h]
theorem Box.frozen (h : Box w g t cs) (i : Nat) : w.frozen? ⟨g, i, none⟩ = false := by
 unfold Box at h
 simp [World.frozen?, h]
theorem Box.new (w : World) (t : TypeId) (cs : Array Value) : Box (w.alloc (.cells cs t)) w.heap.size t cs := by
 show (w.heap.push (.cells cs t))[w.heap.size]? = _
 rw [Array.getElem?_push, if_pos rfl]
theorem Box.alloc (h : Box w g t cs) (o : Obj) : Box (w.alloc o) g t cs := (Below.heap_alloc w o g h.lt).trans h
theorem Box.below (h : Box w g t cs) (hb : Below B w w') (hg : g < B) : Box w' g t cs := (hb.block g hg).trans h
theorem Box.call (h : Box w g t cs) (hb : Below w.heap.size w w') : Box w' g t cs := h.below hb h.lt
theorem Box.at_ (h : Box w g t cs) (i : Nat) {v : Value} (e : cs[i]? = some v) : w.cell? ⟨g, i, none⟩ = some v := (h.cell i).trans e
theorem Box.drew (h : Box w g t cs) : Box w.drew g t cs := h
theorem Box.drewN (h : Box w g t cs) (n : Nat) : Box (w.drewN n) g t cs := h
theorem Box.set (h : Box w g t cs) (i : Nat) (u : Value) : Box (w.setCell ⟨g, i, none⟩ u) g t (cs.setIfInBounds i u) := by
 unfold Box at h ⊢
 simp [World.setCell, Array.getElem?_modify, h]
theorem Box.far (h : Box w g t cs) {p : Addr} (hp : g ≠ p.block) (u : Value) : Box (w.setCell p u) g t cs := (Below.heap_setCell w p u g hp).trans h
theorem Box.grown {row : Option Nat} (h : Box w g t cs) (hb : w.grownBy w' row) (hg : some g ≠ row) : Box w' g t cs := (hb.block g h.lt hg).trans h
end
theorem boxNext {a w : World} {B : Nat} (_ : Below B a w) (t : TypeId) (cs : Array Value) : Box (w.alloc (.cells cs t)) w.heap.size t cs := Box.new w t cs
end Go.Proofs.YtcegjehoejgofaaGreat
namespace Go.Proofs.YtcegjehoejgofaaGreat
open Go.ChangeShapes Go.WideShapes Go.ChangeAt Go.RowKit
inductive Sc where
 | bool
 | int (k : IntKind)
def ScOk : Sc → Value → Prop
 | .bool, v => ∃ b, v = .bool b
 | .int k, v => ∃ a, v = .int k a ∧ (Lit.int k a).wf = true
def flatFields (P : Program) (r : TypeId → Option (List Sc)) : Nat → List Field → Option (List Sc)
 | _, [] => some []
 | off, f :: fs => match r f.type with
  | none => none
  | some l => if f.offset = off ∧ P.cellsOf f.type = l.length then (flatFields P r (off + l.length) fs).map (l ++ ·) else none
def flatK (P : Program) : Nat → TypeId → Option (List Sc)
 | 0, _ => none
 | n + 1, t => match P.underlying t with
  | some .bool => some [.bool]
  | some (.int k) => some [.int k]
  | some (.struct fs) => (flatFields P (flatK P n) 0 fs.toList).bind fun l => if l.length = P.cellsOf t then some l else none
  | some (.array m e) => (flatK P n e).bind fun l => if P.cellsOf e = l.length ∧ m * l.length = P.cellsOf t then some (List.replicate m l).flatten else none
  | _ => none
def AllOk : List Sc → List Value → Prop
 | [], [] => True
 | k :: ks, c :: cs => ScOk k c ∧ AllOk ks cs
 | _, _ => False
theorem AllOk.append {k2 : List Sc} {c2 : List Value} (h2 : AllOk k2 c2) : ∀ {k1 : List Sc} {c1 : List Value}, AllOk k1 c1 → AllOk (k1 ++ k2) (c1 ++ c2)
 | [], [], _ => h2
 | [], _ :: _, h => h.elim
 | _ :: _, [], h => h.elim
 | _ :: _, _ :: _, h => ⟨h.1, AllOk.append h2 h.2⟩
theorem AllOk.cons_ {k : Sc} {ks : List Sc} {cs : List Value} (h : AllOk (k :: ks) cs) : ∃ c r, cs = c :: r ∧ ScOk k c ∧ AllOk ks r := by
 cases cs with
 | nil => exact h.elim
 | cons c r => exact ⟨c, r, rfl, h.1, h.2⟩
theorem AllOk.nil_ {cs : List Value} (h : AllOk [] cs) : cs = [] := by
 cases cs with
 | nil => rfl
 | cons c r => exact h.elim
section
variable {H : Type} {enc : TypeId × Value → H} {P : Program} {w : World} {base : Nat} {spare : Nat → Bool} {held : Bool}
theorem flat_array {l : List Sc} : ∀ (m : Nat) (cs : List Value), cs.length = m * l.length → (∀ i, i < m → AllOk l ((cs.drop (i * l.length)).take l.length)) → AllOk (List.replicate m l).flatten cs
 | 0, cs, hl, _ => by
  have : cs = [] := List.eq_nil_of_length_eq_zero (by simpa using hl)
  subst this
  trivial
 | m + 1, cs, hl, h => by
  rw [List.replicate_succ, List.flatten_cons, ← List.take_append_drop l.length cs]
  refine AllOk.append (flat_array m _ ?_ fun i hi => ?_) (by simpa using h 0 (by omega))
  ·rw [List.length_drop, hl, Nat.succ_mul]; omega
  ·have := h (i + 1) (by omega)
   rw [List.drop_drop]
   rw [Nat.succ_mul, Nat.add_comm] at this
   exact this
theorem flat_fields {r : TypeId → Option (List Sc)} {cs : List Value} (hr : ∀ t l c, r t = some l → (∃ m x, DataW.trod enc P w base spare held m t c = some x) → AllOk l c) :
  ∀ (fs : List Field) (off : Nat) (l : List Sc), flatFields P r off fs = some l → (∀ f ∈ fs, ∃ m x, DataW.trod enc P w base spare held m f.type ((cs.drop f.offset).take (P.cellsOf f.type)) = some x) →
   AllOk l ((cs.drop off).take l.length)
 | [], off, l, h, _ => by
  simp [flatFields] at h
  subst h
  simp [AllOk]
 | f :: fs, off, l, h, hf => by
  unfold flatFields at h
  split at h
  ·cases h
  ·rename_i l1 h1
   split at h
   ·rename_i hc
    cases h2 : flatFields P r (off + l1.length) fs with
    | none => rw [h2] at h; cases h
    | some l2 =>
     rw [h2] at h
     simp at h
     subst h
     have a1 := hr f.type l1 _ h1 (hf f (by simp))
     have a2 := flat_fields hr fs (off + l1.length) l2 h2 (fun g hg => hf g (by simp [hg]))
     rw [hc.1, hc.2] at a1
     rw [List.length_append, List.take_add, List.drop_drop]
     exact AllOk.append a2 a1
   ·cases h
theorem flat_open : ∀ (n : Nat) (t : TypeId) (ks : List Sc), flatK P n t = some ks → ∀ (m : Nat) (cs : List Value) (x : DataW H × List MemPlace), DataW.trod enc P w base spare held m t cs = some x → AllOk ks cs
 | 0, t, ks, hk, m, cs, x, h => by cases hk
 | n + 1, t, ks, hk, m, cs, x, h => by
  unfold flatK at hk
  split at hk
  ·rename_i hu
   cases hk
   obtain ⟨b, rfl, _⟩ := DataW.trod_bool hu h
   exact ⟨⟨b, rfl⟩, trivial⟩
  ·rename_i k hu
   cases hk
   obtain ⟨a, rfl, _, hw⟩ := DataW.trod_int hu h
   exact ⟨⟨a, rfl, hw⟩, trivial⟩
  ·rename_i fs hu
   cases hl : flatFields P (flatK P n) 0 fs.toList with
   | none => rw [hl] at hk; cases hk
   | some l =>
    rw [hl] at hk
    simp only [Option.bind_some] at hk
    split at hk
    ·rename_i hc
     obtain rfl : l = ks := Option.some.inj hk
     obtain ⟨xs, m', rfl, _, hlen, hxl, hg⟩ := DataW.trod_struct hu h
     have := flat_fields (enc := enc) (w := w) (base := base) (spare := spare) (held := held) (cs := cs) (fun t l c ht ⟨m, x, hx⟩ => flat_open n t l ht m c x hx) fs.toList 0 l hl (fun f hf => by
      obtain ⟨i, hi, e⟩ := List.getElem_of_mem hf
      have hi' : i < fs.size := by simpa using hi
      have := hg i f (by rw [Array.getElem?_eq_getElem hi']; simpa using e)
      rw [List.getElem?_eq_getElem (by omega)] at this
      exact ⟨_, _, this⟩)
     rw [List.drop_zero, List.take_of_length_le (by omega)] at this
     exact this
    ·cases hk
  ·rename_i m0 e hu
   cases hl : flatK P n e with
   | none => rw [hl] at hk; cases hk
   | some l =>
    rw [hl] at hk
    simp only [Option.bind_some] at hk
    split at hk
    ·rename_i hc
     cases hk
     obtain ⟨xs, m', rfl, _, hlen, hxl, hg⟩ := DataW.trod_array hu h
     refine flat_array m0 cs (by omega) fun i hi => ?_
     have := hg i hi
     rw [List.getElem?_eq_getElem (by omega), hc.1] at this
     exact flat_open n e l hl m' _ _ this
    ·cases hk
  ·cases hk
theorem add_at {a : Addr} (h : a.spot = none) (i j : Nat) : (a.add i).add j = ⟨a.block, a.off + i + j, none⟩ := by
 obtain ⟨b, o, s⟩ := a
 simp only at h
 subst h
 unfold Addr.add
 split <;> split <;> simp_all
theorem slice_open {t e : TypeId} {fuel : Nat} {cs : List Value} {x : DataW H × List MemPlace} (ht : P.underlying t = some (.slice e)) (hC : 0 < P.cellsOf e) (h : DataW.trod enc P w base spare held fuel t cs = some x) :
  ∃ (v : Value) (css : List (List Value)), cs = [v] ∧ Sl w w.heap.size (P.cellsOf e) v css.length css.flatten ∧ ∀ c ∈ css, c.length = P.cellsOf e ∧ ∃ m y, DataW.trod enc P w base spare held m e c = some y := by
 rcases Go.Deep.open_slice ht h with ⟨rfl, _⟩ | ⟨a, len, cap, m, n, D, Pl, rfl, _, hl, hm, hmm, _, hi⟩
 ·exact ⟨_, [], rfl, ⟨by simp, none, 0, rfl, Nat.le_refl _, Nat.zero_le _, fun h => absurd h (by simp)⟩, by simp⟩
 ·have hlm : len ≤ m := by rw [hmm]; split <;> omega
  have hel : ∀ i, i < len → ∃ c, c.length = P.cellsOf e ∧ (∀ j, j < P.cellsOf e → w.cell? ((a.add (i * P.cellsOf e)).add j) = c[j]?) ∧ ∃ m y, DataW.trod enc P w base spare held m e c = some y := by
   intro i hi'
   obtain ⟨c, h1, h2⟩ := hi i (by omega)
   obtain ⟨_, h3, h4⟩ := World.cells?_some h1
   exact ⟨c, h3, h4, _, _, h2⟩
  have hsp : 0 < len → a.spot = none ∧ a.block < w.heap.size := by
   intro h0
   obtain ⟨c, h1, h2, _⟩ := hel 0 h0
   have := h2 0 hC
   rw [List.getElem?_eq_getElem (by omega)] at this
   simp only [Nat.zero_mul] at this
   have h3 : (a.add 0).add 0 = a := by simp [Addr.add]
   rw [h3] at this
   refine ⟨?_, block_lt_of_cell this⟩
   unfold World.cell? at this
   split at this
   ·split at this
    ·cases this
    ·rename_i hs; simpa using hs
   ·cases this
  -- the elements' cells, one after another
  have hex : ∀ k, k ≤ len → ∃ css : List (List Value), css.length = k ∧ (∀ c ∈ css, c.length = P.cellsOf e ∧ ∃ m y, DataW.trod enc P w base spare held m e c = some y) ∧ css.flatten.length = k * P.cellsOf e ∧
    ∀ j u, css.flatten[j]? = some u → w.cell? ⟨a.block, a.off + j, none⟩ = some u := by
   intro k
   induction k with
   | zero => intro _; exact ⟨[], rfl, by simp, by simp, by simp⟩
   | succ k ih =>
    intro hk
    obtain ⟨css, h1, h2, h3, h4⟩ := ih (by omega)
    obtain ⟨c, c1, c2, c3⟩ := hel k (by omega)
    obtain ⟨s1, s2⟩ := hsp (by omega)
    refine ⟨css ++ [c], by simp [h1], ?_, by simp [h3, c1, Nat.succ_mul], ?_⟩
    ·intro d hd
     rcases List.mem_append.1 hd with hd | hd
     ·exact h2 d hd
     ·simp at hd; subst hd; exact ⟨c1, c3⟩
    ·intro j u hu
     rw [List.flatten_append] at hu
     by_cases hj : j < css.flatten.length
     ·rw [List.getElem?_append_left hj] at hu
      exact h4 j u hu
     ·rw [List.getElem?_append_right (by omega)] at hu
      simp only [List.flatten_cons, List.flatten_nil, List.append_nil] at hu
      have hlt : j - css.flatten.length < P.cellsOf e := by
       have := (List.getElem?_eq_some_iff.1 hu).1
       omega
      have := c2 _ hlt
      rw [hu] at this
      rw [← this]
      rw [add_at s1, h3]
      congr 2
      omega
  obtain ⟨css, h1, h2, h3, h4⟩ := hex len (Nat.le_refl _)
  refine ⟨_, css, rfl, ⟨by rw [h3, h1], some a, cap, by rw [h1], by omega, hm, fun h0 => ?_⟩, h2⟩
  obtain ⟨s1, s2⟩ := hsp (by omega)
  obtain ⟨ab, ao, asp⟩ := a
  simp only at s1
  subst s1
  exact ⟨ab, ao, rfl, s2, h4⟩
theorem slice_value {r : Reach} {b0 : Nat} {t e : TypeId} {v : Value} {d : DataW H} {p : List MemPlace} (ht : P.underlying t = some (.slice e)) (hC : 0 < P.cellsOf e) (hv : Value.okWide P w r b0 t v) (h : DataW.Trod enc P w base spare held t v d p) :
  ∃ css : List (List Value), Sl w w.heap.size (P.cellsOf e) v css.length css.flatten ∧ ∀ c ∈ css, c.length = P.cellsOf e ∧ ∃ m y, DataW.trod enc P w base spare held m e c = some y := by
 obtain ⟨a, len, cap, rfl⟩ := okWide_slice ht hv
 obtain ⟨m, h⟩ := h
 obtain ⟨v, css, h1, h2, h3⟩ := slice_open ht hC h
 simp [Value.cells] at h1
 subst h1
 exact ⟨css, h2, h3⟩
end
end Go.Proofs.YtcegjehoejgofaaGreat
namespace Go.Proofs.YtcegjehoejgofaaGreat
def KOk : Sc → Value → Prop
 | .bool, v => ∃ b, v = .bool b
 | .int k, v => ∃ a, v = .int k a
def AllK : List Sc → List Value → Prop
 | [], [] => True
 | k :: ks, c :: cs => KOk k c ∧ AllK ks cs
 | _, _ => False
theorem AllK.length : ∀ {ks : List Sc} {cs : List Value}, AllK ks cs → cs.length = ks.length
 | [], [], _ => rfl
 | [], _ :: _, h => h.elim
 | _ :: _, [], h => h.elim
 | _ :: _, _ :: _, h => by simp [AllK.length h.2]
theorem AllK.parts : ∀ {k1 k2 : List Sc} {cs : List Value}, AllK (k1 ++ k2) cs → AllK k1 (cs.take k1.length) ∧ AllK k2 (cs.drop k1.length)
 | [], _, _, h => ⟨trivial, h⟩
 | _ :: _, _, [], h => h.elim
 | _ :: k1, k2, _ :: cs, h => by
  obtain ⟨h1, h2⟩ := AllK.parts (k1 := k1) (k2 := k2) h.2
  exact ⟨⟨h.1, h1⟩, h2⟩
def scEq : Value → Value → Bool
 | .bool a, .bool b => a == b
 | .int _ a, .int _ b => a == b
 | _, _ => false
def eqCells : List Value → List Value → Bool
 | [], [] => true
 | x :: xs, y :: ys => scEq x y && eqCells xs ys
 | _, _ => false
theorem eqCells_append : ∀ {a c b d : List Value}, a.length = c.length → eqCells (a ++ b) (c ++ d) = (eqCells a c && eqCells b d)
 | [], [], _, _, _ => by simp [eqCells]
 | [], _ :: _, _, _, h => by simp at h
 | _ :: _, [], _, _, h => by simp at h
 | _ :: a, _ :: c, b, d, h => by
  have := eqCells_append (a := a) (c := c) (b := b) (d := d) (by simpa using h)
  simp [eqCells, this, Bool.and_assoc]
def ValIs (P : Program) (t : TypeId) (cs : List Value) (v : Value) : Prop :=
 match P.underlying t with
 | some (.struct _) | some (.array _ _) => v = .agg ⟨cs⟩
 | _ => cs = [v]
section
variable {P : Program} {w : World}
theorem part_flat {n off : Nat} {t : TypeId} {ks : List Sc} {xs : List Value} (hk : flatK P n t = some ks) (hc : P.cellsOf t = ks.length) (ha : AllK ks ((xs.drop off).take ks.length)) :
  ∃ v, (part t ⟨xs⟩ off).run P w = .ok v w ∧ ValIs P t ((xs.drop off).take ks.length) v := by
 cases n with
 | zero => cases hk
 | succ n =>
  have agg : (∃ fs, P.underlying t = some (.struct fs)) ∨ (∃ m e, P.underlying t = some (.array m e)) → ∃ v, (part t ⟨xs⟩ off).run P w = .ok v w ∧ ValIs P t ((xs.drop off).take ks.length) v := by
   intro hu
   have he : (Array.mk xs).extract off (off + ks.length) = ⟨(xs.drop off).take ks.length⟩ := by simp
   rcases hu with ⟨fs, hu⟩ | ⟨m, e, hu⟩
   all_goals
    obtain ⟨i, hi⟩ := info_of_underlying hu
    refine ⟨.agg ⟨(xs.drop off).take ks.length⟩, ?_, by simp [ValIs, hu]⟩
    simp [part, isAgg, run_underlying hu, run_sizeOf w hi, hc]
  have cell : ∀ k : Sc, ks = [k] → ∃ v, (xs.drop off).take ks.length = [v] ∧ (Array.mk xs)[off]? = some v := by
   rintro k rfl
   cases hx : xs.drop off with
   | nil => rw [hx] at ha; exact ha.elim
   | cons v r =>
    refine ⟨v, by simp, ?_⟩
    have : (xs.drop off)[0]? = some v := by rw [hx]; rfl
    simpa using this
  unfold flatK at hk
  split at hk
  ·rename_i hu
   obtain ⟨v, h1, h2⟩ := cell .bool (by cases hk; rfl)
   exact ⟨v, by simp only [List.getElem?_toArray] at h2; simp [part, isAgg, run_underlying hu, h2], by simp only [ValIs, hu]; exact h1⟩
  ·rename_i k hu
   obtain ⟨v, h1, h2⟩ := cell (.int k) (by cases hk; rfl)
   exact ⟨v, by simp only [List.getElem?_toArray] at h2; simp [part, isAgg, run_underlying hu, h2], by simp only [ValIs, hu]; exact h1⟩
  ·rename_i fs hu
   exact agg (.inl ⟨fs, hu⟩)
  ·rename_i m e hu
   exact agg (.inr ⟨m, e, hu⟩)
  ·cases hk
def EqT (P : Program) (d : Nat) (t : TypeId) (ks : List Sc) : Prop :=
 ∀ (w : World) (cs cs' : List Value) (v v' : Value), AllK ks cs → AllK ks cs' → ValIs P t cs v → ValIs P t cs' v' → (Op.equalIn d t v v').run P w = .ok (eqCells cs cs') w
theorem eq_fields {n d : Nat} {xs ys : List Value} (IH : ∀ t ks, flatK P n t = some ks → P.keyTypeAt n t = true → EqT P d t ks) :
  ∀ (fs : List Field) (off : Nat) (l : List Sc), flatFields P (flatK P n) off fs = some l → (∀ f ∈ fs, f.name ≠ "_" ∧ P.keyTypeAt n f.type = true) → AllK l ((xs.drop off).take l.length) → AllK l ((ys.drop off).take l.length) →
   (Op.eqFields d ⟨xs⟩ ⟨ys⟩ fs).run P w = .ok (eqCells ((xs.drop off).take l.length) ((ys.drop off).take l.length)) w
 | [], off, l, h, _, _, _ => by
  simp [flatFields] at h
  subst h
  simp [Op.eqFields, eqCells]
 | f :: fs, off, l, h, hf, hx, hy => by
  unfold flatFields at h
  split at h
  ·cases h
  ·rename_i l1 h1
   split at h
   ·rename_i hc
    cases h2 : flatFields P (flatK P n) (off + l1.length) fs with
    | none => rw [h2] at h; cases h
    | some l2 =>
     rw [h2] at h
     simp at h
     subst h
     obtain ⟨hn, hkt⟩ := hf f (by simp)
     obtain ⟨x1, x2⟩ := AllK.parts hx
     obtain ⟨y1, y2⟩ := AllK.parts hy
     rw [List.take_take, List.length_append, Nat.min_eq_left (by omega)] at x1 y1
     rw [List.length_append, List.take_add, List.drop_drop] at x2 y2
     have lx : ((xs.drop off).take l1.length).length = l1.length := x1.length
     have ly : ((ys.drop off).take l1.length).length = l1.length := y1.length
     rw [List.drop_append_of_le_length (by omega), List.drop_of_length_le (by omega), List.nil_append] at x2 y2
     obtain ⟨a, pa, va⟩ := part_flat (w := w) (off := off) h1 hc.2 x1
     obtain ⟨b, pb, vb⟩ := part_flat (w := w) (off := off) h1 hc.2 y1
     have e1 := IH f.type l1 h1 hkt w _ _ a b x1 y1 va vb
     have e2 := eq_fields IH fs (off + l1.length) l2 h2 (fun g hg => hf g (by simp [hg])) x2 y2
     rw [List.length_append, List.take_add, List.drop_drop, List.take_add, List.drop_drop, eqCells_append (by omega)]
     simp only [Op.eqFields, hn, ne_eq, not_false_eq_true, if_true, Sem.run_bind, hc.1, pa, pb, e1, Result.andThen_ok]
     cases eqCells ((xs.drop off).take l1.length) ((ys.drop off).take l1.length)
     ·simp
     ·simpa using e2
   ·cases h
theorem eq_items {n d : Nat} {e : TypeId} {l : List Sc} {xs ys : List Value} (hl : flatK P n e = some l) (hc : P.cellsOf e = l.length) (IH : EqT P d e l) :
  ∀ (m j : Nat), AllK (List.replicate m l).flatten ((xs.drop (j * l.length)).take (m * l.length)) → AllK (List.replicate m l).flatten ((ys.drop (j * l.length)).take (m * l.length)) →
   (Op.eqItems d e l.length ⟨xs⟩ ⟨ys⟩ (List.range' j m)).run P w = .ok (eqCells ((xs.drop (j * l.length)).take (m * l.length)) ((ys.drop (j * l.length)).take (m * l.length))) w
 | 0, j, _, _ => by simp [Op.eqItems, eqCells]
 | m + 1, j, hx, hy => by
  rw [List.replicate_succ, List.flatten_cons] at hx hy
  obtain ⟨x1, x2⟩ := AllK.parts hx
  obtain ⟨y1, y2⟩ := AllK.parts hy
  have hm : (m + 1) * l.length = l.length + m * l.length := by rw [Nat.succ_mul]; omega
  rw [List.take_take, hm, Nat.min_eq_left (by omega)] at x1 y1
  have lx : ((xs.drop (j * l.length)).take l.length).length = l.length := x1.length
  have ly : ((ys.drop (j * l.length)).take l.length).length = l.length := y1.length
  rw [hm, List.take_add, List.drop_drop, List.drop_append_of_le_length (by omega), List.drop_of_length_le (by omega), List.nil_append] at x2 y2
  have hj : j * l.length + l.length = (j + 1) * l.length := by rw [Nat.succ_mul]
  rw [hj] at x2 y2
  obtain ⟨a, pa, va⟩ := part_flat (w := w) (off := j * l.length) hl hc x1
  obtain ⟨b, pb, vb⟩ := part_flat (w := w) (off := j * l.length) hl hc y1
  have e1 := IH w _ _ a b x1 y1 va vb
  have e2 := eq_items hl hc IH m (j + 1) x2 y2
  rw [hm, List.take_add, List.drop_drop, List.take_add, List.drop_drop, eqCells_append (by omega), hj]
  simp only [List.range'_succ, Op.eqItems, Sem.run_bind, pa, pb, e1, Result.andThen_ok]
  cases eqCells ((xs.drop (j * l.length)).take l.length) ((ys.drop (j * l.length)).take l.length)
  ·simp
  ·simpa using e2
theorem equal_flat : ∀ (n : Nat) (t : TypeId) (ks : List Sc), flatK P n t = some ks → P.keyTypeAt n t = true → ∀ d, n ≤ d → EqT P d t ks
 | 0, t, ks, hk, _, d, _ => by cases hk
 | n + 1, t, ks, hk, hkt, 0, hd => by omega
 | n + 1, t, ks, hk, hkt, d + 1, hd => by
  intro w cs cs' v v' hx hy hv hv'
  unfold flatK at hk
  unfold Program.keyTypeAt at hkt
  split at hk
  ·rename_i hu
   cases hk
   simp only [ValIs, hu] at hv hv'
   subst hv hv'
   obtain ⟨⟨a, rfl⟩, _⟩ := hx
   obtain ⟨⟨b, rfl⟩, _⟩ := hy
   rw [run_equalIn_bool' w d t a b hu]
   simp [eqCells, scEq]
  ·rename_i k hu
   cases hk
   simp only [ValIs, hu] at hv hv'
   subst hv hv'
   obtain ⟨⟨a, rfl⟩, _⟩ := hx
   obtain ⟨⟨b, rfl⟩, _⟩ := hy
   rw [run_equalIn_int w d t k k a b hu]
   simp [eqCells, scEq]
  ·rename_i fs hu
   simp only [ValIs, hu] at hv hv'
   subst hv hv'
   cases hl : flatFields P (flatK P n) 0 fs.toList with
   | none => rw [hl] at hk; cases hk
   | some l =>
    rw [hl] at hk
    simp only [Option.bind_some] at hk
    split at hk
    ·obtain rfl : l = ks := Option.some.inj hk
     rw [hu] at hkt
     simp only [Bool.and_eq_true, Array.all_eq_true', bne_iff_ne, ne_eq, Bool.not_eq_true'] at hkt
     have hfs : P.fieldsOf t = fs := by simp [Program.fieldsOf, hu]
     rw [run_equalIn_struct w d t ⟨cs⟩ ⟨cs'⟩ (by rw [hfs]; exact hu) hkt.2, hfs]
     have lx := hx.length
     have ly := hy.length
     have := eq_fields (w := w) (xs := cs) (ys := cs') (fun t ks h1 h2 => equal_flat n t ks h1 h2 d (by omega)) fs.toList 0 l hl (fun f hf => hkt.1.1 f (by simpa using hf)) (by rw [List.drop_zero, List.take_of_length_le (by omega)]; exact hx) (by rw [List.drop_zero, List.take_of_length_le (by omega)]; exact hy)
     rw [List.drop_zero, List.drop_zero, List.take_of_length_le (by omega), List.take_of_length_le (by omega)] at this
     exact this
    ·cases hk
  ·rename_i m e hu
   simp only [ValIs, hu] at hv hv'
   subst hv hv'
   cases hl : flatK P n e with
   | none => rw [hl] at hk; cases hk
   | some l =>
    rw [hl] at hk
    simp only [Option.bind_some] at hk
    split at hk
    ·rename_i hc
     cases hk
     rw [hu] at hkt
     have hie : ∃ i, P.info? e = some i := by
      cases n with
      | zero => cases hl
      | succ n =>
       unfold flatK at hl
       split at hl
       all_goals first | (rename_i h; exact info_of_underlying h) | (cases hl; done) | (rename_i _ h; exact info_of_underlying h) | (rename_i _ _ h; exact info_of_underlying h)
     obtain ⟨i, hi⟩ := hie
     rw [run_equalIn_array w d ⟨cs⟩ ⟨cs'⟩ hu hi, hc.1, List.range_eq_range']
     have hlen : (List.replicate m l).flatten.length = m * l.length := by simp
     have lx := hx.length
     have ly := hy.length
     have := eq_items (w := w) (xs := cs) (ys := cs') hl hc.1 (equal_flat n e l hl hkt d (by omega)) m 0 (by rw [Nat.zero_mul, List.drop_zero, List.take_of_length_le (by omega)]; exact hx) (by rw [Nat.zero_mul, List.drop_zero, List.take_of_length_le (by omega)]; exact hy)
     rw [Nat.zero_mul, List.drop_zero, List.drop_zero, List.take_of_length_le (by omega), List.take_of_length_le (by omega)] at this
     exact this
    ·cases hk
  ·cases hk
end
end Go.Proofs.YtcegjehoejgofaaGreat
namespace Go.Proofs.YtcegjehoejgofaaGreat
open Go.ChangeShapes Go.WideShapes Go.ChangeAt Go.RowKit
structure Stored (w : World) (g : Nat) (w' : World) : Prop where
 heap : ∀ {h : Nat}, h ≠ g → w'.heap[h]? = w.heap[h]?
 size : w'.heap.size = w.heap.size
 low : ∀ {B : Nat} {z : World}, Below B z w → B ≤ g → Below B z w'
section
variable {w w' : World} {g : Nat}
theorem Stored.box (st : Stored w g w') {h : Nat} {t : TypeId} {cs : Array Value} (b : Box w h t cs) (hne : h ≠ g) : Box w' h t cs := (st.heap hne).trans b
theorem Stored.cell (st : Stored w g w') {p : Addr} {z : Value} (hne : p.block ≠ g) (h : w.cell? p = some z) : w'.cell? p = some z := by
 rw [← h]
 unfold World.cell?
 rw [st.heap hne]
theorem Stored.row (w : World) {t : TypeId} {old : Array Value} (hg : Box w g t old) (cells : Array Value) : Box (w.setRow g cells) g t cells ∧ Stored w g (w.setRow g cells) := by
 refine ⟨setRow_heap w g old cells t _ hg, fun {h} hne => ?_, by simp [World.setRow], fun {B} {z} b hB => ⟨b.os, b.tape, b.output, ?_, fun x hx => ?_⟩⟩
 ·simp [World.setRow, Array.getElem?_modify, Ne.symm hne]
 ·have := b.size
  simpa [World.setRow] using this
 ·rw [← b.block x hx]
  simp [World.setRow, Array.getElem?_modify, show g ≠ x by omega]
end
theorem wp_store_box {P : Program} {op : Oper} {a : Act} {w : World} {K : Act → World → Prop} {Q : Exit → Act → World → Prop} (ty : TypeId) (x y : Operand) (ho : op.op = .store ty x y)
  (g : Nat) (cells : Array Value) (hx : a.eval x = .pointer (some ⟨g, 0, none⟩)) (hy : a.eval y = .agg cells) {t : TypeId} {old : Array Value} (hg : Box w g t old)
  (hi : (P.info? ty).map (·.size) = some cells.size) (hold : old.size = cells.size) (h1 : cells.all (·.oneCell') = true)
  (h : ∀ w', Box w' g t cells → Stored w g w' → K (a.put op.dst undef) w') : op.wp P a w K Q :=
 wp_store_row ty x y ho g cells hx hy t old hg hi hold h1 (h _ (Stored.row w hg cells).1 (Stored.row w hg cells).2)
theorem Stored.cell1 (w : World) (p : Addr) (x : Value) : Stored w p.block (w.setCell p x) :=
 ⟨fun {h} hne => Below.heap_setCell w p x h hne, by simp, fun b hB => b.setCell hB x⟩
theorem Stored.trans {w w1 w2 : World} {g : Nat} (h : Stored w g w1) (h' : Stored w1 g w2) : Stored w g w2 :=
 ⟨fun hne => (h'.heap hne).trans (h.heap hne), h'.size.trans h.size, fun b hB => h'.low (h.low b hB) hB⟩
end Go.Proofs.YtcegjehoejgofaaGreat
namespace Go.Proofs.YtcegjehoejgofaaGreat
open Go.ChangeShapes Go.WideShapes Go.ChangeAt Go.RowKit Go.Joins
structure Ty (T : TypeId) (z : Array Value) : Prop where
 info : (Tryz.prog.info? T).map (fun i => (i.zero, i.size)) = some (some (.agg z), z.size)
 und : ∃ d, Tryz.prog.underlying T = some d ∧ d.isRow = true
 lit : ∀ w, (Instr.build T #[]).run Tryz.prog w = .ok (.agg z) w
theorem Ty.size {T : TypeId} {z : Array Value} (h : Ty T z) : (Tryz.prog.info? T).map (·.size) = some z.size := (zero_of_info h.info).2
theorem load_whole {T : TypeId} {z : Array Value} (ty : Ty T z) {w : World} {g o : Nat} {cs : Array Value} (hc : w.rangeAt g o cs.toList) (hs : cs.size = z.size) : (loadVar T ⟨g, o, none⟩).run Tryz.prog w = .ok (.agg cs) w := by
 obtain ⟨d, hu, hd⟩ := ty.und
 have := run_loadVar_mid w g o T cs.toList d hc hu hd (by rw [ty.size, Array.length_toList, hs])
 simpa using this
theorem Box.range {w : World} {g : Nat} {t : TypeId} {cs : Array Value} (h : Box w g t cs) : w.rangeAt g 0 cs.toList := fun j v hv => by
 rw [Nat.zero_add, h.cell, ← hv, Array.getElem?_toList]
section
variable {ops : Array Oper} {rest : List Oper} {dst : Option Tmp} {t : TypeId} {pos : String} {after : Array Edge} {a : Act} {w : World} {Q : Exit → Act → World → Prop}
theorem wp_newW {T : TypeId} {z : Array Value} (ty : Ty T z) (h : wpList Tryz.prog ops Q rest (a.put dst (.pointer (some ⟨w.heap.size, 0, none⟩))) (w.alloc (.cells z T))) :
  wpList Tryz.prog ops Q (⟨dst, .alloc T, t, pos, after, none⟩ :: rest) a w := by
 refine wpList_plain rfl fun K hK => ?_
 unfold Oper.wp execOp
 simp only [Instr.alloc, Sem.run_bind, (zero_of_info ty.info).1, newVar, newRow, run_newObj_alloc, Sem.run_pure, Result.andThen_ok]
 exact hK _ _ h
theorem wp_zeroW {T : TypeId} {z : Array Value} (ty : Ty T z) (h : wpList Tryz.prog ops Q rest (a.put dst (.agg z)) w) :
  wpList Tryz.prog ops Q (⟨dst, .build T #[], t, pos, after, none⟩ :: rest) a w := by
 refine wpList_plain rfl fun K hK => ?_
 unfold Oper.wp execOp
 simp only [Array.map_empty, ty.lit, Sem.run_bind, Sem.run_pure, Result.andThen_ok]
 exact hK _ _ h
theorem wp_loadW {T : TypeId} {z : Array Value} (ty : Ty T z) {gd : Option (Nat × Bool)} {x : Operand} {g o : Nat} {cs : Array Value} (hc : w.rangeAt g o cs.toList) (hs : cs.size = z.size) (hw : Region.wanted ⟨dst, .load T x, t, pos, after, gd⟩ (yielded ops a.tmps) = true) (hx : a.eval x = .pointer (some ⟨g, o, none⟩))
  (h : wpList Tryz.prog ops Q rest (a.put dst (.agg cs)) w) : wpList Tryz.prog ops Q (⟨dst, .load T x, t, pos, after, gd⟩ :: rest) a w := by
 unfold wpList
 rw [if_pos hw]
 refine .inl ?_
 unfold Oper.wp execOp
 simp only [hx, Instr.loadAt, Instr.sureAddr, Sem.run_bind, Sem.run_pure, Result.andThen_ok, load_whole ty hc hs]
 exact h
theorem wp_storeW {T : TypeId} {z : Array Value} (ty : Ty T z) {x y : Operand} {g : Nat} {cs new : Array Value} (hb : Box w g T cs) (ho : cs.size = z.size) (hn : new.size = z.size) (h1 : new.all (·.oneCell') = true) (hx : a.eval x = .pointer (some ⟨g, 0, none⟩)) (hy : a.eval y = .agg new)
  (h : ∀ w', Box w' g T new → Stored w g w' → wpList Tryz.prog ops Q rest (a.put dst undef) w') :
  wpList Tryz.prog ops Q (⟨dst, .store T x y, t, pos, after, none⟩ :: rest) a w := by
 refine wpList_plain rfl fun K hK => ?_
 refine wp_store_row T x y rfl g new hx hy T cs hb (by rw [ty.size, hn]) (by rw [ho, hn]) h1 ?_
 have := Stored.row w hb new
 exact hK _ _ (h _ this.1 this.2)
theorem wp_freshW {T : TypeId} {z : Array Value} (ty : Ty T z) {x y : Operand} {cs new : Array Value} (ho : cs.size = z.size) (hn : new.size = z.size) (h1 : new.all (·.oneCell') = true) (hx : a.eval x = .pointer (some ⟨w.heap.size, 0, none⟩)) (hy : a.eval y = .agg new)
  (h : wpList Tryz.prog ops Q rest (a.put dst undef) (w.alloc (.cells new T))) :
  wpList Tryz.prog ops Q (⟨dst, .store T x y, t, pos, after, none⟩ :: rest) a (w.alloc (.cells cs T)) := by
 refine wpList_plain rfl fun K hK => ?_
 unfold Oper.wp execOp
 simp only [hx, hy, Sem.run_bind, run_storeAt_new w T cs new (by rw [ty.size, hn]) (by rw [ho, hn]) h1, Sem.run_pure, Result.andThen_ok]
 exact hK _ _ h
end
theorem results_first {fn : Func} {T : TypeId} {z : Array Value} (ty : Ty T z) {tmps : Array Value} {i j g : Nat} {cs : Array Value} {v : Value} {w : World} (hr : fn.results = #[.cell i T, .tmp j]) (hi : tmps.getD i undef = .pointer (some ⟨g, 0, none⟩)) (hj : tmps.getD j undef = v) (hb : Box w g T cs) (hs : cs.size = z.size) :
  (results fn tmps).run Tryz.prog w = .ok (.tuple #[.agg cs, v]) w := by
 rw [Array.getD_eq_getD_getElem?] at hi hj
 simp [results, hr, hi, hj, asAddr, load_whole ty hb.range hs]
theorem results_first3 {fn : Func} {T : TypeId} {z : Array Value} (ty : Ty T z) {tmps : Array Value} {i j k g : Nat} {cs : Array Value} {v u : Value} {w : World} (hr : fn.results = #[.cell i T, .tmp j, .tmp k]) (hi : tmps.getD i undef = .pointer (some ⟨g, 0, none⟩)) (hj : tmps.getD j undef = v) (hk : tmps.getD k undef = u) (hb : Box w g T cs) (hs : cs.size = z.size) :
  (results fn tmps).run Tryz.prog w = .ok (.tuple #[.agg cs, v, u]) w := by
 rw [Array.getD_eq_getD_getElem?] at hi hj hk
 simp [results, hr, hi, hj, hk, asAddr, load_whole ty hb.range hs]
end Go.Proofs.YtcegjehoejgofaaGreat
namespace Go.Proofs.YtcegjehoejgofaaGreat
open Go.ChangeShapes Go.WideShapes Go.ChangeAt Go.RowKit
theorem drewC {w : World} {p : Addr} {z : Value} (h : w.cell? p = some z) : w.drew.cell? p = some z := h
theorem callC {w w' : World} {p : Addr} {z : Value} (hb : Below w.heap.size w w') (h : w.cell? p = some z) : w'.cell? p = some z := (hb.cell (block_lt_of_cell h)).trans h
theorem allocC {w : World} {p : Addr} {z : Value} (o : Obj) (h : w.cell? p = some z) : (w.alloc o).cell? p = some z := callC (gAlloc (Below.refl _ _) o) h
section
variable {P : Program} {ops : Array Oper} {Q : Exit → Act → World → Prop} {md : Region.Mode} {S : World → Prop}
theorem takeFirst {i : Nat} {oi : Oper} {v : Value} {fuel : Nat} {listed : Array Bool} {a : Act} {w : World} (hi : ops.toList[i]? = some oi)
  (hs : Region.noSelect ops = true) (hf : Region.free md ops listed i = true) (hr : (Region.ready md ops listed).contains i = true) (hw : Region.wanted oi (yielded ops a.tmps) = true)
  (hQ : ∀ c a w, Q (.panic c) (a.put oi.dst v) w → Q (.panic c) a w) (hy : ∀ w, S w → (execOp a.eval oi).run P w = .ok (.value v) w) (hS : S w)
  (h : wpAnyH P md ops Q S fuel (listed.setIfInBounds i true) (a.put oi.dst v) w) : wpAnyH P md ops Q S (fuel + 1) listed a w :=
 wpAnyH_take (by rw [← Array.getElem?_toList]; exact hi) hs hf hr hQ (.inl ⟨hw, hy⟩) hS h
theorem takeA (i : Nat) (v : Value) {oi : Oper} {fuel : Nat} {listed : Array Bool} {a : Act} {w : World} (hi : ops.toList[i]? = some oi) (hy : ∀ w, S w → (execOp a.eval oi).run P w = .ok (.value v) w) (h : wpAnyH P md ops Q S fuel (listed.setIfInBounds i true) (a.put oi.dst v) w)
  (hs : Region.noSelect ops = true := by kernel_rfl) (hf : Region.free md ops listed i = true := by kernel_rfl) (hr : (Region.ready md ops listed).contains i = true := by kernel_rfl) (hw : Region.wanted oi (yielded ops a.tmps) = true := by rfl)
  (hQ : ∀ c a w, Q (.panic c) (a.put oi.dst v) w → Q (.panic c) a w := by exact fun _ _ _ h => h) (hS : S w := by assumption) : wpAnyH P md ops Q S (fuel + 1) listed a w :=
 takeFirst hi hs hf hr hw hQ hy hS h
theorem skipFirst {i : Nat} {oi : Oper} {fuel : Nat} {listed : Array Bool} {a : Act} {w : World} (hi : ops.toList[i]? = some oi)
  (hs : Region.noSelect ops = true) (hf : Region.free md ops listed i = true) (hr : (Region.ready md ops listed).contains i = true) (hw : Region.wanted oi (yielded ops a.tmps) = false)
  (hQ : ∀ c a w, Q (.panic c) (a.put oi.dst undef) w → Q (.panic c) a w) (hS : S w)
  (h : wpAnyH P md ops Q S fuel (listed.setIfInBounds i true) (a.put oi.dst undef) w) : wpAnyH P md ops Q S (fuel + 1) listed a w :=
 wpAnyH_take (by rw [← Array.getElem?_toList]; exact hi) hs hf hr hQ (.inr ⟨hw, rfl⟩) hS h
theorem stepNext {i : Nat} {oi : Oper} {fuel : Nat} {listed : Array Bool} {a : Act} {w : World} (hr : Region.ready md ops listed = [i]) (hi : ops.toList[i]? = some oi) (hw : Region.wanted oi (yielded ops a.tmps) = true)
  (h : ∀ K : Act → World → Prop, Hid (∀ a w, S w → wpAnyH P md ops Q S fuel (listed.setIfInBounds i true) a w → K a w) → Oper.wp P oi a w K Q) : wpAnyH P md ops Q S (fuel + 1) listed a w :=
 wpAnyH_ready hr (by simp) (AllReadyH.cons (by rw [← Array.getElem?_toList]; exact hi) (fun K hK => by rw [if_pos hw]; exact h K (Lib.hid fun a w hs hx => hK a w hs (fun _ => hx))) AllReadyH.nil)
theorem stepTwo {i1 i2 : Nat} {o1 o2 : Oper} {fuel : Nat} {listed : Array Bool} {a : Act} {w : World} (hr : Region.ready md ops listed = [i1, i2])
  (h1 : ops.toList[i1]? = some o1) (h2 : ops.toList[i2]? = some o2) (w1 : Region.wanted o1 (yielded ops a.tmps) = true) (w2 : Region.wanted o2 (yielded ops a.tmps) = true)
  (k1 : ∀ K : Act → World → Prop, Hid (∀ a w, S w → wpAnyH P md ops Q S fuel (listed.setIfInBounds i1 true) a w → K a w) → Oper.wp P o1 a w K Q)
  (k2 : ∀ K : Act → World → Prop, Hid (∀ a w, S w → wpAnyH P md ops Q S fuel (listed.setIfInBounds i2 true) a w → K a w) → Oper.wp P o2 a w K Q) : wpAnyH P md ops Q S (fuel + 1) listed a w :=
 wpAnyH_ready hr (by simp) (AllReadyH.cons (by rw [← Array.getElem?_toList]; exact h1) (fun K hK => by rw [if_pos w1]; exact k1 K (Lib.hid fun a w hs hx => hK a w hs (fun _ => hx)))
  (AllReadyH.cons (by rw [← Array.getElem?_toList]; exact h2) (fun K hK => by rw [if_pos w2]; exact k2 K (Lib.hid fun a w hs hx => hK a w hs (fun _ => hx))) AllReadyH.nil))
theorem stepThree {i1 i2 i3 : Nat} {o1 o2 o3 : Oper} {fuel : Nat} {listed : Array Bool} {a : Act} {w : World} (hr : Region.ready md ops listed = [i1, i2, i3])
  (h1 : ops.toList[i1]? = some o1) (h2 : ops.toList[i2]? = some o2) (h3 : ops.toList[i3]? = some o3) (w1 : Region.wanted o1 (yielded ops a.tmps) = true) (w2 : Region.wanted o2 (yielded ops a.tmps) = true) (w3 : Region.wanted o3 (yielded ops a.tmps) = true)
  (k1 : ∀ K : Act → World → Prop, Hid (∀ a w, S w → wpAnyH P md ops Q S fuel (listed.setIfInBounds i1 true) a w → K a w) → Oper.wp P o1 a w K Q)
  (k2 : ∀ K : Act → World → Prop, Hid (∀ a w, S w → wpAnyH P md ops Q S fuel (listed.setIfInBounds i2 true) a w → K a w) → Oper.wp P o2 a w K Q)
  (k3 : ∀ K : Act → World → Prop, Hid (∀ a w, S w → wpAnyH P md ops Q S fuel (listed.setIfInBounds i3 true) a w → K a w) → Oper.wp P o3 a w K Q) : wpAnyH P md ops Q S (fuel + 1) listed a w :=
 wpAnyH_ready hr (by simp) (AllReadyH.cons (by rw [← Array.getElem?_toList]; exact h1) (fun K hK => by rw [if_pos w1]; exact k1 K (Lib.hid fun a w hs hx => hK a w hs (fun _ => hx)))
  (AllReadyH.cons (by rw [← Array.getElem?_toList]; exact h2) (fun K hK => by rw [if_pos w2]; exact k2 K (Lib.hid fun a w hs hx => hK a w hs (fun _ => hx)))
  (AllReadyH.cons (by rw [← Array.getElem?_toList]; exact h3) (fun K hK => by rw [if_pos w3]; exact k3 K (Lib.hid fun a w hs hx => hK a w hs (fun _ => hx))) AllReadyH.nil)))
theorem relist {l1 l2 : Array Bool} (h : l1 = l2) {fuel : Nat} {a : Act} {w : World} (k : wpAnyH P md ops Q S fuel l2 a w) : wpAnyH P md ops Q S fuel l1 a w := h ▸ k
end
end Go.Proofs.YtcegjehoejgofaaGreat
namespace Go.Proofs.YtcegjehoejgofaaGreat
open Go.ChangeShapes Go.WideShapes Go.ChangeAt Go.RowKit Go.Joins
structure Sw where
 pl : Int
 fu : Bool
 nd : Int
 wt : Int
def eqS (x y : Sw) : Bool := x.pl == y.pl && (x.fu == y.fu && (x.nd == y.nd && x.wt == y.wt))
theorem eqS_iff (x y : Sw) : eqS x y = true ↔ x = y := by
 obtain ⟨a, b, c, d⟩ := x
 obtain ⟨a', b', c', d'⟩ := y
 simp [eqS]
instance : DecidableEq Sw := fun x y => decidable_of_iff (eqS x y = true) (eqS_iff x y)
abbrev Sw.arr (x : Sw) : Array Value := #[.int .i64 x.pl, .bool x.fu, .int .i64 x.nd, .int .i64 x.wt]
abbrev Sw.val (x : Sw) : Value := .agg #[.int .i64 x.pl, .bool x.fu, .int .i64 x.nd, .int .i64 x.wt]
def Sw.cells (x : Sw) : List Value := [.int .i64 x.pl, .bool x.fu, .int .i64 x.nd, .int .i64 x.wt]
def ringC (l : List Sw) : List Value := l.flatMap Sw.cells
abbrev sw0 : Sw := ⟨0, false, 0, 0⟩
theorem ringC_length (l : List Sw) : (ringC l).length = l.length * 4 := by
 induction l with
 | nil => rfl
 | cons x r ih => simp only [ringC, List.flatMap_cons, List.length_append, List.length_cons] at *; rw [ih]; simp [Sw.cells]; omega
theorem ringC_at {l : List Sw} {k : Nat} {x : Sw} (h : l[k]? = some x) (j : Nat) (hj : j < 4) : (ringC l)[k * 4 + j]? = x.cells[j]? := by
 induction l generalizing k with
 | nil => simp at h
 | cons y r ih =>
  have hy : y.cells.length = 4 := rfl
  simp only [ringC, List.flatMap_cons] at *
  cases k with
  | zero =>
   simp at h
   subst h
   rw [List.getElem?_append_left (by omega)]
   simp
  | succ k =>
   rw [List.getElem?_append_right (by omega), hy]
   have : (k + 1) * 4 + j - 4 = k * 4 + j := by omega
   rw [this]
   exact ih (by simpa using h)
theorem ringC_append (a b : List Sw) : ringC (a ++ b) = ringC a ++ ringC b := List.flatMap_append
theorem ringC_one (l : List Sw) : ∀ u ∈ ringC l, u.oneCell' = true := by
 intro u hu
 simp only [ringC, List.mem_flatMap] at hu
 obtain ⟨x, _, hx⟩ := hu
 simp [Sw.cells] at hx
 rcases hx with rfl | rfl | rfl | rfl <;> rfl
structure Rs (w : World) (v : Value) (l : List Sw) : Prop where
 sl : Sl w w.heap.size 4 v l.length (ringC l)
theorem Rs.call {w w' : World} {v : Value} {l : List Sw} (h : Rs w v l) (hb : Below w.heap.size w w') : Rs w' v l := ⟨Sl.call h.sl hb⟩
theorem Rs.alloc {w : World} {v : Value} {l : List Sw} (h : Rs w v l) (o : Obj) : Rs (w.alloc o) v l := h.call (gAlloc (Below.refl _ _) o)
theorem Rs.shape {w : World} {v : Value} {l : List Sw} (h : Rs w v l) : ∃ A c, v = .slice A l.length c := by
 obtain ⟨_, A, c, e, _⟩ := h
 exact ⟨A, c, e⟩
def SlotAt (w : World) (b o : Nat) (x : Sw) : Prop :=
 w.cell? ⟨b, o, none⟩ = some (.int .i64 x.pl) ∧ w.cell? ⟨b, o + 1, none⟩ = some (.bool x.fu) ∧ w.cell? ⟨b, o + 2, none⟩ = some (.int .i64 x.nd) ∧ w.cell? ⟨b, o + 3, none⟩ = some (.int .i64 x.wt)
theorem slotAt_of {w w' : World} {b o B : Nat} {l : List Sw} {k : Nat} {x : Sw} (hc : ∀ j u, (ringC l)[j]? = some u → w.cell? ⟨b, o + j, none⟩ = some u) (hb : b < B) (low : Below B w w') (h : l[k]? = some x) : SlotAt w' b (o + k * 4) x := by
 have f : ∀ j u, j < 4 → x.cells[j]? = some u → w'.cell? ⟨b, o + k * 4 + j, none⟩ = some u := by
  intro j u hj hu
  refine (low.cell (p := ⟨b, o + k * 4 + j, none⟩) hb).trans ?_
  rw [Nat.add_assoc]
  exact hc _ _ ((ringC_at h j hj).trans hu)
 exact ⟨f 0 _ (by omega) rfl, f 1 _ (by omega) rfl, f 2 _ (by omega) rfl, f 3 _ (by omega) rfl⟩
def idxS (p : Sw → Bool) (l : List Sw) : Int := match l.findIdx? p with | some k => k | none => -1
theorem idxS_none {p : Sw → Bool} {l : List Sw} (h : ∀ (k : Nat) x, l[k]? = some x → p x = false) : idxS p l = -1 := by
 have : l.findIdx? p = none := by
  rw [List.findIdx?_eq_none_iff]
  intro x hx
  obtain ⟨k, hk, e⟩ := List.getElem_of_mem hx
  exact h k x (by rw [List.getElem?_eq_getElem hk, e])
 rw [idxS, this]
theorem idxS_some {p : Sw → Bool} {l : List Sw} {k : Nat} {x : Sw} (h : ∀ j y, j < k → l[j]? = some y → p y = false) (hk : l[k]? = some x) (hp : p x = true) : idxS p l = k := by
 have : l.findIdx? p = some k := by
  rw [List.findIdx?_eq_some_iff_getElem]
  obtain ⟨hlt, e⟩ := List.getElem?_eq_some_iff.1 hk
  refine ⟨hlt, by rw [e]; exact hp, fun j hj => ?_⟩
  rw [h j _ hj (List.getElem?_eq_getElem (by omega))]
  decide
 rw [idxS, this]
theorem uptoS {p : Sw → Bool} {l : List Sw} {k : Nat} {x : Sw} (h : ∀ j y, j < k → l[j]? = some y → p y = false) (hk : l[k]? = some x) (hp : p x = false) : ∀ j y, j < k + 1 → l[j]? = some y → p y = false := by
 intro j y hj hy
 by_cases e : j < k
 ·exact h j y e hy
 ·obtain rfl : j = k := by omega
  rw [hk] at hy
  cases hy
  exact hp
theorem allS {p : Sw → Bool} {l : List Sw} {k : Nat} (h : ∀ j y, j < k → l[j]? = some y → p y = false) (hk : ¬ k < l.length) : ∀ (j : Nat) y, l[j]? = some y → p y = false := by
 intro j y hy
 obtain ⟨hj, _⟩ := List.getElem?_eq_some_iff.1 hy
 exact h j y (by omega) hy
theorem idxS_cases (p : Sw → Bool) (l : List Sw) : (idxS p l = -1 ∧ ∀ x ∈ l, p x = false) ∨ ∃ k x, idxS p l = (k : Nat) ∧ l[k]? = some x ∧ p x = true ∧ ∀ j y, j < k → l[j]? = some y → p y = false := by
 cases e : l.findIdx? p with
 | none =>
  refine .inl ⟨by rw [idxS, e], ?_⟩
  rw [List.findIdx?_eq_none_iff] at e
  exact e
 | some k =>
  refine .inr ?_
  have e' := e
  rw [List.findIdx?_eq_some_iff_getElem] at e
  obtain ⟨hk, e1, e2⟩ := e
  refine ⟨k, l[k], by rw [idxS, e'], List.getElem?_eq_getElem hk, e1, fun j y hj hy => ?_⟩
  obtain ⟨hlt, rfl⟩ := List.getElem?_eq_some_iff.1 hy
  simpa using e2 j hj
theorem idxS_any (p : Sw → Bool) (l : List Sw) : decide (0 ≤ idxS p l) = l.any p := by
 rcases idxS_cases p l with ⟨e, h⟩ | ⟨k, x, e, hx, hp, _⟩
 ·rw [e, List.any_eq_false.2 (fun x hx => by rw [h x hx]; decide)]; rfl
 ·rw [e, List.any_eq_true.2 ⟨x, List.mem_of_getElem? hx, hp⟩]
  exact decide_eq_true (by omega)
theorem indexSlot (F : Nat) (eg : ∀ args w, (callFunc F args).run Tryz.prog w = .ok (.enter F args) w) (g : Nat) (p : Sw → Bool) (v : Value) (l : List Sw) (w : World) (h : Rs w v l)
  (C : ∀ x W, Below w.heap.size w W → Calls Tryz.prog F #[x.val, .pointer (some ⟨g, 0, none⟩)] W fun e w' => e = .returned (.bool (p x)) ∧ Below W.heap.size W w') :
  Calls Tryz.prog 80 #[v, .func (.func F) #[] #[.pointer (some ⟨g, 0, none⟩)]] w fun e w' => e = .returned (.int .i64 (idxS p l)) ∧ Below w.heap.size w w' := by
 obtain ⟨_, A, c, rfl, h1, h2, h3⟩ := h
 have H3 := Lib.hid h3
 have CC := Lib.hid C
 unfold maxLen at h2
 clear h3 C
 have low := Below.refl w.heap.size w
 go_enter Tryz.func80, Tryz.ntmps80
 go_wp2_with fail
 go_loopw [8] (fun i wr => ∃ j : Nat, j ≤ l.length ∧ i = .int .i64 j ∧ Hid (∀ q y, q < j → l[q]? = some y → p y = false) ∧ Below w.heap.size w wr) (fun i _ => l.length - (intOf i).toNat)
 case atStart => exact ⟨0, Nat.zero_le _, rfl, Lib.hid fun q y hq => absurd hq (by omega), low⟩
 case round =>
  clear low
  obtain ⟨j, hj, rfl, hno, low⟩ := hrel
  by_cases hlt : j < l.length
  ·obtain ⟨b, o, rfl, hb, hc⟩ := H3.out (by omega)
   have hx : l[j]? = some l[j] := List.getElem?_eq_getElem _
   generalize l[j] = x at hx
   obtain ⟨c0, c1, c2, c3⟩ := slotAt_of hc hb low hx
   have HX := Lib.hid hx
   have S := Lib.hid (CC.out x wr low)
   have j0 : (0 : Int) ≤ j := by omega
   have j1 : (j : Int) < l.length := by omega
   clear hx hc
   generalize hp : p x = B at S
   have HP := Lib.hid hp
   clear hp
   go_wp2_with fail
   (with_reducible refine S.out.mono ?_); rintro e w2 ⟨rfl, hb2⟩
   replace low := gCall low hb2
   clear hb2 c0 c1 c2 c3
   cases B
   ·go_wp2_with fail
    go_roundw
    case rel => exact ⟨j + 1, by omega, by go_num, Lib.hid (uptoS hno.out HX.out HP.out), low⟩
    case measure => simp [intOf]; omega
   ·go_wp2_with fail
    go_ret
    exact ⟨by rw [idxS_some hno.out HX.out HP.out]; rfl, low⟩
  ·go_wp2_with fail
   go_ret
   exact ⟨by rw [idxS_none (allS hno.out hlt)]; rfl, low⟩
theorem containsSlot (F : Nat) (eg : ∀ args w, (callFunc F args).run Tryz.prog w = .ok (.enter F args) w) (g : Nat) (p : Sw → Bool) (v : Value) (l : List Sw) (w : World) (h : Rs w v l)
  (C : ∀ x W, Below w.heap.size w W → Calls Tryz.prog F #[x.val, .pointer (some ⟨g, 0, none⟩)] W fun e w' => e = .returned (.bool (p x)) ∧ Below W.heap.size W w') :
  Calls Tryz.prog 47 #[v, .func (.func F) #[] #[.pointer (some ⟨g, 0, none⟩)]] w fun e w' => e = .returned (.bool (l.any p)) ∧ Below w.heap.size w w' := by
 have I := Lib.hid (indexSlot F eg g p v l w h C)
 obtain ⟨A, c, rfl⟩ := h.shape
 clear h C
 rw [← idxS_any]
 generalize idxS p l = r at I ⊢
 have low := Below.refl w.heap.size w
 go_enter Tryz.func47, Tryz.ntmps47
 go_wp2_with fail
 (with_reducible refine (Calls.mono I.out ?_)); rintro e w2 ⟨rfl, hb⟩
 replace low := gCall low hb
 clear hb
 go_wp2_with fail
 go_ret
 exact ⟨rfl, low⟩
def filS (node : Int) (x : Sw) : Bool := x.fu && x.nd == node
def filB (l : List Sw) (node : Int) : Bool := l.any (filS node)
theorem hasFilled1_any (x : Sw) (node : Int) (g : Nat) (w : World) (hc : w.cell? ⟨g, 0, none⟩ = some (.int .i64 node)) :
  Calls Tryz.prog 117 #[x.val, .pointer (some ⟨g, 0, none⟩)] w fun e w' => e = .returned (.bool (filS node x)) ∧ Below w.heap.size w w' := by
 obtain ⟨a, f, n, t⟩ := x
 have hg := block_lt_of_cell hc
 unfold filS
 simp only at hg ⊢
 have low := Below.refl w.heap.size w
 cases f
 ·go_enter Tryz.func117, Tryz.ntmps117
  go_wp2_with fail
  go_ret
  exact ⟨rfl, gAlloc low _⟩
 ·generalize hq : (n == node) = B
  go_enter Tryz.func117, Tryz.ntmps117
  go_wp2_with fail
  go_ret
  exact ⟨rfl, gAlloc low _⟩
theorem hasFilled_any (v : Value) (l : List Sw) (node : Int) (w : World) (h : Rs w v l) :
  Calls Tryz.prog 102 #[v, .int .i64 node] w fun e w' => e = .returned (.bool (filB l node)) ∧ Below w.heap.size w w' := by
 have CON := Lib.hid (fun (W : World) (hr : Rs W v l) (hc : Box W w.heap.size 3 #[.int .i64 node]) => containsSlot 117 (fun _ _ => by kernel_rfl) w.heap.size (filS node) v l W hr (fun x W' hb => hasFilled1_any x node w.heap.size W' ((hc.call hb).at_ 0 rfl)))
 obtain ⟨A, c, rfl⟩ := h.shape
 unfold filB
 generalize l.any (filS node) = B at CON ⊢
 have low := Below.refl w.heap.size w
 have nb := boxNext low 3 #[.int .i64 node]
 replace low := gAlloc low (.cells #[.int .i64 node] 3)
 replace h := h.alloc (.cells #[.int .i64 node] 3)
 try simp only [World.size_alloc] at nb
 go_enter Tryz.func102, Tryz.ntmps102
 go_wp2_with fail
 (with_reducible refine (CON.out _ h nb).mono ?_); rintro e w2 ⟨rfl, hb⟩
 replace low := gCall low hb
 clear hb
 go_wp2_with fail
 go_ret
 exact ⟨rfl, low⟩
def nodB (n k : Int) : Bool := decide (0 ≤ k ∧ k < n)
def waitB (k : Int) : Bool := decide (0 ≤ k ∧ k ≤ 9)
theorem nodB_iff {n k : Int} : nodB n k = true ↔ 0 ≤ k ∧ k < n := by unfold nodB; exact decide_eq_true_iff
theorem waitB_iff {k : Int} : waitB k = true ↔ 0 ≤ k ∧ k ≤ 9 := by unfold waitB; exact decide_eq_true_iff
theorem isNode_any (n s y b k : Int) (w : World) : Calls Tryz.prog 100 #[cfg n s y b, .int .i64 k] w fun e w' => e = .returned (.bool (nodB n k)) ∧ Below w.heap.size w w' := by
 have h := Below.refl w.heap.size w
 have N := Lib.hid (show nodB n k = (decide (0 ≤ k) && decide (k < n)) by unfold nodB; rw [Bool.decide_and])
 rw [N.out]
 by_cases h0 : 0 ≤ k
 ·have e0 : decide (0 ≤ k) = true := decide_eq_true h0
  rw [e0, Bool.true_and]
  generalize hq : decide (k < n) = B
  go_enter Tryz.func100, Tryz.ntmps100
  go_wp2_with fail
  go_ret
  exact ⟨rfl, gAlloc h _⟩
 ·have e0 : decide (0 ≤ k) = false := decide_eq_false h0
  rw [e0, Bool.false_and]
  go_enter Tryz.func100, Tryz.ntmps100
  go_wp2_with fail
  go_ret
  exact ⟨rfl, gAlloc h _⟩
theorem isWait_any (k : Int) (w : World) : Calls Tryz.prog 101 #[.int .i64 k] w fun e w' => e = .returned (.bool (waitB k)) ∧ w = w' := by
 have N := Lib.hid (show waitB k = (decide (0 ≤ k) && decide (k ≤ 9)) by unfold waitB; rw [Bool.decide_and])
 rw [N.out]
 by_cases h0 : 0 ≤ k
 ·have e0 : decide (0 ≤ k) = true := decide_eq_true h0
  rw [e0, Bool.true_and]
  generalize hq : decide (k ≤ 9) = B
  go_enter Tryz.func101, Tryz.ntmps101
  go_wp2_with fail
  go_ret
  exact ⟨rfl, rfl⟩
 ·have e0 : decide (0 ≤ k) = false := decide_eq_false h0
  rw [e0, Bool.false_and]
  go_enter Tryz.func101, Tryz.ntmps101
  go_wp2_with fail
  go_ret
  exact ⟨rfl, rfl⟩
end Go.Proofs.YtcegjehoejgofaaGreat
namespace Go.Proofs.YtcegjehoejgofaaGreat
open Go.ChangeShapes Go.WideShapes Go.ChangeAt Go.RowKit Go.Joins
def slotE (n : Int) (l : List Sw) (x : Sw) : Int :=
 if nodB n x.pl = false ∨ nodB n x.nd = false ∨ waitB x.wt = false then 4 else if x.fu = false then (if x.nd = 0 ∧ x.wt = 0 then 0 else 3) else if filB l x.nd = true then 6 else 0
def slotsE (n : Int) : List Sw → List Sw → Int
 | _, [] => 0
 | l, x :: r => if slotE n l x = 0 then slotsE n (l ++ [x]) r else slotE n l x
def cntE (n s y b k : Int) : Int := if cfgB n s y b = true ∧ 1 ≤ k ∧ k ≤ 8 then 0 else 4
def ringE (n s y b : Int) (l : List Sw) : Int := if cntE n s y b l.length = 0 then slotsE n [] l else 4
theorem cntE_ok {n s y b k : Int} (h : cntE n s y b k = 0) : cfgB n s y b = true ∧ 1 ≤ k ∧ k ≤ 8 := by
 unfold cntE at h
 split at h
 ·assumption
 ·cases h
theorem cntE_bad {n s y b k : Int} (h : cntE n s y b k ≠ 0) : cntE n s y b k = 4 := by
 unfold cntE at h ⊢
 split at h
 ·exact absurd rfl h
 ·rename_i g; rw [if_neg g]
theorem ring_take {w : World} {A : Option Addr} {c : Nat} {r : List Sw} (h : Rs w (.slice A r.length c) r) (k : Nat) (hk : k ≤ r.length) : Rs w (sliced A 0 k c 4) (r.take k) := by
 obtain ⟨_, A', c', e, h1, h2, h3⟩ := h
 obtain ⟨rfl, rfl⟩ : A = A' ∧ c = c' := by injection e with e1 e2 e3; exact ⟨e1, e3⟩
 have hn : (r.take k).length = k := by rw [List.length_take]; omega
 refine ⟨ringC_length _, _, _, by unfold sliced; rw [hn]; rfl, by rw [hn]; omega, by omega, fun h0 => ?_⟩
 rw [hn] at h0
 obtain ⟨b, o, rfl, hb, hc⟩ := h3 (by omega)
 refine ⟨b, o, by rw [if_neg (by omega)]; simp [Addr.add], hb, fun j u hu => hc j u ?_⟩
 have := (List.getElem?_eq_some_iff.1 hu).1
 rw [← List.take_append_drop k r, ringC_append, List.getElem?_append_left this]
 exact hu
section
variable {ρ : Operand → Value} {dst : Option Tmp} {t : TypeId} {pos : String} {after : Array Edge} {gd : Option (Nat × Bool)} {x y : Operand} {A : Option Addr} {n c k : Nat} {s : Value} {w : World}
theorem exec_ring (hx : ρ x = .slice A n c) (hy : ρ y = .int .i64 k) (hk : k ≤ c) (hs : sliced A 0 k c 4 = s) :
  (execOp ρ ⟨dst, .slice 33 x none (some y) none, t, pos, after, gd⟩).run Tryz.prog w = .ok (.value s) w := by
 have hu : Tryz.prog.underlying 33 = some (.slice (Tryz.prog.elem 33)) := by kernel_rfl
 have hz : (sizeOf (Tryz.prog.elem 33)).run Tryz.prog w = .ok 4 w := by kernel_rfl
 unfold execOp
 simp only [hx, hy, Option.map_some, Option.map_none, Sem.run_bind, run_sliceAt_slice _ _ _ _ _ _ hu, run_slice_h w 33 A n c hu .i64 (k : Int) (by omega) (by omega), hz, Result.andThen_ok, Int.toNat_natCast, hs, Sem.run_pure]
end
theorem checkSlots_any (n s y b k : Int) (w : World) : Calls Tryz.prog 68 #[cfg n s y b, .int .i64 k] w fun e w' => e = .returned (.int .i64 (cntE n s y b k)) ∧ Below w.heap.size w w' := by
 have low := Below.refl w.heap.size w
 cases hB : cfgB n s y b with
 | false =>
  have E := Lib.hid (show cntE n s y b k = 4 by unfold cntE; rw [if_neg (by rw [hB]; simp)])
  have HB := Lib.hid hB
  rw [E.out]
  clear hB E
  go_enter Tryz.func68, Tryz.ntmps68
  go_wp2_with fail
  (with_reducible refine (check_bad _ _ _ _ _ HB.out).mono ?_); rintro e w1 ⟨rfl, hb⟩
  replace low := gCall (gAlloc low _) hb
  clear hb
  go_wp2_with fail
  go_ret
  exact ⟨rfl, low⟩
 | true =>
  have HB := Lib.hid hB
  by_cases h1 : k < 1
  ·have E := Lib.hid (show cntE n s y b k = 4 by unfold cntE; rw [if_neg (by omega)])
   rw [E.out]
   clear hB E
   go_enter Tryz.func68, Tryz.ntmps68
   go_wp2_with fail
   (with_reducible refine (check_ok _ _ _ _ _ HB.out).mono ?_); rintro e w1 ⟨rfl, hb⟩
   replace low := gCall (gAlloc low _) hb
   clear hb
   go_wp2_with fail
   go_ret
   exact ⟨rfl, low⟩
  ·by_cases h2 : 8 < k
   ·have E := Lib.hid (show cntE n s y b k = 4 by unfold cntE; rw [if_neg (by omega)])
    have h1' : 1 ≤ k := by omega
    rw [E.out]
    clear hB E h1
    go_enter Tryz.func68, Tryz.ntmps68
    go_wp2_with fail
    (with_reducible refine (check_ok _ _ _ _ _ HB.out).mono ?_); rintro e w1 ⟨rfl, hb⟩
    replace low := gCall (gAlloc low _) hb
    clear hb
    go_wp2_with fail
    go_ret
    exact ⟨rfl, low⟩
   ·have E := Lib.hid (show cntE n s y b k = 0 by unfold cntE; rw [if_pos ⟨hB, by omega, by omega⟩])
    have h1' : 1 ≤ k := by omega
    have h2' : k ≤ 8 := by omega
    rw [E.out]
    clear hB E h1 h2
    go_enter Tryz.func68, Tryz.ntmps68
    go_wp2_with fail
    (with_reducible refine (check_ok _ _ _ _ _ HB.out).mono ?_); rintro e w1 ⟨rfl, hb⟩
    replace low := gCall (gAlloc low _) hb
    clear hb
    go_wp2_with fail
    go_ret
    exact ⟨rfl, low⟩
set_option maxHeartbeats 2000000 in
theorem checkSlot_any (n s y b : Int) (v : Value) (l : List Sw) (x : Sw) (w : World) (h : Rs w v l) :
  Calls Tryz.prog 79 #[cfg n s y b, v, x.val] w fun e w' => e = .returned (.int .i64 (slotE n l x)) ∧ Below w.heap.size w w' := by
 obtain ⟨a, f, d, t⟩ := x
 have N1 := Lib.hid fun w => isNode_any n s y b a w
 have N2 := Lib.hid fun w => isNode_any n s y b d w
 have N3 := Lib.hid fun w => isWait_any t w
 have HF := Lib.hid fun w hw => hasFilled_any v l d w hw
 unfold slotE
 simp only
 obtain ⟨A, c, rfl⟩ := h.shape
 have low := Below.refl w.heap.size w
 have cb := boxNext low 23 #[.int .i64 n, .int .i64 s, .int .i64 y, .int .i64 b]
 replace low := gAlloc low (.cells #[.int .i64 n, .int .i64 s, .int .i64 y, .int .i64 b] 23)
 replace h := h.alloc (.cells #[.int .i64 n, .int .i64 s, .int .i64 y, .int .i64 b] 23)
 try simp only [World.size_alloc] at cb
 have sb := boxNext low 122 #[.int .i64 a, .bool f, .int .i64 d, .int .i64 t]
 replace low := gAlloc low (.cells #[.int .i64 a, .bool f, .int .i64 d, .int .i64 t] 122)
 replace h := h.alloc (.cells #[.int .i64 a, .bool f, .int .i64 d, .int .i64 t] 122)
 replace cb := cb.alloc (.cells #[.int .i64 a, .bool f, .int .i64 d, .int .i64 t] 122)
 try simp only [World.size_alloc] at sb
 cases hA : nodB n a
 ·rw [if_pos (.inl rfl)]
  rw [hA] at N1
  clear hA N2 N3 HF
  go_enter Tryz.func79, Tryz.ntmps79
  have cb_0 := cb.at_ 0 rfl
  have cb_1 := cb.at_ 1 rfl
  have cb_2 := cb.at_ 2 rfl
  have cb_3 := cb.at_ 3 rfl
  have sb_0 := sb.at_ 0 rfl
  have sb_1 := sb.at_ 1 rfl
  have sb_2 := sb.at_ 2 rfl
  have sb_3 := sb.at_ 3 rfl
  go_wp2_with fail
  (with_reducible refine (N1.out _).mono ?_); rintro e w1 ⟨rfl, hb⟩
  replace h := h.call hb
  replace cb := cb.call hb
  replace sb := sb.call hb
  replace low := gCall low hb
  clear hb cb_0 cb_1 cb_2 cb_3 sb_0 sb_1 sb_2 sb_3
  have cb_0 := cb.at_ 0 rfl
  have cb_1 := cb.at_ 1 rfl
  have cb_2 := cb.at_ 2 rfl
  have cb_3 := cb.at_ 3 rfl
  have sb_0 := sb.at_ 0 rfl
  have sb_1 := sb.at_ 1 rfl
  have sb_2 := sb.at_ 2 rfl
  have sb_3 := sb.at_ 3 rfl
  go_wp2_with fail
  go_ret
  exact ⟨rfl, low⟩
 rw [hA] at N1
 clear hA
 cases hB : nodB n d
 ·rw [if_pos (.inr (.inl rfl))]
  rw [hB] at N2
  clear hB N3 HF
  go_enter Tryz.func79, Tryz.ntmps79
  have cb_0 := cb.at_ 0 rfl
  have cb_1 := cb.at_ 1 rfl
  have cb_2 := cb.at_ 2 rfl
  have cb_3 := cb.at_ 3 rfl
  have sb_0 := sb.at_ 0 rfl
  have sb_1 := sb.at_ 1 rfl
  have sb_2 := sb.at_ 2 rfl
  have sb_3 := sb.at_ 3 rfl
  go_wp2_with fail
  (with_reducible refine (N1.out _).mono ?_); rintro e w1 ⟨rfl, hb⟩
  replace h := h.call hb
  replace cb := cb.call hb
  replace sb := sb.call hb
  replace low := gCall low hb
  clear hb cb_0 cb_1 cb_2 cb_3 sb_0 sb_1 sb_2 sb_3
  have cb_0 := cb.at_ 0 rfl
  have cb_1 := cb.at_ 1 rfl
  have cb_2 := cb.at_ 2 rfl
  have cb_3 := cb.at_ 3 rfl
  have sb_0 := sb.at_ 0 rfl
  have sb_1 := sb.at_ 1 rfl
  have sb_2 := sb.at_ 2 rfl
  have sb_3 := sb.at_ 3 rfl
  go_wp2_with fail
  (with_reducible refine (N2.out _).mono ?_); rintro e w2 ⟨rfl, hb⟩
  replace h := h.call hb
  replace cb := cb.call hb
  replace sb := sb.call hb
  replace low := gCall low hb
  clear hb cb_0 cb_1 cb_2 cb_3 sb_0 sb_1 sb_2 sb_3
  have cb_0 := cb.at_ 0 rfl
  have cb_1 := cb.at_ 1 rfl
  have cb_2 := cb.at_ 2 rfl
  have cb_3 := cb.at_ 3 rfl
  have sb_0 := sb.at_ 0 rfl
  have sb_1 := sb.at_ 1 rfl
  have sb_2 := sb.at_ 2 rfl
  have sb_3 := sb.at_ 3 rfl
  go_wp2_with fail
  go_ret
  exact ⟨rfl, low⟩
 rw [hB] at N2
 clear hB
 cases hC : waitB t
 ·rw [if_pos (.inr (.inr rfl))]
  rw [hC] at N3
  clear hC HF
  go_enter Tryz.func79, Tryz.ntmps79
  have cb_0 := cb.at_ 0 rfl
  have cb_1 := cb.at_ 1 rfl
  have cb_2 := cb.at_ 2 rfl
  have cb_3 := cb.at_ 3 rfl
  have sb_0 := sb.at_ 0 rfl
  have sb_1 := sb.at_ 1 rfl
  have sb_2 := sb.at_ 2 rfl
  have sb_3 := sb.at_ 3 rfl
  go_wp2_with fail
  (with_reducible refine (N1.out _).mono ?_); rintro e w1 ⟨rfl, hb⟩
  replace h := h.call hb
  replace cb := cb.call hb
  replace sb := sb.call hb
  replace low := gCall low hb
  clear hb cb_0 cb_1 cb_2 cb_3 sb_0 sb_1 sb_2 sb_3
  have cb_0 := cb.at_ 0 rfl
  have cb_1 := cb.at_ 1 rfl
  have cb_2 := cb.at_ 2 rfl
  have cb_3 := cb.at_ 3 rfl
  have sb_0 := sb.at_ 0 rfl
  have sb_1 := sb.at_ 1 rfl
  have sb_2 := sb.at_ 2 rfl
  have sb_3 := sb.at_ 3 rfl
  go_wp2_with fail
  (with_reducible refine (N2.out _).mono ?_); rintro e w2 ⟨rfl, hb⟩
  replace h := h.call hb
  replace cb := cb.call hb
  replace sb := sb.call hb
  replace low := gCall low hb
  clear hb cb_0 cb_1 cb_2 cb_3 sb_0 sb_1 sb_2 sb_3
  have cb_0 := cb.at_ 0 rfl
  have cb_1 := cb.at_ 1 rfl
  have cb_2 := cb.at_ 2 rfl
  have cb_3 := cb.at_ 3 rfl
  have sb_0 := sb.at_ 0 rfl
  have sb_1 := sb.at_ 1 rfl
  have sb_2 := sb.at_ 2 rfl
  have sb_3 := sb.at_ 3 rfl
  go_wp2_with fail
  (with_reducible refine (N3.out _).mono ?_); rintro e w3 ⟨rfl, rfl⟩
  go_wp2_with fail
  go_ret
  exact ⟨rfl, low⟩
 rw [hC] at N3
 clear hC
 rw [if_neg (by simp)]
 cases f
 ·rw [if_pos rfl]
  clear HF
  by_cases h0 : d = 0
  ·subst h0
   by_cases h1 : t = 0
   ·subst h1
    rw [if_pos ⟨rfl, rfl⟩]
    go_enter Tryz.func79, Tryz.ntmps79
    have cb_0 := cb.at_ 0 rfl
    have cb_1 := cb.at_ 1 rfl
    have cb_2 := cb.at_ 2 rfl
    have cb_3 := cb.at_ 3 rfl
    have sb_0 := sb.at_ 0 rfl
    have sb_1 := sb.at_ 1 rfl
    have sb_2 := sb.at_ 2 rfl
    have sb_3 := sb.at_ 3 rfl
    go_wp2_with fail
    (with_reducible refine (N1.out _).mono ?_); rintro e w1 ⟨rfl, hb⟩
    replace h := h.call hb
    replace cb := cb.call hb
    replace sb := sb.call hb
    replace low := gCall low hb
    clear hb cb_0 cb_1 cb_2 cb_3 sb_0 sb_1 sb_2 sb_3
    have cb_0 := cb.at_ 0 rfl
    have cb_1 := cb.at_ 1 rfl
    have cb_2 := cb.at_ 2 rfl
    have cb_3 := cb.at_ 3 rfl
    have sb_0 := sb.at_ 0 rfl
    have sb_1 := sb.at_ 1 rfl
    have sb_2 := sb.at_ 2 rfl
    have sb_3 := sb.at_ 3 rfl
    go_wp2_with fail
    (with_reducible refine (N2.out _).mono ?_); rintro e w2 ⟨rfl, hb⟩
    replace h := h.call hb
    replace cb := cb.call hb
    replace sb := sb.call hb
    replace low := gCall low hb
    clear hb cb_0 cb_1 cb_2 cb_3 sb_0 sb_1 sb_2 sb_3
    have cb_0 := cb.at_ 0 rfl
    have cb_1 := cb.at_ 1 rfl
    have cb_2 := cb.at_ 2 rfl
    have cb_3 := cb.at_ 3 rfl
    have sb_0 := sb.at_ 0 rfl
    have sb_1 := sb.at_ 1 rfl
    have sb_2 := sb.at_ 2 rfl
    have sb_3 := sb.at_ 3 rfl
    go_wp2_with fail
    (with_reducible refine (N3.out _).mono ?_); rintro e w3 ⟨rfl, rfl⟩
    go_wp2_with fail
    go_ret
    exact ⟨rfl, low⟩
   ·have h1' : (t != 0) = true := by simpa using h1
    rw [if_neg (fun k => h1 k.2)]
    clear h1
    go_enter Tryz.func79, Tryz.ntmps79
    have cb_0 := cb.at_ 0 rfl
    have cb_1 := cb.at_ 1 rfl
    have cb_2 := cb.at_ 2 rfl
    have cb_3 := cb.at_ 3 rfl
    have sb_0 := sb.at_ 0 rfl
    have sb_1 := sb.at_ 1 rfl
    have sb_2 := sb.at_ 2 rfl
    have sb_3 := sb.at_ 3 rfl
    go_wp2_with fail
    (with_reducible refine (N1.out _).mono ?_); rintro e w1 ⟨rfl, hb⟩
    replace h := h.call hb
    replace cb := cb.call hb
    replace sb := sb.call hb
    replace low := gCall low hb
    clear hb cb_0 cb_1 cb_2 cb_3 sb_0 sb_1 sb_2 sb_3
    have cb_0 := cb.at_ 0 rfl
    have cb_1 := cb.at_ 1 rfl
    have cb_2 := cb.at_ 2 rfl
    have cb_3 := cb.at_ 3 rfl
    have sb_0 := sb.at_ 0 rfl
    have sb_1 := sb.at_ 1 rfl
    have sb_2 := sb.at_ 2 rfl
    have sb_3 := sb.at_ 3 rfl
    go_wp2_with fail
    (with_reducible refine (N2.out _).mono ?_); rintro e w2 ⟨rfl, hb⟩
    replace h := h.call hb
    replace cb := cb.call hb
    replace sb := sb.call hb
    replace low := gCall low hb
    clear hb cb_0 cb_1 cb_2 cb_3 sb_0 sb_1 sb_2 sb_3
    have cb_0 := cb.at_ 0 rfl
    have cb_1 := cb.at_ 1 rfl
    have cb_2 := cb.at_ 2 rfl
    have cb_3 := cb.at_ 3 rfl
    have sb_0 := sb.at_ 0 rfl
    have sb_1 := sb.at_ 1 rfl
    have sb_2 := sb.at_ 2 rfl
    have sb_3 := sb.at_ 3 rfl
    go_wp2_with fail
    (with_reducible refine (N3.out _).mono ?_); rintro e w3 ⟨rfl, rfl⟩
    go_wp2_with fail
    go_ret
    exact ⟨rfl, low⟩
  ·have h0' : (d != 0) = true := by simpa using h0
   rw [if_neg (fun k => h0 k.1)]
   clear h0
   go_enter Tryz.func79, Tryz.ntmps79
   have cb_0 := cb.at_ 0 rfl
   have cb_1 := cb.at_ 1 rfl
   have cb_2 := cb.at_ 2 rfl
   have cb_3 := cb.at_ 3 rfl
   have sb_0 := sb.at_ 0 rfl
   have sb_1 := sb.at_ 1 rfl
   have sb_2 := sb.at_ 2 rfl
   have sb_3 := sb.at_ 3 rfl
   go_wp2_with fail
   (with_reducible refine (N1.out _).mono ?_); rintro e w1 ⟨rfl, hb⟩
   replace h := h.call hb
   replace cb := cb.call hb
   replace sb := sb.call hb
   replace low := gCall low hb
   clear hb cb_0 cb_1 cb_2 cb_3 sb_0 sb_1 sb_2 sb_3
   have cb_0 := cb.at_ 0 rfl
   have cb_1 := cb.at_ 1 rfl
   have cb_2 := cb.at_ 2 rfl
   have cb_3 := cb.at_ 3 rfl
   have sb_0 := sb.at_ 0 rfl
   have sb_1 := sb.at_ 1 rfl
   have sb_2 := sb.at_ 2 rfl
   have sb_3 := sb.at_ 3 rfl
   go_wp2_with fail
   (with_reducible refine (N2.out _).mono ?_); rintro e w2 ⟨rfl, hb⟩
   replace h := h.call hb
   replace cb := cb.call hb
   replace sb := sb.call hb
   replace low := gCall low hb
   clear hb cb_0 cb_1 cb_2 cb_3 sb_0 sb_1 sb_2 sb_3
   have cb_0 := cb.at_ 0 rfl
   have cb_1 := cb.at_ 1 rfl
   have cb_2 := cb.at_ 2 rfl
   have cb_3 := cb.at_ 3 rfl
   have sb_0 := sb.at_ 0 rfl
   have sb_1 := sb.at_ 1 rfl
   have sb_2 := sb.at_ 2 rfl
   have sb_3 := sb.at_ 3 rfl
   go_wp2_with fail
   (with_reducible refine (N3.out _).mono ?_); rintro e w3 ⟨rfl, rfl⟩
   go_wp2_with fail
   go_ret
   exact ⟨rfl, low⟩
 ·rw [if_neg (by simp)]
  cases hF : filB l d
  ·rw [hF] at HF
   rw [if_neg (by simp)]
   clear hF
   go_enter Tryz.func79, Tryz.ntmps79
   have cb_0 := cb.at_ 0 rfl
   have cb_1 := cb.at_ 1 rfl
   have cb_2 := cb.at_ 2 rfl
   have cb_3 := cb.at_ 3 rfl
   have sb_0 := sb.at_ 0 rfl
   have sb_1 := sb.at_ 1 rfl
   have sb_2 := sb.at_ 2 rfl
   have sb_3 := sb.at_ 3 rfl
   go_wp2_with fail
   (with_reducible refine (N1.out _).mono ?_); rintro e w1 ⟨rfl, hb⟩
   replace h := h.call hb
   replace cb := cb.call hb
   replace sb := sb.call hb
   replace low := gCall low hb
   clear hb cb_0 cb_1 cb_2 cb_3 sb_0 sb_1 sb_2 sb_3
   have cb_0 := cb.at_ 0 rfl
   have cb_1 := cb.at_ 1 rfl
   have cb_2 := cb.at_ 2 rfl
   have cb_3 := cb.at_ 3 rfl
   have sb_0 := sb.at_ 0 rfl
   have sb_1 := sb.at_ 1 rfl
   have sb_2 := sb.at_ 2 rfl
   have sb_3 := sb.at_ 3 rfl
   go_wp2_with fail
   (with_reducible refine (N2.out _).mono ?_); rintro e w2 ⟨rfl, hb⟩
   replace h := h.call hb
   replace cb := cb.call hb
   replace sb := sb.call hb
   replace low := gCall low hb
   clear hb cb_0 cb_1 cb_2 cb_3 sb_0 sb_1 sb_2 sb_3
   have cb_0 := cb.at_ 0 rfl
   have cb_1 := cb.at_ 1 rfl
   have cb_2 := cb.at_ 2 rfl
   have cb_3 := cb.at_ 3 rfl
   have sb_0 := sb.at_ 0 rfl
   have sb_1 := sb.at_ 1 rfl
   have sb_2 := sb.at_ 2 rfl
   have sb_3 := sb.at_ 3 rfl
   go_wp2_with fail
   (with_reducible refine (N3.out _).mono ?_); rintro e w3 ⟨rfl, rfl⟩
   go_wp2_with fail
   (with_reducible refine (HF.out _ h).mono ?_); rintro e w4 ⟨rfl, hb⟩
   replace low := gCall low hb
   clear hb cb_0 cb_1 cb_2 cb_3 sb_0 sb_1 sb_2 sb_3
   go_wp2_with fail
   go_ret
   exact ⟨rfl, low⟩
  ·rw [hF] at HF
   rw [if_pos rfl]
   clear hF
   go_enter Tryz.func79, Tryz.ntmps79
   have cb_0 := cb.at_ 0 rfl
   have cb_1 := cb.at_ 1 rfl
   have cb_2 := cb.at_ 2 rfl
   have cb_3 := cb.at_ 3 rfl
   have sb_0 := sb.at_ 0 rfl
   have sb_1 := sb.at_ 1 rfl
   have sb_2 := sb.at_ 2 rfl
   have sb_3 := sb.at_ 3 rfl
   go_wp2_with fail
   (with_reducible refine (N1.out _).mono ?_); rintro e w1 ⟨rfl, hb⟩
   replace h := h.call hb
   replace cb := cb.call hb
   replace sb := sb.call hb
   replace low := gCall low hb
   clear hb cb_0 cb_1 cb_2 cb_3 sb_0 sb_1 sb_2 sb_3
   have cb_0 := cb.at_ 0 rfl
   have cb_1 := cb.at_ 1 rfl
   have cb_2 := cb.at_ 2 rfl
   have cb_3 := cb.at_ 3 rfl
   have sb_0 := sb.at_ 0 rfl
   have sb_1 := sb.at_ 1 rfl
   have sb_2 := sb.at_ 2 rfl
   have sb_3 := sb.at_ 3 rfl
   go_wp2_with fail
   (with_reducible refine (N2.out _).mono ?_); rintro e w2 ⟨rfl, hb⟩
   replace h := h.call hb
   replace cb := cb.call hb
   replace sb := sb.call hb
   replace low := gCall low hb
   clear hb cb_0 cb_1 cb_2 cb_3 sb_0 sb_1 sb_2 sb_3
   have cb_0 := cb.at_ 0 rfl
   have cb_1 := cb.at_ 1 rfl
   have cb_2 := cb.at_ 2 rfl
   have cb_3 := cb.at_ 3 rfl
   have sb_0 := sb.at_ 0 rfl
   have sb_1 := sb.at_ 1 rfl
   have sb_2 := sb.at_ 2 rfl
   have sb_3 := sb.at_ 3 rfl
   go_wp2_with fail
   (with_reducible refine (N3.out _).mono ?_); rintro e w3 ⟨rfl, rfl⟩
   go_wp2_with fail
   (with_reducible refine (HF.out _ h).mono ?_); rintro e w4 ⟨rfl, hb⟩
   replace low := gCall low hb
   clear hb cb_0 cb_1 cb_2 cb_3 sb_0 sb_1 sb_2 sb_3
   go_wp2_with fail
   go_ret
   exact ⟨rfl, low⟩
end Go.Proofs.YtcegjehoejgofaaGreat
namespace Go.Proofs.YtcegjehoejgofaaGreat
open Go.ChangeShapes Go.WideShapes Go.ChangeAt Go.RowKit Go.Joins
theorem slotsE_cons (n : Int) (l : List Sw) (x : Sw) (r : List Sw) : slotsE n l (x :: r) = if slotE n l x = 0 then slotsE n (l ++ [x]) r else slotE n l x := rfl
theorem slotsE_at {n : Int} {l : List Sw} {k : Nat} {x : Sw} (h : slotsE n [] l = slotsE n (l.take k) (l.drop k)) (hx : l[k]? = some x) :
  slotsE n [] l = if slotE n (l.take k) x = 0 then slotsE n (l.take (k + 1)) (l.drop (k + 1)) else slotE n (l.take k) x := by
 have hk := (List.getElem?_eq_some_iff.1 hx).1
 have e1 : l.drop k = x :: l.drop (k + 1) := by
  rw [List.drop_eq_getElem_cons hk]
  congr 1
  exact (List.getElem?_eq_some_iff.1 hx).2
 have e2 : l.take (k + 1) = l.take k ++ [x] := by rw [List.take_add_one, hx]; rfl
 rw [h, e1, slotsE_cons, e2]
set_option maxHeartbeats 2000000 in
theorem ringCheck_any (n s y b : Int) (v : Value) (l : List Sw) (w : World) (h : Rs w v l) :
  Calls Tryz.prog 45 #[cfg n s y b, v] w fun e w' => e = .returned (.int .i64 (ringE n s y b l)) ∧ Below w.heap.size w w' := by
 have C := Lib.hid fun w => checkSlots_any n s y b l.length w
 have H := Lib.hid h
 obtain ⟨_, A, c, rfl, h1, h2, h3⟩ := h
 have H3 := Lib.hid h3
 unfold maxLen at h2
 clear h3
 have low := Below.refl w.heap.size w
 have cb := boxNext low 23 #[.int .i64 n, .int .i64 s, .int .i64 y, .int .i64 b]
 replace low := gAlloc low (.cells #[.int .i64 n, .int .i64 s, .int .i64 y, .int .i64 b] 23)
 try simp only [World.size_alloc] at cb
 unfold ringE
 by_cases hE : cntE n s y b l.length = 0
 ·rw [if_pos hE]
  rw [hE] at C
  generalize hT : slotsE n [] l = T
  have HT := Lib.hid hT
  have hl8 := (cntE_ok hE).2.2
  clear hE hT
  go_enter Tryz.func45, Tryz.ntmps45
  go_wp2_with fail
  (with_reducible refine (C.out _).mono ?_); rintro e w1 ⟨rfl, hb⟩
  replace cb := cb.call hb
  replace low := gCall low hb
  clear hb
  clear C
  go_wp2_with fail
  go_loopw [18] (fun i wr => ∃ k : Nat, k ≤ l.length ∧ i = .int .i64 k ∧ Hid (slotsE n [] l = slotsE n (l.take k) (l.drop k)) ∧ Box wr w.heap.size 23 #[.int .i64 n, .int .i64 s, .int .i64 y, .int .i64 b] ∧ Below w.heap.size w wr) (fun i _ => l.length - (intOf i).toNat)
  case atStart => exact ⟨0, Nat.zero_le _, rfl, Lib.hid rfl, cb, low⟩
  case round =>
   clear cb low
   obtain ⟨k, hk, rfl, hs, cb, low⟩ := hrel
   by_cases hlt : k < l.length
   ·obtain ⟨bb, o, rfl, hb, hc⟩ := H3.out (by omega)
    have hx : l[k]? = some l[k] := List.getElem?_eq_getElem _
    generalize l[k] = x at hx
    obtain ⟨c0, c1, c2, c3⟩ := slotAt_of hc hb low hx
    have E := Lib.hid (slotsE_at hs.out hx)
    obtain ⟨a, f, d, t⟩ := x
    simp only at c0 c1 c2 c3
    obtain ⟨sv, hsv⟩ : ∃ sv, sliced (some ⟨bb, o, none⟩) 0 k c 4 = sv := ⟨_, rfl⟩
    have S := Lib.hid fun W (hb : Below w.heap.size w W) => checkSlot_any n s y b sv (l.take k) ⟨a, f, d, t⟩ W (hsv ▸ ring_take (H.out.call hb) k hk)
    have HSV := Lib.hid hsv
    have k0 : (0 : Int) ≤ k := by omega
    have k1 : (k : Int) < l.length := by omega
    have kc : k ≤ c := by omega
    have KC := Lib.hid kc
    clear hx hc hsv kc
    generalize slotE n (l.take k) ⟨a, f, d, t⟩ = e0 at E S
    have sb := boxNext low 122 #[.int .i64 a, .bool f, .int .i64 d, .int .i64 t]
    replace low := gAlloc low (.cells #[.int .i64 a, .bool f, .int .i64 d, .int .i64 t] 122)
    replace cb := cb.alloc (.cells #[.int .i64 a, .bool f, .int .i64 d, .int .i64 t] 122)
    try simp only [World.size_alloc] at sb
    have near := Below.refl wr.heap.size wr
    replace near := gAlloc near (.cells #[.int .i64 a, .bool f, .int .i64 d, .int .i64 t] 122)
    go_wp2_with fail
    clear c0 c1 c2 c3
    generalize wr.alloc (.cells #[.int .i64 a, .bool f, .int .i64 d, .int .i64 t] 122) = wR at *
    have cb_0 := cb.at_ 0 rfl
    have cb_1 := cb.at_ 1 rfl
    have cb_2 := cb.at_ 2 rfl
    have cb_3 := cb.at_ 3 rfl
    have sb_0 := sb.at_ 0 rfl
    have sb_1 := sb.at_ 1 rfl
    have sb_2 := sb.at_ 2 rfl
    have sb_3 := sb.at_ 3 rfl
    refine wp_region_noPanic ?_
    refine wp_region_held_drew (S := fun w' => w'.cell? ⟨w.heap.size, 0, none⟩ = some (.int .i64 n) ∧ w'.cell? ⟨w.heap.size, 1, none⟩ = some (.int .i64 s) ∧ w'.cell? ⟨w.heap.size, 2, none⟩ = some (.int .i64 y) ∧ w'.cell? ⟨w.heap.size, 3, none⟩ = some (.int .i64 b) ∧ w'.cell? ⟨wr.heap.size, 0, none⟩ = some (.int .i64 a) ∧ w'.cell? ⟨wr.heap.size, 1, none⟩ = some (.bool f) ∧ w'.cell? ⟨wr.heap.size, 2, none⟩ = some (.int .i64 d) ∧ w'.cell? ⟨wr.heap.size, 3, none⟩ = some (.int .i64 t)) (by kernel_rfl) ⟨drewC cb_0, drewC cb_1, drewC cb_2, drewC cb_3, drewC sb_0, drewC sb_1, drewC sb_2, drewC sb_3⟩ (fun hHeld => ?_)
    clear cb_0 cb_1 cb_2 cb_3 sb_0 sb_1 sb_2 sb_3
    replace low := low.drew
    replace cb := cb.drew
    clear sb
    generalize wR.drew = wN at *
    refine takeA 0 ?_ rfl ?_ ?_; rotate_left
    ·(intro w hSw; go_simp; try (with_reducible rfl))
    try simp only [Act.put, List.setIfInBounds_toArray, List.set_cons_zero, List.set_cons_succ]
    refine takeA 1 ?_ rfl ?_ ?_; rotate_left
    ·(intro w hSw; go_simp; try (with_reducible rfl))
    try simp only [Act.put, List.setIfInBounds_toArray, List.set_cons_zero, List.set_cons_succ]
    refine takeA 2 ?_ rfl ?_ ?_; rotate_left
    ·(intro w hSw; go_simp; try (with_reducible rfl))
    try simp only [Act.put, List.setIfInBounds_toArray, List.set_cons_zero, List.set_cons_succ]
    refine takeFirst (i := 3) (v := sv) rfl (by kernel_rfl) (by kernel_rfl) (by kernel_rfl) (by rfl) (fun _ _ _ h => h) (fun _ _ => exec_ring rfl rfl KC.out HSV.out) (by assumption) ?_
    try simp only [Act.put, List.setIfInBounds_toArray, List.set_cons_zero, List.set_cons_succ]
    refine takeA 4 ?_ rfl ?_ ?_; rotate_left
    ·(intro w hSw; go_simp; try (with_reducible rfl))
    try simp only [Act.put, List.setIfInBounds_toArray, List.set_cons_zero, List.set_cons_succ]
    refine stepNext (i := 5) (by kernel_rfl) rfl (by rfl) (fun K hK => ?_)
    go_simp
    (with_reducible refine (S.out _ low).mono ?_); rintro e w2 ⟨rfl, hb2⟩
    replace low := gCall low hb2
    replace cb := cb.call hb2
    obtain ⟨hh0, hh1, hh2, hh3, hh4, hh5, hh6, hh7⟩ := hHeld
    have hHeld := (And.intro (callC hb2 hh0) (And.intro (callC hb2 hh1) (And.intro (callC hb2 hh2) (And.intro (callC hb2 hh3) (And.intro (callC hb2 hh4) (And.intro (callC hb2 hh5) (And.intro (callC hb2 hh6) (callC hb2 hh7))))))))
    clear hh0 hh1 hh2 hh3 hh4 hh5 hh6 hh7
    clear hb2
    refine hK.out _ _ hHeld ?_
    clear hK K
    try simp only [Act.put]
    try simp only [List.setIfInBounds_toArray, List.set_cons_zero, List.set_cons_succ]
    refine stepNext (i := 6) (by kernel_rfl) rfl (by rfl) (fun K hK => ?_)
    go_simp
    refine hK.out _ _ hHeld ?_
    clear hK K
    try simp only [Act.put]
    try simp only [List.setIfInBounds_toArray, List.set_cons_zero, List.set_cons_succ]
    refine wpAnyH_done (by kernel_rfl) ?_ _
    refine NoPanic.normal ?_
    clear hHeld
    by_cases h0 : e0 = 0
    ·subst h0
     have E1 := Lib.hid (E.out.trans (if_pos rfl))
     clear E
     go_wp2_with fail
     go_roundw
     case rel => exact ⟨k + 1, by omega, by go_num, E1, cb, low⟩
     case measure => simp [intOf]; omega
    ·obtain rfl : e0 = T := (E.out.trans (if_neg h0)).symm.trans HT.out
     have h0' : (e0 != 0) = true := by simpa using h0
     clear h0 E
     go_wp2_with fail
     go_ret
     exact ⟨rfl, low⟩
   ·obtain rfl : k = l.length := by omega
    obtain rfl : 0 = T := by
     have := hs.out
     rw [List.drop_length] at this
     exact this.symm.trans HT.out
    go_wp2_with fail
    go_ret
    exact ⟨rfl, low⟩
 ·rw [if_neg hE]
  have h4 := cntE_bad hE
  rw [h4] at C
  clear hE h4
  go_enter Tryz.func45, Tryz.ntmps45
  go_wp2_with fail
  (with_reducible refine (C.out _).mono ?_); rintro e w1 ⟨rfl, hb⟩
  replace cb := cb.call hb
  replace low := gCall low hb
  clear hb
  go_wp2_with fail
  go_ret
  exact ⟨rfl, low⟩
def advS (n : Int) (x : Sw) : Sw :=
 if x.fu = true ∧ 0 < x.wt then ⟨x.pl, x.fu, x.nd, x.wt - 1⟩
 else if x.fu = true ∧ nodeAt n x.pl 1 = x.nd then ⟨nodeAt n x.pl 1, false, 0, 0⟩ else ⟨nodeAt n x.pl 1, x.fu, x.nd, x.wt⟩
abbrev slot0 : Array Value := #[.int .i64 0, .bool false, .int .i64 0, .int .i64 0]
theorem slot_one (a d t : Int) (f : Bool) : (#[.int .i64 a, .bool f, .int .i64 d, .int .i64 t] : Array Value).all (·.oneCell') = true := by simp [Value.oneCell']
theorem slot_size (a d t : Int) (f : Bool) : (#[.int .i64 a, .bool f, .int .i64 d, .int .i64 t] : Array Value).size = slot0.size := rfl
theorem tySlot : Ty 122 slot0 := ⟨by kernel_rfl, ⟨_, Tryz.underlying122, rfl⟩, fun w => by kernel_rfl⟩
set_option maxHeartbeats 2000000 in
theorem advance_ok (n s y b : Int) (x : Sw) (w : World) (hB : cfgB n s y b = true) (hp : nodB n x.pl = true) (hw : waitB x.wt = true) :
  Calls Tryz.prog 83 #[cfg n s y b, x.val] w fun e w' => e = .returned (.tuple #[(advS n x).val, .int .i64 0]) ∧ Below w.heap.size w w' := by
 obtain ⟨a, f, d, t⟩ := x
 obtain ⟨hp1, hp2⟩ := nodB_iff.1 hp
 obtain ⟨hw1, hw2⟩ := waitB_iff.1 hw
 simp only at hp1 hp2 hw1 hw2
 clear hp hw
 unfold advS
 simp only
 have low := Below.refl w.heap.size w
 have cb := boxNext low 23 #[.int .i64 n, .int .i64 s, .int .i64 y, .int .i64 b]
 replace low := gAlloc low (.cells #[.int .i64 n, .int .i64 s, .int .i64 y, .int .i64 b] 23)
 try simp only [World.size_alloc] at cb
 have sb := boxNext low 122 #[.int .i64 a, .bool f, .int .i64 d, .int .i64 t]
 replace low := gAlloc low (.cells #[.int .i64 a, .bool f, .int .i64 d, .int .i64 t] 122)
 replace cb := cb.alloc (.cells #[.int .i64 a, .bool f, .int .i64 d, .int .i64 t] 122)
 try simp only [World.size_alloc] at sb
 have ob := boxNext low 122 slot0
 replace low := gAlloc low (.cells slot0 122)
 replace cb := cb.alloc (.cells slot0 122)
 replace sb := sb.alloc (.cells slot0 122)
 try simp only [World.size_alloc] at ob
 cases f
 ·rw [if_neg (by simp), if_neg (by simp)]
  have NO := Lib.hid fun w => node_ok n s y b a 1 w hB hp1 hp2 (by omega) (by omega)
  generalize nodeAt n a 1 = m at *
  clear hB hp1 hp2 hw1 hw2
  have cb_0 := cb.at_ 0 rfl
  have cb_1 := cb.at_ 1 rfl
  have cb_2 := cb.at_ 2 rfl
  have cb_3 := cb.at_ 3 rfl
  have sb_0 := sb.at_ 0 rfl
  have sb_1 := sb.at_ 1 rfl
  have sb_2 := sb.at_ 2 rfl
  have sb_3 := sb.at_ 3 rfl
  go_enter Tryz.func83, Tryz.ntmps83
  go_wp2_with fail
  (with_reducible refine (NO.out _).mono ?_); rintro e w1 ⟨rfl, hb⟩
  replace cb := cb.call hb
  replace sb := sb.call hb
  replace ob := ob.call hb
  replace low := gCall low hb
  clear hb cb_0 cb_1 cb_2 cb_3 sb_0 sb_1 sb_2 sb_3
  have sb_0 := sb.at_ 0 rfl
  have sb_1 := sb.at_ 1 rfl
  have sb_2 := sb.at_ 2 rfl
  have sb_3 := sb.at_ 3 rfl
  have sz := ob.lt
  have sb_f0 := sb.frozen 0
  have sb1 := sb.set 0 (.int .i64 m)
  have ob1 := ob.far (p := ⟨w.heap.size + 1, 0, none⟩) (by dsimp only; omega) (.int .i64 m)
  have low1 := gSet low (p := ⟨w.heap.size + 1, 0, none⟩) (by dsimp only; omega) (.int .i64 m)
  simp only [List.setIfInBounds_toArray, List.set_cons_zero] at sb1
  have sr := sb1.range
  have one := slot_one m d t false
  have siz := slot_size m d t false
  clear cb low
  go_wp2_with (first | ((with_reducible refine wp_loadW (tySlot) (sr) (siz) ?_ ?_ ?_); rfl; rfl) | ((with_reducible refine wp_storeW (tySlot) (ob1) (rfl) (siz) (one) ?_ ?_ ?_); rfl; rfl))
  clear sb_0 sb_1 sb_2 sb_3 sb_f0
  have low := low1
  have ob := ob1
  clear low1 ob1 sb1 sr sb
  intro w8 ob8 st8
  replace low := st8.low low (by omega)
  clear st8 ob
  go_wp2_with fail
  exact bodyPost_ret (v := .tuple #[(.agg #[.int .i64 m, .bool false, .int .i64 d, .int .i64 t]), .int .i64 0]) (results_first tySlot Tryz.results83 rfl rfl ob8 rfl) rfl ⟨rfl, low⟩
 ·by_cases h0 : 0 < t
  ·rw [if_pos ⟨rfl, h0⟩]
   clear hB hp1 hp2
   have rb := Box.new ((w.alloc (.cells #[.int .i64 n, .int .i64 s, .int .i64 y, .int .i64 b] 23)).alloc (.cells #[.int .i64 a, .bool true, .int .i64 d, .int .i64 (t - 1)] 122)) 122 #[.int .i64 a, .bool true, .int .i64 d, .int .i64 (t - 1)]
   simp only [World.size_alloc] at rb
   clear cb sb ob low
   go_enter Tryz.func83, Tryz.ntmps83
   go_wp2_with fail
   exact bodyPost_ret (v := .tuple #[.agg #[.int .i64 a, .bool true, .int .i64 d, .int .i64 (t - 1)], .int .i64 0]) (results_first tySlot Tryz.results83 rfl rfl rb rfl) rfl ⟨rfl, gAlloc (gAlloc (gAlloc (Below.refl _ _) _) _) _⟩
  ·rw [if_neg (fun k => h0 k.2)]
   have h0' : decide (0 < t) = false := decide_eq_false h0
   have NO := Lib.hid fun w => node_ok n s y b a 1 w hB hp1 hp2 (by omega) (by omega)
   generalize nodeAt n a 1 = m at *
   clear hB hp1 hp2 hw1 hw2 h0
   by_cases h1 : m = d
   ·rw [if_pos ⟨rfl, h1⟩]
    have h1' : (m == d) = true := by simpa using h1
    clear h1
    have one := slot_one m 0 0 false
    have siz := slot_size m 0 0 false
    have cb_0 := cb.at_ 0 rfl
    have cb_1 := cb.at_ 1 rfl
    have cb_2 := cb.at_ 2 rfl
    have cb_3 := cb.at_ 3 rfl
    have sb_0 := sb.at_ 0 rfl
    have sb_1 := sb.at_ 1 rfl
    have sb_2 := sb.at_ 2 rfl
    have sb_3 := sb.at_ 3 rfl
    go_enter Tryz.func83, Tryz.ntmps83
    go_wp2_with fail
    (with_reducible refine (NO.out _).mono ?_); rintro e w1 ⟨rfl, hb⟩
    replace cb := cb.call hb
    replace sb := sb.call hb
    replace ob := ob.call hb
    replace low := gCall low hb
    clear hb cb_0 cb_1 cb_2 cb_3 sb_0 sb_1 sb_2 sb_3
    have sb_0 := sb.at_ 0 rfl
    have sb_1 := sb.at_ 1 rfl
    have sb_2 := sb.at_ 2 rfl
    have sb_3 := sb.at_ 3 rfl
    go_wp2_with ((with_reducible refine wp_storeW (tySlot) (ob) (rfl) (siz) (one) ?_ ?_ ?_); rfl; rfl)
    clear sb_0 sb_1 sb_2 sb_3
    clear cb sb
    intro w8 ob8 st8
    replace low := st8.low low (by omega)
    clear st8 ob
    go_wp2_with fail
    exact bodyPost_ret (v := .tuple #[(.agg #[.int .i64 m, .bool false, .int .i64 0, .int .i64 0]), .int .i64 0]) (results_first tySlot Tryz.results83 rfl rfl ob8 rfl) rfl ⟨rfl, low⟩
   ·rw [if_neg (fun k => h1 k.2)]
    have h1' : (m == d) = false := by simpa using h1
    clear h1
    have cb_0 := cb.at_ 0 rfl
    have cb_1 := cb.at_ 1 rfl
    have cb_2 := cb.at_ 2 rfl
    have cb_3 := cb.at_ 3 rfl
    have sb_0 := sb.at_ 0 rfl
    have sb_1 := sb.at_ 1 rfl
    have sb_2 := sb.at_ 2 rfl
    have sb_3 := sb.at_ 3 rfl
    go_enter Tryz.func83, Tryz.ntmps83
    go_wp2_with fail
    (with_reducible refine (NO.out _).mono ?_); rintro e w1 ⟨rfl, hb⟩
    replace cb := cb.call hb
    replace sb := sb.call hb
    replace ob := ob.call hb
    replace low := gCall low hb
    clear hb cb_0 cb_1 cb_2 cb_3 sb_0 sb_1 sb_2 sb_3
    have sb_0 := sb.at_ 0 rfl
    have sb_1 := sb.at_ 1 rfl
    have sb_2 := sb.at_ 2 rfl
    have sb_3 := sb.at_ 3 rfl
    have sz := ob.lt
    have sb_f0 := sb.frozen 0
    have sb1 := sb.set 0 (.int .i64 m)
    have ob1 := ob.far (p := ⟨w.heap.size + 1, 0, none⟩) (by dsimp only; omega) (.int .i64 m)
    have low1 := gSet low (p := ⟨w.heap.size + 1, 0, none⟩) (by dsimp only; omega) (.int .i64 m)
    simp only [List.setIfInBounds_toArray, List.set_cons_zero] at sb1
    have sr := sb1.range
    have one := slot_one m d t true
    have siz := slot_size m d t true
    clear cb low
    go_wp2_with (first | ((with_reducible refine wp_loadW (tySlot) (sr) (siz) ?_ ?_ ?_); rfl; rfl) | ((with_reducible refine wp_storeW (tySlot) (ob1) (rfl) (siz) (one) ?_ ?_ ?_); rfl; rfl))
    clear sb_0 sb_1 sb_2 sb_3 sb_f0
    have low := low1
    have ob := ob1
    clear low1 ob1 sb1 sr sb
    intro w8 ob8 st8
    replace low := st8.low low (by omega)
    clear st8 ob
    go_wp2_with fail
    exact bodyPost_ret (v := .tuple #[(.agg #[.int .i64 m, .bool true, .int .i64 d, .int .i64 t]), .int .i64 0]) (results_first tySlot Tryz.results83 rfl rfl ob8 rfl) rfl ⟨rfl, low⟩
end Go.Proofs.YtcegjehoejgofaaGreat
namespace Go.Proofs.YtcegjehoejgofaaGreat
open Go.ChangeShapes Go.WideShapes Go.ChangeAt Go.RowKit Go.Joins
theorem info_slot : (Tryz.prog.info? 122).map (fun i => (i.zero, i.size, i.bytes)) = some (some (.agg slot0), 4, 32) := by kernel_rfl
def OwnS (w : World) (g : Nat) (v : Value) (l : List Sw) : Prop :=
 ∃ cap cur, v = .slice (some ⟨g, 0, none⟩) l.length cap ∧ Box w g 122 cur ∧ l.length ≤ cap ∧ cap ≤ maxLen ∧ cur.size = cap * 4 ∧ ∀ (q : Nat) (y : Sw), l[q]? = some y → ∀ r, r < 4 → cur[q * 4 + r]? = y.cells[r]?
theorem ownS_at {cur : Array Value} {l : List Sw} (ht : cur.toList.take (l.length * 4) = ringC l) {k : Nat} {x : Sw} (h : l[k]? = some x) (j : Nat) (hj : j < 4) : cur[k * 4 + j]? = x.cells[j]? := by
 have hk : k < l.length := (List.getElem?_eq_some_iff.1 h).1
 rw [← ringC_at h j hj, ← ht, List.getElem?_take, if_pos (by omega), Array.getElem?_toList]
def putS (w : World) (g k : Nat) (x : Sw) : World :=
 (((w.setCell ⟨g, k * 4, none⟩ (.int .i64 x.pl)).setCell ⟨g, k * 4 + 1, none⟩ (.bool x.fu)).setCell ⟨g, k * 4 + 2, none⟩ (.int .i64 x.nd)).setCell ⟨g, k * 4 + 3, none⟩ (.int .i64 x.wt)
theorem OwnS.rs {w : World} {g : Nat} {v : Value} {l : List Sw} (h : OwnS w g v l) : Rs w v l := by
 obtain ⟨cap, cur, rfl, hb, hn, hm, hs, ht⟩ := h
 refine ⟨ringC_length l, some ⟨g, 0, none⟩, cap, rfl, hn, hm, fun _ => ⟨g, 0, rfl, hb.lt, fun j u hu => ?_⟩⟩
 rw [hb.cell, Nat.zero_add]
 have hj : j < l.length * 4 := by
  have := (List.getElem?_eq_some_iff.1 hu).1
  rwa [ringC_length] at this
 have hq : j / 4 < l.length := by omega
 have hjq : j / 4 * 4 + j % 4 = j := by omega
 have h1 := ht (j / 4) l[j / 4] (List.getElem?_eq_getElem hq) (j % 4) (by omega)
 have h2 := ringC_at (List.getElem?_eq_getElem hq) (j % 4) (by omega)
 rw [hjq] at h1 h2
 rw [h1, ← h2, hu]
theorem OwnS.lt {w : World} {g : Nat} {v : Value} {l : List Sw} (h : OwnS w g v l) : g < w.heap.size := by
 obtain ⟨_, _, _, hb, _⟩ := h
 exact hb.lt
theorem OwnS.call {w w' : World} {g : Nat} {v : Value} {l : List Sw} (h : OwnS w g v l) (hb : Below w.heap.size w w') : OwnS w' g v l := by
 obtain ⟨cap, cur, rfl, h1, h2⟩ := h
 exact ⟨cap, cur, rfl, h1.call hb, h2⟩
theorem OwnS.stored {w w' : World} {g x : Nat} {v : Value} {l : List Sw} (h : OwnS w g v l) (st : Stored w x w') (hne : g ≠ x) : OwnS w' g v l := by
 obtain ⟨cap, cur, rfl, h1, h2⟩ := h
 exact ⟨cap, cur, rfl, st.box h1 hne, h2⟩
theorem OwnS.put {w : World} {g : Nat} {v : Value} {l : List Sw} (h : OwnS w g v l) (k : Nat) (x : Sw) (hk : k < l.length) : OwnS (putS w g k x) g v (l.set k x) := by
 obtain ⟨cap, cur, rfl, hb, hn, hm, hs, ht⟩ := h
 have box : Box (putS w g k x) g 122 _ := ((((hb.set (k * 4) (.int .i64 x.pl)).set (k * 4 + 1) (.bool x.fu)).set (k * 4 + 2) (.int .i64 x.nd)).set (k * 4 + 3) (.int .i64 x.wt))
 refine ⟨cap, _, by rw [List.length_set], box, by rw [List.length_set]; exact hn, hm, by simpa using hs, fun q y hy r hr4 => ?_⟩
 by_cases e : q = k
 ·subst e
  rw [List.getElem?_set_self hk] at hy
  cases hy
  have hsz : q * 4 + 3 < cur.size := by omega
  match r, hr4 with
  | 0, _ | 1, _ | 2, _ | 3, _ =>
   simp [Array.getElem?_setIfInBounds, Sw.cells]
   omega
 ·rw [List.getElem?_set_ne (fun h => e h.symm)] at hy
  have := ht q y hy r hr4
  simp only [Array.getElem?_setIfInBounds]
  repeat rw [if_neg (by omega)]
  exact this
theorem OwnS.head {w : World} {g : Nat} {v : Value} {l : List Sw} (h : OwnS w g v l) (k : Nat) (x : Sw) (a : Int) (hx : l[k]? = some x) : OwnS (w.setCell ⟨g, k * 4, none⟩ (.int .i64 a)) g v (l.set k ⟨a, x.fu, x.nd, x.wt⟩) := by
 obtain ⟨cap, cur, rfl, hb, hn, hm, hs, ht⟩ := h
 have hk := (List.getElem?_eq_some_iff.1 hx).1
 refine ⟨cap, _, by rw [List.length_set], hb.set (k * 4) (.int .i64 a), by rw [List.length_set]; exact hn, hm, by simpa using hs, fun q y hy r hr4 => ?_⟩
 by_cases e : q = k
 ·subst e
  rw [List.getElem?_set_self hk] at hy
  cases hy
  have := ht q x hx r hr4
  match r, hr4 with
  | 0, _ => simp [Array.getElem?_setIfInBounds, Sw.cells]; omega
  | 1, _ => rw [Array.getElem?_setIfInBounds, if_neg (by omega), this]; rfl
  | 2, _ => rw [Array.getElem?_setIfInBounds, if_neg (by omega), this]; rfl
  | 3, _ => rw [Array.getElem?_setIfInBounds, if_neg (by omega), this]; rfl
 ·rw [List.getElem?_set_ne (fun h => e h.symm)] at hy
  rw [Array.getElem?_setIfInBounds, if_neg (by omega)]
  exact ht q y hy r hr4
theorem OwnS.first {w : World} {g : Nat} {v : Value} {l : List Sw} {k : Nat} (own : OwnS w g v l) (hk : k < l.length) : ∃ u, w.cell? ⟨g, k * 4, none⟩ = some u ∧ w.frozen? ⟨g, k * 4, none⟩ = false := by
 obtain ⟨cap, cur, rfl, hb, hn, hm, hs, ht⟩ := own
 have := ht k _ (List.getElem?_eq_getElem hk) 0 (by omega)
 exact ⟨_, (hb.cell _).trans this, hb.frozen _⟩
def FrS (w : World) (B C : Nat) (v : Value) (l : List Sw) : Prop := ∃ g, B ≤ g ∧ g < C ∧ OwnS w g v l
section
variable {w w' : World} {B B' C C' : Nat} {v : Value} {l : List Sw}
theorem FrS.rs (h : FrS w B C v l) : Rs w v l := by
 obtain ⟨g, _, _, h⟩ := h
 exact h.rs
theorem FrS.shape (h : FrS w B C v l) : ∃ A c, v = .slice A l.length c := h.rs.shape
theorem FrS.more (h : FrS w B C v l) (hB : B' ≤ B) (hC : C ≤ C') : FrS w B' C' v l := by
 obtain ⟨g, hg, hc, h⟩ := h
 exact ⟨g, by omega, by omega, h⟩
theorem FrS.call (h : FrS w B C v l) (hb : Below w.heap.size w w') : FrS w' B C v l := by
 obtain ⟨g, hg, hc, h⟩ := h
 exact ⟨g, hg, hc, h.call hb⟩
end
theorem lowS_put {B : Nat} {w w' : World} {g k : Nat} {x : Sw} (h : Below B w w') (hg : B ≤ g) : Below B w (putS w' g k x) := by
 unfold putS
 exact (((h.setCell hg _).setCell hg _).setCell hg _).setCell hg _
theorem size_slot : (Tryz.prog.info? 122).map (·.size) = some 4 := by kernel_rfl
theorem wpList_put_slot {ops : Array Oper} {rest : List Oper} {op : Oper} {a : Act} {w : World} {Q : Exit → Act → World → Prop} (hgd : op.guard = none) (x y : Operand) (ho : op.op = .store 122 x y)
  (g : Nat) (v : Value) (l : List Sw) (k : Nat) (X : Sw) (own : OwnS w g v l) (hk : k < l.length) (hx : a.eval x = .pointer (some ⟨g, k * 4, none⟩)) (hy : a.eval y = X.val)
  (h : ∀ w', OwnS w' g v (l.set k X) → Stored w g w' → wpList Tryz.prog ops Q rest (a.put op.dst undef) w') : wpList Tryz.prog ops Q (op :: rest) a w := by
 refine wpList_store_mid hgd 122 x y ho g (k * 4) X.arr hx hy ?_ size_slot (by simp [Value.oneCell']) ?_
 ·obtain ⟨cap, cur, rfl, hbx, hn, hm, hs, ht⟩ := own
  intro j hj
  have hj4 : j < 4 := hj
  refine ⟨?_, hbx.frozen _⟩
  rw [hbx.cell, ht k _ (List.getElem?_eq_getElem hk) j hj4]
  match j, hj4 with
  | 0, _ | 1, _ | 2, _ | 3, _ => rfl
 ·refine h _ (own.put k X hk) ⟨fun {h} hne => ?_, ?_, fun b hB => lowS_put b hB⟩
  ·have f : ∀ (w : World) (o : Nat) (u : Value), (w.setCell ⟨g, o, none⟩ u).heap[h]? = w.heap[h]? := fun w o u => Below.heap_setCell w ⟨g, o, none⟩ u h hne
   show (putS w g k X).heap[h]? = _
   unfold putS
   rw [f, f, f, f]
  ·show (putS w g k X).heap.size = _
   simp [putS]
theorem nilRing (A : Addr) (n c : Nat) : ∀ w, (binOp .eql 33 (.slice (some A) n c) (.slice none 0 0)).run Tryz.prog w = .ok (.bool false) w := fun w => by kernel_rfl
theorem cloneRing_any (v : Value) (l : List Sw) (w : World) (h : Rs w v l) (h0 : 0 < l.length) (h4 : l.length ≤ 8) :
  Calls Tryz.prog 82 #[v] w fun e w' => ∃ v' g, e = .returned v' ∧ OwnS w' g v' l ∧ w.heap.size ≤ g ∧ Below w.heap.size w w' := by
 obtain ⟨hl, A, c, rfl, h1, h2, h3⟩ := h
 obtain ⟨b, o, rfl, hb, hc⟩ := h3 h0
 have HC := Lib.hid hc
 have HL := Lib.hid hl
 obtain ⟨i0, hi, hz0, hz1, hz2⟩ := info_parts info_slot
 have HI := Lib.hid hi
 have HZ := Lib.hid (And.intro hz0 (And.intro hz1 hz2))
 clear hc hl h3 hi hz0 hz1 hz2
 go_enter Tryz.func82, Tryz.ntmps82
 have en := nilRing ⟨b, o, none⟩ l.length c
 go_wp2_with (at_builtin; refine wpList_append_own _ rfl _ _ 33 rfl w.heap.size 122 i0 (.agg slot0) 4 32 Tryz.underlying33 HI.out HZ.out.1 HZ.out.2.1 HZ.out.2.2 rfl (by decide) _ 0 [] rfl ?c0 ⟨b, o, none⟩ l.length c (ringC l) rfl HL.out ?c1 (ringC_one l) ?c3 ?c4 ?c5 ?_)
 case c0 => exact ⟨rfl, .inr ⟨w.heap.size, 0, #[], rfl, Nat.le_refl _, Box.new w 122 #[], Nat.le_refl _, Nat.zero_le _, rfl, rfl⟩⟩
 case c1 =>
  intro j u hu
  have k := HC.out j u hu
  have e : (⟨b, o, none⟩ : Addr).add j = ⟨b, o + j, none⟩ := by cases j <;> simp [Addr.add]
  rw [e]
  exact ((Below.refl w.heap.size w).alloc (Nat.le_refl _) _).cell (p := ⟨b, o + j, none⟩) hb |>.trans k
 case c3 => unfold maxLen; omega
 case c4 => omega
 case c5 => simp
 intro v' w1 own grow _
 have low : Below w.heap.size w w1 := (gAlloc (Below.refl _ _) _).grown grow (by simp) (fun g e => by simp [Value.ownBlock] at e; omega)
 try simp only [Nat.zero_add, List.nil_append] at own
 obtain ⟨o1, o2⟩ := own
 rcases o2 with ⟨_, o2⟩ | ⟨g, cap, cur, rfl, hg, hh, hn, hm, hs, ht⟩
 ·omega
 have O := Lib.hid (show OwnS w1 g (.slice (some ⟨g, 0, none⟩) l.length cap) l from ⟨cap, cur, rfl, hh, hn, hm, hs, fun q y h r hr => ownS_at ht h r hr⟩)
 clear hh hs ht o1 grow
 go_wp2_with fail
 go_ret
 exact ⟨_, g, rfl, O.out, hg, low⟩
def newS (n : Nat) : Array Value := madeCells slot0 (n * 4)
theorem newS_in {n q r : Nat} (h : q < n) (hr : r < 4) : (newS n)[q * 4 + r]? = sw0.cells[r]? := by
 unfold newS
 rw [Array.getElem?_eq_getElem (by rw [size_madeCells]; omega)]
 match r, hr with
 | 0, _ | 1, _ | 2, _ | 3, _ => simp [madeCells, Sw.cells]
theorem OwnS.new (w : World) (n : Nat) (hn : n ≤ maxLen) : OwnS (w.alloc (.cells (newS n) 122)) w.heap.size (.slice (some ⟨w.heap.size, 0, none⟩) n n) (List.replicate n sw0) := by
 refine ⟨n, newS n, by rw [List.length_replicate], Box.new w _ _, by rw [List.length_replicate]; exact Nat.le_refl _, hn, size_madeCells _ _, fun q y hq r hr => ?_⟩
 have hlt : q < n := by have := (List.getElem?_eq_some_iff.1 hq).1; simpa using this
 rw [List.getElem?_replicate, if_pos hlt] at hq
 cases hq
 exact newS_in hlt hr
theorem make_slots (n : Nat) (hn : n ≤ 8) (w : World) : (Instr.makeSlice 33 (.int .i64 n) (.int .i64 n)).run Tryz.prog w = .ok (.slice (some ⟨w.heap.size, 0, none⟩) n n) (w.alloc (.cells (newS n) 122)) := by
 obtain ⟨i0, hi, hz0, hz1, hz2⟩ := info_parts info_slot
 have := run_make w 33 122 i0 (.agg slot0) Tryz.underlying33 hi hz0 .i64 .i64 n n (by omega) (Int.le_refl _) (by rw [hz2]; omega) (by omega)
 rw [this, hz1]
 simp [newS, Value.cells]
def newR (n : Int) (m j : Nat) : List Sw := (List.range m).map fun (k : Nat) => if k < j then ⟨nodeAt n 0 k, false, 0, 0⟩ else sw0
theorem newR_length (n : Int) (m j : Nat) : (newR n m j).length = m := by simp [newR]
theorem newR_zero (n : Int) (m : Nat) : newR n m 0 = List.replicate m sw0 := by
 apply List.ext_getElem?
 intro i
 by_cases h : i < m <;> simp [newR, h]
theorem newR_at (n : Int) {m j k : Nat} (hk : k < m) (hj : j ≤ k) : (newR n m j)[k]? = some sw0 := by
 simp [newR, hk, Nat.not_lt.2 hj]
theorem newR_succ (n : Int) {m j : Nat} (hj : j < m) : (newR n m j).set j ⟨nodeAt n 0 j, false, 0, 0⟩ = newR n m (j + 1) := by
 apply List.ext_getElem?
 intro i
 by_cases e : i = j
 ·subst e
  rw [List.getElem?_set_self (by rw [newR_length]; exact hj)]
  simp [newR, hj]
 ·rw [List.getElem?_set_ne (fun h => e h.symm)]
  by_cases h : i < m
  ·simp [newR, h]
   by_cases h2 : i < j
   ·rw [if_pos h2, if_pos (by omega)]
   ·rw [if_neg h2, if_neg (by omega)]
  ·simp [newR, h]
theorem ringNew_bad (n s y b k : Int) (w : World) (hE : cntE n s y b k ≠ 0) : Calls Tryz.prog 36 #[cfg n s y b, .int .i64 k] w fun e w' =>
  e = .returned (.tuple #[.slice none 0 0, .int .i64 4]) ∧ Below w.heap.size w w' := by
 have C := Lib.hid fun w => checkSlots_any n s y b k w
 rw [cntE_bad hE] at C
 clear hE
 have low := Below.refl w.heap.size w
 have cb := boxNext low 23 #[.int .i64 n, .int .i64 s, .int .i64 y, .int .i64 b]
 replace low := gAlloc low (.cells #[.int .i64 n, .int .i64 s, .int .i64 y, .int .i64 b] 23)
 try simp only [World.size_alloc] at cb
 go_enter Tryz.func36, Tryz.ntmps36
 go_wp2_with fail
 (with_reducible refine (C.out _).mono ?_); rintro e w1 ⟨rfl, hb⟩
 replace cb := cb.call hb
 replace low := gCall low hb
 clear hb
 go_wp2_with fail
 go_ret2
 exact ⟨rfl, low⟩
set_option maxHeartbeats 1000000 in
theorem ringNew_ok (n s y b : Int) (m : Nat) (w : World) (hE : cntE n s y b m = 0) : Calls Tryz.prog 36 #[cfg n s y b, .int .i64 m] w fun e w' =>
  (∃ v', e = .returned (.tuple #[v', .int .i64 0]) ∧ FrS w' w.heap.size w'.heap.size v' (newR n m m)) ∧ Below w.heap.size w w' := by
 have C := Lib.hid fun w => checkSlots_any n s y b m w
 rw [hE] at C
 obtain ⟨g1, m1, m8⟩ := cntE_ok hE
 have hn : 2 ≤ n ∧ n ≤ 8 := by have := cfgB_iff.1 g1; omega
 have NO := Lib.hid fun (k : Nat) (hk : k < m) w => node_ok n s y b 0 k w g1 (by omega) (by omega) (by omega) (by omega)
 have MS := fun w => make_slots m (by omega) w
 clear hE g1
 have low := Below.refl w.heap.size w
 have cb := boxNext low 23 #[.int .i64 n, .int .i64 s, .int .i64 y, .int .i64 b]
 replace low := gAlloc low (.cells #[.int .i64 n, .int .i64 s, .int .i64 y, .int .i64 b] 23)
 try simp only [World.size_alloc] at cb
 go_enter Tryz.func36, Tryz.ntmps36
 go_wp2_with fail
 (with_reducible refine (C.out _).mono ?_); rintro e w1 ⟨rfl, hb⟩
 replace cb := cb.call hb
 replace low := gCall low hb
 clear hb
 clear C
 have z2 : w.heap.size < w1.heap.size := cb.lt
 have own := OwnS.new w1 m (by unfold maxLen; omega)
 rw [← newR_zero n m] at own
 have OW := Lib.hid own
 replace cb := cb.alloc (.cells (newS m) 122)
 replace low := gAlloc low (.cells (newS m) 122)
 clear own
 go_wp2_with fail
 clear MS
 go_loopw [21] (fun i wr => ∃ j : Nat, j ≤ m ∧ i = .int .i64 j ∧ Hid (OwnS wr w1.heap.size (.slice (some ⟨w1.heap.size, 0, none⟩) m m) (newR n m j)) ∧ Box wr w.heap.size 23 #[.int .i64 n, .int .i64 s, .int .i64 y, .int .i64 b] ∧ Below w.heap.size w wr) (fun i _ => m - (intOf i).toNat)
 case atStart => exact ⟨0, Nat.zero_le _, rfl, OW, cb, low⟩
 case round =>
  clear OW cb low
  obtain ⟨j, hj, rfl, own, cb, low⟩ := hrel
  by_cases hlt : j < m
  ·have k0 : (0 : Int) ≤ j := by omega
   have k1 : (j : Int) < m := by omega
   have N := Lib.hid fun w => NO.out j hlt w
   have OW := Lib.hid fun w' (hb : Below wr.heap.size wr w') => ((own.out.call hb).head j sw0 (nodeAt n 0 j) (newR_at n hlt (Nat.le_refl j)))
   have FI := Lib.hid fun w' (hb : Below wr.heap.size wr w') => (own.out.call hb).first (k := j) (by rw [newR_length]; exact hlt)
   simp only [newR_succ n hlt] at OW
   generalize nodeAt n 0 j = a at *
   have zr := own.out.lt
   clear own
   have cb_0 := cb.at_ 0 rfl
   have cb_1 := cb.at_ 1 rfl
   have cb_2 := cb.at_ 2 rfl
   have cb_3 := cb.at_ 3 rfl
   go_wp2_with fail
   (with_reducible refine (N.out _).mono ?_); rintro e w2 ⟨rfl, hb⟩
   replace cb := cb.call hb
   replace low := gCall low hb
   have OW2 := Lib.hid (OW.out w2 hb)
   obtain ⟨u, cu, fu⟩ := FI.out w2 hb
   have z3 := hb.size
   clear hb OW FI
   clear cb_0 cb_1 cb_2 cb_3
   replace cb := cb.far (p := ⟨w1.heap.size, j * 4, none⟩) (by dsimp only; omega) (.int .i64 a)
   replace low := gSet low (p := ⟨w1.heap.size, j * 4, none⟩) (by dsimp only; omega) (.int .i64 a)
   go_wp2_with fail
   go_roundw
   case rel => exact ⟨j + 1, by omega, by go_num, OW2, cb, low⟩
   case measure => simp [intOf]; omega
  ·obtain rfl : j = m := by omega
   have O := own.out
   have F := Lib.hid (show FrS wr w.heap.size wr.heap.size (.slice (some ⟨w1.heap.size, 0, none⟩) j j) (newR n j j) from ⟨_, by omega, O.lt, O⟩)
   clear own O
   go_wp2_with fail
   go_ret2
   exact ⟨⟨_, rfl, F.out⟩, low⟩
def freS (node : Int) (x : Sw) : Bool := !x.fu && x.pl == node
def putR (l : List Sw) (node t : Int) : List Sw := if idxS (freS node) l < 0 then l else l.set (idxS (freS node) l).toNat ⟨node, true, node, t⟩
def rputE (n s y b : Int) (l : List Sw) (node t : Int) : Int :=
 if ringE n s y b l = 0 then (if nodB n node = true ∧ waitB t = true then (if filB l node = true then 6 else 0) else 4) else ringE n s y b l
theorem ringE_cnt {n s y b : Int} {l : List Sw} (h : ringE n s y b l = 0) : cntE n s y b l.length = 0 := by
 unfold ringE at h
 by_cases e : cntE n s y b l.length = 0
 ·exact e
 ·rw [if_neg e] at h
  cases h
theorem rputE_ok {n s y b : Int} {l : List Sw} {node t : Int} (h : rputE n s y b l node t = 0) : ringE n s y b l = 0 ∧ nodB n node = true ∧ waitB t = true ∧ filB l node = false := by
 unfold rputE at h
 by_cases h0 : ringE n s y b l = 0
 ·rw [if_pos h0] at h
  by_cases h1 : nodB n node = true ∧ waitB t = true
  ·rw [if_pos h1] at h
   refine ⟨h0, h1.1, h1.2, ?_⟩
   cases e : filB l node
   ·rfl
   ·rw [e] at h; simp at h
  ·rw [if_neg h1] at h; cases h
 ·rw [if_neg h0] at h; exact absurd h h0
theorem put1_any (x : Sw) (node : Int) (g : Nat) (w : World) (hc : w.cell? ⟨g, 0, none⟩ = some (.int .i64 node)) :
  Calls Tryz.prog 142 #[x.val, .pointer (some ⟨g, 0, none⟩)] w fun e w' => e = .returned (.bool (freS node x)) ∧ Below w.heap.size w w' := by
 obtain ⟨a, f, n, t⟩ := x
 have hg := block_lt_of_cell hc
 unfold freS
 simp only at hg ⊢
 have low := Below.refl w.heap.size w
 cases f
 ·generalize hq : (a == node) = B
  go_enter Tryz.func142, Tryz.ntmps142
  go_wp2_with fail
  go_ret
  exact ⟨rfl, gAlloc low _⟩
 ·go_enter Tryz.func142, Tryz.ntmps142
  go_wp2_with fail
  go_ret
  exact ⟨rfl, gAlloc low _⟩
set_option maxHeartbeats 2000000 in
theorem ringPut_ok (n s y b : Int) (v : Value) (l : List Sw) (node t : Int) (w : World) (h : Rs w v l) (hE : rputE n s y b l node t = 0) :
  Calls Tryz.prog 114 #[cfg n s y b, v, .int .i64 node, .int .i64 t] w fun e w' =>
   (∃ v', e = .returned (.tuple #[v', .bool (l.any (freS node)), .int .i64 0]) ∧ FrS w' w.heap.size w'.heap.size v' (putR l node t)) ∧ Below w.heap.size w w' := by
 obtain ⟨e1, e2, e3, e4⟩ := rputE_ok hE
 obtain ⟨_, m1, m8⟩ := cntE_ok (ringE_cnt e1)
 have C := Lib.hid fun w hw => ringCheck_any n s y b v l w hw
 have N1 := Lib.hid fun w => isNode_any n s y b node w
 have N2 := Lib.hid fun w => isWait_any t w
 have HF := Lib.hid fun w hw => hasFilled_any v l node w hw
 have CL := Lib.hid fun w hw => cloneRing_any v l w hw (by omega) (by omega)
 have IX := Lib.hid (fun (W : World) (v' : Value) (hr : Rs W v' l) (hc : Box W (w.heap.size + 1) 3 #[.int .i64 node]) => indexSlot 142 (fun _ _ => by kernel_rfl) (w.heap.size + 1) (freS node) v' l W hr (fun x W' hb => put1_any x node (w.heap.size + 1) W' ((hc.call hb).at_ 0 rfl)))
 rw [e1] at C
 rw [e2] at N1
 rw [e3] at N2
 rw [e4] at HF
 clear hE e1 e2 e3 e4
 unfold putR
 rw [← idxS_any]
 have IC := Lib.hid (idxS_cases (freS node) l)
 generalize idxS (freS node) l = i at *
 obtain ⟨A, c, rfl⟩ := h.shape
 have low := Below.refl w.heap.size w
 have cb := boxNext low 23 #[.int .i64 n, .int .i64 s, .int .i64 y, .int .i64 b]
 replace low := gAlloc low (.cells #[.int .i64 n, .int .i64 s, .int .i64 y, .int .i64 b] 23)
 replace h := h.alloc (.cells #[.int .i64 n, .int .i64 s, .int .i64 y, .int .i64 b] 23)
 try simp only [World.size_alloc] at cb
 have nb := boxNext low 3 #[.int .i64 node]
 replace low := gAlloc low (.cells #[.int .i64 node] 3)
 replace h := h.alloc (.cells #[.int .i64 node] 3)
 replace cb := cb.alloc (.cells #[.int .i64 node] 3)
 try simp only [World.size_alloc] at nb
 go_enter Tryz.func114, Tryz.ntmps114
 go_wp2_with fail
 (with_reducible refine (C.out _ h).mono ?_); rintro e w1 ⟨rfl, hb⟩
 replace h := h.call hb
 replace cb := cb.call hb
 replace nb := nb.call hb
 replace low := gCall low hb
 clear hb
 have cb_0 := cb.at_ 0 rfl
 have cb_1 := cb.at_ 1 rfl
 have cb_2 := cb.at_ 2 rfl
 have cb_3 := cb.at_ 3 rfl
 have nb_0 := nb.at_ 0 rfl
 go_wp2_with fail
 (with_reducible refine (N1.out _).mono ?_); rintro e w2 ⟨rfl, hb⟩
 replace h := h.call hb
 replace cb := cb.call hb
 replace nb := nb.call hb
 replace low := gCall low hb
 clear hb cb_0 cb_1 cb_2 cb_3 nb_0
 have nb_0 := nb.at_ 0 rfl
 go_wp2_with fail
 (with_reducible refine (N2.out _).mono ?_); rintro e w3 ⟨rfl, rfl⟩
 go_wp2_with fail
 (with_reducible refine (HF.out _ h).mono ?_); rintro e w4 ⟨rfl, hb⟩
 replace h := h.call hb
 replace cb := cb.call hb
 replace nb := nb.call hb
 replace low := gCall low hb
 clear hb nb_0
 have z4 := nb.lt
 go_wp2_with fail
 (with_reducible refine (CL.out _ h).mono ?_); rintro e w5 ⟨v', g, rfl, own, hg, hb⟩
 replace nb := nb.call hb
 replace low := gCall low hb
 clear hb C N1 N2 HF CL cb
 obtain ⟨c', cur, rfl, o1, o2, o3, o4, o5⟩ := own
 have OW := Lib.hid (show OwnS w5 g (.slice (some ⟨g, 0, none⟩) l.length c') l from ⟨c', cur, rfl, o1, o2, o3, o4, o5⟩)
 clear o1 o2 o3 o4 o5
 go_wp2_with fail
 (with_reducible refine (IX.out _ _ OW.out.rs nb).mono ?_); rintro e w6 ⟨rfl, hb⟩
 replace nb := nb.call hb
 replace low := gCall low hb
 replace OW := Lib.hid (OW.out.call hb)
 clear hb IX
 rcases IC.out with ⟨rfl, _⟩ | ⟨k, x, rfl, hx, _⟩
 ·have F := Lib.hid (show FrS w6 w.heap.size w6.heap.size (.slice (some ⟨g, 0, none⟩) l.length c') l from ⟨g, by omega, OW.out.lt, OW.out⟩)
  clear OW
  go_wp2_with fail
  go_ret3
  exact ⟨⟨_, rfl, F.out⟩, low⟩
 ·have hk := (List.getElem?_eq_some_iff.1 hx).1
  have k0 : (0 : Int) ≤ k := by omega
  have k1 : (k : Int) < l.length := by omega
  have k2 : decide ((k : Int) < 0) = false := decide_eq_false (by omega)
  have k4 : decide ((0 : Int) ≤ k) = true := decide_eq_true (by omega)
  have HK := Lib.hid hk
  clear hx hk
  have nb_0 := nb.at_ 0 rfl
  go_wp2_with (refine wpList_put_slot rfl (.tmp 48) (.tmp 47) rfl g _ l k ⟨node, true, node, t⟩ OW.out HK.out rfl rfl ?_)
  intro w7 own st
  replace low := st.low low (by omega)
  have F := Lib.hid (show FrS w7 w.heap.size w7.heap.size (.slice (some ⟨g, 0, none⟩) l.length c') (l.set k ⟨node, true, node, t⟩) from ⟨g, by omega, own.lt, own⟩)
  clear own st OW nb
  go_wp2_with fail
  go_ret3
  exact ⟨⟨_, rfl, F.out⟩, low⟩
end Go.Proofs.YtcegjehoejgofaaGreat
namespace Go.Proofs.YtcegjehoejgofaaGreat
open Go.ChangeShapes Go.WideShapes Go.ChangeAt Go.RowKit Go.Joins
def OwnI (w : World) (g : Nat) (v : Value) (l : List Int) : Prop :=
 ∃ cap cur, v = .slice (some ⟨g, 0, none⟩) l.length cap ∧ Box w g 3 cur ∧ l.length ≤ cap ∧ cap ≤ maxLen ∧ cur.size = cap * 1 ∧ ∀ (q : Nat) (y : Int), l[q]? = some y → cur[q]? = some (.int .i64 y)
section
variable {w w' : World} {g : Nat} {v : Value} {l : List Int}
theorem OwnI.lt (h : OwnI w g v l) : g < w.heap.size := by
 obtain ⟨_, _, _, hb, _⟩ := h
 exact hb.lt
theorem OwnI.at_ (h : OwnI w g v l) {q : Nat} {y : Int} (hq : l[q]? = some y) : w.cell? ⟨g, q, none⟩ = some (.int .i64 y) := by
 obtain ⟨cap, cur, rfl, hb, _, _, _, ht⟩ := h
 exact (hb.cell q).trans (ht q y hq)
theorem OwnI.free (h : OwnI w g v l) (q : Nat) : w.frozen? ⟨g, q, none⟩ = false := by
 obtain ⟨cap, cur, rfl, hb, _, _, _, ht⟩ := h
 exact hb.frozen q
theorem OwnI.set (h : OwnI w g v l) (k : Nat) (y : Int) : OwnI (w.setCell ⟨g, k, none⟩ (.int .i64 y)) g v (l.set k y) := by
 obtain ⟨cap, cur, rfl, hb, hn, hm, hs, ht⟩ := h
 refine ⟨cap, _, by rw [List.length_set], hb.set k (.int .i64 y), by rw [List.length_set]; exact hn, hm, by simpa using hs, fun q z hz => ?_⟩
 rw [Array.getElem?_setIfInBounds]
 by_cases e : k = q
 ·subst e
  have hk : k < l.length := by
   have := (List.getElem?_eq_some_iff.1 hz).1
   simpa using this
  rw [List.getElem?_set_self hk] at hz
  cases hz
  rw [if_pos rfl, if_pos (by omega)]
 ·rw [if_neg e]
  rw [List.getElem?_set_ne e] at hz
  exact ht q z hz
theorem OwnI.shape (h : OwnI w g v l) : ∃ c, v = .slice (some ⟨g, 0, none⟩) l.length c ∧ l.length ≤ c := by
 obtain ⟨c, _, e, _, h1, _⟩ := h
 exact ⟨c, e, h1⟩
theorem OwnI.row (h : OwnI w g v l) {base : Nat} (hg : base ≤ g) : w.ownsRow base 3 1 v l.length (l.map (Value.int .i64)) := by
 obtain ⟨cap, cur, rfl, hb, hn, hm, hs, ht⟩ := h
 refine ⟨by rw [List.length_map]; omega, .inr ⟨g, cap, cur, rfl, hg, hb, hn, hm, hs, ?_⟩⟩
 apply List.ext_getElem?
 intro j
 rw [Nat.mul_one]
 by_cases hj : j < l.length
 ·rw [List.getElem?_take_of_lt hj, Array.getElem?_toList, ht j _ (List.getElem?_eq_getElem hj), List.getElem?_map, List.getElem?_eq_getElem hj]
  rfl
 ·rw [List.getElem?_take_eq_none (by omega), List.getElem?_eq_none (by rw [List.length_map]; omega)]
theorem OwnI.of {base : Nat} (h : w.ownsRow base 3 1 v l.length (l.map (Value.int .i64))) (h0 : 0 < l.length) : ∃ g, base ≤ g ∧ OwnI w g v l := by
 obtain ⟨_, h2⟩ := h
 rcases h2 with ⟨_, e⟩ | ⟨g, cap, cur, rfl, hg, hh, hn, hm, hs, ht⟩
 ·omega
 ·refine ⟨g, hg, cap, cur, rfl, hh, hn, hm, hs, fun q y hq => ?_⟩
  have hj := (List.getElem?_eq_some_iff.1 hq).1
  rw [Nat.mul_one] at ht
  rw [← Array.getElem?_toList, ← List.getElem?_take_of_lt hj, ht, List.getElem?_map, hq]
  rfl
theorem Stored.refl (w : World) (g : Nat) : Stored w g w := ⟨fun _ => rfl, rfl, fun h _ => h⟩
theorem Stored.drewN (h : Stored w g w') (n : Nat) : Stored w g (w'.drewN n) := ⟨h.heap, h.size, fun b hB => let k := h.low b hB; ⟨k.os, k.tape, k.output, k.size, k.block⟩⟩
theorem OwnI.drewN (h : OwnI w g v l) (n : Nat) : OwnI (w.drewN n) g v l := h
theorem Stored.cellTo (h : Stored w g w') (k : Nat) (x : Value) : Stored w g (w'.setCell ⟨g, k, none⟩ x) := h.trans (Stored.cell1 w' ⟨g, k, none⟩ x)
end
abbrev UpI (l : List Int) : Prop := l.Pairwise (· ≤ ·)
structure Mov (l : List Int) (k j : Nat) (xs a : List Int) (x : Int) (b c : List Int) : Prop where
 all : xs = a ++ x :: (b ++ c)
 perm : xs.Perm l
 la : a.length = j
 lb : j + b.length = k
 up : UpI (a ++ b)
 le : ∀ y ∈ b, x ≤ y
theorem Mov.start {l xs : List Int} {k : Nat} {x : Int} (hp : xs.Perm l) (hu : UpI (xs.take k)) (hx : xs[k]? = some x) : Mov l k k xs (xs.take k) x [] (xs.drop (k + 1)) := by
 have hk := (List.getElem?_eq_some_iff.1 hx).1
 have e1 : xs.drop k = x :: xs.drop (k + 1) := by
  rw [List.drop_eq_getElem_cons hk]
  congr 1
  exact (List.getElem?_eq_some_iff.1 hx).2
 refine ⟨?_, hp, by rw [List.length_take]; omega, rfl, by simpa using hu, by simp⟩
 rw [List.nil_append, ← e1, List.take_append_drop]
theorem Mov.step {l xs a b c : List Int} {k j : Nat} {x y : Int} (h : Mov l k (j + 1) xs (a ++ [y]) x b c) (hlt : x < y) : Mov l k j ((xs.set (j + 1) y).set j x) a x (y :: b) c := by
 obtain ⟨rfl, hp, la, lb, up, le⟩ := h
 have hj : a.length = j := by simpa using la
 have e : ((a ++ [y] ++ x :: (b ++ c)).set (j + 1) y).set j x = a ++ x :: (y :: b ++ c) := by
  subst hj
  simp
 rw [e]
 refine ⟨rfl, ?_, hj, by simp; omega, by simpa using up, ?_⟩
 ·refine List.Perm.trans ?_ hp
  rw [List.append_assoc]
  exact List.Perm.append_left _ (List.Perm.swap y x _)
 ·intro z hz
  rcases List.mem_cons.1 hz with rfl | hz
  ·omega
  ·exact le z hz
theorem Mov.at_x {l xs a b c : List Int} {k j : Nat} {x : Int} (h : Mov l k j xs a x b c) : xs[j]? = some x := by
 rw [h.all, List.getElem?_append_right (by rw [h.la]; omega), h.la, Nat.sub_self]
 rfl
theorem Mov.at_y {l xs a b c : List Int} {k j : Nat} {x y : Int} (h : Mov l k (j + 1) xs (a ++ [y]) x b c) : xs[j]? = some y := by
 have hj : a.length = j := by simpa using h.la
 rw [h.all, List.append_assoc, List.getElem?_append_right (by omega), hj, Nat.sub_self]
 rfl
theorem Mov.up_end {l xs a b c : List Int} {k j : Nat} {x : Int} (h : Mov l k j xs a x b c) (hl : ∀ y ∈ a, y ≤ x) : UpI (xs.take (k + 1)) ∧ xs.Perm l := by
 obtain ⟨rfl, hp, la, lb, up, le⟩ := h
 refine ⟨?_, hp⟩
 have e : (a ++ x :: (b ++ c)).take (k + 1) = a ++ x :: b := by
  rw [show a ++ x :: (b ++ c) = (a ++ x :: b) ++ c by simp, List.take_left' (by simp; omega)]
 rw [e]
 obtain ⟨u1, u2, u3⟩ := List.pairwise_append.1 up
 refine List.pairwise_append.2 ⟨u1, List.pairwise_cons.2 ⟨le, u2⟩, fun y hy z hz => ?_⟩
 rcases List.mem_cons.1 hz with rfl | hz
 ·exact hl y hy
 ·exact u3 y hy z hz
theorem Mov.le_all {l xs a b c : List Int} {k j : Nat} {x y : Int} (h : Mov l k (j + 1) xs (a ++ [y]) x b c) (hy : y ≤ x) : ∀ z ∈ a ++ [y], z ≤ x := by
 intro z hz
 have up := (List.pairwise_append.1 h.up).1
 obtain ⟨_, _, u3⟩ := List.pairwise_append.1 up
 rcases List.mem_append.1 hz with hz | hz
 ·exact Int.le_trans (u3 z hz y (by simp)) hy
 ·simp at hz; subst hz; exact hy
theorem less_any (x y : Int) (w : World) : Calls Tryz.prog 125 #[.int .i64 x, .int .i64 y] w fun e w' => e = .returned (.bool (decide (x < y))) ∧ w = w' := by
 have nan : ∀ (z : Int) W, Calls Tryz.prog 151 #[.int .i64 z] W fun e w' => e = .returned (.bool false) ∧ W = w' := by
  intro z W
  go_enter Tryz.func151, Tryz.ntmps151
  go_wp2_with fail
  go_ret
  exact ⟨by simp, rfl⟩
 have N := Lib.hid nan
 clear nan
 generalize hq : decide (x < y) = B
 go_enter Tryz.func125, Tryz.ntmps125
 go_wp2_with fail
 (with_reducible refine (N.out _ _).mono ?_); rintro e w' ⟨rfl, rfl⟩
 go_wp2_with fail
 go_ret
 exact ⟨rfl, rfl⟩
set_option maxRecDepth 100000 in
set_option maxHeartbeats 1000000 in
theorem bitsLen_any (n : Nat) (hn : n ≤ 8) (w : World) : Calls Tryz.prog 105 #[.int .u64 n] w fun e w' => (∃ k, e = .returned (.int .i64 k)) ∧ w = w' := by
 have h64 : ∀ W, Calls Tryz.prog 129 #[.int .u64 n] W fun e w' => (∃ k, e = .returned (.int .i64 k)) ∧ W = w' := by
  intro W
  have : n = 0 ∨ n = 1 ∨ n = 2 ∨ n = 3 ∨ n = 4 ∨ n = 5 ∨ n = 6 ∨ n = 7 ∨ n = 8 := by omega
  rcases this with rfl | rfl | rfl | rfl | rfl | rfl | rfl | rfl | rfl
  all_goals
   go_enter Tryz.func129, Tryz.ntmps129
   go_wp2_with fail
   go_ret
   exact ⟨⟨_, rfl⟩, rfl⟩
 have L := Lib.hid h64
 clear h64
 go_enter Tryz.func105, Tryz.ntmps105
 go_wp2_with fail
 (with_reducible refine (L.out _).mono ?_); rintro e w' ⟨⟨k, rfl⟩, rfl⟩
 go_wp2_with fail
 go_ret
 exact ⟨⟨_, rfl⟩, rfl⟩
set_option maxHeartbeats 2000000 in
theorem insertion_any (v : Value) (g : Nat) (l : List Int) (w : World) (h : OwnI w g v l) (hl : l.length ≤ 8) :
  Calls Tryz.prog 119 #[v, .int .i64 0, .int .i64 l.length] w fun e w' => e = .returned (.tuple #[]) ∧ (∃ ts, ts.Perm l ∧ UpI ts ∧ OwnI w' g v ts) ∧ Stored w g w' := by
 have H := Lib.hid h
 obtain ⟨c, rfl, hc⟩ := h.shape
 clear h
 go_enter Tryz.func119, Tryz.ntmps119
 go_wp2_with fail
 go_loopw [6] (fun i wr => ∃ k : Nat, 1 ≤ k ∧ i = .int .i64 k ∧ Hid (∃ xs, xs.Perm l ∧ UpI (xs.take k) ∧ OwnI wr g (.slice (some ⟨g, 0, none⟩) l.length c) xs) ∧ Hid (Stored w g wr)) (fun i _ => l.length - (intOf i).toNat)
 case atStart => exact ⟨1, Nat.le_refl _, rfl, Lib.hid ⟨l, .refl _, by cases l <;> simp, H.out⟩, Lib.hid (Stored.refl w g)⟩
 case round =>
  obtain ⟨k, hk, rfl, hs, st⟩ := hrel
  by_cases hlt : k < l.length
  ·have k0 : (0 : Int) ≤ k := by omega
   have k1 : (k : Int) < l.length := by omega
   have hn : ∀ ts : List Int, ts.Perm l → ts.length = l.length := fun ts h => h.length_eq
   have HN := Lib.hid hn
   clear hn
   go_wp2_with fail
   go_loopw [7] (fun vj wr2 => ∃ j : Nat, j ≤ k ∧ vj = .int .i64 j ∧ Hid (∃ xs a x b c', Mov l k j xs a x b c' ∧ OwnI wr2 g (.slice (some ⟨g, 0, none⟩) l.length c) xs) ∧ Hid (Stored w g wr2)) (fun vj _ => (intOf vj).toNat)
   case atStart =>
    obtain ⟨xs, hp, hu, own⟩ := hs.out
    have hk : xs[k]? = some (xs[k]'(by rw [HN.out xs hp]; exact hlt)) := List.getElem?_eq_getElem _
    exact ⟨k, Nat.le_refl _, rfl, Lib.hid ⟨xs, _, _, _, _, Mov.start hp hu hk, own⟩, st⟩
   case round =>
    clear hs st
    obtain ⟨j, hj, rfl, hm, st⟩ := hrel
    obtain ⟨xs, a, x, b, c', mov, own⟩ := hm.out
    have MOV := Lib.hid mov
    have OW := Lib.hid own
    have hx : xs.length = l.length := HN.out xs mov.perm
    have HX := Lib.hid hx
    have LA := Lib.hid mov.la
    have LB := Lib.hid mov.lb
    clear mov own hm hx
    cases j with
    | zero =>
     have E := Lib.hid (MOV.out.up_end fun y hy => by
      have := LA.out
      rw [List.length_eq_zero_iff.1 this] at hy
      cases hy)
     go_wp2_with fail
     go_quiet (fail)
     go_wp2_with fail
     go_roundw
     case rel => exact ⟨k + 1, by omega, by go_num, Lib.hid ⟨xs, E.out.2, E.out.1, OW.out⟩, Lib.hid (st.out.drewN _)⟩
     case measure => simp [intOf]; omega
    | succ j =>
     obtain ⟨a', y, rfl⟩ : ∃ a' y, a = a' ++ [y] := ⟨a.dropLast, a.getLast (by intro e; have := LA.out; rw [e] at this; cases this), (List.dropLast_concat_getLast _).symm⟩
     have c0 := OW.out.at_ MOV.out.at_x
     have c1 := OW.out.at_ MOV.out.at_y
     have f0 := OW.out.free (j + 1)
     have f1 := OW.out.free j
     by_cases hxy : x < y
     ·have MV := Lib.hid (MOV.out.step hxy)
      have OW2 := Lib.hid fun nn => ((OW.out.drewN nn).set (j + 1) y).set j x
      clear MOV OW LA LB
      go_wp2_with fail
      go_quiet (first | (go_at_call 125; refine Calls.quiet_of_same ((less_any _ _ _).mono fun e w' ⟨h1, h2⟩ => ⟨h1, h2.symm⟩)))
      go_wp2_with fail
      go_region
      all_goals go_wp2_with fail
      go_roundw
      case rel => exact ⟨j, by omega, by go_num, Lib.hid ⟨_, _, _, _, _, MV.out, OW2.out _⟩, Lib.hid (((st.out.drewN _).cellTo _ _).cellTo _ _)⟩
      case measure => simp [intOf]
     ·have E := Lib.hid (MOV.out.up_end (MOV.out.le_all (by omega)))
      clear MOV LA LB
      have hxy' : decide (x < y) = false := decide_eq_false hxy
      go_wp2_with fail
      go_quiet (first | (go_at_call 125; refine Calls.quiet_of_same ((less_any _ _ _).mono fun e w' ⟨h1, h2⟩ => ⟨h1, h2.symm⟩)))
      go_wp2_with fail
      go_roundw
      case rel => exact ⟨k + 1, by omega, by go_num, Lib.hid ⟨xs, E.out.2, E.out.1, OW.out⟩, Lib.hid (st.out.drewN _)⟩
      case measure => simp [intOf]; omega
  ·obtain ⟨xs, hp, hu, own⟩ := hs.out
   have OW := Lib.hid (show ∃ ts, ts.Perm l ∧ UpI ts ∧ OwnI wr g (.slice (some ⟨g, 0, none⟩) l.length c) ts from ⟨xs, hp, by rwa [List.take_of_length_le (by rw [hp.length_eq]; omega)] at hu, own⟩)
   clear hs own hp hu
   go_wp2_with fail
   go_end0
   exact ⟨rfl, OW.out, st.out⟩
set_option maxRecDepth 100000 in
theorem pdqsort_any (v : Value) (g : Nat) (l : List Int) (k : Int) (w : World) (h : OwnI w g v l) (hl : l.length ≤ 8) :
  Calls Tryz.prog 104 #[v, .int .i64 0, .int .i64 l.length, .int .i64 k] w fun e w' => e = .returned (.tuple #[]) ∧ (∃ ts, ts.Perm l ∧ UpI ts ∧ OwnI w' g v ts) ∧ Stored w g w' := by
 have I := Lib.hid (insertion_any v g l w h hl)
 obtain ⟨c, rfl, hc⟩ := h.shape
 have h12 : (l.length : Int) ≤ 12 := by omega
 clear h
 go_enter Tryz.func104, Tryz.ntmps104
 go_wp2_with fail
 refine wp_loop_rounds 1 ?_
 rw [rounds_succ]
 go_wp2_with fail
 (with_reducible refine I.out.mono ?_); rintro e w2 ⟨rfl, ts, st⟩
 have T := Lib.hid ts
 clear ts
 go_wp2_with fail
 refine bodyPost_ret (results_none rfl _ _ _) rfl ?_
 exact ⟨rfl, T.out, st⟩
theorem sort_any (v : Value) (g : Nat) (l : List Int) (w : World) (h : OwnI w g v l) (hl : l.length ≤ 8) :
  Calls Tryz.prog 84 #[v] w fun e w' => e = .returned (.tuple #[]) ∧ (∃ ts, ts.Perm l ∧ UpI ts ∧ OwnI w' g v ts) ∧ Stored w g w' := by
 have B := Lib.hid fun w => bitsLen_any l.length hl w
 have P := Lib.hid fun k w hw => pdqsort_any v g l k w hw hl
 have H := Lib.hid h
 obtain ⟨c, rfl, hc⟩ := h.shape
 have h12 : (l.length : Int) ≤ 8 := by omega
 clear h
 go_enter Tryz.func84, Tryz.ntmps84
 go_wp2_with fail
 (with_reducible refine (B.out _).mono ?_); rintro e w2 ⟨⟨k, rfl⟩, rfl⟩
 go_wp2_with fail
 (with_reducible refine (P.out _ _ H.out).mono ?_); rintro e w2 ⟨rfl, ts, st⟩
 have T := Lib.hid ts
 clear ts
 go_wp2_with fail
 go_end0
 exact ⟨rfl, T.out, st⟩
set_option maxRecDepth 100000 in
theorem sort_none (p : Option Addr) (c : Nat) (w : World) : Calls Tryz.prog 84 #[.slice p 0 c] w fun e w' => e = .returned (.tuple #[]) ∧ w = w' := by
 have I : ∀ w, Calls Tryz.prog 119 #[.slice p 0 c, .int .i64 0, .int .i64 0] w fun e w' => e = .returned (.tuple #[]) ∧ w = w' := by
  intro w
  go_enter Tryz.func119, Tryz.ntmps119
  go_wp2_with fail
  refine wp_loop_rounds 1 ?_
  rw [rounds_succ]
  go_wp2_with fail
  go_end0
  exact ⟨rfl, rfl⟩
 have II := Lib.hid I
 clear I
 have P : ∀ k w, Calls Tryz.prog 104 #[.slice p 0 c, .int .i64 0, .int .i64 0, .int .i64 k] w fun e w' => e = .returned (.tuple #[]) ∧ w = w' := by
  intro k w
  go_enter Tryz.func104, Tryz.ntmps104
  go_wp2_with fail
  refine wp_loop_rounds 1 ?_
  rw [rounds_succ]
  go_wp2_with fail
  (with_reducible refine (II.out _).mono ?_); rintro e w2 ⟨rfl, rfl⟩
  go_wp2_with fail
  refine bodyPost_ret (results_none rfl _ _ _) rfl ?_
  exact ⟨rfl, rfl⟩
 have PP := Lib.hid P
 have B0 := fun w => bitsLen_any 0 (by omega) w
 simp only [Int.natCast_zero] at B0
 have B := Lib.hid B0
 clear P B0
 go_enter Tryz.func84, Tryz.ntmps84
 go_wp2_with fail
 (with_reducible refine (B.out _).mono ?_); rintro e w2 ⟨⟨k, rfl⟩, rfl⟩
 go_wp2_with fail
 (with_reducible refine (PP.out _ _).mono ?_); rintro e w2 ⟨rfl, rfl⟩
 go_wp2_with fail
 go_end0
 exact ⟨rfl, rfl⟩
structure SortedTo (w : World) (base : Nat) (w' : World) : Prop where
 box : ∀ {h : Nat} {t : TypeId} {cs : Array Value}, Box w h t cs → t ≠ 3 → Box w' h t cs
 low : ∀ {B : Nat} {z : World}, Below B z w → B ≤ base → Below B z w'
 size : w'.heap.size = w.heap.size
theorem sort_row (base : Nat) (v : Value) (l : List Int) (w : World) (h : w.ownsRow base 3 1 v l.length (l.map (Value.int .i64))) (hl : l.length ≤ 8) :
  Calls Tryz.prog 84 #[v] w fun e w' => e = .returned (.tuple #[]) ∧ (∃ ts, ts.Perm l ∧ UpI ts ∧ w'.ownsRow base 3 1 v l.length (ts.map (Value.int .i64))) ∧ SortedTo w base w' := by
 by_cases h0 : 0 < l.length
 ·obtain ⟨g, hg, own⟩ := OwnI.of h h0
  refine (sort_any v g l w own hl).mono ?_
  rintro e w' ⟨rfl, ⟨ts, hp, hu, o⟩, st⟩
  refine ⟨rfl, ⟨ts, hp, hu, hp.length_eq ▸ o.row hg⟩, fun {h t cs} hb ht => ?_, fun {B z} hb hB => st.low hb (by omega), st.size⟩
  refine st.box hb fun e => ?_
  subst e
  obtain ⟨_, _, _, hb2, _⟩ := own
  unfold Box at hb hb2
  rw [hb] at hb2
  cases hb2
  exact ht rfl
 ·obtain rfl := List.length_eq_zero_iff.1 (show l.length = 0 by omega)
  obtain ⟨p, c, rfl⟩ : ∃ p c, v = .slice p 0 c := by
   rcases h.2 with ⟨rfl, _⟩ | ⟨g, cap, _, rfl, _⟩
   ·exact ⟨_, _, rfl⟩
   ·exact ⟨_, _, rfl⟩
  refine (sort_none p c w).mono ?_
  rintro e w' ⟨rfl, rfl⟩
  exact ⟨rfl, ⟨[], .refl _, List.Pairwise.nil, h⟩, fun hb _ => hb, fun hb _ => hb, rfl⟩
theorem up_unique : ∀ {a b : List Int}, UpI a → UpI b → a.Perm b → a = b
 | [], b, _, _, h => (List.Perm.nil_eq h)
 | x :: a, b, ha, hb, h => by
  cases b with
  | nil => exact absurd h.length_eq (by simp)
  | cons y b =>
   obtain ⟨h1, h2⟩ := List.pairwise_cons.1 ha
   obtain ⟨k1, k2⟩ := List.pairwise_cons.1 hb
   have e : x = y := by
    have m1 : x ∈ y :: b := h.mem_iff.1 (by simp)
    have m2 : y ∈ x :: a := h.mem_iff.2 (by simp)
    rcases List.mem_cons.1 m1 with e | m1
    ·exact e
    ·rcases List.mem_cons.1 m2 with e | m2
     ·exact e.symm
     ·have := h1 y m2
      have := k1 x m1
      omega
   subst e
   rw [up_unique h2 k2 ((List.perm_cons x).1 h)]
end Go.Proofs.YtcegjehoejgofaaGreat
namespace Go.Proofs.YtcegjehoejgofaaGreat
open Go.ChangeShapes Go.WideShapes Go.ChangeAt Go.RowKit Go.Joins
def retS (n : Int) (x : Sw) : Bool := x.fu && !(advS n x).fu
def backL (n : Int) (l : List Sw) : List Int := (l.filter (retS n)).map Sw.nd
theorem backL_succ {n : Int} {l : List Sw} {k : Nat} {x : Sw} (h : l[k]? = some x) : backL n (l.take (k + 1)) = backL n (l.take k) ++ if retS n x = true then [x.nd] else [] := by
 have e : l.take (k + 1) = l.take k ++ [x] := by rw [List.take_add_one, h]; rfl
 unfold backL
 rw [e, List.filter_append, List.map_append]
 cases hr : retS n x <;> simp [hr]
theorem backL_few (n : Int) (l : List Sw) : (backL n l).length ≤ l.length := by
 unfold backL
 rw [List.length_map]
 exact List.length_filter_le _ _
def stepR (n : Int) (l : List Sw) (k : Nat) : List Sw := (l.take k).map (advS n) ++ List.replicate (l.length - k) sw0
theorem stepR_zero (n : Int) (l : List Sw) : stepR n l 0 = List.replicate l.length sw0 := rfl
theorem stepR_length (n : Int) (l : List Sw) (k : Nat) (hk : k ≤ l.length) : (stepR n l k).length = l.length := by
 simp [stepR]; omega
theorem stepR_all (n : Int) (l : List Sw) : stepR n l l.length = l.map (advS n) := by simp [stepR]
theorem stepR_succ {n : Int} {l : List Sw} {k : Nat} {x : Sw} (h : l[k]? = some x) : (stepR n l k).set k (advS n x) = stepR n l (k + 1) := by
 have hk : k < l.length := (List.getElem?_eq_some_iff.1 h).1
 have e : ((l.take k).map (advS n)).length = k := by rw [List.length_map, List.length_take]; omega
 have e2 : l.take (k + 1) = l.take k ++ [x] := by rw [List.take_add_one, h]; rfl
 unfold stepR
 rw [e2, List.set_append_right _ _ (by omega), e, Nat.sub_self, show l.length - k = (l.length - (k + 1)) + 1 by omega, List.replicate_succ, List.set_cons_zero, List.map_append, List.append_assoc]
 rfl
theorem slotsE_slots {n : Int} : ∀ {r l : List Sw}, slotsE n l r = 0 → ∀ x ∈ r, nodB n x.pl = true ∧ nodB n x.nd = true ∧ waitB x.wt = true
 | [], _, _, x, hx => by cases hx
 | y :: r, l, h, x, hx => by
  rw [slotsE_cons] at h
  by_cases e : slotE n l y = 0
  ·rw [if_pos e] at h
   rcases List.mem_cons.1 hx with rfl | hx
   ·unfold slotE at e
    by_cases b : nodB n x.pl = false ∨ nodB n x.nd = false ∨ waitB x.wt = false
    ·rw [if_pos b] at e; cases e
    ·cases h1 : nodB n x.pl <;> cases h2 : nodB n x.nd <;> cases h3 : waitB x.wt <;> simp_all
   ·exact slotsE_slots h x hx
  ·rw [if_neg e] at h; exact absurd h e
theorem ringE_ok {n s y b : Int} {l : List Sw} (h : ringE n s y b l = 0) : cfgB n s y b = true ∧ 1 ≤ l.length ∧ l.length ≤ 8 ∧ slotsE n [] l = 0 := by
 have hc := ringE_cnt h
 obtain ⟨h1, h2, h3⟩ := cntE_ok hc
 unfold ringE at h
 rw [if_pos hc] at h
 exact ⟨h1, by omega, by omega, h⟩
section
variable {w w' : World} {base B g n size : Nat} {e t : TypeId} {v : Value} {xs cs' : List Value} {cs : Array Value}
theorem row_ne (h : w.ownsRow base e size v n xs) (hb : Box w g t cs) (ht : t ≠ e) : some g ≠ v.ownBlock := by
 rcases h.2 with ⟨rfl, _⟩ | ⟨g', cap, cur, rfl, hg, hh, _⟩
 ·intro k; simp [Value.ownBlock] at k
 ·intro k
  simp only [Value.ownBlock, Option.some.injEq] at k
  subst k
  unfold Box at hb
  rw [hb] at hh
  cases hh
  exact ht rfl
theorem row_stored (h : w.ownsRow base e size v n xs) (st : Stored w g w') (hg : g < base) : w'.ownsRow base e size v n xs := by
 refine ⟨h.1, ?_⟩
 rcases h.2 with h2 | ⟨g', cap, cur, hv, hg', hh, r⟩
 ·exact .inl h2
 ·exact .inr ⟨g', cap, cur, hv, hg', (st.heap (by omega)).trans hh, r⟩
theorem row_from (h : w.ownsRow base e size v n xs) : ∀ k, v.ownBlock = some k → base ≤ k := by
 intro k hk
 rcases h.2 with ⟨rfl, _⟩ | ⟨g', cap, cur, rfl, hg', _⟩
 ·simp [Value.ownBlock] at hk
 ·simp only [Value.ownBlock, Option.some.injEq] at hk
  omega
end
theorem OwnS.grown {w w' : World} {g : Nat} {v : Value} {l : List Sw} {row : Option Nat} (h : OwnS w g v l) (hb : w.grownBy w' row) (hg : some g ≠ row) : OwnS w' g v l := by
 obtain ⟨cap, cur, rfl, h1, h2⟩ := h
 exact ⟨cap, cur, rfl, h1.grown hb hg, h2⟩
theorem OwnS.sorted {w w' : World} {base g : Nat} {v : Value} {l : List Sw} (h : OwnS w g v l) (st : SortedTo w base w') : OwnS w' g v l := by
 obtain ⟨cap, cur, rfl, h1, h2⟩ := h
 exact ⟨cap, cur, rfl, st.box h1 (by decide), h2⟩
theorem OwnS.ne {w : World} {base g n : Nat} {u v : Value} {l : List Sw} {xs : List Value} (h : OwnS w g v l) (r : w.ownsRow base 3 1 u n xs) : some g ≠ u.ownBlock := by
 obtain ⟨_, _, _, hb, _⟩ := h
 exact row_ne r hb (by decide)
theorem info_int2 : (Tryz.prog.info? 3).map (fun i => (i.zero, i.size, i.bytes)) = some (some (.int .i64 0), 1, 8) := by kernel_rfl
set_option maxHeartbeats 4000000 in
theorem ringStep_ok (n s y b : Int) (v : Value) (l : List Sw) (w : World) (h : Rs w v l) (hE : ringE n s y b l = 0) :
  Calls Tryz.prog 51 #[cfg n s y b, v] w fun e w' =>
   (∃ v' bv ts, e = .returned (.tuple #[v', bv, .int .i64 0]) ∧ FrS w' w.heap.size w'.heap.size v' (l.map (advS n)) ∧ ts.Perm (backL n l) ∧ UpI ts ∧ w'.ownsRow w.heap.size 3 1 bv ts.length (ts.map (Value.int .i64))) ∧ Below w.heap.size w w' := by
 have C := Lib.hid fun w hw => ringCheck_any n s y b v l w hw
 rw [hE] at C
 obtain ⟨g1, m1, m8, sl⟩ := ringE_ok hE
 have OKS := Lib.hid (slotsE_slots sl)
 have HG := Lib.hid g1
 have MS := fun w => make_slots l.length m8 w
 have H := Lib.hid h
 obtain ⟨i0, hi, hz0, hz1, hz2⟩ := info_parts info_int2
 have HI := Lib.hid hi
 have HZ := Lib.hid (And.intro hz0 (And.intro hz1 hz2))
 obtain ⟨_, A, c, rfl, h1, h2, h3⟩ := h
 have H3 := Lib.hid h3
 unfold maxLen at h2
 clear h3 hE g1 sl hi hz0 hz1 hz2
 have low := Below.refl w.heap.size w
 have hr := H.out
 have cb := boxNext low 23 #[.int .i64 n, .int .i64 s, .int .i64 y, .int .i64 b]
 replace low := gAlloc low (.cells #[.int .i64 n, .int .i64 s, .int .i64 y, .int .i64 b] 23)
 replace hr := hr.alloc (.cells #[.int .i64 n, .int .i64 s, .int .i64 y, .int .i64 b] 23)
 try simp only [World.size_alloc] at cb
 go_enter Tryz.func51, Tryz.ntmps51
 go_wp2_with fail
 (with_reducible refine (C.out _ hr).mono ?_); rintro e w1 ⟨rfl, hb⟩
 replace cb := cb.call hb
 replace low := gCall low hb
 clear hb
 clear C hr
 have z1 : w.heap.size < w1.heap.size := cb.lt
 have own := OwnS.new w1 l.length (by unfold maxLen; omega)
 rw [← stepR_zero n l] at own
 have OW := Lib.hid own
 replace cb := cb.alloc (.cells (newS l.length) 122)
 replace low := gAlloc low (.cells (newS l.length) 122)
 clear own
 go_wp2_with fail
 clear MS
 go_loopw [9, 25] (fun bv i wr => ∃ k : Nat, k ≤ l.length ∧ i = .int .i64 k ∧ Hid (OwnS wr w1.heap.size (.slice (some ⟨w1.heap.size, 0, none⟩) l.length l.length) (stepR n l k)) ∧
   Hid (wr.ownsRow (w1.heap.size + 1) 3 1 bv (backL n (l.take k)).length ((backL n (l.take k)).map (Value.int .i64))) ∧ Box wr w.heap.size 23 #[.int .i64 n, .int .i64 s, .int .i64 y, .int .i64 b] ∧ Below w.heap.size w wr) (fun _ i _ => l.length - (intOf i).toNat)
 case atStart => exact ⟨0, Nat.zero_le _, rfl, OW, Lib.hid (World.ownsRow_nil _ _ _ _), cb, low⟩
 case round =>
  clear OW cb low
  obtain ⟨k, hk, rfl, own, row, cb, low⟩ := hrel
  by_cases hlt : k < l.length
  ·obtain ⟨bb, o, rfl, hb, hc⟩ := H3.out (by omega)
   have hx : l[k]? = some l[k] := List.getElem?_eq_getElem _
   generalize l[k] = x at hx
   obtain ⟨c0, c1, c2, c3⟩ := slotAt_of hc hb low hx
   obtain ⟨o1, o2, o3⟩ := OKS.out x (List.mem_of_getElem? hx)
   have AD := Lib.hid fun w => advance_ok n s y b x w HG.out o1 o3
   have HST := Lib.hid (stepR_succ (n := n) hx)
   have HBK := Lib.hid (backL_succ (n := n) hx)
   have HL := Lib.hid (show k < (stepR n l k).length by rw [stepR_length n l k hk]; exact hlt)
   unfold retS at HBK
   obtain ⟨a, f, d, t⟩ := x
   simp only at c0 c1 c2 c3 HBK
   generalize advS n ⟨a, f, d, t⟩ = u at *
   obtain ⟨a', f', d', t'⟩ := u
   simp only at HBK
   have k0 : (0 : Int) ≤ k := by omega
   have k1 : (k : Int) < l.length := by omega
   clear hx hc o1 o2 o3
   have OW := Lib.hid fun w' (hb : Below wr.heap.size wr w') => own.out.call hb
   have RW := Lib.hid fun w' (hb : Below wr.heap.size wr w') => own_below row.out hb
   have zr := own.out.lt
   clear own row
   have sb := boxNext low 122 #[.int .i64 a, .bool f, .int .i64 d, .int .i64 t]
   replace low := gAlloc low (.cells #[.int .i64 a, .bool f, .int .i64 d, .int .i64 t] 122)
   replace cb := cb.alloc (.cells #[.int .i64 a, .bool f, .int .i64 d, .int .i64 t] 122)
   try simp only [World.size_alloc] at sb
   have near := gAlloc (Below.refl wr.heap.size wr) (.cells #[.int .i64 a, .bool f, .int .i64 d, .int .i64 t] 122)
   have cb_0 := cb.at_ 0 rfl
   have cb_1 := cb.at_ 1 rfl
   have cb_2 := cb.at_ 2 rfl
   have cb_3 := cb.at_ 3 rfl
   go_wp2_with fail
   (with_reducible refine (AD.out _).mono ?_); rintro e w2 ⟨rfl, hb2⟩
   replace cb := cb.call hb2
   replace sb := sb.call hb2
   replace low := gCall low hb2
   replace near := gCall near hb2
   clear hb2 c0 c1 c2 c3 AD
   clear cb_0 cb_1 cb_2 cb_3
   have zn := near.size
   cases f
   ·replace HBK := Lib.hid (HBK.out.trans (by rw [Bool.false_and, if_neg Bool.false_ne_true, List.append_nil]))
    have yb := boxNext low 122 #[.int .i64 a', .bool f', .int .i64 d', .int .i64 t']
    replace low := gAlloc low (.cells #[.int .i64 a', .bool f', .int .i64 d', .int .i64 t'] 122)
    replace cb := cb.alloc (.cells #[.int .i64 a', .bool f', .int .i64 d', .int .i64 t'] 122)
    replace sb := sb.alloc (.cells #[.int .i64 a', .bool f', .int .i64 d', .int .i64 t'] 122)
    try simp only [World.size_alloc] at yb
    have sb_0 := sb.at_ 0 rfl
    have sb_1 := sb.at_ 1 rfl
    have sb_2 := sb.at_ 2 rfl
    have sb_3 := sb.at_ 3 rfl
    replace near := gAlloc near (.cells #[.int .i64 a', .bool f', .int .i64 d', .int .i64 t'] 122)
    have row := RW.out _ near
    rw [← HBK.out] at row
    have ROW := Lib.hid row
    replace OW := Lib.hid (OW.out _ near)
    clear RW near sb row HBK
    go_wp2_with (refine wpList_put_slot rfl (.tmp 54) (.tmp 53) rfl w1.heap.size _ (stepR n l k) k ⟨a', f', d', t'⟩ OW.out HL.out rfl rfl ?_)
    intro w7 own7 st7
    clear sb_0 sb_1 sb_2 sb_3
    replace cb := st7.box cb (by omega)
    replace low := st7.low low (by omega)
    have ROW7 := Lib.hid (row_stored ROW.out st7 (by omega))
    have OW7 := Lib.hid own7
    clear own7 st7 yb OW ROW
    rw [HST.out] at OW7
    go_wp2_with fail
    go_roundw
    case rel => exact ⟨k + 1, by omega, by go_num, OW7, ROW7, cb, low⟩
    case measure => simp [intOf]; omega
   cases f'
   ·replace HBK : Hid (backL n (l.take (k + 1)) = backL n (l.take k) ++ [d]) := HBK
    have yb := boxNext low 122 #[.int .i64 a', .bool false, .int .i64 d', .int .i64 t']
    replace low := gAlloc low (.cells #[.int .i64 a', .bool false, .int .i64 d', .int .i64 t'] 122)
    replace cb := cb.alloc (.cells #[.int .i64 a', .bool false, .int .i64 d', .int .i64 t'] 122)
    replace sb := sb.alloc (.cells #[.int .i64 a', .bool false, .int .i64 d', .int .i64 t'] 122)
    try simp only [World.size_alloc] at yb
    have sb_0 := sb.at_ 0 rfl
    have sb_1 := sb.at_ 1 rfl
    have sb_2 := sb.at_ 2 rfl
    have sb_3 := sb.at_ 3 rfl
    have db := boxNext low 3 #[.int .i64 d]
    replace low := gAlloc low (.cells #[.int .i64 d] 3)
    replace cb := cb.alloc (.cells #[.int .i64 d] 3)
    replace yb := yb.alloc (.cells #[.int .i64 d] 3)
    try simp only [World.size_alloc] at db
    replace near := gAlloc (gAlloc near (.cells #[.int .i64 a', .bool false, .int .i64 d', .int .i64 t'] 122)) (.cells #[.int .i64 d] 3)
    have ROW := Lib.hid (RW.out _ near)
    replace OW := Lib.hid (OW.out _ near)
    have few := Lib.hid (show (backL n (l.take k)).length ≤ 8 by have := backL_few n (l.take k); rw [List.length_take] at this; omega)
    clear RW near sb
    go_wp2_with (at_builtin; refine wpList_append_own _ rfl _ _ 35 rfl (w1.heap.size + 1) 3 i0 (.int .i64 0) 1 8 Tryz.underlying35 HI.out HZ.out.1 HZ.out.2.1 HZ.out.2.2 rfl (by decide) _ _ _ rfl ROW.out ⟨w2.heap.size + 1, 0, none⟩ 1 1 [.int .i64 d] rfl rfl ?c1 ?c2 ?c3 ?c4 ?c5 ?_)
    case c1 =>
     intro j u hj
     match j, hj with
     | 0, hj => simp at hj; subst hj; simp [Addr.add]
    case c2 => intro u hu; simp at hu; subst hu; rfl
    case c3 => have := few.out; unfold maxLen; omega
    case c4 => have := few.out; omega
    case c5 => simp; omega
    intro v4 w4 own4 grow4 _
    replace cb := cb.grown grow4 (row_ne ROW.out cb (by decide))
    replace yb := yb.grown grow4 (row_ne ROW.out yb (by decide))
    replace low := low.grown grow4 (by simp; omega) (fun g e => by have := row_from ROW.out g e; omega)
    replace OW := Lib.hid (OW.out.grown grow4 (OW.out.ne ROW.out))
    have e1 : (backL n (l.take (k + 1))).length = (backL n (l.take k)).length + 1 := by rw [HBK.out, List.length_append, List.length_singleton]
    have e2 : (backL n (l.take (k + 1))).map (Value.int .i64) = (backL n (l.take k)).map (Value.int .i64) ++ [.int .i64 d] := by rw [HBK.out, List.map_append]; rfl
    rw [← e1, ← e2] at own4
    replace ROW := Lib.hid own4
    clear own4 grow4 e1 e2 few db HBK
    clear sb_0 sb_1 sb_2 sb_3
    have yb_0 := yb.at_ 0 rfl
    have yb_1 := yb.at_ 1 rfl
    have yb_2 := yb.at_ 2 rfl
    have yb_3 := yb.at_ 3 rfl
    go_wp2_with (refine wpList_put_slot rfl (.tmp 54) (.tmp 53) rfl w1.heap.size _ (stepR n l k) k ⟨a', false, d', t'⟩ OW.out HL.out rfl rfl ?_)
    intro w7 own7 st7
    clear yb_0 yb_1 yb_2 yb_3
    replace cb := st7.box cb (by omega)
    replace low := st7.low low (by omega)
    have ROW7 := Lib.hid (row_stored ROW.out st7 (by omega))
    have OW7 := Lib.hid own7
    clear own7 st7 yb OW ROW
    rw [HST.out] at OW7
    go_wp2_with fail
    go_roundw
    case rel => exact ⟨k + 1, by omega, by go_num, OW7, ROW7, cb, low⟩
    case measure => simp [intOf]; omega
   ·replace HBK := Lib.hid (HBK.out.trans (by rw [Bool.not_true, Bool.and_false, if_neg Bool.false_ne_true, List.append_nil]))
    have yb := boxNext low 122 #[.int .i64 a', .bool true, .int .i64 d', .int .i64 t']
    replace low := gAlloc low (.cells #[.int .i64 a', .bool true, .int .i64 d', .int .i64 t'] 122)
    replace cb := cb.alloc (.cells #[.int .i64 a', .bool true, .int .i64 d', .int .i64 t'] 122)
    replace sb := sb.alloc (.cells #[.int .i64 a', .bool true, .int .i64 d', .int .i64 t'] 122)
    try simp only [World.size_alloc] at yb
    have sb_0 := sb.at_ 0 rfl
    have sb_1 := sb.at_ 1 rfl
    have sb_2 := sb.at_ 2 rfl
    have sb_3 := sb.at_ 3 rfl
    replace near := gAlloc near (.cells #[.int .i64 a', .bool true, .int .i64 d', .int .i64 t'] 122)
    have row := RW.out _ near
    rw [← HBK.out] at row
    have ROW := Lib.hid row
    replace OW := Lib.hid (OW.out _ near)
    clear RW near sb row HBK
    go_wp2_with (refine wpList_put_slot rfl (.tmp 54) (.tmp 53) rfl w1.heap.size _ (stepR n l k) k ⟨a', true, d', t'⟩ OW.out HL.out rfl rfl ?_)
    intro w7 own7 st7
    clear sb_0 sb_1 sb_2 sb_3
    replace cb := st7.box cb (by omega)
    replace low := st7.low low (by omega)
    have ROW7 := Lib.hid (row_stored ROW.out st7 (by omega))
    have OW7 := Lib.hid own7
    clear own7 st7 yb OW ROW
    rw [HST.out] at OW7
    go_wp2_with fail
    go_roundw
    case rel => exact ⟨k + 1, by omega, by go_num, OW7, ROW7, cb, low⟩
    case measure => simp [intOf]; omega
  ·obtain rfl : k = l.length := by omega
   have OW := own.out
   rw [stepR_all] at OW
   have RW := row.out
   rw [List.take_length] at RW
   have OWH := Lib.hid OW
   have SO := Lib.hid (sort_row (w1.heap.size + 1) _ (backL n l) wr RW (by have := backL_few n l; omega))
   clear own row OW RW
   go_wp2_with fail
   (with_reducible refine SO.out.mono ?_); rintro e w9 ⟨rfl, ⟨ts, hp, hu, row9⟩, st⟩
   replace low := st.low low (by omega)
   have O9 := OWH.out.sorted st
   have OUT := Lib.hid (show FrS w9 w.heap.size w9.heap.size (.slice (some ⟨w1.heap.size, 0, none⟩) l.length l.length) (l.map (advS n)) from ⟨_, by omega, O9.lt, O9⟩)
   have ROW := Lib.hid (show w9.ownsRow w.heap.size 3 1 _ ts.length (ts.map (Value.int .i64)) from hp.length_eq ▸ row9.mono (by omega))
   have HP := Lib.hid hp
   have HU := Lib.hid hu
   clear st O9 OWH row9 cb hp hu
   go_wp2_with fail
   go_ret3
   exact ⟨⟨_, _, ts, rfl, OUT.out, HP.out, HU.out, ROW.out⟩, low⟩
end Go.Proofs.YtcegjehoejgofaaGreat
namespace Go.Proofs.YtcegjehoejgofaaGreat
open Go.ChangeShapes Go.WideShapes Go.ChangeAt Go.RowKit Go.Joins
def okS (n : Int) (x : Sw) : Prop := nodB n x.pl = true ∧ nodB n x.nd = true ∧ waitB x.wt = true ∧ (x.fu = false → x.nd = 0 ∧ x.wt = 0)
def apartS (x y : Sw) : Prop := x.fu = true → y.fu = true → x.nd ≠ y.nd
structure RingOk (n : Int) (l : List Sw) : Prop where
 each : ∀ x ∈ l, okS n x
 uni : l.Pairwise apartS
theorem filB_iff {l : List Sw} {node : Int} : filB l node = true ↔ ∃ x ∈ l, x.fu = true ∧ x.nd = node := by
 unfold filB filS
 rw [List.any_eq_true]
 constructor
 ·rintro ⟨x, hx, h⟩
  simp at h
  exact ⟨x, hx, h⟩
 ·rintro ⟨x, hx, h1, h2⟩
  exact ⟨x, hx, by simp [h1, h2]⟩
theorem filB_no {l : List Sw} {node : Int} : filB l node = false ↔ ∀ x ∈ l, x.fu = true → x.nd ≠ node := by
 rw [← Bool.not_eq_true, filB_iff]
 constructor
 ·intro h x hx h1 h2
  exact h ⟨x, hx, h1, h2⟩
 ·rintro h ⟨x, hx, h1, h2⟩
  exact h x hx h1 h2
theorem slotE_zero {n : Int} {l : List Sw} {x : Sw} : slotE n l x = 0 ↔ okS n x ∧ (x.fu = true → filB l x.nd = false) := by
 unfold slotE okS
 cases h1 : nodB n x.pl <;> cases h2 : nodB n x.nd <;> cases h3 : waitB x.wt <;> cases h4 : x.fu <;> cases h5 : filB l x.nd <;> simp
theorem slotsE_zero {n : Int} : ∀ {r l : List Sw}, slotsE n l r = 0 ↔ (∀ x ∈ r, okS n x) ∧ r.Pairwise apartS ∧ ∀ y ∈ l, ∀ x ∈ r, apartS y x
 | [], l => by simp [slotsE]
 | z :: r, l => by
  rw [slotsE_cons]
  have ih := slotsE_zero (n := n) (r := r) (l := l ++ [z])
  by_cases e : slotE n l z = 0
  ·rw [if_pos e, ih]
   obtain ⟨e1, e2⟩ := slotE_zero.1 e
   constructor
   ·rintro ⟨h1, h2, h3⟩
    refine ⟨fun x hx => ?_, List.pairwise_cons.2 ⟨fun x hx => h3 z (by simp) x hx, h2⟩, fun y hy x hx => ?_⟩
    ·rcases List.mem_cons.1 hx with rfl | hx
     ·exact e1
     ·exact h1 x hx
    ·rcases List.mem_cons.1 hx with rfl | hx
     ·intro f1 f2 e3
      exact filB_no.1 (e2 f2) y hy f1 e3
     ·exact h3 y (by simp [hy]) x hx
   ·rintro ⟨h1, h2, h3⟩
    obtain ⟨h4, h5⟩ := List.pairwise_cons.1 h2
    refine ⟨fun x hx => h1 x (by simp [hx]), h5, fun y hy x hx => ?_⟩
    rcases List.mem_append.1 hy with hy | hy
    ·exact h3 y hy x (by simp [hx])
    ·simp at hy; subst hy; exact h4 x hx
  ·rw [if_neg e]
   constructor
   ·intro h; exact absurd h e
   ·rintro ⟨h1, h2, h3⟩
    exact absurd (slotE_zero.2 ⟨h1 z (by simp), fun f => filB_no.2 fun y hy f1 e3 => h3 y hy z (by simp) f1 f e3⟩) e
theorem ringE_zero {n s y b : Int} {l : List Sw} : ringE n s y b l = 0 ↔ cfgB n s y b = true ∧ 1 ≤ l.length ∧ l.length ≤ 8 ∧ RingOk n l := by
 constructor
 ·intro h
  obtain ⟨h1, h2, h3, h4⟩ := ringE_ok h
  obtain ⟨k1, k2, _⟩ := slotsE_zero.1 h4
  exact ⟨h1, h2, h3, k1, k2⟩
 ·rintro ⟨h1, h2, h3, k1, k2⟩
  unfold ringE
  rw [if_pos (by unfold cntE; rw [if_pos ⟨h1, by omega, by omega⟩]), slotsE_zero]
  exact ⟨k1, k2, by simp⟩
theorem advS_ok {n : Int} (hn : 2 ≤ n) {x : Sw} (h : okS n x) : okS n (advS n x) := by
 obtain ⟨a, f, d, t⟩ := x
 obtain ⟨h1, h2, h3, h4⟩ := h
 simp only at h1 h2 h3 h4
 obtain ⟨t1, t2⟩ := waitB_iff.1 h3
 have n1 : nodB n (nodeAt n a 1) = true := nodB_iff.2 ⟨nodeAt_nonneg (by omega), nodeAt_lt (by omega)⟩
 unfold advS
 simp only
 by_cases c1 : f = true ∧ 0 < t
 ·rw [if_pos c1]
  refine ⟨h1, h2, waitB_iff.2 ⟨by simp only; omega, by simp only; omega⟩, fun e => ?_⟩
  simp only at e
  rw [c1.1] at e; cases e
 ·rw [if_neg c1]
  by_cases c2 : f = true ∧ nodeAt n a 1 = d
  ·rw [if_pos c2]
   exact ⟨n1, nodB_iff.2 ⟨by simp, by simp; omega⟩, waitB_iff.2 ⟨by simp, by simp⟩, fun _ => ⟨rfl, rfl⟩⟩
  ·rw [if_neg c2]
   exact ⟨n1, h2, h3, h4⟩
theorem advS_full {n : Int} {x : Sw} (h : (advS n x).fu = true) : x.fu = true ∧ (advS n x).nd = x.nd := by
 unfold advS at h ⊢
 by_cases c1 : x.fu = true ∧ 0 < x.wt
 ·rw [if_pos c1]; exact ⟨c1.1, rfl⟩
 ·rw [if_neg c1] at h ⊢
  by_cases c2 : x.fu = true ∧ nodeAt n x.pl 1 = x.nd
  ·rw [if_pos c2] at h; cases h
  ·rw [if_neg c2] at h ⊢; exact ⟨h, rfl⟩
theorem RingOk.step {n : Int} (hn : 2 ≤ n) {l : List Sw} (h : RingOk n l) : RingOk n (l.map (advS n)) := by
 refine ⟨fun x hx => ?_, ?_⟩
 ·obtain ⟨y, hy, rfl⟩ := List.mem_map.1 hx
  exact advS_ok hn (h.each y hy)
 ·rw [List.pairwise_map]
  refine h.uni.imp fun {x y} k f1 f2 => ?_
  obtain ⟨a1, a2⟩ := advS_full f1
  obtain ⟨b1, b2⟩ := advS_full f2
  rw [a2, b2]
  exact k a1 b1
theorem mem_backL {n : Int} {l : List Sw} {d : Int} : d ∈ backL n l ↔ ∃ x ∈ l, retS n x = true ∧ x.nd = d := by
 unfold backL
 simp only [List.mem_map, List.mem_filter]
 constructor
 ·rintro ⟨x, ⟨h1, h2⟩, h3⟩; exact ⟨x, h1, h2, h3⟩
 ·rintro ⟨x, h1, h2, h3⟩; exact ⟨x, ⟨h1, h2⟩, h3⟩
theorem RingOk.one {n : Int} {l : List Sw} (h : RingOk n l) {x y : Sw} (hx : x ∈ l) (hy : y ∈ l) (fx : x.fu = true) (fy : y.fu = true) (e : x.nd = y.nd) : x = y := by
 obtain ⟨i, hi, rfl⟩ := List.getElem_of_mem hx
 obtain ⟨j, hj, rfl⟩ := List.getElem_of_mem hy
 rcases Nat.lt_trichotomy i j with c | rfl | c
 ·exact absurd e (List.pairwise_iff_getElem.1 h.uni i j hi hj c fx fy)
 ·rfl
 ·exact absurd e.symm (List.pairwise_iff_getElem.1 h.uni j i hj hi c fy fx)
theorem RingOk.put {n : Int} {l : List Sw} (h : RingOk n l) {node t : Int} (hn : nodB n node = true) (ht : waitB t = true) (hf : filB l node = false) (k : Nat) : RingOk n (l.set k ⟨node, true, node, t⟩) := by
 refine ⟨fun x hx => ?_, ?_⟩
 ·rcases List.mem_or_eq_of_mem_set hx with hx | rfl
  ·exact h.each x hx
  ·exact ⟨hn, hn, ht, fun e => by cases e⟩
 ·rw [List.pairwise_iff_getElem]
  intro i j hi hj hij f1 f2
  rw [List.length_set] at hi hj
  rw [List.getElem_set] at f1 ⊢
  rw [List.getElem_set] at f2 ⊢
  have no := filB_no.1 hf
  by_cases c1 : k = i
  ·rw [if_pos c1]
   rw [if_neg (by omega)] at f2 ⊢
   exact fun e => no _ (List.getElem_mem _) f2 e.symm
  ·rw [if_neg c1] at f1 ⊢
   by_cases c2 : k = j
   ·rw [if_pos c2]
    exact no _ (List.getElem_mem _) f1
   ·rw [if_neg c2] at f2 ⊢
    exact List.pairwise_iff_getElem.1 h.uni i j hi hj hij f1 f2
theorem RingOk.told {n m : Int} {l : List Sw} (h : RingOk m l) {x : Sw} (hx : x ∈ l) (fx : x.fu = true) : x.nd ∈ backL n l ↔ retS n x = true := by
 rw [mem_backL]
 constructor
 ·rintro ⟨y, hy, h1, h2⟩
  have fy : y.fu = true := by unfold retS at h1; simp at h1; exact h1.1
  rwa [← h.one hy hx fy fx h2]
 ·intro h1
  exact ⟨x, hx, h1, rfl⟩
end Go.Proofs.YtcegjehoejgofaaGreat
namespace Go.Proofs.YtcegjehoejgofaaGreat
open Go.ChangeShapes Go.WideShapes Go.ChangeAt Go.RowKit Go.Joins
structure Dd where
 nd : Int
 kd : Int
 ad : Int
 vl : Int
abbrev Dd.cells (d : Dd) : List Value := [.int .i64 d.nd, .int .i64 d.kd, .int .i64 d.ad, .int .u64 d.vl]
abbrev Dd.arr (d : Dd) : Array Value := #[.int .i64 d.nd, .int .i64 d.kd, .int .i64 d.ad, .int .u64 d.vl]
abbrev Dd.val (d : Dd) : Value := .agg d.arr
def setsB (k : Int) : Bool := k == 2 || k == 3
def tellsB (k : Int) : Bool := k == 1 || k == 3
def deedE (d : Dd) : Int :=
 if d.nd < 0 ∨ 7 < d.nd then 4 else if d.kd < 1 ∨ 4 < d.kd then 1 else if d.ad < 0 ∨ 63 < d.ad then 4 else if setsB d.kd = false ∧ d.vl ≠ 0 then 3 else 0
theorem deedE_ok {d : Dd} (h : deedE d = 0) : (0 ≤ d.nd ∧ d.nd < 8) ∧ (1 ≤ d.kd ∧ d.kd ≤ 4) ∧ (∃ i : Nat, i < 64 ∧ d.ad = i) := by
 unfold deedE at h
 repeat' split at h
 all_goals first | (exfalso; revert h; decide) | skip
 exact ⟨by omega, by omega, d.ad.toNat, by omega, by omega⟩
theorem sets_any (k : Int) (w : World) : Calls Tryz.prog 57 #[.int .i64 k] w fun e w' => e = .returned (.bool (setsB k)) ∧ w = w' := by
 unfold setsB
 cases h2 : (k == 2) <;> cases h3 : (k == 3) <;>
 ·go_enter Tryz.func57, Tryz.ntmps57
  go_wp2
  go_ret
  exact ⟨rfl, rfl⟩
theorem tells_any (k : Int) (w : World) : Calls Tryz.prog 59 #[.int .i64 k] w fun e w' => e = .returned (.bool (tellsB k)) ∧ w = w' := by
 unfold tellsB
 cases h2 : (k == 1) <;> cases h3 : (k == 3) <;>
 ·go_enter Tryz.func59, Tryz.ntmps59
  go_wp2
  go_ret
  exact ⟨rfl, rfl⟩
theorem isKind_yes (k : Int) (w : World) (h1 : 1 ≤ k) (h2 : k ≤ 4) : Calls Tryz.prog 90 #[.int .i64 k] w fun e w' => e = .returned (.bool true) ∧ w = w' := by
 go_enter Tryz.func90, Tryz.ntmps90
 go_wp2
 go_ret
 exact ⟨rfl, rfl⟩
theorem isKind_no (k : Int) (w : World) (h : k < 1 ∨ 4 < k) : Calls Tryz.prog 90 #[.int .i64 k] w fun e w' => e = .returned (.bool false) ∧ w = w' := by
 by_cases h0 : k < 1
 ·have h1 : decide (1 ≤ k) = false := by simp; omega
  clear h h0
  go_enter Tryz.func90, Tryz.ntmps90
  go_wp2
  go_ret
  exact ⟨rfl, rfl⟩
 ·have h1 : 1 ≤ k := by omega
  have h2 : decide (k ≤ 4) = false := by simp; omega
  clear h h0
  go_enter Tryz.func90, Tryz.ntmps90
  go_wp2
  go_ret
  exact ⟨rfl, rfl⟩
theorem atomicRight_any (d : Dd) (w : World) : Calls Tryz.prog 55 #[d.val] w fun e w' => e = .returned (.int .i64 (deedE d)) ∧ Below w.heap.size w w' := by
 obtain ⟨n, k, a, v⟩ := d
 have low := Below.refl w.heap.size w
 have db := Box.new w 49 #[.int .i64 n, .int .i64 k, .int .i64 a, .int .u64 v]
 replace low := gAlloc low (.cells #[.int .i64 n, .int .i64 k, .int .i64 a, .int .u64 v] 49)
 by_cases h0 : n < 0 ∨ 7 < n
 ·rw [show deedE ⟨n, k, a, v⟩ = 4 by simp [deedE, h0]]
  by_cases h1 : n < 0
  ·clear h0
   go_enter Tryz.func55, Tryz.ntmps55
   have db_0 := db.at_ 0 rfl
   have db_1 := db.at_ 1 rfl
   have db_2 := db.at_ 2 rfl
   have db_3 := db.at_ 3 rfl
   go_wp2_with fail
   go_ret
   exact ⟨rfl, low⟩
  ·have h2 : 0 ≤ n := by omega
   have h3 : 8 ≤ n := by omega
   clear h0 h1
   go_enter Tryz.func55, Tryz.ntmps55
   have db_0 := db.at_ 0 rfl
   have db_1 := db.at_ 1 rfl
   have db_2 := db.at_ 2 rfl
   have db_3 := db.at_ 3 rfl
   go_wp2_with fail
   go_ret
   exact ⟨rfl, low⟩
 have n0 : 0 ≤ n := by omega
 have n1 : n < 8 := by omega
 by_cases h1 : k < 1 ∨ 4 < k
 ·rw [show deedE ⟨n, k, a, v⟩ = 1 by simp [deedE, h0, h1]]
  have B := Lib.hid fun W => isKind_no k W h1
  clear h0 h1
  go_enter Tryz.func55, Tryz.ntmps55
  have db_0 := db.at_ 0 rfl
  have db_1 := db.at_ 1 rfl
  have db_2 := db.at_ 2 rfl
  have db_3 := db.at_ 3 rfl
  go_wp2_with fail
  (with_reducible refine (B.out _).mono ?_); rintro e w' ⟨rfl, rfl⟩
  go_wp2_with fail
  go_ret
  exact ⟨rfl, low⟩
 have B := Lib.hid fun W => isKind_yes k W (by omega) (by omega)
 by_cases h2 : a < 0 ∨ 63 < a
 ·rw [show deedE ⟨n, k, a, v⟩ = 4 by simp [deedE, h0, h1, h2]]
  have L := Lib.hid fun W => line_out a W h2
  clear h0 h1 h2
  go_enter Tryz.func55, Tryz.ntmps55
  have db_0 := db.at_ 0 rfl
  have db_1 := db.at_ 1 rfl
  have db_2 := db.at_ 2 rfl
  have db_3 := db.at_ 3 rfl
  go_wp2_with fail
  (with_reducible refine (B.out _).mono ?_); rintro e w' ⟨rfl, rfl⟩
  go_wp2_with fail
  (with_reducible refine (L.out _).mono ?_); rintro e w' ⟨rfl, rfl⟩
  go_wp2_with fail
  go_ret
  exact ⟨rfl, low⟩
 have L := Lib.hid fun W => line_ok a W (by omega) (by omega)
 have S := Lib.hid fun W => sets_any k W
 have E := Lib.hid (show deedE ⟨n, k, a, v⟩ = if setsB k = false ∧ v ≠ 0 then 3 else 0 by simp [deedE, h0, h1, h2])
 generalize deedE ⟨n, k, a, v⟩ = e' at *
 generalize a / 4 = q at *
 generalize a % 4 = r at *
 clear h0 h1 h2
 cases hs : setsB k
 ·rw [hs] at S E
  cases hv : (v != 0)
  ·have E2 := Lib.hid (show e' = 0 by rw [E.out, if_neg]; simpa using hv)
   clear E
   go_enter Tryz.func55, Tryz.ntmps55
   have db_0 := db.at_ 0 rfl
   have db_1 := db.at_ 1 rfl
   have db_2 := db.at_ 2 rfl
   have db_3 := db.at_ 3 rfl
   go_wp2_with fail
   (with_reducible refine (B.out _).mono ?_); rintro e w' ⟨rfl, rfl⟩
   go_wp2_with fail
   (with_reducible refine (L.out _).mono ?_); rintro e w' ⟨rfl, rfl⟩
   go_wp2_with fail
   (with_reducible refine (S.out _).mono ?_); rintro e w' ⟨rfl, rfl⟩
   go_wp2_with fail
   go_ret
   exact ⟨by rw [E2.out]; rfl, low⟩
  ·have E2 := Lib.hid (show e' = 3 by rw [E.out, if_pos]; simpa using hv)
   clear E
   go_enter Tryz.func55, Tryz.ntmps55
   have db_0 := db.at_ 0 rfl
   have db_1 := db.at_ 1 rfl
   have db_2 := db.at_ 2 rfl
   have db_3 := db.at_ 3 rfl
   go_wp2_with fail
   (with_reducible refine (B.out _).mono ?_); rintro e w' ⟨rfl, rfl⟩
   go_wp2_with fail
   (with_reducible refine (L.out _).mono ?_); rintro e w' ⟨rfl, rfl⟩
   go_wp2_with fail
   (with_reducible refine (S.out _).mono ?_); rintro e w' ⟨rfl, rfl⟩
   go_wp2_with fail
   go_ret
   exact ⟨by rw [E2.out]; rfl, low⟩
 ·rw [hs] at S E
  have E2 := Lib.hid (show e' = 0 by rw [E.out, if_neg]; simp)
  clear E
  go_enter Tryz.func55, Tryz.ntmps55
  have db_0 := db.at_ 0 rfl
  have db_1 := db.at_ 1 rfl
  have db_2 := db.at_ 2 rfl
  have db_3 := db.at_ 3 rfl
  go_wp2_with fail
  (with_reducible refine (B.out _).mono ?_); rintro e w' ⟨rfl, rfl⟩
  go_wp2_with fail
  (with_reducible refine (L.out _).mono ?_); rintro e w' ⟨rfl, rfl⟩
  go_wp2_with fail
  (with_reducible refine (S.out _).mono ?_); rintro e w' ⟨rfl, rfl⟩
  go_wp2_with fail
  go_ret
  exact ⟨by rw [E2.out]; rfl, low⟩
def deedsC (l : List Dd) : List Value := l.flatMap Dd.cells
theorem deedsC_length (l : List Dd) : (deedsC l).length = l.length * 4 := by
 induction l with
 | nil => rfl
 | cons x r ih => simp only [deedsC, List.flatMap_cons, List.length_append, List.length_cons] at *; rw [ih]; simp; omega
theorem deedsC_at {l : List Dd} {k : Nat} {x : Dd} (h : l[k]? = some x) (j : Nat) (hj : j < 4) : (deedsC l)[k * 4 + j]? = x.cells[j]? := by
 induction l generalizing k with
 | nil => simp at h
 | cons y r ih =>
  have hy : y.cells.length = 4 := rfl
  simp only [deedsC, List.flatMap_cons] at *
  cases k with
  | zero =>
   simp at h
   subst h
   rw [List.getElem?_append_left (by omega)]
   simp
  | succ k =>
   rw [List.getElem?_append_right (by omega), hy]
   have : (k + 1) * 4 + j - 4 = k * 4 + j := by omega
   rw [this]
   exact ih (by simpa using h)
structure Ds (w : World) (v : Value) (l : List Dd) : Prop where
 sl : Sl w w.heap.size 4 v l.length (deedsC l)
theorem Ds.call {w w' : World} {v : Value} {l : List Dd} (h : Ds w v l) (hb : Below w.heap.size w w') : Ds w' v l := ⟨Sl.call h.sl hb⟩
def DeedAt (w : World) (b o : Nat) (x : Dd) : Prop :=
 w.cell? ⟨b, o, none⟩ = some (.int .i64 x.nd) ∧ w.cell? ⟨b, o + 1, none⟩ = some (.int .i64 x.kd) ∧ w.cell? ⟨b, o + 2, none⟩ = some (.int .i64 x.ad) ∧ w.cell? ⟨b, o + 3, none⟩ = some (.int .u64 x.vl)
theorem deedAt_of {w w' : World} {b o B : Nat} {l : List Dd} {k : Nat} {x : Dd} (hc : ∀ j u, (deedsC l)[j]? = some u → w.cell? ⟨b, o + j, none⟩ = some u) (hb : b < B) (low : Below B w w') (h : l[k]? = some x) : DeedAt w' b (o + k * 4) x := by
 have f : ∀ j u, j < 4 → x.cells[j]? = some u → w'.cell? ⟨b, o + k * 4 + j, none⟩ = some u := by
  intro j u hj hu
  refine (low.cell (p := ⟨b, o + k * 4 + j, none⟩) hb).trans ?_
  rw [Nat.add_assoc]
  exact hc _ _ ((deedsC_at h j hj).trans hu)
 exact ⟨f 0 _ (by omega) rfl, f 1 _ (by omega) rfl, f 2 _ (by omega) rfl, f 3 _ (by omega) rfl⟩
theorem deed_of {cs : List Value} (h : AllOk [.int .i64, .int .i64, .int .i64, .int .u64] cs) : ∃ x : Dd, cs = x.cells := by
 obtain ⟨_, _, rfl, ⟨a, rfl, _⟩, h1⟩ := h.cons_
 obtain ⟨_, _, rfl, ⟨b, rfl, _⟩, h2⟩ := h1.cons_
 obtain ⟨_, _, rfl, ⟨c, rfl, _⟩, h3⟩ := h2.cons_
 obtain ⟨_, _, rfl, ⟨d, rfl, _⟩, h4⟩ := h3.cons_
 obtain rfl := h4.nil_
 exact ⟨⟨a, b, c, d⟩, rfl⟩
theorem deeds_of : ∀ {css : List (List Value)}, (∀ c ∈ css, ∃ x : Dd, c = x.cells) → ∃ l : List Dd, l.length = css.length ∧ css.flatten = deedsC l
 | [], _ => ⟨[], rfl, rfl⟩
 | c :: r, h => by
  obtain ⟨x, rfl⟩ := h c (by simp)
  obtain ⟨l, h1, h2⟩ := deeds_of (css := r) (fun d hd => h d (by simp [hd]))
  exact ⟨x :: l, by simp [h1], by simp only [List.flatten_cons, deedsC, List.flatMap_cons] at *; rw [h2]⟩
def IsDeeds (w : World) (v : Value) : Prop := ∃ l, Ds w v l
section
variable {H : Type} {enc : TypeId × Value → H} {W : World} {base : Nat} {v : Value} {d : DataW H} {p : List MemPlace}
theorem cells_deed : Tryz.prog.cellsOf 49 = 4 := by kernel_rfl
end
end Go.Proofs.YtcegjehoejgofaaGreat
namespace Go.Proofs.YtcegjehoejgofaaGreat
open Go.ChangeShapes Go.WideShapes Go.ChangeAt Go.RowKit Go.Joins
structure Ps (w : World) (v : Value) (p : List (List Dd)) : Prop where
 ex : ∃ A c, v = .slice A p.length c ∧ p.length ≤ c ∧ c ≤ maxLen ∧ (0 < p.length → ∃ b o, A = some ⟨b, o, none⟩ ∧ b < w.heap.size ∧ ∀ (k : Nat) l, p[k]? = some l → ∃ A' c', w.cell? ⟨b, o + k, none⟩ = some (.slice A' l.length c') ∧ Ds w (.slice A' l.length c') l)
theorem Ps.call {w w' : World} {v : Value} {p : List (List Dd)} (h : Ps w v p) (hb : Below w.heap.size w w') : Ps w' v p := by
 obtain ⟨A, c, e, h1, h2, h3⟩ := h
 refine ⟨A, c, e, h1, h2, fun h0 => ?_⟩
 obtain ⟨b, o, eA, hlt, hl⟩ := h3 h0
 refine ⟨b, o, eA, Nat.lt_of_lt_of_le hlt hb.size, fun k ss hk => ?_⟩
 obtain ⟨A', c', k1, k2⟩ := hl k ss hk
 exact ⟨A', c', (hb.cell (p := ⟨b, o + k, none⟩) hlt).trans k1, k2.call hb⟩
theorem Ps.shape {w : World} {v : Value} {p : List (List Dd)} (h : Ps w v p) : ∃ A c, v = .slice A p.length c := by
 obtain ⟨A, c, e, _⟩ := h.ex
 exact ⟨A, c, e⟩
def IsProgs (w : World) (v : Value) : Prop := ∃ p, Ps w v p
def ownE (k : Int) : List Dd → Int
 | [] => 0
 | d :: r => if deedE d ≠ 0 then deedE d else if d.nd ≠ k then 3 else ownE k r
def progE (k : Int) (l : List Dd) : Int := if 20 < l.length then 2 else ownE k l
def listE : Int → List (List Dd) → Int
 | _, [] => 0
 | k, l :: r => if progE k l ≠ 0 then progE k l else listE (k + 1) r
def progsE (n s y b : Int) (p : List (List Dd)) : Int := if cfgB n s y b = false then 4 else if (p.length : Int) ≠ n then 3 else listE 0 p
theorem ownE_at {k : Int} {l : List Dd} {j : Nat} {d : Dd} (h : l[j]? = some d) : ownE k (l.drop j) = if deedE d ≠ 0 then deedE d else if d.nd ≠ k then 3 else ownE k (l.drop (j + 1)) := by
 obtain ⟨hk, rfl⟩ := List.getElem?_eq_some_iff.1 h
 rw [List.drop_eq_getElem_cons hk, ownE]
theorem listE_at {p : List (List Dd)} {j : Nat} {l : List Dd} {k : Int} (h : p[j]? = some l) : listE k (p.drop j) = if progE k l ≠ 0 then progE k l else listE (k + 1) (p.drop (j + 1)) := by
 obtain ⟨hk, rfl⟩ := List.getElem?_eq_some_iff.1 h
 rw [List.drop_eq_getElem_cons hk, listE]
theorem ownE_zero {k : Int} : ∀ {l : List Dd}, ownE k l = 0 ↔ ∀ d ∈ l, deedE d = 0 ∧ d.nd = k
 | [] => by simp [ownE]
 | d :: r => by
  have ih := ownE_zero (k := k) (l := r)
  unfold ownE
  by_cases h1 : deedE d = 0
  ·rw [if_neg (by simpa using h1)]
   by_cases h2 : d.nd = k
   ·rw [if_neg (by simpa using h2), ih]
    constructor
    ·intro h e he
     rcases List.mem_cons.1 he with rfl | he
     ·exact ⟨h1, h2⟩
     ·exact h e he
    ·intro h e he
     exact h e (by simp [he])
   ·rw [if_pos h2]
    constructor
    ·intro h; cases h
    ·intro h; exact absurd (h d (by simp)).2 h2
  ·rw [if_pos h1]
   constructor
   ·intro h; exact absurd h h1
   ·intro h; exact absurd (h d (by simp)).1 h1
theorem listE_zero : ∀ {p : List (List Dd)} {k : Int}, listE k p = 0 ↔ ∀ (j : Nat) l, p[j]? = some l → l.length ≤ 20 ∧ ∀ d ∈ l, deedE d = 0 ∧ d.nd = k + j
 | [], k => by simp [listE]
 | l :: r, k => by
  have ih := listE_zero (p := r) (k := k + 1)
  unfold listE
  have hp : progE k l = 0 ↔ l.length ≤ 20 ∧ ∀ d ∈ l, deedE d = 0 ∧ d.nd = k := by
   unfold progE
   by_cases c : 20 < l.length
   ·rw [if_pos c]
    constructor
    ·intro h; cases h
    ·intro h; omega
   ·rw [if_neg c, ownE_zero]
    exact ⟨fun h => ⟨by omega, h⟩, fun h => h.2⟩
  by_cases h1 : progE k l = 0
  ·rw [if_neg (by simpa using h1), ih]
   constructor
   ·intro h j m hm
    cases j with
    | zero =>
     simp at hm
     subst hm
     have := hp.1 h1
     simpa using this
    | succ j =>
     have := h j m (by simpa using hm)
     refine ⟨this.1, fun d hd => ?_⟩
     have := this.2 d hd
     exact ⟨this.1, by rw [this.2]; push_cast; omega⟩
   ·intro h j m hm
    have := h (j + 1) m (by simpa using hm)
    refine ⟨this.1, fun d hd => ?_⟩
    have := this.2 d hd
    exact ⟨this.1, by rw [this.2]; push_cast; omega⟩
  ·rw [if_pos h1]
   constructor
   ·intro h; exact absurd h h1
   ·intro h
    have := h 0 l (by simp)
    exact absurd (hp.2 (by simpa using this)) h1
theorem lists_of {W : World} : ∀ {css : List (List Value)}, (∀ c ∈ css, ∃ s, c = [s] ∧ IsDeeds W s) →
  ∃ p : List (List Dd), p.length = css.length ∧ ∀ (k : Nat) l, p[k]? = some l → ∃ A c, css[k]? = some [.slice A l.length c] ∧ Ds W (.slice A l.length c) l
 | [], _ => ⟨[], rfl, fun k t h => by simp at h⟩
 | c :: r, h => by
  obtain ⟨s, rfl, l, ds⟩ := h c (by simp)
  obtain ⟨p, h1, h2⟩ := lists_of (css := r) (fun d hd => h d (by simp [hd]))
  obtain ⟨A, cp, rfl⟩ : ∃ A c, s = .slice A l.length c := by obtain ⟨_, A, c, e, _⟩ := ds; exact ⟨A, c, e⟩
  refine ⟨l :: p, by simp [h1], fun k t hk => ?_⟩
  cases k with
  | zero =>
   simp only [List.getElem?_cons_zero, Option.some.injEq] at hk
   subst hk
   exact ⟨A, cp, rfl, ds⟩
  | succ k =>
   obtain ⟨A', c2, h3, h4⟩ := h2 k t (by simpa using hk)
   exact ⟨A', c2, by simpa using h3, h4⟩
theorem single_at : ∀ {css : List (List Value)} {k : Nat} {u : Value}, (∀ c ∈ css, c.length = 1) → css[k]? = some [u] → css.flatten[k]? = some u
 | [], k, u, _, h => by simp at h
 | d :: r, 0, u, _, h => by
  simp only [List.getElem?_cons_zero, Option.some.injEq] at h
  subst h
  rfl
 | d :: r, k + 1, u, hl, h => by
  have hd := hl d (by simp)
  rw [List.flatten_cons, List.getElem?_append_right (by omega), hd, Nat.add_sub_cancel]
  exact single_at (fun c hc => hl c (by simp [hc])) (by simpa using h)
section
variable {H : Type} {enc : TypeId × Value → H} {W : World} {base : Nat} {v : Value} {d : DataW H} {q : List MemPlace}
theorem cells_list : Tryz.prog.cellsOf 85 = 1 := by kernel_rfl
set_option maxRecDepth 10000 in
theorem openProgs (hv : Value.okWide Tryz.prog W .any base 34 v) (h : DataW.Trod enc Tryz.prog W 0 (fun _ => true) true 34 v d q) : IsProgs W v := by
 obtain ⟨css, sl, hcs⟩ := slice_value Tryz.underlying34 (by rw [cells_list]; omega) hv h
 have one : ∀ c ∈ css, ∃ s, c = [s] ∧ IsDeeds W s := fun c hc => by
  obtain ⟨_, m, y, hy⟩ := hcs c hc
  obtain ⟨s, css', e, sl', h'⟩ := slice_open Tryz.underlying85 (by rw [cells_deed]; omega) hy
  obtain ⟨l, l1, l2⟩ := deeds_of (css := css') (fun c hc => by
   obtain ⟨_, m, y, hy⟩ := h' c hc
   exact deed_of (flat_open 3 49 _ (by kernel_rfl) m c y hy))
  rw [cells_deed, l2, ← l1] at sl'
  exact ⟨s, e, l, ⟨sl'⟩⟩
 obtain ⟨p, h1, h2⟩ := lists_of one
 have hl : ∀ c ∈ css, c.length = 1 := fun c hc => by
  obtain ⟨s, rfl, _⟩ := one c hc
  rfl
 rw [cells_list] at sl
 obtain ⟨_, A, cp, rfl, g1, g2, g3⟩ := sl
 refine ⟨p, A, cp, by rw [h1], by omega, g2, fun h0 => ?_⟩
 obtain ⟨b, o, eA, hb, hc⟩ := g3 (by omega)
 refine ⟨b, o, eA, hb, fun k l hk => ?_⟩
 obtain ⟨A', c', h3, h4⟩ := h2 k l hk
 exact ⟨A', c', hc k _ (single_at hl h3), h4⟩
end
end Go.Proofs.YtcegjehoejgofaaGreat
namespace Go.Proofs.YtcegjehoejgofaaGreat
open Go.ChangeShapes Go.WideShapes Go.ChangeAt Go.RowKit Go.Joins
theorem progsE_zero {n s y b : Int} {p : List (List Dd)} (h : progsE n s y b p = 0) : cfgB n s y b = true ∧ (p.length : Int) = n ∧ listE 0 p = 0 := by
 unfold progsE at h
 by_cases h1 : cfgB n s y b = false
 ·rw [if_pos h1] at h; cases h
 ·rw [if_neg h1] at h
  by_cases h2 : (p.length : Int) ≠ n
  ·rw [if_pos h2] at h; cases h
  ·rw [if_neg h2] at h
   exact ⟨by simpa using h1, by omega, h⟩
end Go.Proofs.YtcegjehoejgofaaGreat
