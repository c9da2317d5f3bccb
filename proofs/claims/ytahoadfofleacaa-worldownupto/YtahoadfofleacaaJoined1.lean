/-
Proved: what the texts below say at the head of each. No condition but theirs.
-/
import Derived.Test.YtahoadfofleacaaRows
import Derived.WalkKit
import Derived.ProofKit
import Derived.OpenShut
import Derived.ChangeOld
import Derived.Below
import Derived.ChangeSame
import Derived.Lib.SmallJoins
import Derived.Lib.Hide
import Derived.Deep.QuietTactic
import Derived.BigQuiet
import Derived.LoopN
import Derived.Deep.Onto
import Derived.Deep.AppendLies
import Derived.Deep.Slices
import Derived.ChangeKeysEq
import Derived.Deep.MidRow
import Derived.Deep.RegionHeld3
/- Law: Proved: a call that returns true and changes nothing that was there before it meets the row of a law. Conditions: the law has one result, a bool, and takes plain data. -/
namespace Go.Proofs.Ytahoadfofleacaa
open Go.ChangeShapes Go.WideShapes Go.ChangeAt Go.RowKit

theorem own : ownKnob Try.prog.godebug = none := by kernel_rfl
theorem laidOut : laidOutB Try.prog = true := by kernel_rfl

/-! Steps that keep all that was there: a new block, draws, a call that itself keeps all, a store into a new block. -/
theorem gAlloc {a w : World} (h : Below a.heap.size a w) (o : Obj) : Below a.heap.size a (w.alloc o) := h.alloc h.size o
theorem gDrewN {a w : World} (h : Below a.heap.size a w) (n : Nat) : Below a.heap.size a (w.drewN n) := ⟨h.os, h.tape, h.output, h.size, h.block⟩
theorem gCall {a w w' : World} (h : Below a.heap.size a w) (k : Below w.heap.size w w') : Below a.heap.size a w' := h.trans (k.mono h.size)
theorem gSet {a w : World} (h : Below a.heap.size a w) {p : Addr} (hp : a.heap.size ≤ p.block) (u : Value) : Below a.heap.size a (w.setCell p u) := h.setCell hp u

/-- Behind a call that keeps all that was there, old cells and their marks read as before. -/
theorem bcell {W w1 : World} (hb : Below W.heap.size W w1) : (∀ b o, b < W.heap.size → w1.cell? ⟨b, o, none⟩ = W.cell? ⟨b, o, none⟩) ∧ (∀ b o, b < W.heap.size → w1.frozen? ⟨b, o, none⟩ = W.frozen? ⟨b, o, none⟩) :=
  ⟨fun b o h => hb.cell (p := ⟨b, o, none⟩) h, fun b o h => hb.frozen (p := ⟨b, o, none⟩) h⟩

/-- The types of a law's arguments can be read again after the call. -/
def readable (P : Program) (ts : List TypeId) : Bool := ts.all fun t => P.readableRec t && decide (t < P.types.size)

theorem readable_cons {P : Program} {t : TypeId} {ts : List TypeId} (h : readable P (t :: ts) = true) : (P.readableRec t = true ∧ t < P.types.size) ∧ readable P ts = true := by
  simpa [readable] using h

theorem trodAll_below {H : Type} {enc : TypeId × Value → H} {P : Program} (hl : laidOutB P = true) {W W' : World} (hb : Below W.heap.size W W') :
    ∀ {ts : List TypeId} {vs : List Value} {ds : List (DataW H)} {ps : List MemPlace}, readable P ts = true →
      DataW.TrodAll enc P W 0 (fun _ => true) true ts vs ds ps → DataW.TrodAll enc P W' 0 (fun b => decide (b < W.heap.size)) true ts vs ds ps
  | [], [], [], _, _, h => h
  | [], [], _ :: _, _, _, h => h.elim
  | [], _ :: _, _, _, _, h => h.elim
  | _ :: _, [], _, _, _, h => h.elim
  | _ :: _, _ :: _, [], _, _, h => h.elim
  | t :: ts, v :: vs, d :: ds, ps, hr, h => by
    obtain ⟨⟨h1, h2⟩, hr'⟩ := readable_cons hr
    obtain ⟨p, q, hd, hq, e⟩ := h
    have lt : ∀ x ∈ p, x.block < W.heap.size := by obtain ⟨m, hm⟩ := hd; exact DataW.trod_lt m _ _ _ hm
    exact ⟨p, q, Below.trod hl h1 h2 hd hb lt, trodAll_below hl hb hr' hq, e⟩

/-- The last step of every law. -/
theorem law_post {H : Type} {enc : TypeId × Value → H} {f : Func} {s : ChangeSpec} {W W' : World} {args : Array Value} {ds gs : List (DataW H)} {before : List MemPlace}
    (hr : readable Try.prog f.params.toList = true) (ht : f.resultTypes = #[4]) (hv : s.vars = [])
    (hW : DataW.Whole enc Try.prog f.params.toList s.vars false W args.toList ds gs before)
    (hres : (s.fn H (ds ++ gs)).results = [.lit (.bool true)]) (hargs : (s.fn H (ds ++ gs)).args = ds) (hvars : (s.fn H (ds ++ gs)).vars = [])
    (bel : Below W.heap.size W W') : s.post enc Try.prog f false true false false W args (.bool true) W' := by
  have hW' := hW
  obtain ⟨p, q, hA, hV, rfl, hfz, hnd⟩ := hW
  refine ⟨ds, gs, p ++ q, [], p, [], hW', ?_, ?_, ?_, bel.frame _, fun h => by cases h⟩
  · rw [hres, ht]
    exact trodAll_mk1 (shut_bool Try.underlying4 _)
  · rw [hargs]
    exact trodAll_below laidOut bel hr hA
  · rw [hvars, hv]
    rfl

#print axioms law_post
end Go.Proofs.Ytahoadfofleacaa

/- Open: Proved: what is known of an argument that can be read: an integer, a bool, a configuration. Condition: the value reads as data of its type. -/
namespace Go.Proofs.Ytahoadfofleacaa
open Go.ChangeShapes Go.WideShapes Go.ChangeAt Go.RowKit Go.Joins

/-- The bounds of an int. -/
def I64 (a : Int) : Prop := -9223372036854775808 ≤ a ∧ a ≤ 9223372036854775807

def IsInt (v : Value) : Prop := ∃ a, v = .int .i64 a ∧ I64 a

/-- A configuration as a value. -/
abbrev cfg (n s y b : Int) : Value := .agg #[.int .i64 n, .int .i64 s, .int .i64 y, .int .i64 b]

def IsCfg (v : Value) : Prop := ∃ n s y b, v = cfg n s y b ∧ I64 n ∧ I64 s ∧ I64 y ∧ I64 b

/-- A tree as a value. -/
abbrev tree (a b c : Bool) : Value := .agg #[.bool a, .bool b, .bool c]

def IsTree (v : Value) : Prop := ∃ a b c, v = tree a b c

/-- The bounds of a uint64. -/
def U64 (a : Int) : Prop := 0 ≤ a ∧ a ≤ 18446744073709551615

def IsU64 (v : Value) : Prop := ∃ a, v = .int .u64 a ∧ U64 a

/-- A cache line as a value. -/
abbrev line (a b c d : Int) : Value := .agg #[.int .u64 a, .int .u64 b, .int .u64 c, .int .u64 d]

def IsLine (v : Value) : Prop := ∃ a b c d, v = line a b c d ∧ U64 a ∧ U64 b ∧ U64 c ∧ U64 d

def IsStr (v : Value) : Prop := ∃ s : ByteArray, v = .string s ∧ (s.size : Int) ≤ 9223372036854775807

section
variable {H : Type} {enc : TypeId × Value → H} {W : World} {base : Nat} {v : Value} {d : DataW H} {p : List MemPlace}

set_option maxRecDepth 10000 in
theorem openInt (hv : Value.okWide Try.prog W .any base 3 v) (h : DataW.Trod enc Try.prog W 0 (fun _ => true) true 3 v d p) : IsInt v := by
  obtain ⟨a, rfl, _, _, wa⟩ := open_int Try.underlying3 hv h
  exact ⟨a, rfl, bounds_i64 wa⟩

theorem cells_cfg : Try.prog.cellsOf 23 = 4 := by kernel_rfl

set_option maxRecDepth 10000 in
theorem openCfg (hv : Value.okWide Try.prog W .any base 23 v) (h : DataW.Trod enc Try.prog W 0 (fun _ => true) true 23 v d p) : IsCfg v := by
  obtain ⟨c0, c1, c2, c3, y0, y1, y2, y3, m, rfl, _, _, h0, h1, h2, h3⟩ := open_agg4 Try.underlying23 (by kernel_rfl) cells_cfg hv h
  obtain ⟨a0, e0, _, w0⟩ := DataW.trod_int Try.underlying3 h0
  obtain ⟨a1, e1, _, w1⟩ := DataW.trod_int Try.underlying3 h1
  obtain ⟨a2, e2, _, w2⟩ := DataW.trod_int Try.underlying3 h2
  obtain ⟨a3, e3, _, w3⟩ := DataW.trod_int Try.underlying3 h3
  simp only [List.cons.injEq, and_true] at e0 e1 e2 e3
  subst e0 e1 e2 e3
  exact ⟨a0, a1, a2, a3, rfl, bounds_i64 w0, bounds_i64 w1, bounds_i64 w2, bounds_i64 w3⟩

theorem cells_tree : Try.prog.cellsOf 76 = 3 := by kernel_rfl

set_option maxRecDepth 10000 in
theorem openTree (hv : Value.okWide Try.prog W .any base 76 v) (h : DataW.Trod enc Try.prog W 0 (fun _ => true) true 76 v d p) : IsTree v := by
  obtain ⟨c0, c1, c2, y0, y1, y2, m, rfl, _, _, h0, h1, h2⟩ := open_agg3 Try.underlying76 (by kernel_rfl) cells_tree hv h
  obtain ⟨a0, e0, _⟩ := DataW.trod_bool Try.underlying4 h0
  obtain ⟨a1, e1, _⟩ := DataW.trod_bool Try.underlying4 h1
  obtain ⟨a2, e2, _⟩ := DataW.trod_bool Try.underlying4 h2
  simp only [List.cons.injEq, and_true] at e0 e1 e2
  subst e0 e1 e2
  exact ⟨a0, a1, a2, rfl⟩
theorem bounds_u64 {a : Int} (h : (Lit.int .u64 a).wf = true) : U64 a := by
  simp [Lit.wf, IntKind.min, IntKind.max, IntKind.bits, IntKind.signed] at h
  exact ⟨by omega, by omega⟩

set_option maxRecDepth 10000 in
theorem openU64 (hv : Value.okWide Try.prog W .any base 25 v) (h : DataW.Trod enc Try.prog W 0 (fun _ => true) true 25 v d p) : IsU64 v := by
  obtain ⟨a, rfl, _, _, wa⟩ := open_int Try.underlying25 hv h
  exact ⟨a, rfl, bounds_u64 wa⟩
end
end Go.Proofs.Ytahoadfofleacaa

/- State: Proved: what each function of package state returns, for every argument; none of them changes anything. No condition. -/
namespace Go.Proofs.Ytahoadfofleacaa
open Go.ChangeShapes Go.WideShapes Go.ChangeAt Go.RowKit Go.Joins

/-- Is it a state? -/
def stB (s : Int) : Bool := decide (0 ≤ s ∧ s ≤ 4)
/-- May it read, may it write, does it own? -/
def rdB (s : Int) : Bool := decide (1 ≤ s ∧ s ≤ 4)
def wrB (s : Int) : Bool := decide (s = 2 ∨ s = 4)
def owB (s : Int) : Bool := decide (s = 3 ∨ s = 4)
/-- Leaves it room for others? -/
def shB (s : Int) : Bool := decide (s = 1 ∨ s = 3)
/-- May they be beside each other? -/
def bsB (s t : Int) : Bool := decide ((0 ≤ s ∧ s ≤ 4) ∧ (0 ≤ t ∧ t ≤ 4) ∧ (s = 0 ∨ t = 0 ∨ (s = 1 ∧ t = 1) ∨ (s = 1 ∧ t = 3) ∨ (s = 3 ∧ t = 1)))
/-- The state after an operation, here and elsewhere, and the error. -/
def loS (s : Int) (alone : Bool) : Int := if rdB s = true then s else if alone = true then 2 else 1
def saS (s : Int) : Int := if s = 2 then 1 else if s = 4 then 3 else s
def ownS (s k : Int) (alone : Bool) : Int := if stB s = true then (if k = 1 then loS s alone else if k = 2 ∨ k = 3 then 4 else 0) else 0
def otS (s k : Int) : Int := if stB s = true then (if k = 1 then saS s else if k = 4 then s else 0) else 0
def stE (s k : Int) : Int := if stB s = true ∧ 1 ≤ k ∧ k ≤ 4 then 0 else 1

theorem five (s : Int) : (s = 0 ∨ s = 1 ∨ s = 2 ∨ s = 3 ∨ s = 4) ∨ s < 0 ∨ (0 ≤ s ∧ 4 < s) := by omega

theorem stB_bad {s : Int} (h : s < 0 ∨ (0 ≤ s ∧ 4 < s)) : stB s = false := decide_eq_false (by omega)

section
variable {H : Type} {enc : TypeId × Value → H} {W : World} {base : Nat} {v : Value} {d : DataW H} {p : List MemPlace}

set_option maxRecDepth 10000 in
theorem openState (hv : Value.okWide Try.prog W .any base 49 v) (h : DataW.Trod enc Try.prog W 0 (fun _ => true) true 49 v d p) : IsInt v := by
  obtain ⟨a, rfl, _, _, wa⟩ := open_int Try.underlying49 hv h
  exact ⟨a, rfl, bounds_i64 wa⟩
set_option maxRecDepth 10000 in
theorem openKind (hv : Value.okWide Try.prog W .any base 32 v) (h : DataW.Trod enc Try.prog W 0 (fun _ => true) true 32 v d p) : IsInt v := by
  obtain ⟨a, rfl, _, _, wa⟩ := open_int Try.underlying32 hv h
  exact ⟨a, rfl, bounds_i64 wa⟩
end

theorem isState_any (s : Int) (w : World) :
    Calls Try.prog 45 #[.int .i64 s] w fun e w' => e = .returned (.bool (stB s)) ∧ w = w' := by
  rcases five s with (rfl | rfl | rfl | rfl | rfl) | h | ⟨h, h'⟩
  rotate_left 5
  · rw [stB_bad (.inl h)]
    have d : decide (0 ≤ s) = false := decide_eq_false (by omega)
    clear h
    go_enter Try.func45, Try.ntmps45
    go_wp2
    go_ret
    exact ⟨rfl, rfl⟩
  · rw [stB_bad (.inr ⟨h, h'⟩)]
    have d1 : decide (0 ≤ s) = true := decide_eq_true (by omega)
    have d : decide (s ≤ 4) = false := decide_eq_false (by omega)
    clear h h'
    go_enter Try.func45, Try.ntmps45
    go_wp2
    go_ret
    exact ⟨rfl, rfl⟩
  all_goals
    go_enter Try.func45, Try.ntmps45
    go_wp2
    go_ret
    exact ⟨rfl, rfl⟩

/-- Which of the numbers is it not? -/
theorem apart (s : Int) (h : s < 0 ∨ (0 ≤ s ∧ 4 < s)) : (s == 0) = false ∧ (s == 1) = false ∧ (s == 2) = false ∧ (s == 3) = false ∧ (s == 4) = false := by
  refine ⟨?_, ?_, ?_, ?_, ?_⟩ <;> simp <;> omega

theorem reads_any (s : Int) (w : World) :
    Calls Try.prog 15 #[.int .i64 s] w fun e w' => e = .returned (.bool (rdB s)) ∧ w = w' := by
  rcases five s with (rfl | rfl | rfl | rfl | rfl) | h
  rotate_left 5
  · have hr : rdB s = false := decide_eq_false (by omega)
    rw [hr]
    have hs := stB_bad h
    clear h hr
    go_enter Try.func15, Try.ntmps15
    go_wp2_with (go_at_call 45; refine (isState_any _ _).mono ?_; rintro e w' ⟨rfl, rfl⟩; rw [hs])
    go_ret
    exact ⟨rfl, rfl⟩
  all_goals
    go_enter Try.func15, Try.ntmps15
    go_wp2
    go_ret
    exact ⟨rfl, rfl⟩

theorem writes_any (s : Int) (w : World) :
    Calls Try.prog 72 #[.int .i64 s] w fun e w' => e = .returned (.bool (wrB s)) ∧ w = w' := by
  rcases five s with (rfl | rfl | rfl | rfl | rfl) | h
  rotate_left 5
  · have hr : wrB s = false := decide_eq_false (by omega)
    rw [hr]
    obtain ⟨_, _, h2, _, h4⟩ := apart s h
    clear h hr
    go_enter Try.func72, Try.ntmps72
    go_wp2
    go_ret
    exact ⟨rfl, rfl⟩
  all_goals
    go_enter Try.func72, Try.ntmps72
    go_wp2
    go_ret
    exact ⟨rfl, rfl⟩

theorem owns_any (s : Int) (w : World) :
    Calls Try.prog 63 #[.int .i64 s] w fun e w' => e = .returned (.bool (owB s)) ∧ w = w' := by
  rcases five s with (rfl | rfl | rfl | rfl | rfl) | h
  rotate_left 5
  · have hr : owB s = false := decide_eq_false (by omega)
    rw [hr]
    obtain ⟨_, _, _, h3, h4⟩ := apart s h
    clear h hr
    go_enter Try.func63, Try.ntmps63
    go_wp2
    go_ret
    exact ⟨rfl, rfl⟩
  all_goals
    go_enter Try.func63, Try.ntmps63
    go_wp2
    go_ret
    exact ⟨rfl, rfl⟩

set_option maxHeartbeats 4000000 in
theorem beside_any (s t : Int) (w : World) :
    Calls Try.prog 89 #[.int .i64 s, .int .i64 t] w fun e w' => e = .returned (.bool (bsB s t)) ∧ w = w' := by
  by_cases hs : s < 0 ∨ (0 ≤ s ∧ 4 < s)
  · have hr : bsB s t = false := decide_eq_false (by omega)
    rw [hr]
    have h := stB_bad hs
    clear hs hr
    go_enter Try.func89, Try.ntmps89
    go_wp2_with (go_at_call 45; refine (isState_any _ _).mono ?_; rintro e w' ⟨rfl, rfl⟩; rw [h])
    go_ret
    exact ⟨rfl, rfl⟩
  have hs' : s = 0 ∨ s = 1 ∨ s = 2 ∨ s = 3 ∨ s = 4 := by omega
  clear hs
  by_cases ht : t < 0 ∨ (0 ≤ t ∧ 4 < t)
  · have hr : bsB s t = false := decide_eq_false (by omega)
    rw [hr]
    have h := stB_bad ht
    have k : stB s = true := decide_eq_true (by omega)
    clear hs' ht hr
    go_enter Try.func89, Try.ntmps89
    go_wp2_with (go_at_call 45; refine (isState_any _ _).mono ?_; rintro e w' ⟨rfl, rfl⟩; first | rw [h] | rw [k])
    go_ret
    exact ⟨rfl, rfl⟩
  have ht' : t = 0 ∨ t = 1 ∨ t = 2 ∨ t = 3 ∨ t = 4 := by omega
  clear ht
  rcases hs' with rfl | rfl | rfl | rfl | rfl <;> rcases ht' with rfl | rfl | rfl | rfl | rfl
  all_goals
    go_enter Try.func89, Try.ntmps89
    go_wp2
    go_ret
    exact ⟨rfl, rfl⟩

theorem loaded_any (s : Int) (a : Bool) (w : World) :
    Calls Try.prog 84 #[.int .i64 s, .bool a] w fun e w' => e = .returned (.int .i64 (loS s a)) ∧ w = w' := by
  unfold loS
  generalize hr : rdB s = b
  cases b <;> cases a
  all_goals
    go_enter Try.func84, Try.ntmps84
    go_wp2_with (go_at_call 15; refine (reads_any _ _).mono ?_; rintro e w' ⟨rfl, rfl⟩; rw [hr])
    go_ret
    exact ⟨rfl, rfl⟩

theorem own_any (s k : Int) (a : Bool) (w : World) :
    Calls Try.prog 60 #[.int .i64 s, .int .i64 k, .bool a] w fun e w' => e = .returned (.tuple #[.int .i64 (ownS s k a), .int .i64 (stE s k)]) ∧ w = w' := by
  have L := Lib.hid fun W => loaded_any s a W
  generalize ho : ownS s k a = o
  generalize he : stE s k = e
  unfold ownS at ho
  unfold stE at he
  generalize loS s a = l at L ho
  generalize hr : stB s = b at ho he
  cases b
  · obtain rfl : 0 = o := by simpa using ho
    obtain rfl : 1 = e := by simpa using he
    clear ho he
    go_enter Try.func60, Try.ntmps60
    go_wp2_with (go_at_call 45; refine (isState_any _ _).mono ?_; rintro e w' ⟨rfl, rfl⟩; rw [hr])
    go_ret2
    exact ⟨rfl, rfl⟩
  by_cases h1 : k = 1
  · subst h1
    obtain rfl : l = o := by simpa using ho
    obtain rfl : 0 = e := by simpa using he
    clear ho he
    go_enter Try.func60, Try.ntmps60
    go_wp2_with (first | (go_at_call 45; refine (isState_any _ _).mono ?_; rintro e w' ⟨rfl, rfl⟩; rw [hr]) | (go_at_call 84; refine (L.out _).mono ?_; rintro e w' ⟨rfl, rfl⟩))
    go_ret2
    exact ⟨rfl, rfl⟩
  by_cases h2 : k = 2 ∨ k = 3 ∨ k = 4
  · rcases h2 with rfl | rfl | rfl
    all_goals
      simp at ho he
      subst ho he
      clear h1
      go_enter Try.func60, Try.ntmps60
      go_wp2_with (go_at_call 45; refine (isState_any _ _).mono ?_; rintro e w' ⟨rfl, rfl⟩; rw [hr])
      go_ret2
      exact ⟨rfl, rfl⟩
  · have e1 : (k == 1) = false := by simp; omega
    have e2 : (k == 2) = false := by simp; omega
    have e3 : (k == 3) = false := by simp; omega
    have e4 : (k == 4) = false := by simp; omega
    obtain rfl : 0 = o := by rw [if_pos rfl, if_neg h1, if_neg (by omega)] at ho; exact ho
    obtain rfl : 1 = e := by rw [if_neg (by omega)] at he; exact he
    clear ho he h1 h2
    go_enter Try.func60, Try.ntmps60
    go_wp2_with (go_at_call 45; refine (isState_any _ _).mono ?_; rintro e w' ⟨rfl, rfl⟩; rw [hr])
    go_ret2
    exact ⟨rfl, rfl⟩

theorem shared_any (s : Int) (w : World) :
    Calls Try.prog 96 #[.int .i64 s] w fun e w' => e = .returned (.int .i64 (saS s)) ∧ w = w' := by
  by_cases h2 : s = 2
  · subst h2
    go_enter Try.func96, Try.ntmps96
    go_wp2
    go_ret
    exact ⟨rfl, rfl⟩
  by_cases h4 : s = 4
  · subst h4
    go_enter Try.func96, Try.ntmps96
    go_wp2
    go_ret
    exact ⟨rfl, rfl⟩
  have e : saS s = s := by unfold saS; rw [if_neg h2, if_neg h4]
  rw [e]
  have e2 : (s == 2) = false := by simpa using h2
  have e4 : (s == 4) = false := by simpa using h4
  clear h2 h4 e
  go_enter Try.func96, Try.ntmps96
  go_wp2
  go_ret
  exact ⟨rfl, rfl⟩

theorem other_any (s k : Int) (w : World) :
    Calls Try.prog 86 #[.int .i64 s, .int .i64 k] w fun e w' => e = .returned (.tuple #[.int .i64 (otS s k), .int .i64 (stE s k)]) ∧ w = w' := by
  have L := Lib.hid fun W => shared_any s W
  generalize ho : otS s k = o
  generalize he : stE s k = e
  unfold otS at ho
  unfold stE at he
  generalize saS s = l at L ho
  generalize hr : stB s = b at ho he
  cases b
  · obtain rfl : 0 = o := by simpa using ho
    obtain rfl : 1 = e := by simpa using he
    clear ho he
    go_enter Try.func86, Try.ntmps86
    go_wp2_with (go_at_call 45; refine (isState_any _ _).mono ?_; rintro e w' ⟨rfl, rfl⟩; rw [hr])
    go_ret2
    exact ⟨rfl, rfl⟩
  by_cases h1 : k = 1
  · subst h1
    obtain rfl : l = o := by simpa using ho
    obtain rfl : 0 = e := by simpa using he
    clear ho he
    go_enter Try.func86, Try.ntmps86
    go_wp2_with (first | (go_at_call 45; refine (isState_any _ _).mono ?_; rintro e w' ⟨rfl, rfl⟩; rw [hr]) | (go_at_call 96; refine (L.out _).mono ?_; rintro e w' ⟨rfl, rfl⟩))
    go_ret2
    exact ⟨rfl, rfl⟩
  by_cases h2 : k = 2 ∨ k = 3 ∨ k = 4
  · rcases h2 with rfl | rfl | rfl
    all_goals
      simp at ho he
      subst ho he
      clear h1
      go_enter Try.func86, Try.ntmps86
      go_wp2_with (go_at_call 45; refine (isState_any _ _).mono ?_; rintro e w' ⟨rfl, rfl⟩; rw [hr])
      go_ret2
      exact ⟨rfl, rfl⟩
  · have e1 : (k == 1) = false := by simp; omega
    have e2 : (k == 2) = false := by simp; omega
    have e3 : (k == 3) = false := by simp; omega
    have e4 : (k == 4) = false := by simp; omega
    obtain rfl : 0 = o := by rw [if_pos rfl, if_neg h1, if_neg (by omega)] at ho; exact ho
    obtain rfl : 1 = e := by rw [if_neg (by omega)] at he; exact he
    clear ho he h1 h2
    go_enter Try.func86, Try.ntmps86
    go_wp2_with (go_at_call 45; refine (isState_any _ _).mono ?_; rintro e w' ⟨rfl, rfl⟩; rw [hr])
    go_ret2
    exact ⟨rfl, rfl⟩


end Go.Proofs.Ytahoadfofleacaa

/- Mem: Proved: how a slice that can be read, a row that a call owns and a block that is known whole are carried from world to world. No condition. -/
namespace Go.Proofs.Ytahoadfofleacaa
open Go.ChangeShapes Go.WideShapes Go.ChangeAt Go.RowKit

/-- The slice value 'v' holds the cells 'xs', 'size' of them an element; they lie in a block below 'B'. -/
def Sl (w : World) (B size : Nat) (v : Value) (n : Nat) (xs : List Value) : Prop :=
  xs.length = n * size ∧ ∃ A c, v = .slice A n c ∧ n ≤ c ∧ c ≤ maxLen ∧
    (0 < n → ∃ b o, A = some ⟨b, o, none⟩ ∧ b < B ∧ ∀ j u, xs[j]? = some u → w.cell? ⟨b, o + j, none⟩ = some u)

section
variable {w w' : World} {B B' size n : Nat} {v : Value} {xs : List Value}

theorem Sl.keep (h : Sl w B size v n xs) (hk : ∀ p : Addr, p.block < B → w'.cell? p = w.cell? p) : Sl w' B size v n xs := by
  obtain ⟨hl, A, c, e, h1, h2, h3⟩ := h
  refine ⟨hl, A, c, e, h1, h2, fun hn => ?_⟩
  obtain ⟨b, o, hA, hb, hc⟩ := h3 hn
  exact ⟨b, o, hA, hb, fun j u hu => (hk ⟨b, o + j, none⟩ hb).trans (hc j u hu)⟩

theorem Sl.below (h : Sl w B size v n xs) (hb : Below B w w') : Sl w' B size v n xs := h.keep fun _ hp => hb.cell hp

theorem Sl.more (h : Sl w B size v n xs) (hB : B ≤ B') : Sl w B' size v n xs := by
  obtain ⟨hl, A, c, e, h1, h2, h3⟩ := h
  refine ⟨hl, A, c, e, h1, h2, fun hn => ?_⟩
  obtain ⟨b, o, hA, hb, hc⟩ := h3 hn
  exact ⟨b, o, hA, by omega, hc⟩

theorem Sl.call (h : Sl w w.heap.size size v n xs) (hb : Below w.heap.size w w') : Sl w' w'.heap.size size v n xs := (h.below hb).more hb.size

theorem Sl.ofOwn {base : Nat} {e : TypeId} (h : w.ownsRow base e size v n xs) : Sl w w.heap.size size v n xs := by
  refine ⟨h.1, ?_⟩
  rcases h.2 with ⟨rfl, rfl⟩ | ⟨g, cap, cur, rfl, hg, hh, hn, hm, hcs, ht⟩
  · exact ⟨none, 0, rfl, Nat.le_refl _, Nat.zero_le _, fun h0 => absurd h0 (by omega)⟩
  · refine ⟨_, cap, rfl, hn, hm, fun _ => ⟨g, 0, rfl, ?_, fun j u hu => ?_⟩⟩
    · rcases Nat.lt_or_ge g w.heap.size with hlt | hge
      · exact hlt
      · rw [Array.getElem?_eq_none hge] at hh; cases hh
    · have hj : j < n * size := by
        have := List.getElem?_eq_some_iff.1 hu
        obtain ⟨hj, _⟩ := this
        have := h.1
        omega
      rw [Nat.zero_add, h.cellAt j hj, hu]
end

/-- What a call owns is kept by a call that keeps all that was there. -/
theorem own_below {w w' : World} {base size n : Nat} {e : TypeId} {v : Value} {xs : List Value} (h : w.ownsRow base e size v n xs) (hb : Below w.heap.size w w') : w'.ownsRow base e size v n xs := by
  refine ⟨h.1, ?_⟩
  rcases h.2 with h2 | ⟨g, cap, cur, hv, hg, hh, r⟩
  · exact .inl h2
  · have hlt : g < w.heap.size := by
      rcases Nat.lt_or_ge g w.heap.size with hlt | hge
      · exact hlt
      · rw [Array.getElem?_eq_none hge] at hh; cases hh
    exact .inr ⟨g, cap, cur, hv, hg, (hb.block g hlt).trans hh, r⟩

/-- Block 'g' is known whole: just these cells, none of them frozen. -/
def Box (w : World) (g : Nat) (t : TypeId) (cs : Array Value) : Prop := w.heap[g]? = some (.cells cs t (0, 0))

section
variable {w w' : World} {g B : Nat} {t : TypeId} {cs : Array Value}
theorem Box.lt (h : Box w g t cs) : g < w.heap.size := by
  rcases Nat.lt_or_ge g w.heap.size with hlt | hge
  · exact hlt
  · unfold Box at h; rw [Array.getElem?_eq_none hge] at h; cases h
theorem Box.cell (h : Box w g t cs) (i : Nat) : w.cell? ⟨g, i, none⟩ = cs[i]? := by
  unfold Box at h
  simp [World.cell?, h]
theorem Box.frozen (h : Box w g t cs) (i : Nat) : w.frozen? ⟨g, i, none⟩ = false := by
  unfold Box at h
  simp [World.frozen?, h]
theorem Box.new (w : World) (t : TypeId) (cs : Array Value) : Box (w.alloc (.cells cs t)) w.heap.size t cs := by
  show (w.heap.push (.cells cs t))[w.heap.size]? = _
  rw [Array.getElem?_push, if_pos rfl]
theorem Box.alloc (h : Box w g t cs) (o : Obj) : Box (w.alloc o) g t cs := (Below.heap_alloc w o g h.lt).trans h
theorem Box.below (h : Box w g t cs) (hb : Below B w w') (hg : g < B) : Box w' g t cs := (hb.block g hg).trans h
theorem Box.call (h : Box w g t cs) (hb : Below w.heap.size w w') : Box w' g t cs := h.below hb h.lt
theorem Box.at_ (h : Box w g t cs) (i : Nat) {v : Value} (e : cs[i]? = some v) : w.cell? ⟨g, i, none⟩ = some v := (h.cell i).trans e
theorem Box.drew (h : Box w g t cs) : Box w.drew g t cs := h
theorem Box.drewN (h : Box w g t cs) (n : Nat) : Box (w.drewN n) g t cs := h
theorem Box.set (h : Box w g t cs) (i : Nat) (u : Value) : Box (w.setCell ⟨g, i, none⟩ u) g t (cs.setIfInBounds i u) := by
  unfold Box at h ⊢
  simp [World.setCell, Array.getElem?_modify, h]
theorem Box.far (h : Box w g t cs) {p : Addr} (hp : g ≠ p.block) (u : Value) : Box (w.setCell p u) g t cs := (Below.heap_setCell w p u g hp).trans h
theorem Box.grown {row : Option Nat} (h : Box w g t cs) (hb : w.grownBy w' row) (hg : some g ≠ row) : Box w' g t cs := (hb.block g h.lt hg).trans h
end
theorem boxNext {a w : World} {B : Nat} (_ : Below B a w) (t : TypeId) (cs : Array Value) : Box (w.alloc (.cells cs t)) w.heap.size t cs := Box.new w t cs
end Go.Proofs.Ytahoadfofleacaa

/- Flat: Proved: a value of a flat type (ints and bools in structs and arrays) that can be read consists of ints and bools of the right kinds. No condition. -/
namespace Go.Proofs.Ytahoadfofleacaa
open Go.ChangeShapes Go.WideShapes Go.ChangeAt Go.RowKit

/-- What a cell of a flat type is. -/
inductive Sc where
  | bool
  | int (k : IntKind)

/-- A cell is of its kind. -/
def ScOk : Sc → Value → Prop
  | .bool, v => ∃ b, v = .bool b
  | .int k, v => ∃ a, v = .int k a ∧ (Lit.int k a).wf = true

def flatFields (P : Program) (r : TypeId → Option (List Sc)) : Nat → List Field → Option (List Sc)
  | _, [] => some []
  | off, f :: fs => match r f.type with
    | none => none
    | some l => if f.offset = off ∧ P.cellsOf f.type = l.length then (flatFields P r (off + l.length) fs).map (l ++ ·) else none

/-- The kinds of a flat type's cells. -/
def flatK (P : Program) : Nat → TypeId → Option (List Sc)
  | 0, _ => none
  | n + 1, t => match P.underlying t with
    | some .bool => some [.bool]
    | some (.int k) => some [.int k]
    | some (.struct fs) => (flatFields P (flatK P n) 0 fs.toList).bind fun l => if l.length = P.cellsOf t then some l else none
    | some (.array m e) => (flatK P n e).bind fun l => if P.cellsOf e = l.length ∧ m * l.length = P.cellsOf t then some (List.replicate m l).flatten else none
    | _ => none

/-- The cells are of their kinds. -/
def AllOk : List Sc → List Value → Prop
  | [], [] => True
  | k :: ks, c :: cs => ScOk k c ∧ AllOk ks cs
  | _, _ => False

theorem AllOk.append {k2 : List Sc} {c2 : List Value} (h2 : AllOk k2 c2) : ∀ {k1 : List Sc} {c1 : List Value}, AllOk k1 c1 → AllOk (k1 ++ k2) (c1 ++ c2)
  | [], [], _ => h2
  | [], _ :: _, h => h.elim
  | _ :: _, [], h => h.elim
  | _ :: _, _ :: _, h => ⟨h.1, AllOk.append h2 h.2⟩

theorem AllOk.length : ∀ {ks : List Sc} {cs : List Value}, AllOk ks cs → cs.length = ks.length
  | [], [], _ => rfl
  | [], _ :: _, h => h.elim
  | _ :: _, [], h => h.elim
  | _ :: _, _ :: _, h => by simp [AllOk.length h.2]

theorem AllOk.cons_ {k : Sc} {ks : List Sc} {cs : List Value} (h : AllOk (k :: ks) cs) : ∃ c r, cs = c :: r ∧ ScOk k c ∧ AllOk ks r := by
  cases cs with
  | nil => exact h.elim
  | cons c r => exact ⟨c, r, rfl, h.1, h.2⟩
theorem AllOk.nil_ {cs : List Value} (h : AllOk [] cs) : cs = [] := by
  cases cs with
  | nil => rfl
  | cons c r => exact h.elim

theorem AllOk.at_ : ∀ {ks : List Sc} {cs : List Value}, AllOk ks cs → ∀ (i : Nat) (k : Sc), ks[i]? = some k → ∃ c, cs[i]? = some c ∧ ScOk k c
  | [], [], _, i, k, h => by simp at h
  | [], _ :: _, h, _, _, _ => h.elim
  | _ :: _, [], h, _, _, _ => h.elim
  | _ :: _, c :: _, h, 0, k, hk => ⟨c, rfl, by simp at hk; subst hk; exact h.1⟩
  | _ :: _, _ :: _, h, i + 1, k, hk => by simpa using AllOk.at_ h.2 i k (by simpa using hk)

section
variable {H : Type} {enc : TypeId × Value → H} {P : Program} {w : World} {base : Nat} {spare : Nat → Bool} {held : Bool}

theorem flat_array {l : List Sc} : ∀ (m : Nat) (cs : List Value), cs.length = m * l.length → (∀ i, i < m → AllOk l ((cs.drop (i * l.length)).take l.length)) → AllOk (List.replicate m l).flatten cs
  | 0, cs, hl, _ => by
    have : cs = [] := List.eq_nil_of_length_eq_zero (by simpa using hl)
    subst this
    trivial
  | m + 1, cs, hl, h => by
    rw [List.replicate_succ, List.flatten_cons, ← List.take_append_drop l.length cs]
    refine AllOk.append (flat_array m _ ?_ fun i hi => ?_) (by simpa using h 0 (by omega))
    · rw [List.length_drop, hl, Nat.succ_mul]; omega
    · have := h (i + 1) (by omega)
      rw [List.drop_drop]
      rw [Nat.succ_mul, Nat.add_comm] at this
      exact this

theorem flat_fields {r : TypeId → Option (List Sc)} {cs : List Value} (hr : ∀ t l c, r t = some l → (∃ m x, DataW.trod enc P w base spare held m t c = some x) → AllOk l c) :
    ∀ (fs : List Field) (off : Nat) (l : List Sc), flatFields P r off fs = some l → (∀ f ∈ fs, ∃ m x, DataW.trod enc P w base spare held m f.type ((cs.drop f.offset).take (P.cellsOf f.type)) = some x) →
      AllOk l ((cs.drop off).take l.length)
  | [], off, l, h, _ => by
    simp [flatFields] at h
    subst h
    simp [AllOk]
  | f :: fs, off, l, h, hf => by
    unfold flatFields at h
    split at h
    · cases h
    · rename_i l1 h1
      split at h
      · rename_i hc
        cases h2 : flatFields P r (off + l1.length) fs with
        | none => rw [h2] at h; cases h
        | some l2 =>
          rw [h2] at h
          simp at h
          subst h
          have a1 := hr f.type l1 _ h1 (hf f (by simp))
          have a2 := flat_fields hr fs (off + l1.length) l2 h2 (fun g hg => hf g (by simp [hg]))
          rw [hc.1, hc.2] at a1
          rw [List.length_append, List.take_add, List.drop_drop]
          exact AllOk.append a2 a1
      · cases h

theorem flat_open : ∀ (n : Nat) (t : TypeId) (ks : List Sc), flatK P n t = some ks → ∀ (m : Nat) (cs : List Value) (x : DataW H × List MemPlace), DataW.trod enc P w base spare held m t cs = some x → AllOk ks cs
  | 0, t, ks, hk, m, cs, x, h => by cases hk
  | n + 1, t, ks, hk, m, cs, x, h => by
    unfold flatK at hk
    split at hk
    · rename_i hu
      cases hk
      obtain ⟨b, rfl, _⟩ := DataW.trod_bool hu h
      exact ⟨⟨b, rfl⟩, trivial⟩
    · rename_i k hu
      cases hk
      obtain ⟨a, rfl, _, hw⟩ := DataW.trod_int hu h
      exact ⟨⟨a, rfl, hw⟩, trivial⟩
    · rename_i fs hu
      cases hl : flatFields P (flatK P n) 0 fs.toList with
      | none => rw [hl] at hk; cases hk
      | some l =>
        rw [hl] at hk
        simp only [Option.bind_some] at hk
        split at hk
        · rename_i hc
          obtain rfl : l = ks := Option.some.inj hk
          obtain ⟨xs, m', rfl, _, hlen, hxl, hg⟩ := DataW.trod_struct hu h
          have := flat_fields (enc := enc) (w := w) (base := base) (spare := spare) (held := held) (cs := cs) (fun t l c ht ⟨m, x, hx⟩ => flat_open n t l ht m c x hx) fs.toList 0 l hl (fun f hf => by
            obtain ⟨i, hi, e⟩ := List.getElem_of_mem hf
            have hi' : i < fs.size := by simpa using hi
            have := hg i f (by rw [Array.getElem?_eq_getElem hi']; simpa using e)
            rw [List.getElem?_eq_getElem (by omega)] at this
            exact ⟨_, _, this⟩)
          rw [List.drop_zero, List.take_of_length_le (by omega)] at this
          exact this
        · cases hk
    · rename_i m0 e hu
      cases hl : flatK P n e with
      | none => rw [hl] at hk; cases hk
      | some l =>
        rw [hl] at hk
        simp only [Option.bind_some] at hk
        split at hk
        · rename_i hc
          cases hk
          obtain ⟨xs, m', rfl, _, hlen, hxl, hg⟩ := DataW.trod_array hu h
          refine flat_array m0 cs (by omega) fun i hi => ?_
          have := hg i hi
          rw [List.getElem?_eq_getElem (by omega), hc.1] at this
          exact flat_open n e l hl m' _ _ this
        · cases hk
    · cases hk

theorem okWide_agg {r : Reach} {b0 : Nat} {t : TypeId} {v : Value} (hs : (∃ fs, P.underlying t = some (.struct fs)) ∨ ∃ n e, P.underlying t = some (.array n e)) (hv : Value.okWide P w r b0 t v) : ∃ cs : List Value, v = .agg ⟨cs⟩ := by
  rcases hs with ⟨fs, hs⟩ | ⟨n, e, hs⟩ <;>
  · simp only [Value.okWide, hs] at hv
    obtain ⟨⟨l⟩, h1, _⟩ := hv
    exact ⟨l, h1⟩

/-- An argument of a flat struct or array type. -/
theorem flat_value {r : Reach} {b0 n : Nat} {t : TypeId} {v : Value} {d : DataW H} {p : List MemPlace} {ks : List Sc} (hk : flatK P n t = some ks) (hs : (∃ fs, P.underlying t = some (.struct fs)) ∨ ∃ n e, P.underlying t = some (.array n e))
    (hv : Value.okWide P w r b0 t v) (h : DataW.Trod enc P w base spare held t v d p) : ∃ cs : List Value, v = .agg ⟨cs⟩ ∧ AllOk ks cs := by
  obtain ⟨cs, rfl⟩ := okWide_agg hs hv
  obtain ⟨m, h⟩ := h
  exact ⟨cs, rfl, flat_open n t ks hk m cs _ (by simpa [Value.cells] using h)⟩

theorem add_at {a : Addr} (h : a.spot = none) (i j : Nat) : (a.add i).add j = ⟨a.block, a.off + i + j, none⟩ := by
  obtain ⟨b, o, s⟩ := a
  simp only at h
  subst h
  unfold Addr.add
  split <;> split <;> simp_all

/-- A slice that can be read: its elements' cells, each of which can be read. -/
theorem slice_open {t e : TypeId} {fuel : Nat} {cs : List Value} {x : DataW H × List MemPlace} (ht : P.underlying t = some (.slice e)) (hC : 0 < P.cellsOf e) (h : DataW.trod enc P w base spare held fuel t cs = some x) :
    ∃ (v : Value) (css : List (List Value)), cs = [v] ∧ Sl w w.heap.size (P.cellsOf e) v css.length css.flatten ∧ ∀ c ∈ css, c.length = P.cellsOf e ∧ ∃ m y, DataW.trod enc P w base spare held m e c = some y := by
  rcases Go.Deep.open_slice ht h with ⟨rfl, _⟩ | ⟨a, len, cap, m, n, D, Pl, rfl, _, hl, hm, hmm, _, hi⟩
  · exact ⟨_, [], rfl, ⟨by simp, none, 0, rfl, Nat.le_refl _, Nat.zero_le _, fun h => absurd h (by simp)⟩, by simp⟩
  · have hlm : len ≤ m := by rw [hmm]; split <;> omega
    have hel : ∀ i, i < len → ∃ c, c.length = P.cellsOf e ∧ (∀ j, j < P.cellsOf e → w.cell? ((a.add (i * P.cellsOf e)).add j) = c[j]?) ∧ ∃ m y, DataW.trod enc P w base spare held m e c = some y := by
      intro i hi'
      obtain ⟨c, h1, h2⟩ := hi i (by omega)
      obtain ⟨_, h3, h4⟩ := World.cells?_some h1
      exact ⟨c, h3, h4, _, _, h2⟩
    have hsp : 0 < len → a.spot = none ∧ a.block < w.heap.size := by
      intro h0
      obtain ⟨c, h1, h2, _⟩ := hel 0 h0
      have := h2 0 hC
      rw [List.getElem?_eq_getElem (by omega)] at this
      simp only [Nat.zero_mul] at this
      have h3 : (a.add 0).add 0 = a := by simp [Addr.add]
      rw [h3] at this
      refine ⟨?_, block_lt_of_cell this⟩
      unfold World.cell? at this
      split at this
      · split at this
        · cases this
        · rename_i hs; simpa using hs
      · cases this
    -- the elements' cells, one after another
    have hex : ∀ k, k ≤ len → ∃ css : List (List Value), css.length = k ∧ (∀ c ∈ css, c.length = P.cellsOf e ∧ ∃ m y, DataW.trod enc P w base spare held m e c = some y) ∧ css.flatten.length = k * P.cellsOf e ∧
        ∀ j u, css.flatten[j]? = some u → w.cell? ⟨a.block, a.off + j, none⟩ = some u := by
      intro k
      induction k with
      | zero => intro _; exact ⟨[], rfl, by simp, by simp, by simp⟩
      | succ k ih =>
        intro hk
        obtain ⟨css, h1, h2, h3, h4⟩ := ih (by omega)
        obtain ⟨c, c1, c2, c3⟩ := hel k (by omega)
        obtain ⟨s1, s2⟩ := hsp (by omega)
        refine ⟨css ++ [c], by simp [h1], ?_, by simp [h3, c1, Nat.succ_mul], ?_⟩
        · intro d hd
          rcases List.mem_append.1 hd with hd | hd
          · exact h2 d hd
          · simp at hd; subst hd; exact ⟨c1, c3⟩
        · intro j u hu
          rw [List.flatten_append] at hu
          by_cases hj : j < css.flatten.length
          · rw [List.getElem?_append_left hj] at hu
            exact h4 j u hu
          · rw [List.getElem?_append_right (by omega)] at hu
            simp only [List.flatten_cons, List.flatten_nil, List.append_nil] at hu
            have hlt : j - css.flatten.length < P.cellsOf e := by
              have := (List.getElem?_eq_some_iff.1 hu).1
              omega
            have := c2 _ hlt
            rw [hu] at this
            rw [← this]
            rw [add_at s1, h3]
            congr 2
            omega
    obtain ⟨css, h1, h2, h3, h4⟩ := hex len (Nat.le_refl _)
    refine ⟨_, css, rfl, ⟨by rw [h3, h1], some a, cap, by rw [h1], by omega, hm, fun h0 => ?_⟩, h2⟩
    obtain ⟨s1, s2⟩ := hsp (by omega)
    obtain ⟨ab, ao, asp⟩ := a
    simp only at s1
    subst s1
    exact ⟨ab, ao, rfl, s2, h4⟩

/-- An argument that is a slice. -/
theorem slice_value {r : Reach} {b0 : Nat} {t e : TypeId} {v : Value} {d : DataW H} {p : List MemPlace} (ht : P.underlying t = some (.slice e)) (hC : 0 < P.cellsOf e) (hv : Value.okWide P w r b0 t v) (h : DataW.Trod enc P w base spare held t v d p) :
    ∃ css : List (List Value), Sl w w.heap.size (P.cellsOf e) v css.length css.flatten ∧ ∀ c ∈ css, c.length = P.cellsOf e ∧ ∃ m y, DataW.trod enc P w base spare held m e c = some y := by
  obtain ⟨a, len, cap, rfl⟩ := okWide_slice ht hv
  obtain ⟨m, h⟩ := h
  obtain ⟨v, css, h1, h2, h3⟩ := slice_open ht hC h
  simp [Value.cells] at h1
  subst h1
  exact ⟨css, h2, h3⟩
end
end Go.Proofs.Ytahoadfofleacaa

/- FlatEq: Proved: '==' on two values of a flat type (ints and bools in structs and arrays) compares their cells one by one. Condition: the values have cells of the type's kinds. -/
namespace Go.Proofs.Ytahoadfofleacaa

/-- A cell is of its kind, whatever its number. -/
def KOk : Sc → Value → Prop
  | .bool, v => ∃ b, v = .bool b
  | .int k, v => ∃ a, v = .int k a

def AllK : List Sc → List Value → Prop
  | [], [] => True
  | k :: ks, c :: cs => KOk k c ∧ AllK ks cs
  | _, _ => False

theorem AllK.length : ∀ {ks : List Sc} {cs : List Value}, AllK ks cs → cs.length = ks.length
  | [], [], _ => rfl
  | [], _ :: _, h => h.elim
  | _ :: _, [], h => h.elim
  | _ :: _, _ :: _, h => by simp [AllK.length h.2]

theorem AllOk.kinds : ∀ {ks : List Sc} {cs : List Value}, AllOk ks cs → AllK ks cs
  | [], [], _ => trivial
  | [], _ :: _, h => h.elim
  | _ :: _, [], h => h.elim
  | .bool :: _, _ :: _, h => ⟨h.1, AllOk.kinds h.2⟩
  | .int _ :: _, _ :: _, h => ⟨by obtain ⟨a, e, _⟩ := h.1; exact ⟨a, e⟩, AllOk.kinds h.2⟩

theorem AllK.parts : ∀ {k1 k2 : List Sc} {cs : List Value}, AllK (k1 ++ k2) cs → AllK k1 (cs.take k1.length) ∧ AllK k2 (cs.drop k1.length)
  | [], _, _, h => ⟨trivial, h⟩
  | _ :: _, _, [], h => h.elim
  | _ :: k1, k2, _ :: cs, h => by
    obtain ⟨h1, h2⟩ := AllK.parts (k1 := k1) (k2 := k2) h.2
    exact ⟨⟨h.1, h1⟩, h2⟩

/-- One cell compared. -/
def scEq : Value → Value → Bool
  | .bool a, .bool b => a == b
  | .int _ a, .int _ b => a == b
  | _, _ => false

/-- Cells compared one by one. -/
def eqCells : List Value → List Value → Bool
  | [], [] => true
  | x :: xs, y :: ys => scEq x y && eqCells xs ys
  | _, _ => false

theorem eqCells_append : ∀ {a c b d : List Value}, a.length = c.length → eqCells (a ++ b) (c ++ d) = (eqCells a c && eqCells b d)
  | [], [], _, _, _ => by simp [eqCells]
  | [], _ :: _, _, _, h => by simp at h
  | _ :: _, [], _, _, h => by simp at h
  | _ :: a, _ :: c, b, d, h => by
    have := eqCells_append (a := a) (c := c) (b := b) (d := d) (by simpa using h)
    simp [eqCells, this, Bool.and_assoc]

/-- A value and its cells. -/
def ValIs (P : Program) (t : TypeId) (cs : List Value) (v : Value) : Prop :=
  match P.underlying t with
  | some (.struct _) | some (.array _ _) => v = .agg ⟨cs⟩
  | _ => cs = [v]

section
variable {P : Program} {w : World}

theorem part_flat {n off : Nat} {t : TypeId} {ks : List Sc} {xs : List Value} (hk : flatK P n t = some ks) (hc : P.cellsOf t = ks.length) (ha : AllK ks ((xs.drop off).take ks.length)) :
    ∃ v, (part t ⟨xs⟩ off).run P w = .ok v w ∧ ValIs P t ((xs.drop off).take ks.length) v := by
  cases n with
  | zero => cases hk
  | succ n =>
    have agg : (∃ fs, P.underlying t = some (.struct fs)) ∨ (∃ m e, P.underlying t = some (.array m e)) → ∃ v, (part t ⟨xs⟩ off).run P w = .ok v w ∧ ValIs P t ((xs.drop off).take ks.length) v := by
      intro hu
      have he : (Array.mk xs).extract off (off + ks.length) = ⟨(xs.drop off).take ks.length⟩ := by simp
      rcases hu with ⟨fs, hu⟩ | ⟨m, e, hu⟩
      all_goals
        obtain ⟨i, hi⟩ := info_of_underlying hu
        refine ⟨.agg ⟨(xs.drop off).take ks.length⟩, ?_, by simp [ValIs, hu]⟩
        simp [part, isAgg, run_underlying hu, run_sizeOf w hi, hc]
    have cell : ∀ k : Sc, ks = [k] → ∃ v, (xs.drop off).take ks.length = [v] ∧ (Array.mk xs)[off]? = some v := by
      rintro k rfl
      cases hx : xs.drop off with
      | nil => rw [hx] at ha; exact ha.elim
      | cons v r =>
        refine ⟨v, by simp, ?_⟩
        have : (xs.drop off)[0]? = some v := by rw [hx]; rfl
        simpa using this
    unfold flatK at hk
    split at hk
    · rename_i hu
      obtain ⟨v, h1, h2⟩ := cell .bool (by cases hk; rfl)
      exact ⟨v, by simp only [List.getElem?_toArray] at h2; simp [part, isAgg, run_underlying hu, h2], by simp only [ValIs, hu]; exact h1⟩
    · rename_i k hu
      obtain ⟨v, h1, h2⟩ := cell (.int k) (by cases hk; rfl)
      exact ⟨v, by simp only [List.getElem?_toArray] at h2; simp [part, isAgg, run_underlying hu, h2], by simp only [ValIs, hu]; exact h1⟩
    · rename_i fs hu
      exact agg (.inl ⟨fs, hu⟩)
    · rename_i m e hu
      exact agg (.inr ⟨m, e, hu⟩)
    · cases hk

/-- What the induction gives for the parts. -/
def EqT (P : Program) (d : Nat) (t : TypeId) (ks : List Sc) : Prop :=
  ∀ (w : World) (cs cs' : List Value) (v v' : Value), AllK ks cs → AllK ks cs' → ValIs P t cs v → ValIs P t cs' v' → (Op.equalIn d t v v').run P w = .ok (eqCells cs cs') w

theorem eq_fields {n d : Nat} {xs ys : List Value} (IH : ∀ t ks, flatK P n t = some ks → P.keyTypeAt n t = true → EqT P d t ks) :
    ∀ (fs : List Field) (off : Nat) (l : List Sc), flatFields P (flatK P n) off fs = some l → (∀ f ∈ fs, f.name ≠ "_" ∧ P.keyTypeAt n f.type = true) → AllK l ((xs.drop off).take l.length) → AllK l ((ys.drop off).take l.length) →
      (Op.eqFields d ⟨xs⟩ ⟨ys⟩ fs).run P w = .ok (eqCells ((xs.drop off).take l.length) ((ys.drop off).take l.length)) w
  | [], off, l, h, _, _, _ => by
    simp [flatFields] at h
    subst h
    simp [Op.eqFields, eqCells]
  | f :: fs, off, l, h, hf, hx, hy => by
    unfold flatFields at h
    split at h
    · cases h
    · rename_i l1 h1
      split at h
      · rename_i hc
        cases h2 : flatFields P (flatK P n) (off + l1.length) fs with
        | none => rw [h2] at h; cases h
        | some l2 =>
          rw [h2] at h
          simp at h
          subst h
          obtain ⟨hn, hkt⟩ := hf f (by simp)
          obtain ⟨x1, x2⟩ := AllK.parts hx
          obtain ⟨y1, y2⟩ := AllK.parts hy
          rw [List.take_take, List.length_append, Nat.min_eq_left (by omega)] at x1 y1
          rw [List.length_append, List.take_add, List.drop_drop] at x2 y2
          have lx : ((xs.drop off).take l1.length).length = l1.length := x1.length
          have ly : ((ys.drop off).take l1.length).length = l1.length := y1.length
          rw [List.drop_append_of_le_length (by omega), List.drop_of_length_le (by omega), List.nil_append] at x2 y2
          obtain ⟨a, pa, va⟩ := part_flat (w := w) (off := off) h1 hc.2 x1
          obtain ⟨b, pb, vb⟩ := part_flat (w := w) (off := off) h1 hc.2 y1
          have e1 := IH f.type l1 h1 hkt w _ _ a b x1 y1 va vb
          have e2 := eq_fields IH fs (off + l1.length) l2 h2 (fun g hg => hf g (by simp [hg])) x2 y2
          rw [List.length_append, List.take_add, List.drop_drop, List.take_add, List.drop_drop, eqCells_append (by omega)]
          simp only [Op.eqFields, hn, ne_eq, not_false_eq_true, if_true, Sem.run_bind, hc.1, pa, pb, e1, Result.andThen_ok]
          cases eqCells ((xs.drop off).take l1.length) ((ys.drop off).take l1.length)
          · simp
          · simpa using e2
      · cases h

theorem eq_items {n d : Nat} {e : TypeId} {l : List Sc} {xs ys : List Value} (hl : flatK P n e = some l) (hc : P.cellsOf e = l.length) (IH : EqT P d e l) :
    ∀ (m j : Nat), AllK (List.replicate m l).flatten ((xs.drop (j * l.length)).take (m * l.length)) → AllK (List.replicate m l).flatten ((ys.drop (j * l.length)).take (m * l.length)) →
      (Op.eqItems d e l.length ⟨xs⟩ ⟨ys⟩ (List.range' j m)).run P w = .ok (eqCells ((xs.drop (j * l.length)).take (m * l.length)) ((ys.drop (j * l.length)).take (m * l.length))) w
  | 0, j, _, _ => by simp [Op.eqItems, eqCells]
  | m + 1, j, hx, hy => by
    rw [List.replicate_succ, List.flatten_cons] at hx hy
    obtain ⟨x1, x2⟩ := AllK.parts hx
    obtain ⟨y1, y2⟩ := AllK.parts hy
    have hm : (m + 1) * l.length = l.length + m * l.length := by rw [Nat.succ_mul]; omega
    rw [List.take_take, hm, Nat.min_eq_left (by omega)] at x1 y1
    have lx : ((xs.drop (j * l.length)).take l.length).length = l.length := x1.length
    have ly : ((ys.drop (j * l.length)).take l.length).length = l.length := y1.length
    rw [hm, List.take_add, List.drop_drop, List.drop_append_of_le_length (by omega), List.drop_of_length_le (by omega), List.nil_append] at x2 y2
    have hj : j * l.length + l.length = (j + 1) * l.length := by rw [Nat.succ_mul]
    rw [hj] at x2 y2
    obtain ⟨a, pa, va⟩ := part_flat (w := w) (off := j * l.length) hl hc x1
    obtain ⟨b, pb, vb⟩ := part_flat (w := w) (off := j * l.length) hl hc y1
    have e1 := IH w _ _ a b x1 y1 va vb
    have e2 := eq_items hl hc IH m (j + 1) x2 y2
    rw [hm, List.take_add, List.drop_drop, List.take_add, List.drop_drop, eqCells_append (by omega), hj]
    simp only [List.range'_succ, Op.eqItems, Sem.run_bind, pa, pb, e1, Result.andThen_ok]
    cases eqCells ((xs.drop (j * l.length)).take l.length) ((ys.drop (j * l.length)).take l.length)
    · simp
    · simpa using e2

/-- '==' on a flat type. -/
theorem equal_flat : ∀ (n : Nat) (t : TypeId) (ks : List Sc), flatK P n t = some ks → P.keyTypeAt n t = true → ∀ d, n ≤ d → EqT P d t ks
  | 0, t, ks, hk, _, d, _ => by cases hk
  | n + 1, t, ks, hk, hkt, 0, hd => by omega
  | n + 1, t, ks, hk, hkt, d + 1, hd => by
    intro w cs cs' v v' hx hy hv hv'
    unfold flatK at hk
    unfold Program.keyTypeAt at hkt
    split at hk
    · rename_i hu
      cases hk
      simp only [ValIs, hu] at hv hv'
      subst hv hv'
      obtain ⟨⟨a, rfl⟩, _⟩ := hx
      obtain ⟨⟨b, rfl⟩, _⟩ := hy
      rw [run_equalIn_bool' w d t a b hu]
      simp [eqCells, scEq]
    · rename_i k hu
      cases hk
      simp only [ValIs, hu] at hv hv'
      subst hv hv'
      obtain ⟨⟨a, rfl⟩, _⟩ := hx
      obtain ⟨⟨b, rfl⟩, _⟩ := hy
      rw [run_equalIn_int w d t k k a b hu]
      simp [eqCells, scEq]
    · rename_i fs hu
      simp only [ValIs, hu] at hv hv'
      subst hv hv'
      cases hl : flatFields P (flatK P n) 0 fs.toList with
      | none => rw [hl] at hk; cases hk
      | some l =>
        rw [hl] at hk
        simp only [Option.bind_some] at hk
        split at hk
        · obtain rfl : l = ks := Option.some.inj hk
          rw [hu] at hkt
          simp only [Bool.and_eq_true, Array.all_eq_true', bne_iff_ne, ne_eq, Bool.not_eq_true'] at hkt
          have hfs : P.fieldsOf t = fs := by simp [Program.fieldsOf, hu]
          rw [run_equalIn_struct w d t ⟨cs⟩ ⟨cs'⟩ (by rw [hfs]; exact hu) hkt.2, hfs]
          have lx := hx.length
          have ly := hy.length
          have := eq_fields (w := w) (xs := cs) (ys := cs') (fun t ks h1 h2 => equal_flat n t ks h1 h2 d (by omega)) fs.toList 0 l hl (fun f hf => hkt.1.1 f (by simpa using hf)) (by rw [List.drop_zero, List.take_of_length_le (by omega)]; exact hx) (by rw [List.drop_zero, List.take_of_length_le (by omega)]; exact hy)
          rw [List.drop_zero, List.drop_zero, List.take_of_length_le (by omega), List.take_of_length_le (by omega)] at this
          exact this
        · cases hk
    · rename_i m e hu
      simp only [ValIs, hu] at hv hv'
      subst hv hv'
      cases hl : flatK P n e with
      | none => rw [hl] at hk; cases hk
      | some l =>
        rw [hl] at hk
        simp only [Option.bind_some] at hk
        split at hk
        · rename_i hc
          cases hk
          rw [hu] at hkt
          have hie : ∃ i, P.info? e = some i := by
            cases n with
            | zero => cases hl
            | succ n =>
              unfold flatK at hl
              split at hl
              all_goals first | (rename_i h; exact info_of_underlying h) | (cases hl; done) | (rename_i _ h; exact info_of_underlying h) | (rename_i _ _ h; exact info_of_underlying h)
          obtain ⟨i, hi⟩ := hie
          rw [run_equalIn_array w d ⟨cs⟩ ⟨cs'⟩ hu hi, hc.1, List.range_eq_range']
          have hlen : (List.replicate m l).flatten.length = m * l.length := by simp
          have lx := hx.length
          have ly := hy.length
          have := eq_items (w := w) (xs := cs) (ys := cs') hl hc.1 (equal_flat n e l hl hkt d (by omega)) m 0 (by rw [Nat.zero_mul, List.drop_zero, List.take_of_length_le (by omega)]; exact hx) (by rw [Nat.zero_mul, List.drop_zero, List.take_of_length_le (by omega)]; exact hy)
          rw [Nat.zero_mul, List.drop_zero, List.drop_zero, List.take_of_length_le (by omega), List.take_of_length_le (by omega)] at this
          exact this
        · cases hk
    · cases hk
end
end Go.Proofs.Ytahoadfofleacaa

/- Way: Proved: words for ways and for slices of ways; what the small functions of package row return, for every argument. No condition. -/
namespace Go.Proofs.Ytahoadfofleacaa
open Go.ChangeShapes Go.WideShapes Go.ChangeAt Go.RowKit Go.Joins

/-- A way. -/
structure Wy where
  st : Int
  ln : Int
  a : Int
  b : Int
  c : Int
  d : Int

/-- '==' on ways. -/
def eqW (x y : Wy) : Bool := x.st == y.st && (x.ln == y.ln && (x.a == y.a && (x.b == y.b && (x.c == y.c && x.d == y.d))))
theorem eqW_iff (x y : Wy) : eqW x y = true ↔ x = y := by
  obtain ⟨a, b, c, d, e, f⟩ := x
  obtain ⟨a', b', c', d', e', f'⟩ := y
  simp [eqW]
instance : DecidableEq Wy := fun x y => decidable_of_iff (eqW x y = true) (eqW_iff x y)

/-- A way as a value, and as cells. -/
abbrev Wy.val (x : Wy) : Value := .agg #[.int .i64 x.st, .int .i64 x.ln, .int .u64 x.a, .int .u64 x.b, .int .u64 x.c, .int .u64 x.d]
/-- The cells of a block that holds a way, a set. -/
abbrev Wy.arr (x : Wy) : Array Value := #[.int .i64 x.st, .int .i64 x.ln, .int .u64 x.a, .int .u64 x.b, .int .u64 x.c, .int .u64 x.d]
abbrev rowA (v : Value) (a b c : Bool) : Array Value := #[v, .bool a, .bool b, .bool c]
abbrev rowV (v : Value) (a b c : Bool) : Value := .agg (rowA v a b c)
/-- The empty way's cells, and as a value. -/
abbrev zeroA : Array Value := #[.int .i64 0, .int .i64 0, .int .u64 0, .int .u64 0, .int .u64 0, .int .u64 0]
abbrev zeroV : Value := .agg zeroA
abbrev noRow : Value := rowV (.slice none 0 0) false false false
def Wy.cells (x : Wy) : List Value := [.int .i64 x.st, .int .i64 x.ln, .int .u64 x.a, .int .u64 x.b, .int .u64 x.c, .int .u64 x.d]
def waysC (l : List Wy) : List Value := l.flatMap Wy.cells

theorem waysC_length (l : List Wy) : (waysC l).length = l.length * 6 := by
  induction l with
  | nil => rfl
  | cons x r ih => simp only [waysC, List.flatMap_cons, List.length_append, List.length_cons] at *; rw [ih]; simp [Wy.cells]; omega

theorem waysC_at {l : List Wy} {k : Nat} {x : Wy} (h : l[k]? = some x) (j : Nat) (hj : j < 6) : (waysC l)[k * 6 + j]? = x.cells[j]? := by
  induction l generalizing k with
  | nil => simp at h
  | cons y r ih =>
    have hy : y.cells.length = 6 := rfl
    simp only [waysC, List.flatMap_cons] at *
    cases k with
    | zero =>
      simp at h
      subst h
      rw [List.getElem?_append_left (by omega)]
      simp
    | succ k =>
      rw [List.getElem?_append_right (by omega), hy]
      have : (k + 1) * 6 + j - 6 = k * 6 + j := by omega
      rw [this]
      exact ih (by simpa using h)

/-- The slice holds the ways. -/
structure Ws (w : World) (v : Value) (l : List Wy) : Prop where
  sl : Sl w w.heap.size 6 v l.length (waysC l)

theorem Ws.call {w w' : World} {v : Value} {l : List Wy} (h : Ws w v l) (hb : Below w.heap.size w w') : Ws w' v l := ⟨Sl.call h.sl hb⟩
theorem Ws.alloc {w : World} {v : Value} {l : List Wy} (h : Ws w v l) (o : Obj) : Ws (w.alloc o) v l := h.call (gAlloc (Below.refl _ _) o)
theorem Ws.drew {w : World} {v : Value} {l : List Wy} (h : Ws w v l) : Ws w.drew v l := h.call (Below.refl _ _).drew
theorem Ws.nil (w : World) : Ws w (.slice none 0 0) [] := ⟨rfl, none, 0, rfl, Nat.le_refl _, Nat.zero_le _, fun h => absurd h (Nat.lt_irrefl 0)⟩

/-- The cells of way k, in a world that keeps what was there. -/
def WayAt (w : World) (b o : Nat) (x : Wy) : Prop :=
  w.cell? ⟨b, o, none⟩ = some (.int .i64 x.st) ∧ w.cell? ⟨b, o + 1, none⟩ = some (.int .i64 x.ln) ∧ w.cell? ⟨b, o + 2, none⟩ = some (.int .u64 x.a) ∧
  w.cell? ⟨b, o + 3, none⟩ = some (.int .u64 x.b) ∧ w.cell? ⟨b, o + 4, none⟩ = some (.int .u64 x.c) ∧ w.cell? ⟨b, o + 5, none⟩ = some (.int .u64 x.d)

theorem wayAt_of {w w' : World} {b o B : Nat} {l : List Wy} {k : Nat} {x : Wy} (hc : ∀ j u, (waysC l)[j]? = some u → w.cell? ⟨b, o + j, none⟩ = some u) (hb : b < B) (low : Below B w w') (h : l[k]? = some x) : WayAt w' b (o + k * 6) x := by
  have f : ∀ j u, j < 6 → x.cells[j]? = some u → w'.cell? ⟨b, o + k * 6 + j, none⟩ = some u := by
    intro j u hj hu
    refine (low.cell (p := ⟨b, o + k * 6 + j, none⟩) hb).trans ?_
    rw [Nat.add_assoc]
    exact hc _ _ ((waysC_at h j hj).trans hu)
  exact ⟨f 0 _ (by omega) rfl, f 1 _ (by omega) rfl, f 2 _ (by omega) rfl, f 3 _ (by omega) rfl, f 4 _ (by omega) rfl, f 5 _ (by omega) rfl⟩

/-- The first way of which 'p' holds, or -1. -/
def idxP (p : Wy → Bool) (l : List Wy) : Int := match l.findIdx? p with | some k => k | none => -1

theorem idxP_none {p : Wy → Bool} {l : List Wy} (h : ∀ (k : Nat) x, l[k]? = some x → p x = false) : idxP p l = -1 := by
  have : l.findIdx? p = none := by
    rw [List.findIdx?_eq_none_iff]
    intro x hx
    obtain ⟨k, hk, e⟩ := List.getElem_of_mem hx
    exact h k x (by rw [List.getElem?_eq_getElem hk, e])
  rw [idxP, this]

theorem idxP_some {p : Wy → Bool} {l : List Wy} {k : Nat} {x : Wy} (h : ∀ j y, j < k → l[j]? = some y → p y = false) (hk : l[k]? = some x) (hp : p x = true) : idxP p l = k := by
  have : l.findIdx? p = some k := by
    rw [List.findIdx?_eq_some_iff_getElem]
    obtain ⟨hlt, e⟩ := List.getElem?_eq_some_iff.1 hk
    refine ⟨hlt, by rw [e]; exact hp, fun j hj => ?_⟩
    rw [h j _ hj (List.getElem?_eq_getElem (by omega))]
    decide
  rw [idxP, this]

/-- One more way of which 'p' doesn't hold. -/
theorem upto {p : Wy → Bool} {l : List Wy} {k : Nat} {x : Wy} (h : ∀ j y, j < k → l[j]? = some y → p y = false) (hk : l[k]? = some x) (hp : p x = false) : ∀ j y, j < k + 1 → l[j]? = some y → p y = false := by
  intro j y hj hy
  by_cases e : j < k
  · exact h j y e hy
  · obtain rfl : j = k := by omega
    rw [hk] at hy
    cases hy
    exact hp

theorem all_upto {p : Wy → Bool} {l : List Wy} {k : Nat} (h : ∀ j y, j < k → l[j]? = some y → p y = false) (hk : ¬ k < l.length) : ∀ (j : Nat) y, l[j]? = some y → p y = false := by
  intro j y hy
  obtain ⟨hj, _⟩ := List.getElem?_eq_some_iff.1 hy
  exact h j y (by omega) hy

/-- What is known of the place. -/
theorem idxP_cases (p : Wy → Bool) (l : List Wy) : (idxP p l = -1 ∧ ∀ x ∈ l, p x = false) ∨ ∃ k x, idxP p l = (k : Nat) ∧ l[k]? = some x ∧ p x = true ∧ ∀ j y, j < k → l[j]? = some y → p y = false := by
  cases e : l.findIdx? p with
  | none =>
    refine .inl ⟨by rw [idxP, e], ?_⟩
    rw [List.findIdx?_eq_none_iff] at e
    exact e
  | some k =>
    refine .inr ?_
    have e' := e
    rw [List.findIdx?_eq_some_iff_getElem] at e
    obtain ⟨hk, e1, e2⟩ := e
    refine ⟨k, l[k], by rw [idxP, e'], List.getElem?_eq_getElem hk, e1, fun j y hj hy => ?_⟩
    obtain ⟨hlt, rfl⟩ := List.getElem?_eq_some_iff.1 hy
    simpa using e2 j hj

/-- Has the way this line? Is it empty? -/
def hasW (n : Int) (x : Wy) : Bool := x.st != 0 && x.ln == n
def empW (x : Wy) : Bool := x.st == 0

set_option maxHeartbeats 1000000 in
theorem find_any (v : Value) (l : List Wy) (n : Int) (w : World) (h : Ws w v l) :
    Calls Try.prog 71 #[v, .int .i64 n] w fun e w' => e = .returned (.int .i64 (idxP (hasW n) l)) ∧ Below w.heap.size w w' := by
  obtain ⟨hl, A, c, rfl, h1, h2, h3⟩ := h
  have H3 := Lib.hid h3
  unfold maxLen at h2
  clear hl h3
  go_enter Try.func71, Try.ntmps71
  go_wp2
  go_loopw [9] (fun i wr => ∃ k : Nat, k ≤ l.length ∧ i = .int .i64 k ∧ Hid (∀ j x, j < k → l[j]? = some x → hasW n x = false) ∧ Below w.heap.size w wr) (fun i _ => l.length - (intOf i).toNat)
  case atStart => exact ⟨0, Nat.zero_le _, rfl, Lib.hid fun j x hj => absurd hj (by omega), Below.refl _ _⟩
  case round =>
    obtain ⟨k, hk, rfl, hno, low⟩ := hrel
    by_cases hlt : k < l.length
    · obtain ⟨b, o, rfl, hb, hc⟩ := H3.out (by omega)
      have hx : l[k]? = some l[k] := List.getElem?_eq_getElem _
      generalize l[k] = x at hx
      obtain ⟨c0, c1, c2, c3, c4, c5⟩ := wayAt_of hc hb low hx
      have HX := Lib.hid hx
      clear hx hc
      cases he : (x.st != 0)
      rotate_left
      cases hn : (x.ln == n)
      rotate_left
      · have HW := Lib.hid (show hasW n x = true by simp [hasW, he, hn])
        go_wp2
        go_ret
        exact ⟨by rw [idxP_some hno.out HX.out HW.out]; rfl, gAlloc low _⟩
      all_goals
        have HW := Lib.hid (show hasW n x = false by simp [hasW, he] <;> simpa using hn)
        go_wp2
        go_roundw
        case rel => exact ⟨k + 1, by omega, by go_num, Lib.hid (upto hno.out HX.out HW.out), gAlloc low _⟩
        case measure => simp [intOf]; omega
    · go_wp2
      go_ret
      exact ⟨by rw [idxP_none (all_upto hno.out hlt)]; rfl, low⟩

/-- Is it a line? -/
def lnB (n : Int) : Bool := decide (0 ≤ n ∧ n < 16)
/-- Has a way to do with a line? -/
def hlB (x : Wy) : Bool := rdB x.st && lnB x.ln

theorem isLine_any (n : Int) (w : World) : Calls Try.prog 93 #[.int .i64 n] w fun e w' => e = .returned (.bool (lnB n)) ∧ w = w' := by
  unfold lnB
  by_cases h0 : 0 ≤ n
  · by_cases h1 : n < 16
    all_goals
      go_enter Try.func93, Try.ntmps93
      go_wp2
      go_ret
      exact ⟨by simp <;> omega, rfl⟩
  · go_enter Try.func93, Try.ntmps93
    go_wp2
    go_ret
    exact ⟨by simp <;> omega, rfl⟩

theorem hasLine_any (x : Wy) (w : World) : Calls Try.prog 77 #[x.val] w fun e w' => e = .returned (.bool (hlB x)) ∧ Below w.heap.size w w' := by
  unfold hlB
  cases hr : rdB x.st <;> cases hn : lnB x.ln
  all_goals
    go_enter Try.func77, Try.ntmps77
    go_wp2_with (first | (go_at_call 15; refine (reads_any _ _).mono ?_; rintro e w' ⟨rfl, rfl⟩; rw [hr]) | (go_at_call 93; refine (isLine_any _ _).mono ?_; rintro e w' ⟨rfl, rfl⟩; rw [hn]))
    go_ret
    exact ⟨rfl, gAlloc (Below.refl _ _) _⟩

/-- '==' on ways, as the walk has it. -/
theorem eqWay (x y : Wy) (w : World) : (Op.equalIn 10000 51 x.val y.val).run Try.prog w = .ok (eqW x y) w := by
  have := equal_flat (P := Try.prog) 3 51 [.int .i64, .int .i64, .int .u64, .int .u64, .int .u64, .int .u64] (by kernel_rfl) (by kernel_rfl) 10000 (by omega) w x.cells y.cells x.val y.val
    ⟨⟨_, rfl⟩, ⟨_, rfl⟩, ⟨_, rfl⟩, ⟨_, rfl⟩, ⟨_, rfl⟩, ⟨_, rfl⟩, trivial⟩ ⟨⟨_, rfl⟩, ⟨_, rfl⟩, ⟨_, rfl⟩, ⟨_, rfl⟩, ⟨_, rfl⟩, ⟨_, rfl⟩, trivial⟩ (by simp [ValIs, Try.underlying51, Wy.cells]) (by simp [ValIs, Try.underlying51, Wy.cells])
  simpa [eqCells, scEq, Wy.cells, eqW] using this

/-- The empty way, and what is said of a way by itself. -/
def wy0 : Wy := ⟨0, 0, 0, 0, 0, 0⟩
def wayE (x : Wy) : Int := if stB x.st = true ∧ lnB x.ln = true then (if x.st = 0 ∧ x ≠ wy0 then 3 else 0) else 4

theorem name_bad (s : Int) (w : World) (h : s < 0 ∨ (0 ≤ s ∧ 4 < s)) : Calls Try.prog 101 #[.int .i64 s] w fun e w' => e = .returned (.string ⟨#[]⟩) ∧ w = w' := by
  obtain ⟨h0, h1, h2, h3, h4⟩ := apart s h
  clear h
  go_enter Try.func101, Try.ntmps101
  go_wp2
  go_ret
  exact ⟨rfl, rfl⟩

theorem checkWay_any (x : Wy) (w : World) : Calls Try.prog 92 #[x.val] w fun e w' => e = .returned (.int .i64 (wayE x)) ∧ Below w.heap.size w w' := by
  obtain ⟨s, n, a, b, c, d⟩ := x
  generalize he : wayE ⟨s, n, a, b, c, d⟩ = E
  unfold wayE at he
  simp only at he
  generalize hn : lnB n = N at he
  have HE := Lib.hid he
  clear he
  rcases five s with (rfl | rfl | rfl | rfl | rfl) | h
  rotate_left 5
  · have HH := Lib.hid h
    obtain rfl : 4 = E := by have := HE.out; rw [stB_bad h] at this; simpa using this
    clear h
    go_enter Try.func92, Try.ntmps92
    go_wp2_with (go_at_call 101; refine (name_bad _ _ HH.out).mono ?_; rintro e w' ⟨rfl, rfl⟩)
    go_ret
    exact ⟨rfl, gAlloc (Below.refl _ _) _⟩
  · have eq0 := fun w => eqWay ⟨0, n, a, b, c, d⟩ wy0 w
    simp only [wy0, Wy.val] at eq0
    cases N
    · obtain rfl : 4 = E := by simpa using HE.out
      go_enter Try.func92, Try.ntmps92
      go_wp2_with (first | (go_at_call 93; refine (isLine_any _ _).mono ?_; rintro e w' ⟨rfl, rfl⟩; rw [hn]) | (go_at_call 101; go_in))
      go_ret
      exact ⟨rfl, gAlloc (Below.refl _ _) _⟩
    · by_cases hz : (⟨0, n, a, b, c, d⟩ : Wy) = wy0
      · obtain rfl : 0 = E := by have := HE.out; rw [if_pos ⟨rfl, rfl⟩, if_neg (fun k => k.2 hz)] at this; exact this
        have hq : eqW ⟨0, n, a, b, c, d⟩ ⟨0, 0, 0, 0, 0, 0⟩ = true := (eqW_iff _ _).2 hz
        clear hz
        go_enter Try.func92, Try.ntmps92
        go_wp2_with (first | (go_at_call 93; refine (isLine_any _ _).mono ?_; rintro e w' ⟨rfl, rfl⟩; rw [hn]) | (go_at_call 101; go_in))
        go_ret
        exact ⟨rfl, gAlloc (Below.refl _ _) _⟩
      · obtain rfl : 3 = E := by have := HE.out; rw [if_pos ⟨rfl, rfl⟩, if_pos ⟨rfl, hz⟩] at this; exact this
        have hq : eqW ⟨0, n, a, b, c, d⟩ ⟨0, 0, 0, 0, 0, 0⟩ = false := by
          cases e : eqW ⟨0, n, a, b, c, d⟩ ⟨0, 0, 0, 0, 0, 0⟩
          · rfl
          · exact absurd ((eqW_iff _ _).1 e) hz
        clear hz
        go_enter Try.func92, Try.ntmps92
        go_wp2_with (first | (go_at_call 93; refine (isLine_any _ _).mono ?_; rintro e w' ⟨rfl, rfl⟩; rw [hn]) | (go_at_call 101; go_in))
        go_ret
        exact ⟨rfl, gAlloc (Below.refl _ _) _⟩
  all_goals
    cases N
    all_goals
      have he := HE.out
      simp [stB] at he
      subst he
      go_enter Try.func92, Try.ntmps92
      go_wp2_with (first | (go_at_call 93; refine (isLine_any _ _).mono ?_; rintro e w' ⟨rfl, rfl⟩; rw [hn]) | (go_at_call 101; go_in))
      go_ret
      exact ⟨rfl, gAlloc (Below.refl _ _) _⟩
end Go.Proofs.Ytahoadfofleacaa

/- Plru: Proved: what each function of package plru returns, for every argument; none of them changes anything that was there. No condition. -/
namespace Go.Proofs.Ytahoadfofleacaa
open Go.ChangeShapes Go.WideShapes Go.ChangeAt Go.RowKit Go.Joins

/-- Is a tree right for so many ways? -/
def treeB (a b c : Bool) (n : Int) : Bool := (!a || decide (2 ≤ n)) && (!b || decide (3 ≤ n)) && (!c || decide (n = 4))

/-- What Check of package plru returns. -/
def treeE (a b c : Bool) (n : Int) : Int := if n < 1 ∨ 4 < n then 4 else if treeB a b c n then 0 else 3

theorem usesTop_any (n : Int) (w : World) : Calls Try.prog 98 #[.int .i64 n] w fun e w' => e = .returned (.bool (decide (2 ≤ n))) ∧ w = w' := by
  go_enter Try.func98, Try.ntmps98
  go_wp2
  go_ret
  exact ⟨rfl, rfl⟩

theorem usesLow_any (n : Int) (w : World) : Calls Try.prog 99 #[.int .i64 n] w fun e w' => e = .returned (.bool (decide (3 ≤ n))) ∧ w = w' := by
  go_enter Try.func99, Try.ntmps99
  go_wp2
  go_ret
  exact ⟨rfl, rfl⟩

theorem usesHigh_any (n : Int) (w : World) : Calls Try.prog 100 #[.int .i64 n] w fun e w' => e = .returned (.bool (n == 4)) ∧ w = w' := by
  go_enter Try.func100, Try.ntmps100
  go_wp2
  go_ret
  exact ⟨rfl, rfl⟩

theorem plruCheck_out (a b c : Bool) (n : Int) (w : World) (h : n < 1 ∨ 4 < n) :
    Calls Try.prog 91 #[tree a b c, .int .i64 n] w fun e w' => e = .returned (.int .i64 4) ∧ Below w.heap.size w w' := by
  by_cases h1 : n < 1
  · clear h
    go_enter Try.func91, Try.ntmps91
    go_wp2
    go_ret
    exact ⟨rfl, gAlloc (Below.refl _ _) _⟩
  · have h2 : 4 < n := by omega
    clear h
    go_enter Try.func91, Try.ntmps91
    go_wp2
    go_ret
    exact ⟨rfl, gAlloc (Below.refl _ _) _⟩

set_option maxHeartbeats 4000000 in
theorem plruCheck_in (a b c : Bool) (n : Int) (w : World) (h : n = 1 ∨ n = 2 ∨ n = 3 ∨ n = 4) :
    Calls Try.prog 91 #[tree a b c, .int .i64 n] w fun e w' => e = .returned (.int .i64 (if treeB a b c n then 0 else 3)) ∧ Below w.heap.size w w' := by
  rcases h with rfl | rfl | rfl | rfl
  all_goals
    cases a <;> cases b <;> cases c
    all_goals
      simp only [treeB]
      go_enter Try.func91, Try.ntmps91
      go_wp2_with (first
        | (go_at_call 98; refine (usesTop_any _ _).mono ?_; rintro e w' ⟨rfl, rfl⟩)
        | (go_at_call 99; refine (usesLow_any _ _).mono ?_; rintro e w' ⟨rfl, rfl⟩)
        | (go_at_call 100; refine (usesHigh_any _ _).mono ?_; rintro e w' ⟨rfl, rfl⟩))
      go_ret
      exact ⟨rfl, gAlloc (Below.refl _ _) _⟩

theorem plruCheck_ok (a b c : Bool) (n : Int) (w : World) (h1 : 1 ≤ n) (h4 : n ≤ 4) (h : treeB a b c n = true) :
    Calls Try.prog 91 #[tree a b c, .int .i64 n] w fun e w' => e = .returned (.int .i64 0) ∧ Below w.heap.size w w' := by
  have k := plruCheck_in a b c n w (by omega)
  rw [h] at k
  exact k

theorem plruCheck_any (a b c : Bool) (n : Int) (w : World) :
    Calls Try.prog 91 #[tree a b c, .int .i64 n] w fun e w' => e = .returned (.int .i64 (treeE a b c n)) ∧ Below w.heap.size w w' := by
  unfold treeE
  by_cases h : n < 1 ∨ 4 < n
  · rw [if_pos h]; exact plruCheck_out a b c n w h
  · rw [if_neg h]; exact plruCheck_in a b c n w (by omega)

/-- The tree after an access. -/
def touchT (_a b c : Bool) (n k : Int) : Bool × Bool × Bool :=
  if n ≤ 2 then (decide (n = 2) && decide (k = 0), b, c) else if k < 2 then (true, decide (k = 0), c) else (false, b, decide (n = 4) && decide (k = 2))

/-- The way to which the bits lead. -/
def victimN (a b c : Bool) (n : Int) : Int :=
  if n ≤ 2 then (if a then 1 else 0) else if a then (if c then 3 else 2) else (if b then 1 else 0)

theorem touch_bad (a b c : Bool) (n k : Int) (w : World) (h : treeE a b c n ≠ 0) :
    Calls Try.prog 95 #[tree a b c, .int .i64 n, .int .i64 k] w fun e w' => e = .returned (.tuple #[tree false false false, .int .i64 (treeE a b c n)]) ∧ Below w.heap.size w w' := by
  have h' : (treeE a b c n != 0) = true := by simpa using h
  clear h
  go_enter Try.func95, Try.ntmps95
  go_wp2_with fail
  refine (plruCheck_any _ _ _ _ _).mono ?_; rintro e w1 ⟨rfl, hb⟩
  obtain ⟨hc, hf⟩ := bcell hb
  have hz : w.heap.size + 1 < w1.heap.size := by have := hb.size; simp at this; omega
  go_wp2_with fail
  refine bodyPost_ret (v := .tuple #[tree false false false, .int .i64 (treeE a b c n)]) (by simp [results, Try.results95, go_sem, hc]) rfl ⟨rfl, ?_⟩
  exact gSet (gSet (gSet (gCall (gAlloc (gAlloc (Below.refl _ _) _) _) hb) (by simp) _) (by simp) _) (by simp) _

theorem touch_out (a b c : Bool) (n k : Int) (w : World) (h : treeE a b c n = 0) (hk : k < 0 ∨ n ≤ k) :
    Calls Try.prog 95 #[tree a b c, .int .i64 n, .int .i64 k] w fun e w' => e = .returned (.tuple #[tree false false false, .int .i64 4]) ∧ Below w.heap.size w w' := by
  have H := Lib.hid h
  clear h
  by_cases h1 : k < 0
  all_goals
    go_enter Try.func95, Try.ntmps95
    go_wp2_with fail
    refine (plruCheck_any _ _ _ _ _).mono ?_; rintro e w1 ⟨rfl, hb⟩
    rw [H.out]
    obtain ⟨hc, hf⟩ := bcell hb
    have hz : w.heap.size + 1 < w1.heap.size := by have := hb.size; simp at this; omega
    have hk2 : ¬ (0 ≤ k ∧ k < n) := by omega
    go_wp2_with fail
    refine bodyPost_ret (v := .tuple #[tree false false false, .int .i64 4]) (by simp [results, Try.results95, go_sem, hc]) rfl ⟨rfl, ?_⟩
    exact gSet (gSet (gSet (gCall (gAlloc (gAlloc (Below.refl _ _) _) _) hb) (by simp) _) (by simp) _) (by simp) _


end Go.Proofs.Ytahoadfofleacaa

/- Plru2: Proved: what Touch and Victim of package plru return for a tree that is right; neither changes anything that was there. Condition: the tree is right. -/
namespace Go.Proofs.Ytahoadfofleacaa
open Go.ChangeShapes Go.WideShapes Go.ChangeAt Go.RowKit Go.Joins

/-- A tree as a value, of three bits. -/
abbrev treeOf (t : Bool × Bool × Bool) : Value := tree t.1 t.2.1 t.2.2

set_option maxHeartbeats 4000000 in
theorem touch_lit (a b c : Bool) (n k : Int) (w : World) (h : treeE a b c n = 0) (hk : (n = 1 ∧ k = 0) ∨ (n = 2 ∧ k = 0) ∨ (n = 2 ∧ k = 1)) :
    Calls Try.prog 95 #[tree a b c, .int .i64 n, .int .i64 k] w fun e w' => e = .returned (.tuple #[treeOf (touchT a b c n k), .int .i64 0]) ∧ Below w.heap.size w w' := by
  have H := Lib.hid h
  clear h
  rcases hk with ⟨rfl, rfl⟩ | ⟨rfl, rfl⟩ | ⟨rfl, rfl⟩
  all_goals
    go_enter Try.func95, Try.ntmps95
    go_wp2_with fail
    refine (plruCheck_any _ _ _ _ _).mono ?_; rintro e w1 ⟨rfl, hb⟩
    rw [H.out]
    obtain ⟨hc, hf⟩ := bcell hb
    have hz : w.heap.size + 1 < w1.heap.size := by have := hb.size; simp at this; omega
    have c0 : w1.cell? ⟨w.heap.size, 0, none⟩ = some (.bool a) := by simp [hc, go_sem]
    have c1 : w1.cell? ⟨w.heap.size, 1, none⟩ = some (.bool b) := by simp [hc, go_sem]
    have c2 : w1.cell? ⟨w.heap.size, 2, none⟩ = some (.bool c) := by simp [hc, go_sem]
    go_wp2_with (first
        | (go_at_call 98; refine (usesTop_any _ _).mono ?_; rintro e w' ⟨rfl, rfl⟩)
        | (go_at_call 99; refine (usesLow_any _ _).mono ?_; rintro e w' ⟨rfl, rfl⟩)
        | (go_at_call 100; refine (usesHigh_any _ _).mono ?_; rintro e w' ⟨rfl, rfl⟩))
    refine bodyPost_ret (v := .tuple #[treeOf (touchT a b c _ _), .int .i64 0]) (by simp [results, Try.results95, go_sem, hc, touchT]) rfl ⟨rfl, ?_⟩
    repeat (refine gSet ?_ (by simp) _)
    exact gCall (gAlloc (gAlloc (Below.refl _ _) _) _) hb

set_option maxHeartbeats 4000000 in
theorem touch_three (a b c : Bool) (n k : Int) (w : World) (h : treeE a b c n = 0) (hn : n = 3) (hk : k = 0 ∨ k = 1 ∨ k = 2) :
    Calls Try.prog 95 #[tree a b c, .int .i64 n, .int .i64 k] w fun e w' => e = .returned (.tuple #[treeOf (touchT a b c n k), .int .i64 0]) ∧ Below w.heap.size w w' := by
  have H := Lib.hid h
  clear h
  rcases hk with rfl | rfl | rfl
  all_goals
    subst hn
    go_enter Try.func95, Try.ntmps95
    go_wp2_with fail
    refine (plruCheck_any _ _ _ _ _).mono ?_; rintro e w1 ⟨rfl, hb⟩
    rw [H.out]
    obtain ⟨hc, hf⟩ := bcell hb
    have hz : w.heap.size + 1 < w1.heap.size := by have := hb.size; simp at this; omega
    have c0 : w1.cell? ⟨w.heap.size, 0, none⟩ = some (.bool a) := by simp [hc, go_sem]
    have c1 : w1.cell? ⟨w.heap.size, 1, none⟩ = some (.bool b) := by simp [hc, go_sem]
    have c2 : w1.cell? ⟨w.heap.size, 2, none⟩ = some (.bool c) := by simp [hc, go_sem]
    go_wp2_with (first
        | (go_at_call 98; refine (usesTop_any _ _).mono ?_; rintro e w' ⟨rfl, rfl⟩)
        | (go_at_call 99; refine (usesLow_any _ _).mono ?_; rintro e w' ⟨rfl, rfl⟩)
        | (go_at_call 100; refine (usesHigh_any _ _).mono ?_; rintro e w' ⟨rfl, rfl⟩))
    refine bodyPost_ret (v := .tuple #[treeOf (touchT a b c _ _), .int .i64 0]) (by simp [results, Try.results95, go_sem, hc, touchT]) rfl ⟨rfl, ?_⟩
    repeat (refine gSet ?_ (by simp) _)
    exact gCall (gAlloc (gAlloc (Below.refl _ _) _) _) hb

set_option maxHeartbeats 4000000 in
theorem touch_four (a b c : Bool) (n k : Int) (w : World) (h : treeE a b c n = 0) (hn : n = 4) (hk : k = 0 ∨ k = 1 ∨ k = 2 ∨ k = 3) :
    Calls Try.prog 95 #[tree a b c, .int .i64 n, .int .i64 k] w fun e w' => e = .returned (.tuple #[treeOf (touchT a b c n k), .int .i64 0]) ∧ Below w.heap.size w w' := by
  have H := Lib.hid h
  clear h
  rcases hk with rfl | rfl | rfl | rfl
  all_goals
    subst hn
    go_enter Try.func95, Try.ntmps95
    go_wp2_with fail
    refine (plruCheck_any _ _ _ _ _).mono ?_; rintro e w1 ⟨rfl, hb⟩
    rw [H.out]
    obtain ⟨hc, hf⟩ := bcell hb
    have hz : w.heap.size + 1 < w1.heap.size := by have := hb.size; simp at this; omega
    have c0 : w1.cell? ⟨w.heap.size, 0, none⟩ = some (.bool a) := by simp [hc, go_sem]
    have c1 : w1.cell? ⟨w.heap.size, 1, none⟩ = some (.bool b) := by simp [hc, go_sem]
    have c2 : w1.cell? ⟨w.heap.size, 2, none⟩ = some (.bool c) := by simp [hc, go_sem]
    go_wp2_with (first
        | (go_at_call 98; refine (usesTop_any _ _).mono ?_; rintro e w' ⟨rfl, rfl⟩)
        | (go_at_call 99; refine (usesLow_any _ _).mono ?_; rintro e w' ⟨rfl, rfl⟩)
        | (go_at_call 100; refine (usesHigh_any _ _).mono ?_; rintro e w' ⟨rfl, rfl⟩))
    refine bodyPost_ret (v := .tuple #[treeOf (touchT a b c _ _), .int .i64 0]) (by simp [results, Try.results95, go_sem, hc, touchT]) rfl ⟨rfl, ?_⟩
    repeat (refine gSet ?_ (by simp) _)
    exact gCall (gAlloc (gAlloc (Below.refl _ _) _) _) hb

theorem touch_ok (a b c : Bool) (n k : Int) (w : World) (h : treeE a b c n = 0) (h0 : 0 ≤ k) (h1 : k < n) :
    Calls Try.prog 95 #[tree a b c, .int .i64 n, .int .i64 k] w fun e w' => e = .returned (.tuple #[treeOf (touchT a b c n k), .int .i64 0]) ∧ Below w.heap.size w w' := by
  have hn : 1 ≤ n ∧ n ≤ 4 := by
    unfold treeE at h
    by_cases g : n < 1 ∨ 4 < n
    · rw [if_pos g] at h; omega
    · omega
  by_cases h3 : n = 3
  · exact touch_three a b c n k w h h3 (by omega)
  by_cases h4 : n = 4
  · exact touch_four a b c n k w h h4 (by omega)
  exact touch_lit a b c n k w h (by omega)

theorem side_any (b : Bool) (w : World) : Calls Try.prog 102 #[.bool b] w fun e w' => e = .returned (.int .i64 (if b then 1 else 0)) ∧ w = w' := by
  cases b
  all_goals
    go_enter Try.func102, Try.ntmps102
    go_wp2
    go_ret
    exact ⟨rfl, rfl⟩

theorem victim_bad (a b c : Bool) (n : Int) (w : World) (h : treeE a b c n ≠ 0) :
    Calls Try.prog 94 #[tree a b c, .int .i64 n] w fun e w' => e = .returned (.tuple #[.int .i64 0, .int .i64 (treeE a b c n)]) ∧ Below w.heap.size w w' := by
  have h' : (treeE a b c n != 0) = true := by simpa using h
  clear h
  go_enter Try.func94, Try.ntmps94
  go_wp2_with fail
  refine (plruCheck_any _ _ _ _ _).mono ?_; rintro e w1 ⟨rfl, hb⟩
  obtain ⟨hc, hf⟩ := bcell hb
  go_wp2_with fail
  go_ret2
  exact ⟨rfl, gCall (gAlloc (Below.refl _ _) _) hb⟩

set_option maxHeartbeats 4000000 in
theorem victim_ok (a b c : Bool) (n : Int) (w : World) (h : treeE a b c n = 0) :
    Calls Try.prog 94 #[tree a b c, .int .i64 n] w fun e w' => e = .returned (.tuple #[.int .i64 (victimN a b c n), .int .i64 0]) ∧ Below w.heap.size w w' := by
  have H := Lib.hid h
  clear h
  have hn : 1 ≤ n ∧ n ≤ 4 := by
    have h := H.out
    unfold treeE at h
    by_cases g : n < 1 ∨ 4 < n
    · rw [if_pos g] at h; omega
    · omega
  obtain ⟨hn1, hn4⟩ := hn
  by_cases h2 : n ≤ 2
  · have h3 : decide (3 ≤ n) = false := by simp; omega
    cases a <;> cases b <;> cases c
    all_goals
      simp only [victimN, if_pos h2, if_true, if_false, Bool.false_eq_true]
      go_enter Try.func94, Try.ntmps94
      go_wp2_with fail
      refine (plruCheck_any _ _ _ _ _).mono ?_; rintro e w1 ⟨rfl, hb⟩
      rw [H.out]
      obtain ⟨hc, hf⟩ := bcell hb
      go_wp2_with fail
      refine (usesLow_any _ _).mono ?_; rintro e w' ⟨rfl, rfl⟩
      go_wp2_with fail
      refine (side_any _ _).mono ?_; rintro e w' ⟨rfl, rfl⟩
      go_wp2_with fail
      go_ret2
      exact ⟨rfl, gCall (gAlloc (Below.refl _ _) _) hb⟩
  · have h3 : 3 ≤ n := by omega
    cases a <;> cases b <;> cases c
    all_goals
      simp only [victimN, if_neg h2, if_true, if_false, Bool.false_eq_true]
      go_enter Try.func94, Try.ntmps94
      go_wp2_with fail
      refine (plruCheck_any _ _ _ _ _).mono ?_; rintro e w1 ⟨rfl, hb⟩
      rw [H.out]
      obtain ⟨hc, hf⟩ := bcell hb
      go_wp2_with fail
      refine (usesLow_any _ _).mono ?_; rintro e w' ⟨rfl, rfl⟩
      go_wp2_with fail
      refine (side_any _ _).mono ?_; rintro e w' ⟨rfl, rfl⟩
      go_wp2_with fail
      go_ret2
      exact ⟨rfl, gCall (gAlloc (Below.refl _ _) _) hb⟩
end Go.Proofs.Ytahoadfofleacaa

/- Plru3: Proved: the range of ways of a tree that is right, and the closed fact of package plru that the laws ask for first. No condition. -/
namespace Go.Proofs.Ytahoadfofleacaa
open Go.ChangeShapes Go.WideShapes Go.ChangeAt Go.RowKit Go.Joins

theorem treeE_range {a b c : Bool} {n : Int} (h : treeE a b c n = 0) : 1 ≤ n ∧ n ≤ 4 := by
  unfold treeE at h
  by_cases g : n < 1 ∨ 4 < n
  · rw [if_pos g] at h; omega
  · omega

theorem plruCheck_zero (a b c : Bool) (n : Int) (w : World) (h : treeE a b c n = 0) :
    Calls Try.prog 91 #[tree a b c, .int .i64 n] w fun e w' => e = .returned (.int .i64 0) ∧ Below w.heap.size w w' := by
  have k := plruCheck_any a b c n w
  rw [h] at k
  exact k

end Go.Proofs.Ytahoadfofleacaa

/- Stored: Proved: what a store into one block leaves as it was; a whole block stored anew. No condition. -/
namespace Go.Proofs.Ytahoadfofleacaa
open Go.ChangeShapes Go.WideShapes Go.ChangeAt Go.RowKit

/-- The world behind a store into block 'g'. -/
structure Stored (w : World) (g : Nat) (w' : World) : Prop where
  heap : ∀ {h : Nat}, h ≠ g → w'.heap[h]? = w.heap[h]?
  size : w'.heap.size = w.heap.size
  low : ∀ {B : Nat} {z : World}, Below B z w → B ≤ g → Below B z w'

section
variable {w w' : World} {g : Nat}
theorem Stored.box (st : Stored w g w') {h : Nat} {t : TypeId} {cs : Array Value} (b : Box w h t cs) (hne : h ≠ g) : Box w' h t cs := (st.heap hne).trans b
theorem Stored.cell (st : Stored w g w') {p : Addr} {z : Value} (hne : p.block ≠ g) (h : w.cell? p = some z) : w'.cell? p = some z := by
  rw [← h]
  unfold World.cell?
  rw [st.heap hne]
theorem Stored.row (w : World) {t : TypeId} {old : Array Value} (hg : Box w g t old) (cells : Array Value) : Box (w.setRow g cells) g t cells ∧ Stored w g (w.setRow g cells) := by
  refine ⟨setRow_heap w g old cells t _ hg, fun {h} hne => ?_, by simp [World.setRow], fun {B} {z} b hB => ⟨b.os, b.tape, b.output, ?_, fun x hx => ?_⟩⟩
  · simp [World.setRow, Array.getElem?_modify, Ne.symm hne]
  · have := b.size
    simpa [World.setRow] using this
  · rw [← b.block x hx]
    simp [World.setRow, Array.getElem?_modify, show g ≠ x by omega]
end

/-- A whole block is stored anew. -/
theorem wp_store_box {P : Program} {op : Oper} {a : Act} {w : World} {K : Act → World → Prop} {Q : Exit → Act → World → Prop} (ty : TypeId) (x y : Operand) (ho : op.op = .store ty x y)
    (g : Nat) (cells : Array Value) (hx : a.eval x = .pointer (some ⟨g, 0, none⟩)) (hy : a.eval y = .agg cells) {t : TypeId} {old : Array Value} (hg : Box w g t old)
    (hi : (P.info? ty).map (·.size) = some cells.size) (hold : old.size = cells.size) (h1 : cells.all (·.oneCell') = true)
    (h : ∀ w', Box w' g t cells → Stored w g w' → K (a.put op.dst undef) w') : op.wp P a w K Q :=
  wp_store_row ty x y ho g cells hx hy t old hg hi hold h1 (h _ (Stored.row w hg cells).1 (Stored.row w hg cells).2)

theorem Stored.cell1 (w : World) (p : Addr) (x : Value) : Stored w p.block (w.setCell p x) :=
  ⟨fun {h} hne => Below.heap_setCell w p x h hne, by simp, fun b hB => b.setCell hB x⟩
theorem Stored.trans {w w1 w2 : World} {g : Nat} (h : Stored w g w1) (h' : Stored w1 g w2) : Stored w g w2 :=
  ⟨fun hne => (h'.heap hne).trans (h.heap hne), h'.size.trans h.size, fun b hB => h'.low (h.low b hB) hB⟩
end Go.Proofs.Ytahoadfofleacaa

/- Row: Proved: what the functions of package row return, for every set that can be read; none of them changes anything that was there. No condition. -/
namespace Go.Proofs.Ytahoadfofleacaa
open Go.ChangeShapes Go.WideShapes Go.ChangeAt Go.RowKit Go.Joins

theorem info_way : (Try.prog.info? 51).map (fun i => (i.zero, i.size, i.bytes)) = some (some wy0.val, 6, 48) := by kernel_rfl

theorem waysC_one (l : List Wy) : ∀ u ∈ waysC l, u.oneCell' = true := by
  intro u hu
  simp only [waysC, List.mem_flatMap] at hu
  obtain ⟨x, _, hx⟩ := hu
  simp [Wy.cells] at hx
  rcases hx with rfl | rfl | rfl | rfl | rfl | rfl <;> rfl

/-- The slice lies in block 'g', which is known whole and of which the ways are the first. -/
def Own (w : World) (g : Nat) (v : Value) (l : List Wy) : Prop :=
  ∃ cap cur, v = .slice (some ⟨g, 0, none⟩) l.length cap ∧ Box w g 51 cur ∧ l.length ≤ cap ∧ cap ≤ maxLen ∧ cur.size = cap * 6 ∧ ∀ (q : Nat) (y : Wy), l[q]? = some y → ∀ r, r < 6 → cur[q * 6 + r]? = y.cells[r]?

theorem own_at {cur : Array Value} {l : List Wy} (ht : cur.toList.take (l.length * 6) = waysC l) {k : Nat} {x : Wy} (h : l[k]? = some x) (j : Nat) (hj : j < 6) : cur[k * 6 + j]? = x.cells[j]? := by
  have hk : k < l.length := (List.getElem?_eq_some_iff.1 h).1
  rw [← waysC_at h j hj, ← ht, List.getElem?_take, if_pos (by omega), Array.getElem?_toList]

theorem nilWays (A : Addr) (n c : Nat) : ∀ w, (binOp .eql 59 (.slice (some A) n c) (.slice none 0 0)).run Try.prog w = .ok (.bool false) w := fun w => by kernel_rfl

theorem clone_any (v : Value) (l : List Wy) (w : World) (h : Ws w v l) (h0 : 0 < l.length) (h4 : l.length ≤ 4) :
    Calls Try.prog 23 #[v] w fun e w' => ∃ v' g, e = .returned v' ∧ Own w' g v' l ∧ w.heap.size ≤ g ∧ Below w.heap.size w w' := by
  obtain ⟨hl, A, c, rfl, h1, h2, h3⟩ := h
  obtain ⟨b, o, rfl, hb, hc⟩ := h3 h0
  have HC := Lib.hid hc
  have HL := Lib.hid hl
  obtain ⟨i0, hi, hz0, hz1, hz2⟩ := info_parts info_way
  have HI := Lib.hid hi
  have HZ := Lib.hid (And.intro hz0 (And.intro hz1 hz2))
  clear hc hl h3 hi hz0 hz1 hz2
  go_enter Try.func23, Try.ntmps23
  have en := nilWays ⟨b, o, none⟩ l.length c
  go_wp2_with (at_builtin; refine wpList_append_own _ rfl _ _ 59 rfl w.heap.size 51 i0 wy0.val 6 48 Try.underlying59 HI.out HZ.out.1 HZ.out.2.1 HZ.out.2.2 rfl (by decide) _ 0 [] rfl ?c0 ⟨b, o, none⟩ l.length c (waysC l) rfl HL.out ?c1 (waysC_one l) ?c3 ?c4 ?c5 ?_)
  case c0 => exact ⟨rfl, .inr ⟨w.heap.size, 0, #[], rfl, Nat.le_refl _, Box.new w 51 #[], Nat.le_refl _, Nat.zero_le _, rfl, rfl⟩⟩
  case c1 =>
    intro j u hu
    have k := HC.out j u hu
    have e : (⟨b, o, none⟩ : Addr).add j = ⟨b, o + j, none⟩ := by cases j <;> simp [Addr.add]
    rw [e]
    exact ((Below.refl w.heap.size w).alloc (Nat.le_refl _) _).cell (p := ⟨b, o + j, none⟩) hb |>.trans k
  case c3 => unfold maxLen; omega
  case c4 => omega
  case c5 => simp
  intro v' w1 own grow _
  have low : Below w.heap.size w w1 := (gAlloc (Below.refl _ _) _).grown grow (by simp) (fun g e => by simp [Value.ownBlock] at e; omega)
  try simp only [Nat.zero_add, List.nil_append] at own
  obtain ⟨o1, o2⟩ := own
  rcases o2 with ⟨_, o2⟩ | ⟨g, cap, cur, rfl, hg, hh, hn, hm, hs, ht⟩
  · omega
  have O := Lib.hid (show Own w1 g (.slice (some ⟨g, 0, none⟩) l.length cap) l from ⟨cap, cur, rfl, hh, hn, hm, hs, fun q y h r hr => own_at ht h r hr⟩)
  clear hh hs ht o1 grow
  go_wp2_with fail
  go_ret
  exact ⟨_, g, rfl, O.out, hg, low⟩

/-- A way stored into a slice of one's own. -/
def putW (w : World) (g k : Nat) (x : Wy) : World :=
  (((((w.setCell ⟨g, k * 6, none⟩ (.int .i64 x.st)).setCell ⟨g, k * 6 + 1, none⟩ (.int .i64 x.ln)).setCell ⟨g, k * 6 + 2, none⟩ (.int .u64 x.a)).setCell ⟨g, k * 6 + 3, none⟩ (.int .u64 x.b)).setCell ⟨g, k * 6 + 4, none⟩ (.int .u64 x.c)).setCell ⟨g, k * 6 + 5, none⟩ (.int .u64 x.d)

theorem Own.ws {w : World} {g : Nat} {v : Value} {l : List Wy} (h : Own w g v l) : Ws w v l := by
  obtain ⟨cap, cur, rfl, hb, hn, hm, hs, ht⟩ := h
  refine ⟨waysC_length l, some ⟨g, 0, none⟩, cap, rfl, hn, hm, fun _ => ⟨g, 0, rfl, hb.lt, fun j u hu => ?_⟩⟩
  rw [hb.cell, Nat.zero_add]
  have hj : j < l.length * 6 := by
    have := (List.getElem?_eq_some_iff.1 hu).1
    rwa [waysC_length] at this
  have hq : j / 6 < l.length := by omega
  have hjq : j / 6 * 6 + j % 6 = j := by omega
  have h1 := ht (j / 6) l[j / 6] (List.getElem?_eq_getElem hq) (j % 6) (by omega)
  have h2 := waysC_at (List.getElem?_eq_getElem hq) (j % 6) (by omega)
  rw [hjq] at h1 h2
  rw [h1, ← h2, hu]

theorem Own.far {w : World} {g : Nat} {v : Value} {l : List Wy} (h : Own w g v l) {p : Addr} (hp : g ≠ p.block) (u : Value) : Own (w.setCell p u) g v l := by
  obtain ⟨cap, cur, rfl, hb, r⟩ := h
  exact ⟨cap, cur, rfl, hb.far hp u, r⟩

theorem Own.put {w : World} {g : Nat} {v : Value} {l : List Wy} (h : Own w g v l) (k : Nat) (x : Wy) (hk : k < l.length) : Own (putW w g k x) g v (l.set k x) := by
  obtain ⟨cap, cur, rfl, hb, hn, hm, hs, ht⟩ := h
  have box : Box (putW w g k x) g 51 _ := ((((((hb.set (k * 6) (.int .i64 x.st)).set (k * 6 + 1) (.int .i64 x.ln)).set (k * 6 + 2) (.int .u64 x.a)).set (k * 6 + 3) (.int .u64 x.b)).set (k * 6 + 4) (.int .u64 x.c)).set (k * 6 + 5) (.int .u64 x.d))
  refine ⟨cap, _, by rw [List.length_set], box, by rw [List.length_set]; exact hn, hm, by simpa using hs, fun q y hy r hr6 => ?_⟩
  by_cases e : q = k
  · subst e
    rw [List.getElem?_set_self hk] at hy
    cases hy
    have hsz : q * 6 + 5 < cur.size := by omega
    match r, hr6 with
    | 0, _ | 1, _ | 2, _ | 3, _ | 4, _ | 5, _ =>
      simp [Array.getElem?_setIfInBounds, Wy.cells]
      omega
  · rw [List.getElem?_set_ne (fun h => e h.symm)] at hy
    have := ht q y hy r hr6
    simp only [Array.getElem?_setIfInBounds]
    repeat rw [if_neg (by omega)]
    exact this

/-- A slice that is new: it lies in no block below 'B', and in none from 'C' on. -/
def Fr (w : World) (B C : Nat) (v : Value) (l : List Wy) : Prop := (v = .slice none 0 0 ∧ l = []) ∨ ∃ g, B ≤ g ∧ g < C ∧ Own w g v l

section
variable {w w' : World} {B B' C C' : Nat} {v : Value} {l : List Wy}
theorem Fr.nil (w : World) (B C : Nat) : Fr w B C (.slice none 0 0) [] := .inl ⟨rfl, rfl⟩
theorem Fr.ws (h : Fr w B C v l) : Ws w v l := by
  rcases h with ⟨rfl, rfl⟩ | ⟨g, _, _, h⟩
  · exact Ws.nil w
  · exact h.ws
theorem Fr.shape (h : Fr w B C v l) : ∃ A c, v = .slice A l.length c := by
  obtain ⟨_, A, c, e, _⟩ := h.ws
  exact ⟨A, c, e⟩
theorem Fr.far (h : Fr w B C v l) {p : Addr} (hp : p.block < B ∨ C ≤ p.block) (u : Value) : Fr (w.setCell p u) B C v l := by
  rcases h with h | ⟨g, hg, hc, h⟩
  · exact .inl h
  · exact .inr ⟨g, hg, hc, h.far (by omega) u⟩
theorem Fr.more (h : Fr w B C v l) (hB : B' ≤ B) (hC : C ≤ C') : Fr w B' C' v l := by
  rcases h with h | ⟨g, hg, hc, h⟩
  · exact .inl h
  · exact .inr ⟨g, by omega, by omega, h⟩
theorem Fr.call (h : Fr w B C v l) (hb : Below w.heap.size w w') : Fr w' B C v l := by
  rcases h with h | ⟨g, hg, hc, cap, cur, rfl, h1, h2⟩
  · exact .inl h
  · exact .inr ⟨g, hg, hc, cap, cur, rfl, h1.call hb, h2⟩
theorem Fr.alloc (h : Fr w B C v l) (o : Obj) : Fr (w.alloc o) B C v l := h.call (gAlloc (Below.refl _ _) o)
theorem Own.lt {g : Nat} (h : Own w g v l) : g < w.heap.size := by
  obtain ⟨_, _, _, hb, _⟩ := h
  exact hb.lt
end

theorem low_put {B : Nat} {w w' : World} {g k : Nat} {x : Wy} (h : Below B w w') (hg : B ≤ g) : Below B w (putW w' g k x) := by
  unfold putW
  exact (((((h.setCell hg _).setCell hg _).setCell hg _).setCell hg _).setCell hg _).setCell hg _

theorem size_way : (Try.prog.info? 51).map (·.size) = some 6 := by kernel_rfl

section
variable {w w' : World} {g : Nat}
theorem Stored.fr (st : Stored w g w') {B C : Nat} {v : Value} {l : List Wy} (h : Fr w B C v l) (hg : g < B ∨ C ≤ g) : Fr w' B C v l := by
  rcases h with h | ⟨x, hx, hc, cap, cur, rfl, h1, h2⟩
  · exact .inl h
  · exact .inr ⟨x, hx, hc, cap, cur, rfl, st.box h1 (by omega), h2⟩
end

theorem wpList_put_way {ops : Array Oper} {rest : List Oper} {op : Oper} {a : Act} {w : World} {Q : Exit → Act → World → Prop} (hgd : op.guard = none) (x y : Operand) (ho : op.op = .store 51 x y)
    (g : Nat) (v : Value) (l : List Wy) (k : Nat) (X : Wy) (own : Own w g v l) (hk : k < l.length) (hx : a.eval x = .pointer (some ⟨g, k * 6, none⟩)) (hy : a.eval y = X.val)
    (h : ∀ w', Own w' g v (l.set k X) → Stored w g w' → wpList Try.prog ops Q rest (a.put op.dst undef) w') : wpList Try.prog ops Q (op :: rest) a w := by
  refine wpList_store_mid hgd 51 x y ho g (k * 6) X.arr hx hy ?_ size_way (by simp [Value.oneCell']) ?_
  · obtain ⟨cap, cur, rfl, hbx, hn, hm, hs, ht⟩ := own
    intro j hj
    have hj6 : j < 6 := hj
    refine ⟨?_, hbx.frozen _⟩
    rw [hbx.cell, ht k _ (List.getElem?_eq_getElem hk) j hj6]
    match j, hj6 with
    | 0, _ | 1, _ | 2, _ | 3, _ | 4, _ | 5, _ => rfl
  · refine h _ (own.put k X hk) ⟨fun {h} hne => ?_, ?_, fun b hB => low_put b hB⟩
    · have f : ∀ (w : World) (o : Nat) (u : Value), (w.setCell ⟨g, o, none⟩ u).heap[h]? = w.heap[h]? := fun w o u => Below.heap_setCell w ⟨g, o, none⟩ u h hne
      show (putW w g k X).heap[h]? = _
      unfold putW
      rw [f, f, f, f, f, f]
    · show (putW w g k X).heap.size = _
      simp [putW]

set_option maxHeartbeats 1000000 in
theorem replace_any (v : Value) (l : List Wy) (a b c : Bool) (k : Nat) (x : Wy) (w : World) (h : Ws w v l) (hk : k < l.length) (h4 : l.length ≤ 4) :
    Calls Try.prog 80 #[rowV v a b c, .int .i64 k, x.val] w fun e w' => (∃ v', e = .returned (rowV v' a b c) ∧ Fr w' w.heap.size w'.heap.size v' (l.set k x)) ∧ Below w.heap.size w w' := by
  have H := Lib.hid h
  clear h
  have low := Below.refl w.heap.size w
  have rb := boxNext low 78 (rowA v a b c)
  replace low := gAlloc low (.cells (rowA v a b c) 78)
  try simp only [World.size_alloc] at rb
  simp only [rowA] at rb
  have xb := boxNext low 51 x.arr
  replace low := gAlloc low (.cells x.arr 51)
  replace rb := rb.alloc (.cells x.arr 51)
  try simp only [World.size_alloc] at xb
  simp only [Wy.arr] at xb
  have ob := boxNext low 78 (rowA (.slice none 0 0) false false false)
  replace low := gAlloc low (.cells (rowA (.slice none 0 0) false false false) 78)
  replace rb := rb.alloc (.cells (rowA (.slice none 0 0) false false false) 78)
  replace xb := xb.alloc (.cells (rowA (.slice none 0 0) false false false) 78)
  try simp only [World.size_alloc] at ob
  simp only [rowA] at ob
  go_enter Try.func80, Try.ntmps80
  go_wp2_with fail
  (with_reducible refine (clone_any v l _ (((H.out.alloc _).alloc _).alloc _) (by omega) h4).mono ?_); rintro e w1 ⟨v', g, rfl, own, hg, hb⟩
  replace rb := rb.call hb
  replace xb := xb.call hb
  replace ob := ob.call hb
  replace low := gCall low hb
  clear hb
  simp only [World.size_alloc] at hg
  obtain ⟨cap, cur, rfl, o1, o2, o3, o4, o5⟩ := own
  have own := Lib.hid (show Own w1 g _ l from ⟨cap, cur, rfl, o1, o2, o3, o4, o5⟩)
  clear o1 o3 o4 o5
  have rb_0 := rb.at_ 0 rfl
  have rb_1 := rb.at_ 1 rfl
  have rb_2 := rb.at_ 2 rfl
  have rb_3 := rb.at_ 3 rfl
  have xb_0 := xb.at_ 0 rfl
  have xb_1 := xb.at_ 1 rfl
  have xb_2 := xb.at_ 2 rfl
  have xb_3 := xb.at_ 3 rfl
  have xb_4 := xb.at_ 4 rfl
  have xb_5 := xb.at_ 5 rfl
  go_wp2_with (refine wpList_put_way rfl (.tmp 14) (.tmp 13) rfl g _ l k x own.out hk rfl rfl ?_)
  intro w2 own2 st
  clear rb_0 rb_1 rb_2 rb_3 xb_0 xb_1 xb_2 xb_3 xb_4 xb_5
  replace rb := st.box rb (by omega)
  replace ob := st.box ob (by omega)
  replace low := st.low low (by omega)
  have O2 := Lib.hid own2
  clear own2 st xb own
  have z2 : w.heap.size + 1 + 1 < w2.heap.size := ob.lt
  have rb_0 := rb.at_ 0 rfl
  have rb_1 := rb.at_ 1 rfl
  have rb_2 := rb.at_ 2 rfl
  have rb_3 := rb.at_ 3 rfl
  have ob_0 := ob.at_ 0 rfl
  have ob_1 := ob.at_ 1 rfl
  have ob_2 := ob.at_ 2 rfl
  have ob_3 := ob.at_ 3 rfl
  have f0 := ob.frozen 0
  have f1 := ob.frozen 1
  have f2 := ob.frozen 2
  have f3 := ob.frozen 3
  go_wp2_with fail
  refine bodyPost_ret (v := rowV (.slice (some ⟨g, 0, none⟩) l.length cap) a b c) (by simp [results, Try.results80, go_sem, ob_0, ob_1, ob_2, ob_3]) rfl ⟨⟨_, rfl, ?_⟩, ?_⟩
  · exact .inr ⟨g, by omega, by simpa using O2.out.lt, (((O2.out.far (by dsimp only; omega) _).far (by dsimp only; omega) _).far (by dsimp only; omega) _).far (by dsimp only; omega) _⟩
  · repeat (refine gSet ?_ (by dsimp only; omega) _)
    exact low

/-- The place for a new line. -/
def roomN (l : List Wy) (a b c : Bool) (n : Int) : Int := if idxP empW l < 0 then victimN a b c n else idxP empW l

set_option maxHeartbeats 1000000 in
theorem room_any (v : Value) (l : List Wy) (a b c : Bool) (n : Int) (w : World) (h : Ws w v l) (ht : treeE a b c n = 0) :
    Calls Try.prog 78 #[rowV v a b c, .int .i64 n] w fun e w' => e = .returned (.int .i64 (roomN l a b c n)) ∧ Below w.heap.size w w' := by
  obtain ⟨hl, A, cp, rfl, h1, h2, h3⟩ := h
  have H3 := Lib.hid h3
  have HT := Lib.hid ht
  unfold maxLen at h2
  clear hl h3 ht
  have low := Below.refl w.heap.size w
  have rb := boxNext low 78 (rowA (.slice A l.length cp) a b c)
  replace low := gAlloc low (.cells (rowA (.slice A l.length cp) a b c) 78)
  try simp only [World.size_alloc] at rb
  simp only [rowA] at rb
  go_enter Try.func78, Try.ntmps78
  go_wp2
  go_loopw [12] (fun i wr => ∃ k : Nat, k ≤ l.length ∧ i = .int .i64 k ∧ Hid (∀ j x, j < k → l[j]? = some x → empW x = false) ∧ Box wr w.heap.size 78 (rowA (.slice A l.length cp) a b c) ∧ Below w.heap.size w wr) (fun i _ => l.length - (intOf i).toNat)
  case atStart => exact ⟨0, Nat.zero_le _, rfl, Lib.hid fun j x hj => absurd hj (by omega), rb, low⟩
  case round =>
    clear rb low
    obtain ⟨k, hk, rfl, hno, rb, low⟩ := hrel
    simp only [rowA] at rb
    by_cases hlt : k < l.length
    · obtain ⟨bb, o, rfl, hb, hc⟩ := H3.out (by omega)
      have hx : l[k]? = some l[k] := List.getElem?_eq_getElem _
      generalize l[k] = x at hx
      obtain ⟨c0, c1, c2, c3, c4, c5⟩ := wayAt_of hc hb low hx
      have HX := Lib.hid hx
      clear hx hc
      cases he : (x.st == 0)
      · have HW := Lib.hid (show empW x = false from he)
        go_wp2
        go_roundw
        case rel => exact ⟨k + 1, by omega, by go_num, Lib.hid (upto hno.out HX.out HW.out), rb.alloc _, gAlloc low _⟩
        case measure => simp [intOf]; omega
      · have HW := Lib.hid (show empW x = true from he)
        go_wp2
        go_ret
        exact ⟨by rw [roomN, idxP_some hno.out HX.out HW.out, if_neg (by omega)]; rfl, gAlloc low _⟩
    · have HN := Lib.hid (idxP_none (all_upto hno.out hlt))
      have rb_0 := rb.at_ 0 rfl
      have rb_1 := rb.at_ 1 rfl
      have rb_2 := rb.at_ 2 rfl
      have rb_3 := rb.at_ 3 rfl
      go_wp2_with fail
      (with_reducible refine (victim_ok _ _ _ _ _ HT.out).mono ?_); rintro e w2 ⟨rfl, hb⟩
      replace rb := rb.call hb
      replace low := gCall low hb
      clear hb rb_0 rb_1 rb_2 rb_3
      go_wp2_with fail
      go_ret
      exact ⟨by rw [roomN, HN.out, if_pos (by decide)]; rfl, low⟩

set_option maxHeartbeats 2000000 in
theorem access_any (v : Value) (l : List Wy) (a b c : Bool) (n : Int) (k : Nat) (x : Wy) (w : World) (h : Ws w v l) (ht : treeE a b c n = 0) (hn : (l.length : Int) = n) (hk : k < l.length) :
    Calls Try.prog 79 #[rowV v a b c, .int .i64 n, .int .i64 k, x.val] w fun e w' =>
      (∃ v', e = .returned (rowV v' (touchT a b c n k).1 (touchT a b c n k).2.1 (touchT a b c n k).2.2) ∧ Fr w' w.heap.size w'.heap.size v' (l.set k x)) ∧ Below w.heap.size w w' := by
  obtain ⟨hn1, hn4⟩ := treeE_range ht
  have H := Lib.hid h
  have h4 : l.length ≤ 4 := by omega
  have TO := Lib.hid (fun w => touch_ok a b c n k w ht (by omega) (by omega))
  clear h ht hn hn1 hn4
  generalize touchT a b c n k = t at TO ⊢
  have low := Below.refl w.heap.size w
  have rb := boxNext low 78 (rowA v a b c)
  replace low := gAlloc low (.cells (rowA v a b c) 78)
  try simp only [World.size_alloc] at rb
  simp only [rowA] at rb
  have xb := boxNext low 51 x.arr
  replace low := gAlloc low (.cells x.arr 51)
  replace rb := rb.alloc (.cells x.arr 51)
  try simp only [World.size_alloc] at xb
  simp only [Wy.arr] at xb
  have ob := boxNext low 78 (rowA (.slice none 0 0) false false false)
  replace low := gAlloc low (.cells (rowA (.slice none 0 0) false false false) 78)
  replace rb := rb.alloc (.cells (rowA (.slice none 0 0) false false false) 78)
  replace xb := xb.alloc (.cells (rowA (.slice none 0 0) false false false) 78)
  try simp only [World.size_alloc] at ob
  simp only [rowA] at ob
  go_enter Try.func79, Try.ntmps79
  go_wp2_with fail
  (with_reducible refine (replace_any v l a b c k x _ (((H.out.alloc _).alloc _).alloc _) hk h4).mono ?_); rintro e w1 ⟨⟨v', rfl, fr⟩, hb⟩
  simp only [World.size_alloc] at fr
  replace rb := rb.call hb
  replace ob := ob.call hb
  replace low := gCall low hb
  have z1 : w.heap.size + 1 + 1 < w1.heap.size := ob.lt
  clear hb xb
  obtain ⟨A', c', rfl⟩ := fr.shape
  simp only [List.length_set] at fr
  have nb := boxNext low 78 (rowA (.slice A' l.length c') a b c)
  replace low := gAlloc low (.cells (rowA (.slice A' l.length c') a b c) 78)
  replace rb := rb.alloc (.cells (rowA (.slice A' l.length c') a b c) 78)
  replace ob := ob.alloc (.cells (rowA (.slice A' l.length c') a b c) 78)
  replace fr := fr.alloc (.cells (rowA (.slice A' l.length c') a b c) 78)
  try simp only [World.size_alloc] at nb
  simp only [rowA] at nb
  have rb_0 := rb.at_ 0 rfl
  have rb_1 := rb.at_ 1 rfl
  have rb_2 := rb.at_ 2 rfl
  have rb_3 := rb.at_ 3 rfl
  simp only [List.length_set]
  go_wp2_with fail
  (with_reducible refine (TO.out _).mono ?_); rintro e w2 ⟨rfl, hb⟩
  replace rb := rb.call hb
  replace ob := ob.call hb
  replace nb := nb.call hb
  replace fr := fr.call hb
  replace low := gCall low hb
  clear hb rb_0 rb_1 rb_2 rb_3
  have z2 : w1.heap.size < w2.heap.size := nb.lt
  have nb_0 := nb.at_ 0 rfl
  have nb_1 := nb.at_ 1 rfl
  have nb_2 := nb.at_ 2 rfl
  have nb_3 := nb.at_ 3 rfl
  have ob_0 := ob.at_ 0 rfl
  have ob_1 := ob.at_ 1 rfl
  have ob_2 := ob.at_ 2 rfl
  have ob_3 := ob.at_ 3 rfl
  have f0 := ob.frozen 0
  have f1 := ob.frozen 1
  have f2 := ob.frozen 2
  have f3 := ob.frozen 3
  have g0 := nb.frozen 0
  have g1 := nb.frozen 1
  have g2 := nb.frozen 2
  have g3 := nb.frozen 3
  have ne : w.heap.size + 1 + 1 ≠ w1.heap.size := by omega
  have ne' := ne.symm
  go_wp2_with fail
  refine bodyPost_ret (v := rowV (.slice A' l.length c') t.1 t.2.1 t.2.2) (by simp [results, Try.results79, go_sem, ob_0, ob_1, ob_2, ob_3]) rfl ⟨⟨_, rfl, ?_⟩, ?_⟩
  · refine Fr.more ?_ (B := w.heap.size + 1 + 1 + 1) (C := w1.heap.size) (by omega) (by simp; omega)
    repeat (refine Fr.far ?_ (by dsimp only; omega) _)
    exact fr
  · repeat (refine gSet ?_ (by dsimp only; omega) _)
    exact low

theorem waysC_one1 (x : Wy) : ∀ u ∈ x.cells, u.oneCell' = true := by
  intro u hu
  simp [Wy.cells] at hu
  rcases hu with rfl | rfl | rfl | rfl | rfl | rfl <;> rfl

theorem own_shape {w : World} {base size n : Nat} {e : TypeId} {v : Value} {xs : List Value} (h : w.ownsRow base e size v n xs) : ∃ A c, v = .slice A n c := by
  rcases h.2 with ⟨rfl, rfl⟩ | ⟨g, cap, cur, rfl, _⟩
  · exact ⟨_, _, rfl⟩
  · exact ⟨_, _, rfl⟩

/-- The cells of a way in a block that is new. -/
theorem new_cells (w : World) (t : TypeId) (x : Wy) (g q : Nat) (u : Value) (hg : g = w.heap.size) (h : x.cells[q]? = some u) : (w.alloc (.cells x.arr t)).cell? ((⟨g, 0, none⟩ : Addr).add q) = some u := by
  subst hg
  have e : (⟨w.heap.size, 0, none⟩ : Addr).add q = ⟨w.heap.size, q, none⟩ := by cases q <;> simp [Addr.add]
  rw [e, (Box.new w t x.arr).cell, ← h]
  simp [Wy.cells]

/-- What a call has gathered by itself is new. -/
theorem fr_own {w : World} {base n : Nat} {v : Value} {xs : List Value} {l : List Wy} (h : w.ownsRow base 51 6 v n xs) (hx : xs = waysC l) (hn : n = l.length) : Fr w base w.heap.size v l := by
  subst hx hn
  rcases h.2 with ⟨rfl, h0⟩ | ⟨g, cap, cur, rfl, hg, hh, h1, h2, h3, h4⟩
  · exact .inl ⟨rfl, List.eq_nil_of_length_eq_zero h0⟩
  · have own : Own w g (.slice (some ⟨g, 0, none⟩) l.length cap) l := ⟨cap, cur, rfl, hh, h1, h2, h3, fun q y hy r hr => own_at h4 hy r hr⟩
    exact .inr ⟨g, hg, own.lt, own⟩
theorem fr_of_own {w : World} {g B : Nat} {v : Value} {l : List Wy} (h : Own w g v l) (hB : B ≤ g) : Fr w B w.heap.size v l := .inr ⟨g, hB, h.lt, h⟩
end Go.Proofs.Ytahoadfofleacaa

/- Row2: Proved: what Check, Find, Put, Take and Set of package row return, for every set that can be read; none of them changes anything that was there. No condition. -/
namespace Go.Proofs.Ytahoadfofleacaa
open Go.ChangeShapes Go.WideShapes Go.ChangeAt Go.RowKit Go.Joins

/-- The first error of the ways, of which those before are 'pre'. -/
def waysE (pre : List Wy) : List Wy → Int
  | [] => 0
  | x :: r => if wayE x ≠ 0 then wayE x else if (x.st != 0 && decide (0 ≤ idxP (hasW x.ln) pre)) = true then 6 else waysE (pre ++ [x]) r

/-- The first error of a set. -/
def rowE (l : List Wy) (a b c : Bool) (n : Int) : Int := if treeE a b c n ≠ 0 then treeE a b c n else if (l.length : Int) ≠ n then 3 else waysE [] l

theorem waysE_at {l : List Wy} {k : Nat} {x : Wy} (h : l[k]? = some x) : waysE (l.take k) (l.drop k) =
    if wayE x ≠ 0 then wayE x else if (x.st != 0 && decide (0 ≤ idxP (hasW x.ln) (l.take k))) = true then 6 else waysE (l.take (k + 1)) (l.drop (k + 1)) := by
  obtain ⟨hk, rfl⟩ := List.getElem?_eq_some_iff.1 h
  rw [List.drop_eq_getElem_cons hk, waysE, List.take_succ_eq_append_getElem hk]

theorem waysC_take (l : List Wy) (k : Nat) : waysC (l.take k) = (waysC l).take (k * 6) := by
  induction l generalizing k with
  | nil => simp [waysC]
  | cons x r ih =>
    cases k with
    | zero => simp [waysC]
    | succ k =>
      have hx : x.cells.length = 6 := rfl
      have := ih k
      simp only [waysC, List.take_succ_cons, List.flatMap_cons] at *
      rw [this, List.take_append, hx, List.take_of_length_le (l := x.cells) (by omega)]
      congr 2
      omega

/-- The first ways of a slice. -/
theorem Ws.take {w : World} {A : Option Addr} {n c : Nat} {l : List Wy} (h : Ws w (.slice A n c) l) {k : Nat} (hk : k ≤ l.length) : Ws w (.slice A k c) (l.take k) := by
  obtain ⟨hl, A', c', e, h1, h2, h3⟩ := h
  cases e
  have hkl : (l.take k).length = k := by simp; omega
  refine ⟨waysC_length _, A, c, by rw [hkl], by omega, h2, fun h0 => ?_⟩
  obtain ⟨b, o, hA, hb, hc⟩ := h3 (by omega)
  refine ⟨b, o, hA, hb, fun j u hu => hc j u ?_⟩
  rw [waysC_take, List.getElem?_take] at hu
  split at hu
  · exact hu
  · cases hu

set_option maxHeartbeats 2000000 in
theorem rowCheck_any (v : Value) (l : List Wy) (a b c : Bool) (n : Int) (w : World) (h : Ws w v l) :
    Calls Try.prog 70 #[rowV v a b c, .int .i64 n] w fun e w' => e = .returned (.int .i64 (rowE l a b c n)) ∧ Below w.heap.size w w' := by
  have H := Lib.hid h
  obtain ⟨hl, A, cp, rfl, h1, h2, h3⟩ := h
  have H3 := Lib.hid h3
  unfold maxLen at h2
  clear hl h3
  generalize hE : rowE l a b c n = E
  unfold rowE at hE
  have T := Lib.hid fun w => plruCheck_any a b c n w
  generalize treeE a b c n = t at hE T
  have HE := Lib.hid hE
  clear hE
  have low := Below.refl w.heap.size w
  have rb := boxNext low 78 (rowA (.slice A l.length cp) a b c)
  replace low := gAlloc low (.cells (rowA (.slice A l.length cp) a b c) 78)
  try simp only [World.size_alloc] at rb
  simp only [rowA] at rb
  cases ht : (t != 0)
  rotate_left
  · obtain rfl : t = E := by have := HE.out; rwa [if_pos (by simpa using ht)] at this
    go_enter Try.func70, Try.ntmps70
    go_wp2_with fail
    (with_reducible refine (T.out _).mono ?_); rintro e w1 ⟨rfl, hb⟩
    replace rb := rb.call hb
    replace low := gCall low hb
    clear hb
    go_wp2_with fail
    go_ret
    exact ⟨rfl, low⟩
  obtain rfl : t = 0 := by simpa using ht
  cases hn : ((l.length : Int) != n)
  rotate_left
  · obtain rfl : 3 = E := by have := HE.out; rwa [if_neg (by simp), if_pos (by simpa using hn)] at this
    go_enter Try.func70, Try.ntmps70
    go_wp2_with fail
    (with_reducible refine (T.out _).mono ?_); rintro e w1 ⟨rfl, hb⟩
    replace rb := rb.call hb
    replace low := gCall low hb
    clear hb
    have rb_0 := rb.at_ 0 rfl
    go_wp2_with fail
    go_ret
    exact ⟨rfl, low⟩
  replace HE := Lib.hid (show waysE [] l = E by have := HE.out; rwa [if_neg (by simp), if_neg (by simpa using hn)] at this)
  clear ht
  go_enter Try.func70, Try.ntmps70
  go_wp2_with fail
  (with_reducible refine (T.out _).mono ?_); rintro e w1 ⟨rfl, hb⟩
  replace rb := rb.call hb
  replace low := gCall low hb
  clear hb
  have rb_0 := rb.at_ 0 rfl
  go_wp2_with fail
  go_loopw [24] (fun i wr => ∃ k : Nat, k ≤ l.length ∧ i = .int .i64 k ∧ Hid (waysE (l.take k) (l.drop k) = E) ∧ Box wr w.heap.size 78 (rowA (.slice A l.length cp) a b c) ∧ Below w.heap.size w wr) (fun i _ => l.length - (intOf i).toNat)
  case atStart => exact ⟨0, Nat.zero_le _, rfl, Lib.hid (by rw [List.take_zero, List.drop_zero]; exact HE.out), rb, low⟩
  case round =>
    clear rb_0
    clear rb low
    obtain ⟨k, hk, rfl, hno, rb, low⟩ := hrel
    simp only [rowA] at rb
    by_cases hlt : k < l.length
    · obtain ⟨bb, o, rfl, hb, hc⟩ := H3.out (by omega)
      have hx : l[k]? = some l[k] := List.getElem?_eq_getElem _
      generalize l[k] = x at hx
      obtain ⟨c0, c1, c2, c3, c4, c5⟩ := wayAt_of hc hb low hx
      have hs := hno.out
      rw [waysE_at hx] at hs
      have HS := Lib.hid hs
      have CW := Lib.hid fun w => checkWay_any x w
      clear hx hc hs
      generalize wayE x = y at CW HS
      have xb := boxNext low 51 x.arr
      replace low := gAlloc low (.cells x.arr 51)
      replace rb := rb.alloc (.cells x.arr 51)
      try simp only [World.size_alloc] at xb
      simp only [Wy.arr] at xb
      go_wp2_with fail
      (with_reducible refine (CW.out _).mono ?_); rintro e w2 ⟨rfl, hb2⟩
      replace rb := rb.call hb2
      replace xb := xb.call hb2
      replace low := gCall low hb2
      clear hb2 c0 c1 c2 c3 c4 c5
      cases hy : (y != 0)
      rotate_left
      · obtain rfl : y = E := by have := HS.out; rwa [if_pos (by simpa using hy)] at this
        go_wp2_with fail
        go_ret
        exact ⟨rfl, low⟩
      obtain rfl : y = 0 := by simpa using hy
      replace HS := Lib.hid (HS.out.symm.trans (if_neg (by simp)))
      clear hy
      have rb_0 := rb.at_ 0 rfl
      have xb_0 := xb.at_ 0 rfl
      have xb_1 := xb.at_ 1 rfl
      cases hs : (x.st != 0)
      · replace HS := Lib.hid (HS.out.trans (if_neg (by simp [hs])))
        go_wp2_with fail
        go_quiet (fail)
        go_wp2_with fail
        go_roundw
        case rel => exact ⟨k + 1, by omega, by go_num, Lib.hid HS.out.symm, rb.drewN _, gDrewN low _⟩
        case measure => simp [intOf]; omega
      · have FA := Lib.hid fun w' (hw : Below w.heap.size w w') => find_any _ _ x.ln w' (Ws.take (H.out.call hw) (Nat.le_of_lt hlt))
        generalize idxP (hasW x.ln) (l.take k) = f at FA HS
        have kc : (k : Int) ≤ cp := by omega
        have k0 : (0 : Int) ≤ k := by omega
        cases hf : decide (0 ≤ f)
        · replace HS := Lib.hid (HS.out.trans (if_neg (by simp [hf])))
          go_wp2_with fail
          go_region_held3 (fun w' => w'.cell? ⟨w.heap.size, 0, none⟩ = some (.slice (some ⟨bb, o, none⟩) l.length cp) ∧ w'.cell? ⟨wr.heap.size, 0, none⟩ = some (.int .i64 x.st) ∧ w'.cell? ⟨wr.heap.size, 1, none⟩ = some (.int .i64 x.ln) ∧ Box w' w.heap.size 78 (rowA (.slice (some ⟨bb, o, none⟩) l.length cp) a b c) ∧ Below w.heap.size w w')
            (first
              | (refine ⟨rb_0, xb_0, xb_1, rb, low⟩)
              | (refine ⟨rb_0, xb_0, xb_1, rb.drew, low.drew⟩)
              | go_keep
              | (go_split_ands
                 refine ⟨?_, ?_, ?_, ?_, ?_⟩ <;> first | (refine (hb.cell (World.block_lt_of_cell? _ _ (by assumption))).trans ?_; assumption) | exact Box.call (by assumption) hb | exact gCall (by assumption) hb))
            (first | (go_at_call 71; refine (FA.out _ (by go_split_ands; assumption)).mono ?_; rintro e w' ⟨rfl, hb⟩))
          rename_i hH
          obtain ⟨_, _, _, rb, low⟩ := hH
          clear hb
          go_wp2_with fail
          go_roundw
          case rel => exact ⟨k + 1, by omega, by go_num, Lib.hid HS.out.symm, rb, low⟩
          case measure => simp [intOf]; omega
        · obtain rfl : E = 6 := HS.out.trans (if_pos (by simp [hf, hs]))
          go_wp2_with fail
          go_region_held3 (fun w' => w'.cell? ⟨w.heap.size, 0, none⟩ = some (.slice (some ⟨bb, o, none⟩) l.length cp) ∧ w'.cell? ⟨wr.heap.size, 0, none⟩ = some (.int .i64 x.st) ∧ w'.cell? ⟨wr.heap.size, 1, none⟩ = some (.int .i64 x.ln) ∧ Box w' w.heap.size 78 (rowA (.slice (some ⟨bb, o, none⟩) l.length cp) a b c) ∧ Below w.heap.size w w')
            (first
              | (refine ⟨rb_0, xb_0, xb_1, rb, low⟩)
              | (refine ⟨rb_0, xb_0, xb_1, rb.drew, low.drew⟩)
              | go_keep
              | (go_split_ands
                 refine ⟨?_, ?_, ?_, ?_, ?_⟩ <;> first | (refine (hb.cell (World.block_lt_of_cell? _ _ (by assumption))).trans ?_; assumption) | exact Box.call (by assumption) hb | exact gCall (by assumption) hb))
            (first | (go_at_call 71; refine (FA.out _ (by go_split_ands; assumption)).mono ?_; rintro e w' ⟨rfl, hb⟩))
          rename_i hH
          obtain ⟨_, _, _, rb, low⟩ := hH
          clear hb
          go_wp2_with fail
          go_ret
          exact ⟨rfl, low⟩
    · obtain rfl : k = l.length := by omega
      obtain rfl : 0 = E := by have := hno.out; rwa [List.drop_length] at this
      go_wp2_with fail
      go_ret
      exact ⟨rfl, low⟩
end Go.Proofs.Ytahoadfofleacaa

/- Region: Proved: a region that draws its order, by hand: what only reads is taken first, what may come up next is carried out. No condition. -/
namespace Go.Proofs.Ytahoadfofleacaa
open Go.ChangeShapes Go.WideShapes Go.ChangeAt Go.RowKit

/-! Cells that are read, from world to world. -/
theorem drewC {w : World} {p : Addr} {z : Value} (h : w.cell? p = some z) : w.drew.cell? p = some z := h
theorem callC {w w' : World} {p : Addr} {z : Value} (hb : Below w.heap.size w w') (h : w.cell? p = some z) : w'.cell? p = some z := (hb.cell (block_lt_of_cell h)).trans h
theorem allocC {w : World} {p : Addr} {z : Value} (o : Obj) (h : w.cell? p = some z) : (w.alloc o).cell? p = some z := callC (gAlloc (Below.refl _ _) o) h
theorem farC {w : World} {p q : Addr} (h : q.block ≠ p.block) (u : Value) {z : Value} (hz : w.cell? q = some z) : (w.setCell p u).cell? q = some z := by
  rw [← hz]
  unfold World.cell?
  rw [Below.heap_setCell w p u q.block h]

/-! A region that draws its order, by hand: an operation that only reads is taken first; the only one that may come up is carried out. -/
section
variable {P : Program} {ops : Array Oper} {Q : Exit → Act → World → Prop} {md : Region.Mode} {S : World → Prop}
theorem takeFirst {i : Nat} {oi : Oper} {v : Value} {fuel : Nat} {listed : Array Bool} {a : Act} {w : World} (hi : ops.toList[i]? = some oi)
    (hs : Region.noSelect ops = true) (hf : Region.free md ops listed i = true) (hr : (Region.ready md ops listed).contains i = true) (hw : Region.wanted oi (yielded ops a.tmps) = true)
    (hQ : ∀ c a w, Q (.panic c) (a.put oi.dst v) w → Q (.panic c) a w) (hy : ∀ w, S w → (execOp a.eval oi).run P w = .ok (.value v) w) (hS : S w)
    (h : wpAnyH P md ops Q S fuel (listed.setIfInBounds i true) (a.put oi.dst v) w) : wpAnyH P md ops Q S (fuel + 1) listed a w :=
  wpAnyH_take (by rw [← Array.getElem?_toList]; exact hi) hs hf hr hQ (.inl ⟨hw, hy⟩) hS h

theorem skipFirst {i : Nat} {oi : Oper} {fuel : Nat} {listed : Array Bool} {a : Act} {w : World} (hi : ops.toList[i]? = some oi)
    (hs : Region.noSelect ops = true) (hf : Region.free md ops listed i = true) (hr : (Region.ready md ops listed).contains i = true) (hw : Region.wanted oi (yielded ops a.tmps) = false)
    (hQ : ∀ c a w, Q (.panic c) (a.put oi.dst undef) w → Q (.panic c) a w) (hS : S w)
    (h : wpAnyH P md ops Q S fuel (listed.setIfInBounds i true) (a.put oi.dst undef) w) : wpAnyH P md ops Q S (fuel + 1) listed a w :=
  wpAnyH_take (by rw [← Array.getElem?_toList]; exact hi) hs hf hr hQ (.inr ⟨hw, rfl⟩) hS h

theorem stepNext {i : Nat} {oi : Oper} {fuel : Nat} {listed : Array Bool} {a : Act} {w : World} (hr : Region.ready md ops listed = [i]) (hi : ops.toList[i]? = some oi) (hw : Region.wanted oi (yielded ops a.tmps) = true)
    (h : ∀ K : Act → World → Prop, Hid (∀ a w, S w → wpAnyH P md ops Q S fuel (listed.setIfInBounds i true) a w → K a w) → Oper.wp P oi a w K Q) : wpAnyH P md ops Q S (fuel + 1) listed a w :=
  wpAnyH_ready hr (by simp) (AllReadyH.cons (by rw [← Array.getElem?_toList]; exact hi) (fun K hK => by rw [if_pos hw]; exact h K (Lib.hid fun a w hs hx => hK a w hs (fun _ => hx))) AllReadyH.nil)

theorem stepTwo {i1 i2 : Nat} {o1 o2 : Oper} {fuel : Nat} {listed : Array Bool} {a : Act} {w : World} (hr : Region.ready md ops listed = [i1, i2])
    (h1 : ops.toList[i1]? = some o1) (h2 : ops.toList[i2]? = some o2) (w1 : Region.wanted o1 (yielded ops a.tmps) = true) (w2 : Region.wanted o2 (yielded ops a.tmps) = true)
    (k1 : ∀ K : Act → World → Prop, Hid (∀ a w, S w → wpAnyH P md ops Q S fuel (listed.setIfInBounds i1 true) a w → K a w) → Oper.wp P o1 a w K Q)
    (k2 : ∀ K : Act → World → Prop, Hid (∀ a w, S w → wpAnyH P md ops Q S fuel (listed.setIfInBounds i2 true) a w → K a w) → Oper.wp P o2 a w K Q) : wpAnyH P md ops Q S (fuel + 1) listed a w :=
  wpAnyH_ready hr (by simp) (AllReadyH.cons (by rw [← Array.getElem?_toList]; exact h1) (fun K hK => by rw [if_pos w1]; exact k1 K (Lib.hid fun a w hs hx => hK a w hs (fun _ => hx)))
    (AllReadyH.cons (by rw [← Array.getElem?_toList]; exact h2) (fun K hK => by rw [if_pos w2]; exact k2 K (Lib.hid fun a w hs hx => hK a w hs (fun _ => hx))) AllReadyH.nil))

theorem stepThree {i1 i2 i3 : Nat} {o1 o2 o3 : Oper} {fuel : Nat} {listed : Array Bool} {a : Act} {w : World} (hr : Region.ready md ops listed = [i1, i2, i3])
    (h1 : ops.toList[i1]? = some o1) (h2 : ops.toList[i2]? = some o2) (h3 : ops.toList[i3]? = some o3) (w1 : Region.wanted o1 (yielded ops a.tmps) = true) (w2 : Region.wanted o2 (yielded ops a.tmps) = true) (w3 : Region.wanted o3 (yielded ops a.tmps) = true)
    (k1 : ∀ K : Act → World → Prop, Hid (∀ a w, S w → wpAnyH P md ops Q S fuel (listed.setIfInBounds i1 true) a w → K a w) → Oper.wp P o1 a w K Q)
    (k2 : ∀ K : Act → World → Prop, Hid (∀ a w, S w → wpAnyH P md ops Q S fuel (listed.setIfInBounds i2 true) a w → K a w) → Oper.wp P o2 a w K Q)
    (k3 : ∀ K : Act → World → Prop, Hid (∀ a w, S w → wpAnyH P md ops Q S fuel (listed.setIfInBounds i3 true) a w → K a w) → Oper.wp P o3 a w K Q) : wpAnyH P md ops Q S (fuel + 1) listed a w :=
  wpAnyH_ready hr (by simp) (AllReadyH.cons (by rw [← Array.getElem?_toList]; exact h1) (fun K hK => by rw [if_pos w1]; exact k1 K (Lib.hid fun a w hs hx => hK a w hs (fun _ => hx)))
    (AllReadyH.cons (by rw [← Array.getElem?_toList]; exact h2) (fun K hK => by rw [if_pos w2]; exact k2 K (Lib.hid fun a w hs hx => hK a w hs (fun _ => hx)))
    (AllReadyH.cons (by rw [← Array.getElem?_toList]; exact h3) (fun K hK => by rw [if_pos w3]; exact k3 K (Lib.hid fun a w hs hx => hK a w hs (fun _ => hx))) AllReadyH.nil)))

/-- The list of those that have come up, written anew. -/
theorem relist {l1 l2 : Array Bool} (h : l1 = l2) {fuel : Nat} {a : Act} {w : World} (k : wpAnyH P md ops Q S fuel l2 a w) : wpAnyH P md ops Q S fuel l1 a w := h ▸ k
end
end Go.Proofs.Ytahoadfofleacaa

/- Row3: Proved: what Find, Put, Take and Set of package row return, for every set that can be read; none of them changes anything that was there. No condition. -/
namespace Go.Proofs.Ytahoadfofleacaa
open Go.ChangeShapes Go.WideShapes Go.ChangeAt Go.RowKit Go.Joins

theorem rowE_ok {l : List Wy} {a b c : Bool} {n : Int} (h : rowE l a b c n = 0) : treeE a b c n = 0 ∧ (l.length : Int) = n ∧ waysE [] l = 0 := by
  unfold rowE at h
  by_cases h1 : treeE a b c n ≠ 0
  · rw [if_pos h1] at h; exact absurd h h1
  · rw [if_neg h1] at h
    by_cases h2 : (l.length : Int) ≠ n
    · rw [if_pos h2] at h; omega
    · rw [if_neg h2] at h
      exact ⟨by omega, by omega, h⟩

theorem victim_in {a b c : Bool} {n : Int} (h : treeE a b c n = 0) : 0 ≤ victimN a b c n ∧ victimN a b c n < n := by
  obtain ⟨hn1, hn4⟩ := treeE_range h
  have hn : n = 1 ∨ n = 2 ∨ n = 3 ∨ n = 4 := by omega
  rcases hn with rfl | rfl | rfl | rfl <;> (revert h; cases a <;> cases b <;> cases c <;> decide)

/-- The place for a new line is there. -/
theorem room_in {l : List Wy} {a b c : Bool} {n : Int} (h : rowE l a b c n = 0) : ∃ (k : Nat) (y : Wy), roomN l a b c n = k ∧ l[k]? = some y := by
  obtain ⟨h1, h2, _⟩ := rowE_ok h
  obtain ⟨v1, v2⟩ := victim_in h1
  unfold roomN
  rcases idxP_cases empW l with ⟨e, _⟩ | ⟨k, x, e, hk, _⟩
  · rw [e, if_pos (by decide)]
    have hlt : (victimN a b c n).toNat < l.length := by omega
    exact ⟨(victimN a b c n).toNat, l[(victimN a b c n).toNat], by omega, List.getElem?_eq_getElem hlt⟩
  · rw [e, if_neg (by omega)]
    exact ⟨k, x, rfl, hk⟩

theorem rowFind_bad (v : Value) (l : List Wy) (a b c : Bool) (n m : Int) (w : World) (h : Ws w v l) (he : rowE l a b c n ≠ 0) :
    Calls Try.prog 44 #[rowV v a b c, .int .i64 n, .int .i64 m] w fun e w' => e = .returned (.tuple #[.int .i64 0, .int .i64 (rowE l a b c n)]) ∧ Below w.heap.size w w' := by
  have low := Below.refl w.heap.size w
  have rb := boxNext low 78 (rowA v a b c)
  replace low := gAlloc low (.cells (rowA v a b c) 78)
  replace h := h.alloc (.cells (rowA v a b c) 78)
  try simp only [World.size_alloc] at rb
  simp only [rowA] at rb
  have R := Lib.hid fun w' hw => rowCheck_any v l a b c n w' hw
  generalize rowE l a b c n = E at R he ⊢
  have he' : (E != 0) = true := by simpa using he
  clear he
  go_enter Try.func44, Try.ntmps44
  go_wp2_with fail
  (with_reducible refine (R.out _ h).mono ?_); rintro e w1 ⟨rfl, hb⟩
  replace rb := rb.call hb
  replace low := gCall low hb
  clear hb
  go_wp2_with fail
  go_ret2
  exact ⟨rfl, low⟩

theorem rowFind_ok (v : Value) (l : List Wy) (a b c : Bool) (n m : Int) (w : World) (h : Ws w v l) (he : rowE l a b c n = 0) :
    Calls Try.prog 44 #[rowV v a b c, .int .i64 n, .int .i64 m] w fun e w' => e = .returned (.tuple #[.int .i64 (idxP (hasW m) l), .int .i64 0]) ∧ Below w.heap.size w w' := by
  have low := Below.refl w.heap.size w
  have rb := boxNext low 78 (rowA v a b c)
  replace low := gAlloc low (.cells (rowA v a b c) 78)
  replace h := h.alloc (.cells (rowA v a b c) 78)
  try simp only [World.size_alloc] at rb
  simp only [rowA] at rb
  have R := Lib.hid fun w' hw => rowCheck_any v l a b c n w' hw
  rw [he] at R
  clear he
  go_enter Try.func44, Try.ntmps44
  go_wp2_with fail
  (with_reducible refine (R.out _ h).mono ?_); rintro e w1 ⟨rfl, hb⟩
  replace rb := rb.call hb
  replace h := h.call hb
  replace low := gCall low hb
  clear hb
  have rb_0 := rb.at_ 0 rfl
  go_wp2_with fail
  (with_reducible refine (find_any _ l _ _ h).mono ?_); rintro e w2 ⟨rfl, hb⟩
  replace rb := rb.call hb
  replace low := gCall low hb
  clear hb rb_0
  go_wp2_with fail
  go_ret2
  exact ⟨rfl, low⟩

/-- The errors of Put, Take, Set. -/
def putE (l : List Wy) (a b c : Bool) (n : Int) (x : Wy) : Int := if rowE l a b c n ≠ 0 then rowE l a b c n else if hlB x = false then 4 else if 0 ≤ idxP (hasW x.ln) l then 6 else 0
def takeE (l : List Wy) (a b c : Bool) (n m : Int) : Int := if rowE l a b c n ≠ 0 then rowE l a b c n else if idxP (hasW m) l < 0 then 5 else 0
def setE (l : List Wy) (a b c : Bool) (n : Int) (x : Wy) : Int := if rowE l a b c n ≠ 0 then rowE l a b c n else if hlB x = false then 4 else if idxP (hasW x.ln) l < 0 then 5 else 0

theorem putE_ok {l : List Wy} {a b c : Bool} {n : Int} {x : Wy} (h : putE l a b c n x = 0) : rowE l a b c n = 0 ∧ hlB x = true ∧ idxP (hasW x.ln) l < 0 := by
  unfold putE at h
  split at h
  · exact absurd h (by assumption)
  · split at h
    · omega
    · split at h
      · omega
      · rename_i h1 h2 h3
        exact ⟨by omega, by simpa using h2, by omega⟩

theorem takeE_ok {l : List Wy} {a b c : Bool} {n m : Int} (h : takeE l a b c n m = 0) : rowE l a b c n = 0 ∧ 0 ≤ idxP (hasW m) l := by
  unfold takeE at h
  split at h
  · exact absurd h (by assumption)
  · split at h
    · omega
    · rename_i h1 h2
      exact ⟨by omega, by omega⟩

theorem setE_ok {l : List Wy} {a b c : Bool} {n : Int} {x : Wy} (h : setE l a b c n x = 0) : rowE l a b c n = 0 ∧ hlB x = true ∧ 0 ≤ idxP (hasW x.ln) l := by
  unfold setE at h
  split at h
  · exact absurd h (by assumption)
  · split at h
    · omega
    · split at h
      · omega
      · rename_i h1 h2 h3
        exact ⟨by omega, by simpa using h2, by omega⟩

theorem Box.wayC {w : World} {g : Nat} {t : TypeId} {x : Wy} (h : Box w g t x.arr) : w.cell? ⟨g, 0, none⟩ = some (.int .i64 x.st) ∧ w.cell? ⟨g, 1, none⟩ = some (.int .i64 x.ln) ∧ w.cell? ⟨g, 2, none⟩ = some (.int .u64 x.a) ∧ w.cell? ⟨g, 3, none⟩ = some (.int .u64 x.b) ∧ w.cell? ⟨g, 4, none⟩ = some (.int .u64 x.c) ∧ w.cell? ⟨g, 5, none⟩ = some (.int .u64 x.d) :=
  ⟨h.at_ 0 rfl, h.at_ 1 rfl, h.at_ 2 rfl, h.at_ 3 rfl, h.at_ 4 rfl, h.at_ 5 rfl⟩
theorem Box.rowC {w : World} {g : Nat} {t : TypeId} {v : Value} {a b c : Bool} (h : Box w g t (rowA v a b c)) : w.cell? ⟨g, 0, none⟩ = some (v) ∧ w.cell? ⟨g, 1, none⟩ = some (.bool a) ∧ w.cell? ⟨g, 2, none⟩ = some (.bool b) ∧ w.cell? ⟨g, 3, none⟩ = some (.bool c) :=
  ⟨h.at_ 0 rfl, h.at_ 1 rfl, h.at_ 2 rfl, h.at_ 3 rfl⟩

theorem size_row : (Try.prog.info? 78).map (·.size) = some 4 := by kernel_rfl

theorem set_lt {l : List Wy} {k : Nat} {y : Wy} (h : l[k]? = some y) : k < l.length := (List.getElem?_eq_some_iff.1 h).1

set_option maxHeartbeats 2000000 in
theorem rowPut_bad (v : Value) (l : List Wy) (a b c : Bool) (n : Int) (x : Wy) (w : World) (h : Ws w v l) (he : putE l a b c n x ≠ 0) :
    Calls Try.prog 52 #[rowV v a b c, .int .i64 n, x.val] w fun e w' => e = .returned (.tuple #[noRow, zeroV, .int .i64 (putE l a b c n x)]) ∧ Below w.heap.size w w' := by
  have low := Below.refl w.heap.size w
  have rb := boxNext low 78 (rowA v a b c)
  replace low := gAlloc low (.cells (rowA v a b c) 78)
  replace h := h.alloc (.cells (rowA v a b c) 78)
  try simp only [World.size_alloc] at rb
  simp only [rowA] at rb
  have xb := boxNext low 51 x.arr
  replace low := gAlloc low (.cells x.arr 51)
  replace h := h.alloc (.cells x.arr 51)
  replace rb := rb.alloc (.cells x.arr 51)
  try simp only [World.size_alloc] at xb
  simp only [Wy.arr] at xb
  have ob := boxNext low 78 (rowA (.slice none 0 0) false false false)
  replace low := gAlloc low (.cells (rowA (.slice none 0 0) false false false) 78)
  replace h := h.alloc (.cells (rowA (.slice none 0 0) false false false) 78)
  replace rb := rb.alloc (.cells (rowA (.slice none 0 0) false false false) 78)
  replace xb := xb.alloc (.cells (rowA (.slice none 0 0) false false false) 78)
  try simp only [World.size_alloc] at ob
  simp only [rowA] at ob
  have wb := boxNext low 51 zeroA
  replace low := gAlloc low (.cells zeroA 51)
  replace h := h.alloc (.cells zeroA 51)
  replace rb := rb.alloc (.cells zeroA 51)
  replace xb := xb.alloc (.cells zeroA 51)
  replace ob := ob.alloc (.cells zeroA 51)
  try simp only [World.size_alloc] at wb
  simp only [zeroA] at wb
  have R := Lib.hid fun w' hw => rowCheck_any v l a b c n w' hw
  have HL := Lib.hid fun w' => hasLine_any x w'
  have FA := Lib.hid fun w' hw => find_any v l x.ln w' hw
  generalize hE : putE l a b c n x = E at he ⊢
  unfold putE at hE
  generalize rowE l a b c n = r at R hE
  generalize hlB x = t at HL hE
  generalize idxP (hasW x.ln) l = f at FA hE
  have HE := Lib.hid hE
  have HH := Lib.hid he
  clear he hE
  cases hr : (r != 0)
  rotate_left
  · obtain rfl : r = E := by have := HE.out; rwa [if_pos (by simpa using hr)] at this
    go_enter Try.func52, Try.ntmps52
    go_wp2_with fail
    (with_reducible refine (R.out _ h).mono ?_); rintro e w1 ⟨rfl, hb⟩
    replace rb := rb.call hb
    replace xb := xb.call hb
    replace ob := ob.call hb
    replace wb := wb.call hb
    replace low := gCall low hb
    clear hb
    have ob_0 := ob.at_ 0 rfl
    have ob_1 := ob.at_ 1 rfl
    have ob_2 := ob.at_ 2 rfl
    have ob_3 := ob.at_ 3 rfl
    have wb_0 := wb.at_ 0 rfl
    have wb_1 := wb.at_ 1 rfl
    have wb_2 := wb.at_ 2 rfl
    have wb_3 := wb.at_ 3 rfl
    have wb_4 := wb.at_ 4 rfl
    have wb_5 := wb.at_ 5 rfl
    have ob_f0 := ob.frozen 0
    have ob_f1 := ob.frozen 1
    have ob_f2 := ob.frozen 2
    have ob_f3 := ob.frozen 3
    have wb_f0 := wb.frozen 0
    have wb_f1 := wb.frozen 1
    have wb_f2 := wb.frozen 2
    have wb_f3 := wb.frozen 3
    have wb_f4 := wb.frozen 4
    have wb_f5 := wb.frozen 5
    have z1 : w.heap.size + 1 + 1 + 1 < w1.heap.size := wb.lt
    go_wp2_with fail
    refine bodyPost_ret (v := .tuple #[noRow, zeroV, .int .i64 r]) (by simp [results, Try.results52, go_sem, ob_0, ob_1, ob_2, ob_3, wb_0, wb_1, wb_2, wb_3, wb_4, wb_5]) rfl ⟨rfl, ?_⟩
    repeat (refine gSet ?_ (by dsimp only; omega) _)
    exact low
  obtain rfl : r = 0 := by simpa using hr
  cases t
  · obtain rfl : 4 = E := by simpa using HE.out
    go_enter Try.func52, Try.ntmps52
    go_wp2_with fail
    (with_reducible refine (R.out _ h).mono ?_); rintro e w0 ⟨rfl, hb⟩
    replace rb := rb.call hb
    replace xb := xb.call hb
    replace ob := ob.call hb
    replace wb := wb.call hb
    replace low := gCall low hb
    clear hb
    have xb_0 := xb.at_ 0 rfl
    have xb_1 := xb.at_ 1 rfl
    have xb_2 := xb.at_ 2 rfl
    have xb_3 := xb.at_ 3 rfl
    have xb_4 := xb.at_ 4 rfl
    have xb_5 := xb.at_ 5 rfl
    go_wp2_with fail
    (with_reducible refine (HL.out _).mono ?_); rintro e w1 ⟨rfl, hb⟩
    replace rb := rb.call hb
    replace xb := xb.call hb
    replace ob := ob.call hb
    replace wb := wb.call hb
    replace low := gCall low hb
    clear hb xb_0 xb_1 xb_2 xb_3 xb_4 xb_5
    have ob_0 := ob.at_ 0 rfl
    have ob_1 := ob.at_ 1 rfl
    have ob_2 := ob.at_ 2 rfl
    have ob_3 := ob.at_ 3 rfl
    have wb_0 := wb.at_ 0 rfl
    have wb_1 := wb.at_ 1 rfl
    have wb_2 := wb.at_ 2 rfl
    have wb_3 := wb.at_ 3 rfl
    have wb_4 := wb.at_ 4 rfl
    have wb_5 := wb.at_ 5 rfl
    have ob_f0 := ob.frozen 0
    have ob_f1 := ob.frozen 1
    have ob_f2 := ob.frozen 2
    have ob_f3 := ob.frozen 3
    have wb_f0 := wb.frozen 0
    have wb_f1 := wb.frozen 1
    have wb_f2 := wb.frozen 2
    have wb_f3 := wb.frozen 3
    have wb_f4 := wb.frozen 4
    have wb_f5 := wb.frozen 5
    have z1 : w.heap.size + 1 + 1 + 1 < w1.heap.size := wb.lt
    go_wp2_with fail
    refine bodyPost_ret (v := .tuple #[noRow, zeroV, .int .i64 4]) (by simp [results, Try.results52, go_sem, ob_0, ob_1, ob_2, ob_3, wb_0, wb_1, wb_2, wb_3, wb_4, wb_5]) rfl ⟨rfl, ?_⟩
    repeat (refine gSet ?_ (by dsimp only; omega) _)
    exact low
  cases hf : decide (0 ≤ f)
  · have := HE.out
    rw [if_neg (by simp), if_neg (by simp), if_neg (by simpa using hf)] at this
    exact absurd this.symm HH.out
  · obtain rfl : 6 = E := by have := HE.out; rwa [if_neg (by simp), if_neg (by simp), if_pos (by simpa using hf)] at this
    go_enter Try.func52, Try.ntmps52
    go_wp2_with fail
    (with_reducible refine (R.out _ h).mono ?_); rintro e w0 ⟨rfl, hb⟩
    replace rb := rb.call hb
    replace xb := xb.call hb
    replace ob := ob.call hb
    replace wb := wb.call hb
    replace h := h.call hb
    replace low := gCall low hb
    clear hb
    have xb_0 := xb.at_ 0 rfl
    have xb_1 := xb.at_ 1 rfl
    have xb_2 := xb.at_ 2 rfl
    have xb_3 := xb.at_ 3 rfl
    have xb_4 := xb.at_ 4 rfl
    have xb_5 := xb.at_ 5 rfl
    go_wp2_with fail
    (with_reducible refine (HL.out _).mono ?_); rintro e w00 ⟨rfl, hb⟩
    replace rb := rb.call hb
    replace xb := xb.call hb
    replace ob := ob.call hb
    replace wb := wb.call hb
    replace h := h.call hb
    replace low := gCall low hb
    clear hb xb_0 xb_1 xb_2 xb_3 xb_4 xb_5
    have xb_0 := xb.at_ 0 rfl
    have xb_1 := xb.at_ 1 rfl
    have xb_2 := xb.at_ 2 rfl
    have xb_3 := xb.at_ 3 rfl
    have xb_4 := xb.at_ 4 rfl
    have xb_5 := xb.at_ 5 rfl
    have rb_0 := rb.at_ 0 rfl
    go_wp2_with fail
    (with_reducible refine (FA.out _ h).mono ?_); rintro e w1 ⟨rfl, hb⟩
    replace rb := rb.call hb
    replace xb := xb.call hb
    replace ob := ob.call hb
    replace wb := wb.call hb
    replace low := gCall low hb
    clear hb xb_0 xb_1 xb_2 xb_3 xb_4 xb_5 rb_0
    have ob_0 := ob.at_ 0 rfl
    have ob_1 := ob.at_ 1 rfl
    have ob_2 := ob.at_ 2 rfl
    have ob_3 := ob.at_ 3 rfl
    have wb_0 := wb.at_ 0 rfl
    have wb_1 := wb.at_ 1 rfl
    have wb_2 := wb.at_ 2 rfl
    have wb_3 := wb.at_ 3 rfl
    have wb_4 := wb.at_ 4 rfl
    have wb_5 := wb.at_ 5 rfl
    have ob_f0 := ob.frozen 0
    have ob_f1 := ob.frozen 1
    have ob_f2 := ob.frozen 2
    have ob_f3 := ob.frozen 3
    have wb_f0 := wb.frozen 0
    have wb_f1 := wb.frozen 1
    have wb_f2 := wb.frozen 2
    have wb_f3 := wb.frozen 3
    have wb_f4 := wb.frozen 4
    have wb_f5 := wb.frozen 5
    have z1 : w.heap.size + 1 + 1 + 1 < w1.heap.size := wb.lt
    go_wp2_with fail
    refine bodyPost_ret (v := .tuple #[noRow, zeroV, .int .i64 6]) (by simp [results, Try.results52, go_sem, ob_0, ob_1, ob_2, ob_3, wb_0, wb_1, wb_2, wb_3, wb_4, wb_5]) rfl ⟨rfl, ?_⟩
    repeat (refine gSet ?_ (by dsimp only; omega) _)
    exact low

set_option maxRecDepth 10000 in
set_option maxHeartbeats 500000 in
theorem rowPut_ok (v : Value) (l : List Wy) (a b c : Bool) (n : Int) (x : Wy) (k : Nat) (y : Wy) (w : World) (h : Ws w v l) (he : putE l a b c n x = 0) (hk : roomN l a b c n = k) (hy : l[k]? = some y) :
    Calls Try.prog 52 #[rowV v a b c, .int .i64 n, x.val] w fun e w' =>
      (∃ v', e = .returned (.tuple #[rowV v' (touchT a b c n k).1 (touchT a b c n k).2.1 (touchT a b c n k).2.2, y.val, .int .i64 0]) ∧ Fr w' w.heap.size w'.heap.size v' (l.set k x)) ∧ Below w.heap.size w w' := by
  obtain ⟨e1, e2, e3⟩ := putE_ok he
  obtain ⟨e4, e5, _⟩ := rowE_ok e1
  have kl := set_lt hy
  have low := Below.refl w.heap.size w
  have H := Lib.hid h
  have rb := boxNext low 78 (rowA v a b c)
  replace low := gAlloc low (.cells (rowA v a b c) 78)
  replace h := h.alloc (.cells (rowA v a b c) 78)
  try simp only [World.size_alloc] at rb
  simp only [rowA] at rb
  have xb := boxNext low 51 x.arr
  replace low := gAlloc low (.cells x.arr 51)
  replace h := h.alloc (.cells x.arr 51)
  replace rb := rb.alloc (.cells x.arr 51)
  try simp only [World.size_alloc] at xb
  simp only [Wy.arr] at xb
  have ob := boxNext low 78 (rowA (.slice none 0 0) false false false)
  replace low := gAlloc low (.cells (rowA (.slice none 0 0) false false false) 78)
  replace h := h.alloc (.cells (rowA (.slice none 0 0) false false false) 78)
  replace rb := rb.alloc (.cells (rowA (.slice none 0 0) false false false) 78)
  replace xb := xb.alloc (.cells (rowA (.slice none 0 0) false false false) 78)
  try simp only [World.size_alloc] at ob
  simp only [rowA] at ob
  have wb := boxNext low 51 zeroA
  replace low := gAlloc low (.cells zeroA 51)
  replace h := h.alloc (.cells zeroA 51)
  replace rb := rb.alloc (.cells zeroA 51)
  replace xb := xb.alloc (.cells zeroA 51)
  replace ob := ob.alloc (.cells zeroA 51)
  try simp only [World.size_alloc] at wb
  simp only [zeroA] at wb
  have R := Lib.hid fun w' hw => rowCheck_any v l a b c n w' hw
  have HL := Lib.hid fun w' => hasLine_any x w'
  have FA := Lib.hid fun w' hw => find_any v l x.ln w' hw
  have RO := Lib.hid fun w' hw => room_any v l a b c n w' hw e4
  have AC := Lib.hid fun w' hw => access_any v l a b c n k x w' hw e4 e5 kl
  rw [e1] at R
  rw [e2] at HL
  rw [hk] at RO
  generalize idxP (hasW x.ln) l = f at FA e3
  generalize touchT a b c n k = t at AC ⊢
  have e3' : decide (0 ≤ f) = false := decide_eq_false (by omega)
  have HY := Lib.hid hy
  clear he e1 e2 e3 e4 e5 hk hy
  go_enter Try.func52, Try.ntmps52
  go_wp2_with fail
  (with_reducible refine (R.out _ h).mono ?_); rintro e w0 ⟨rfl, hb⟩
  replace rb := rb.call hb
  replace xb := xb.call hb
  replace ob := ob.call hb
  replace wb := wb.call hb
  replace h := h.call hb
  replace low := gCall low hb
  clear hb
  have xb_0 := xb.at_ 0 rfl
  have xb_1 := xb.at_ 1 rfl
  have xb_2 := xb.at_ 2 rfl
  have xb_3 := xb.at_ 3 rfl
  have xb_4 := xb.at_ 4 rfl
  have xb_5 := xb.at_ 5 rfl
  go_wp2_with fail
  (with_reducible refine (HL.out _).mono ?_); rintro e w1 ⟨rfl, hb⟩
  replace rb := rb.call hb
  replace xb := xb.call hb
  replace ob := ob.call hb
  replace wb := wb.call hb
  replace h := h.call hb
  replace low := gCall low hb
  clear hb xb_0 xb_1 xb_2 xb_3 xb_4 xb_5
  have xb_0 := xb.at_ 0 rfl
  have xb_1 := xb.at_ 1 rfl
  have xb_2 := xb.at_ 2 rfl
  have xb_3 := xb.at_ 3 rfl
  have xb_4 := xb.at_ 4 rfl
  have xb_5 := xb.at_ 5 rfl
  have rb_0 := rb.at_ 0 rfl
  have rb_1 := rb.at_ 1 rfl
  have rb_2 := rb.at_ 2 rfl
  have rb_3 := rb.at_ 3 rfl
  go_wp2_with fail
  (with_reducible refine (FA.out _ h).mono ?_); rintro e w2 ⟨rfl, hb⟩
  replace rb := rb.call hb
  replace xb := xb.call hb
  replace ob := ob.call hb
  replace wb := wb.call hb
  replace h := h.call hb
  replace low := gCall low hb
  clear hb xb_0 xb_1 xb_2 xb_3 xb_4 xb_5 rb_0 rb_1 rb_2 rb_3
  have rb_0 := rb.at_ 0 rfl
  have rb_1 := rb.at_ 1 rfl
  have rb_2 := rb.at_ 2 rfl
  have rb_3 := rb.at_ 3 rfl
  go_wp2_with fail
  (with_reducible refine (RO.out _ h).mono ?_); rintro e w3 ⟨rfl, hb⟩
  replace rb := rb.call hb
  replace xb := xb.call hb
  replace ob := ob.call hb
  replace wb := wb.call hb
  replace h := h.call hb
  replace low := gCall low hb
  clear hb rb_0 rb_1 rb_2 rb_3
  clear R HL FA RO
  obtain ⟨hl, A, cp, rfl, h1, h2, h3⟩ := H.out
  obtain ⟨bb, o, rfl, hb, hc⟩ := h3 (by omega)
  obtain ⟨c0, c1, c2, c3, c4, c5⟩ := wayAt_of hc hb low HY.out
  obtain ⟨r0, r1, r2, r3⟩ := rb.rowC
  obtain ⟨x0, x1, x2, x3, x4, x5⟩ := xb.wayC
  have kc : (k : Int) < l.length := by omega
  have k0 : (0 : Int) ≤ k := by omega
  clear h3 hc h1 h2 hl
  go_wp2_with fail
  refine wp_region_noPanic ?_
  refine wp_region_held_drew (S := fun w' => w'.cell? ⟨w.heap.size, 0, none⟩ = some (.slice (some ⟨bb, o, none⟩) l.length cp) ∧ w'.cell? ⟨w.heap.size, 1, none⟩ = some (.bool a) ∧ w'.cell? ⟨w.heap.size, 2, none⟩ = some (.bool b) ∧ w'.cell? ⟨w.heap.size, 3, none⟩ = some (.bool c) ∧ w'.cell? ⟨w.heap.size + 1, 0, none⟩ = some (.int .i64 x.st) ∧ w'.cell? ⟨w.heap.size + 1, 1, none⟩ = some (.int .i64 x.ln) ∧ w'.cell? ⟨w.heap.size + 1, 2, none⟩ = some (.int .u64 x.a) ∧ w'.cell? ⟨w.heap.size + 1, 3, none⟩ = some (.int .u64 x.b) ∧ w'.cell? ⟨w.heap.size + 1, 4, none⟩ = some (.int .u64 x.c) ∧ w'.cell? ⟨w.heap.size + 1, 5, none⟩ = some (.int .u64 x.d) ∧ w'.cell? ⟨bb, o + k * 6, none⟩ = some (.int .i64 y.st) ∧ w'.cell? ⟨bb, o + k * 6 + 1, none⟩ = some (.int .i64 y.ln) ∧ w'.cell? ⟨bb, o + k * 6 + 2, none⟩ = some (.int .u64 y.a) ∧ w'.cell? ⟨bb, o + k * 6 + 3, none⟩ = some (.int .u64 y.b) ∧ w'.cell? ⟨bb, o + k * 6 + 4, none⟩ = some (.int .u64 y.c) ∧ w'.cell? ⟨bb, o + k * 6 + 5, none⟩ = some (.int .u64 y.d)) (by kernel_rfl) ⟨drewC r0, drewC r1, drewC r2, drewC r3, drewC x0, drewC x1, drewC x2, drewC x3, drewC x4, drewC x5, drewC c0, drewC c1, drewC c2, drewC c3, drewC c4, drewC c5⟩ (fun hHeld => ?_)
  refine takeFirst (i := 0) (v := ?_) rfl (by kernel_rfl) (by kernel_rfl) (by kernel_rfl) (by rfl) (fun _ _ _ h => h) ?_ (by assumption) ?_
  rotate_left
  · (intro w hSw; go_simp; try (with_reducible rfl))
  try simp only [Act.put, List.setIfInBounds_toArray, List.set_cons_zero, List.set_cons_succ]
  refine takeFirst (i := 1) (v := ?_) rfl (by kernel_rfl) (by kernel_rfl) (by kernel_rfl) (by rfl) (fun _ _ _ h => h) ?_ (by assumption) ?_
  rotate_left
  · (intro w hSw; go_simp; try (with_reducible rfl))
  try simp only [Act.put, List.setIfInBounds_toArray, List.set_cons_zero, List.set_cons_succ]
  refine takeFirst (i := 2) (v := ?_) rfl (by kernel_rfl) (by kernel_rfl) (by kernel_rfl) (by rfl) (fun _ _ _ h => h) ?_ (by assumption) ?_
  rotate_left
  · (intro w hSw; go_simp; try (with_reducible rfl))
  try simp only [Act.put, List.setIfInBounds_toArray, List.set_cons_zero, List.set_cons_succ]
  refine takeFirst (i := 3) (v := ?_) rfl (by kernel_rfl) (by kernel_rfl) (by kernel_rfl) (by rfl) (fun _ _ _ h => h) ?_ (by assumption) ?_
  rotate_left
  · (intro w hSw; go_simp; try (with_reducible rfl))
  try simp only [Act.put, List.setIfInBounds_toArray, List.set_cons_zero, List.set_cons_succ]
  refine takeFirst (i := 5) (v := ?_) rfl (by kernel_rfl) (by kernel_rfl) (by kernel_rfl) (by rfl) (fun _ _ _ h => h) ?_ (by assumption) ?_
  rotate_left
  · (intro w hSw; go_simp; try (with_reducible rfl))
  try simp only [Act.put, List.setIfInBounds_toArray, List.set_cons_zero, List.set_cons_succ]
  refine takeFirst (i := 6) (v := ?_) rfl (by kernel_rfl) (by kernel_rfl) (by kernel_rfl) (by rfl) (fun _ _ _ h => h) ?_ (by assumption) ?_
  rotate_left
  · (intro w hSw; go_simp; try (with_reducible rfl))
  try simp only [Act.put, List.setIfInBounds_toArray, List.set_cons_zero, List.set_cons_succ]
  refine takeFirst (i := 7) (v := ?_) rfl (by kernel_rfl) (by kernel_rfl) (by kernel_rfl) (by rfl) (fun _ _ _ h => h) ?_ (by assumption) ?_
  rotate_left
  · (intro w hSw; go_simp; try (with_reducible rfl))
  try simp only [Act.put, List.setIfInBounds_toArray, List.set_cons_zero, List.set_cons_succ]
  refine takeFirst (i := 8) (v := ?_) rfl (by kernel_rfl) (by kernel_rfl) (by kernel_rfl) (by rfl) (fun _ _ _ h => h) ?_ (by assumption) ?_
  rotate_left
  · (intro w hSw; go_simp; try (with_reducible rfl))
  try simp only [Act.put, List.setIfInBounds_toArray, List.set_cons_zero, List.set_cons_succ]
  refine takeFirst (i := 9) (v := ?_) rfl (by kernel_rfl) (by kernel_rfl) (by kernel_rfl) (by rfl) (fun _ _ _ h => h) ?_ (by assumption) ?_
  rotate_left
  · (intro w hSw; go_simp; try (with_reducible rfl))
  try simp only [Act.put, List.setIfInBounds_toArray, List.set_cons_zero, List.set_cons_succ]
  refine stepNext (i := 4) (by kernel_rfl) rfl (by rfl) (fun K hK => ?_)
  go_simp
  (with_reducible refine (AC.out _ h.drew).mono ?_); rintro e w4 ⟨⟨v', rfl, fr⟩, hb4⟩
  have z3 : w.heap.size + 1 + 1 + 1 < w3.heap.size := wb.lt
  have z4 : w3.heap.size ≤ w4.heap.size := hb4.size
  replace ob := ob.drew.call hb4
  replace wb := wb.drew.call hb4
  replace low := gCall low.drew hb4
  obtain ⟨A', c', rfl⟩ := fr.shape
  obtain ⟨hh0, hh1, hh2, hh3, hh4, hh5, hh6, hh7, hh8, hh9, hh10, hh11, hh12, hh13, hh14, hh15⟩ := hHeld
  have hHeld := (And.intro (callC hb4 hh0) (And.intro (callC hb4 hh1) (And.intro (callC hb4 hh2) (And.intro (callC hb4 hh3) (And.intro (callC hb4 hh4) (And.intro (callC hb4 hh5) (And.intro (callC hb4 hh6) (And.intro (callC hb4 hh7) (And.intro (callC hb4 hh8) (And.intro (callC hb4 hh9) (And.intro (callC hb4 hh10) (And.intro (callC hb4 hh11) (And.intro (callC hb4 hh12) (And.intro (callC hb4 hh13) (And.intro (callC hb4 hh14) (callC hb4 hh15))))))))))))))))
  clear hh0 hh1 hh2 hh3 hh4 hh5 hh6 hh7 hh8 hh9 hh10 hh11 hh12 hh13 hh14 hh15
  refine hK.out _ _ hHeld ?_
  clear hK K
  try simp only [Act.put]
  try simp only [List.setIfInBounds_toArray, List.set_cons_zero, List.set_cons_succ]
  refine stepNext (i := 10) (by kernel_rfl) rfl (by rfl) (fun K hK => ?_)
  refine wp_store_box 78 (.tmp 6) (.tmp 39) rfl _ _ rfl rfl ob size_row rfl (by simp [Value.oneCell']) ?_
  intro w5 ob st
  replace wb := st.box wb (by omega)
  replace fr := st.fr fr (.inl (by show _ < w3.heap.size; omega))
  replace low := st.low low (by omega)
  have z5 := st.size
  obtain ⟨hh0, hh1, hh2, hh3, hh4, hh5, hh6, hh7, hh8, hh9, hh10, hh11, hh12, hh13, hh14, hh15⟩ := hHeld
  have hHeld := (And.intro (st.cell (by dsimp only; omega) hh0) (And.intro (st.cell (by dsimp only; omega) hh1) (And.intro (st.cell (by dsimp only; omega) hh2) (And.intro (st.cell (by dsimp only; omega) hh3) (And.intro (st.cell (by dsimp only; omega) hh4) (And.intro (st.cell (by dsimp only; omega) hh5) (And.intro (st.cell (by dsimp only; omega) hh6) (And.intro (st.cell (by dsimp only; omega) hh7) (And.intro (st.cell (by dsimp only; omega) hh8) (And.intro (st.cell (by dsimp only; omega) hh9) (And.intro (st.cell (by dsimp only; omega) hh10) (And.intro (st.cell (by dsimp only; omega) hh11) (And.intro (st.cell (by dsimp only; omega) hh12) (And.intro (st.cell (by dsimp only; omega) hh13) (And.intro (st.cell (by dsimp only; omega) hh14) (st.cell (by dsimp only; omega) hh15))))))))))))))))
  clear hh0 hh1 hh2 hh3 hh4 hh5 hh6 hh7 hh8 hh9 hh10 hh11 hh12 hh13 hh14 hh15
  clear st
  refine hK.out _ _ hHeld ?_
  clear hK K
  try simp only [Act.put]
  try simp only [List.setIfInBounds_toArray, List.set_cons_zero, List.set_cons_succ]
  refine stepNext (i := 11) (by kernel_rfl) rfl (by rfl) (fun K hK => ?_)
  refine wp_store_box 51 (.tmp 7) (.tmp 44) rfl _ _ rfl rfl wb size_way rfl (by simp [Value.oneCell']) ?_
  intro w6 wb st
  replace ob := st.box ob (by omega)
  replace fr := st.fr fr (.inl (by show _ < w3.heap.size; omega))
  replace low := st.low low (by omega)
  have z6 := st.size
  obtain ⟨hh0, hh1, hh2, hh3, hh4, hh5, hh6, hh7, hh8, hh9, hh10, hh11, hh12, hh13, hh14, hh15⟩ := hHeld
  have hHeld := (And.intro (st.cell (by dsimp only; omega) hh0) (And.intro (st.cell (by dsimp only; omega) hh1) (And.intro (st.cell (by dsimp only; omega) hh2) (And.intro (st.cell (by dsimp only; omega) hh3) (And.intro (st.cell (by dsimp only; omega) hh4) (And.intro (st.cell (by dsimp only; omega) hh5) (And.intro (st.cell (by dsimp only; omega) hh6) (And.intro (st.cell (by dsimp only; omega) hh7) (And.intro (st.cell (by dsimp only; omega) hh8) (And.intro (st.cell (by dsimp only; omega) hh9) (And.intro (st.cell (by dsimp only; omega) hh10) (And.intro (st.cell (by dsimp only; omega) hh11) (And.intro (st.cell (by dsimp only; omega) hh12) (And.intro (st.cell (by dsimp only; omega) hh13) (And.intro (st.cell (by dsimp only; omega) hh14) (st.cell (by dsimp only; omega) hh15))))))))))))))))
  clear hh0 hh1 hh2 hh3 hh4 hh5 hh6 hh7 hh8 hh9 hh10 hh11 hh12 hh13 hh14 hh15
  clear st
  refine hK.out _ _ hHeld ?_
  clear hK K
  try simp only [Act.put]
  try simp only [List.setIfInBounds_toArray, List.set_cons_zero, List.set_cons_succ]
  refine stepNext (i := 12) (by kernel_rfl) rfl (by rfl) (fun K hK => ?_)
  go_simp
  refine hK.out _ _ hHeld ?_
  clear hK K
  try simp only [Act.put]
  try simp only [List.setIfInBounds_toArray, List.set_cons_zero, List.set_cons_succ]
  clear hHeld c0 c1 c2 c3 c4 c5 r0 r1 r2 r3 x0 x1 x2 x3 x4 x5 xb rb
  refine wpAnyH_done (by kernel_rfl) ?_ _
  refine NoPanic.normal ?_
  go_wp2_with fail
  obtain ⟨p0, p1, p2, p3⟩ := ob.rowC
  obtain ⟨q0, q1, q2, q3, q4, q5⟩ := wb.wayC
  refine bodyPost_ret (v := .tuple #[rowV (.slice A' (l.set k x).length c') t.1 t.2.1 t.2.2, y.val, .int .i64 0]) (by simp [results, Try.results52, go_sem, p0, p1, p2, p3, q0, q1, q2, q3, q4, q5]) rfl ⟨⟨_, rfl, ?_⟩, low⟩
  exact fr.more (by show _ ≤ w3.heap.size; omega) (by omega)

set_option maxHeartbeats 2000000 in
theorem rowTake_bad (v : Value) (l : List Wy) (a b c : Bool) (n m : Int) (w : World) (h : Ws w v l) (he : takeE l a b c n m ≠ 0) :
    Calls Try.prog 54 #[rowV v a b c, .int .i64 n, .int .i64 m] w fun e w' => e = .returned (.tuple #[noRow, zeroV, .int .i64 (takeE l a b c n m)]) ∧ Below w.heap.size w w' := by
  have low := Below.refl w.heap.size w
  have rb := boxNext low 78 (rowA v a b c)
  replace low := gAlloc low (.cells (rowA v a b c) 78)
  replace h := h.alloc (.cells (rowA v a b c) 78)
  try simp only [World.size_alloc] at rb
  simp only [rowA] at rb
  have ob := boxNext low 78 (rowA (.slice none 0 0) false false false)
  replace low := gAlloc low (.cells (rowA (.slice none 0 0) false false false) 78)
  replace h := h.alloc (.cells (rowA (.slice none 0 0) false false false) 78)
  replace rb := rb.alloc (.cells (rowA (.slice none 0 0) false false false) 78)
  try simp only [World.size_alloc] at ob
  simp only [rowA] at ob
  have wb := boxNext low 51 zeroA
  replace low := gAlloc low (.cells zeroA 51)
  replace h := h.alloc (.cells zeroA 51)
  replace rb := rb.alloc (.cells zeroA 51)
  replace ob := ob.alloc (.cells zeroA 51)
  try simp only [World.size_alloc] at wb
  simp only [zeroA] at wb
  have R := Lib.hid fun w' hw => rowCheck_any v l a b c n w' hw
  have FA := Lib.hid fun w' hw => find_any v l m w' hw
  generalize hE : takeE l a b c n m = E at he ⊢
  unfold takeE at hE
  generalize rowE l a b c n = r at R hE
  generalize idxP (hasW m) l = f at FA hE
  have HE := Lib.hid hE
  have HH := Lib.hid he
  clear he hE
  cases hr : (r != 0)
  rotate_left
  · obtain rfl : r = E := by have := HE.out; rwa [if_pos (by simpa using hr)] at this
    go_enter Try.func54, Try.ntmps54
    go_wp2_with fail
    (with_reducible refine (R.out _ h).mono ?_); rintro e w1 ⟨rfl, hb⟩
    replace rb := rb.call hb
    replace ob := ob.call hb
    replace wb := wb.call hb
    replace low := gCall low hb
    clear hb
    have ob_0 := ob.at_ 0 rfl
    have ob_1 := ob.at_ 1 rfl
    have ob_2 := ob.at_ 2 rfl
    have ob_3 := ob.at_ 3 rfl
    have wb_0 := wb.at_ 0 rfl
    have wb_1 := wb.at_ 1 rfl
    have wb_2 := wb.at_ 2 rfl
    have wb_3 := wb.at_ 3 rfl
    have wb_4 := wb.at_ 4 rfl
    have wb_5 := wb.at_ 5 rfl
    have ob_f0 := ob.frozen 0
    have ob_f1 := ob.frozen 1
    have ob_f2 := ob.frozen 2
    have ob_f3 := ob.frozen 3
    have wb_f0 := wb.frozen 0
    have wb_f1 := wb.frozen 1
    have wb_f2 := wb.frozen 2
    have wb_f3 := wb.frozen 3
    have wb_f4 := wb.frozen 4
    have wb_f5 := wb.frozen 5
    have z1 : w.heap.size + 1 + 1 < w1.heap.size := wb.lt
    go_wp2_with fail
    refine bodyPost_ret (v := .tuple #[noRow, zeroV, .int .i64 r]) (by simp [results, Try.results54, go_sem, ob_0, ob_1, ob_2, ob_3, wb_0, wb_1, wb_2, wb_3, wb_4, wb_5]) rfl ⟨rfl, ?_⟩
    repeat (refine gSet ?_ (by dsimp only; omega) _)
    exact low
  obtain rfl : r = 0 := by simpa using hr
  cases hf : decide (f < 0)
  · have := HE.out
    rw [if_neg (by simp), if_neg (by simpa using hf)] at this
    exact absurd this.symm HH.out
  · obtain rfl : 5 = E := by have := HE.out; rwa [if_neg (by simp), if_pos (by simpa using hf)] at this
    go_enter Try.func54, Try.ntmps54
    go_wp2_with fail
    (with_reducible refine (R.out _ h).mono ?_); rintro e w0 ⟨rfl, hb⟩
    replace rb := rb.call hb
    replace ob := ob.call hb
    replace wb := wb.call hb
    replace h := h.call hb
    replace low := gCall low hb
    clear hb
    have rb_0 := rb.at_ 0 rfl
    go_wp2_with fail
    (with_reducible refine (FA.out _ h).mono ?_); rintro e w1 ⟨rfl, hb⟩
    replace rb := rb.call hb
    replace ob := ob.call hb
    replace wb := wb.call hb
    replace low := gCall low hb
    clear hb rb_0
    have ob_0 := ob.at_ 0 rfl
    have ob_1 := ob.at_ 1 rfl
    have ob_2 := ob.at_ 2 rfl
    have ob_3 := ob.at_ 3 rfl
    have wb_0 := wb.at_ 0 rfl
    have wb_1 := wb.at_ 1 rfl
    have wb_2 := wb.at_ 2 rfl
    have wb_3 := wb.at_ 3 rfl
    have wb_4 := wb.at_ 4 rfl
    have wb_5 := wb.at_ 5 rfl
    have ob_f0 := ob.frozen 0
    have ob_f1 := ob.frozen 1
    have ob_f2 := ob.frozen 2
    have ob_f3 := ob.frozen 3
    have wb_f0 := wb.frozen 0
    have wb_f1 := wb.frozen 1
    have wb_f2 := wb.frozen 2
    have wb_f3 := wb.frozen 3
    have wb_f4 := wb.frozen 4
    have wb_f5 := wb.frozen 5
    have z1 : w.heap.size + 1 + 1 < w1.heap.size := wb.lt
    go_wp2_with fail
    refine bodyPost_ret (v := .tuple #[noRow, zeroV, .int .i64 5]) (by simp [results, Try.results54, go_sem, ob_0, ob_1, ob_2, ob_3, wb_0, wb_1, wb_2, wb_3, wb_4, wb_5]) rfl ⟨rfl, ?_⟩
    repeat (refine gSet ?_ (by dsimp only; omega) _)
    exact low

set_option maxRecDepth 10000 in
set_option maxHeartbeats 2000000 in
theorem rowTake_ok (v : Value) (l : List Wy) (a b c : Bool) (n m : Int) (k : Nat) (y : Wy) (w : World) (h : Ws w v l) (he : rowE l a b c n = 0) (hk : idxP (hasW m) l = k) (hy : l[k]? = some y) :
    Calls Try.prog 54 #[rowV v a b c, .int .i64 n, .int .i64 m] w fun e w' =>
      (∃ v', e = .returned (.tuple #[rowV v' a b c, y.val, .int .i64 0]) ∧ Fr w' w.heap.size w'.heap.size v' (l.set k wy0)) ∧ Below w.heap.size w w' := by
  obtain ⟨e4, e5, _⟩ := rowE_ok he
  obtain ⟨hn1, hn4⟩ := treeE_range e4
  have kl := set_lt hy
  have low := Below.refl w.heap.size w
  have H := Lib.hid h
  have rb := boxNext low 78 (rowA v a b c)
  replace low := gAlloc low (.cells (rowA v a b c) 78)
  replace h := h.alloc (.cells (rowA v a b c) 78)
  try simp only [World.size_alloc] at rb
  simp only [rowA] at rb
  have ob := boxNext low 78 (rowA (.slice none 0 0) false false false)
  replace low := gAlloc low (.cells (rowA (.slice none 0 0) false false false) 78)
  replace h := h.alloc (.cells (rowA (.slice none 0 0) false false false) 78)
  replace rb := rb.alloc (.cells (rowA (.slice none 0 0) false false false) 78)
  try simp only [World.size_alloc] at ob
  simp only [rowA] at ob
  have wb := boxNext low 51 zeroA
  replace low := gAlloc low (.cells zeroA 51)
  replace h := h.alloc (.cells zeroA 51)
  replace rb := rb.alloc (.cells zeroA 51)
  replace ob := ob.alloc (.cells zeroA 51)
  try simp only [World.size_alloc] at wb
  simp only [zeroA] at wb
  have R := Lib.hid fun w' hw => rowCheck_any v l a b c n w' hw
  have FA := Lib.hid fun w' hw => find_any v l m w' hw
  have AC := Lib.hid fun w' (hw : Ws w' v l) => replace_any v l a b c k wy0 w' hw kl (by omega)
  rw [he] at R
  rw [hk] at FA
  have HY := Lib.hid hy
  clear he e4 e5 hk hy hn1 hn4
  have kd : decide ((k : Int) < 0) = false := decide_eq_false (by omega)
  go_enter Try.func54, Try.ntmps54
  go_wp2_with fail
  (with_reducible refine (R.out _ h).mono ?_); rintro e w0 ⟨rfl, hb⟩
  replace rb := rb.call hb
  replace ob := ob.call hb
  replace wb := wb.call hb
  replace h := h.call hb
  replace low := gCall low hb
  clear hb
  have rb_0 := rb.at_ 0 rfl
  go_wp2_with fail
  (with_reducible refine (FA.out _ h).mono ?_); rintro e w3 ⟨rfl, hb⟩
  replace rb := rb.call hb
  replace ob := ob.call hb
  replace wb := wb.call hb
  replace h := h.call hb
  replace low := gCall low hb
  clear hb rb_0
  clear R FA
  obtain ⟨hl, A, cp, rfl, h1, h2, h3⟩ := H.out
  obtain ⟨bb, o, rfl, hb, hc⟩ := h3 (by omega)
  obtain ⟨c0, c1, c2, c3, c4, c5⟩ := wayAt_of hc hb low HY.out
  obtain ⟨r0, r1, r2, r3⟩ := rb.rowC
  have kc : (k : Int) < l.length := by omega
  have k0 : (0 : Int) ≤ k := by omega
  clear h3 hc h1 h2 hl
  go_wp2_with fail
  refine wp_region_noPanic ?_
  refine wp_region_held_drew (S := fun w' => w'.cell? ⟨w.heap.size, 0, none⟩ = some (.slice (some ⟨bb, o, none⟩) l.length cp) ∧ w'.cell? ⟨w.heap.size, 1, none⟩ = some (.bool a) ∧ w'.cell? ⟨w.heap.size, 2, none⟩ = some (.bool b) ∧ w'.cell? ⟨w.heap.size, 3, none⟩ = some (.bool c) ∧ w'.cell? ⟨bb, o + k * 6, none⟩ = some (.int .i64 y.st) ∧ w'.cell? ⟨bb, o + k * 6 + 1, none⟩ = some (.int .i64 y.ln) ∧ w'.cell? ⟨bb, o + k * 6 + 2, none⟩ = some (.int .u64 y.a) ∧ w'.cell? ⟨bb, o + k * 6 + 3, none⟩ = some (.int .u64 y.b) ∧ w'.cell? ⟨bb, o + k * 6 + 4, none⟩ = some (.int .u64 y.c) ∧ w'.cell? ⟨bb, o + k * 6 + 5, none⟩ = some (.int .u64 y.d)) (by kernel_rfl) ⟨drewC r0, drewC r1, drewC r2, drewC r3, drewC c0, drewC c1, drewC c2, drewC c3, drewC c4, drewC c5⟩ (fun hHeld => ?_)
  refine takeFirst (i := 0) (v := ?_) rfl (by kernel_rfl) (by kernel_rfl) (by kernel_rfl) (by rfl) (fun _ _ _ h => h) ?_ (by assumption) ?_
  rotate_left
  · (intro w hSw; go_simp; try (with_reducible rfl))
  try simp only [Act.put, List.setIfInBounds_toArray, List.set_cons_zero, List.set_cons_succ]
  refine takeFirst (i := 1) (v := ?_) rfl (by kernel_rfl) (by kernel_rfl) (by kernel_rfl) (by rfl) (fun _ _ _ h => h) ?_ (by assumption) ?_
  rotate_left
  · (intro w hSw; go_simp; try (with_reducible rfl))
  try simp only [Act.put, List.setIfInBounds_toArray, List.set_cons_zero, List.set_cons_succ]
  refine takeFirst (i := 2) (v := ?_) rfl (by kernel_rfl) (by kernel_rfl) (by kernel_rfl) (by rfl) (fun _ _ _ h => h) ?_ (by assumption) ?_
  rotate_left
  · (intro w hSw; go_simp; try (with_reducible rfl))
  try simp only [Act.put, List.setIfInBounds_toArray, List.set_cons_zero, List.set_cons_succ]
  refine takeFirst (i := 4) (v := ?_) rfl (by kernel_rfl) (by kernel_rfl) (by kernel_rfl) (by rfl) (fun _ _ _ h => h) ?_ (by assumption) ?_
  rotate_left
  · (intro w hSw; go_simp; try (with_reducible rfl))
  try simp only [Act.put, List.setIfInBounds_toArray, List.set_cons_zero, List.set_cons_succ]
  refine takeFirst (i := 5) (v := ?_) rfl (by kernel_rfl) (by kernel_rfl) (by kernel_rfl) (by rfl) (fun _ _ _ h => h) ?_ (by assumption) ?_
  rotate_left
  · (intro w hSw; go_simp; try (with_reducible rfl))
  try simp only [Act.put, List.setIfInBounds_toArray, List.set_cons_zero, List.set_cons_succ]
  refine takeFirst (i := 6) (v := ?_) rfl (by kernel_rfl) (by kernel_rfl) (by kernel_rfl) (by rfl) (fun _ _ _ h => h) ?_ (by assumption) ?_
  rotate_left
  · (intro w hSw; go_simp; try (with_reducible rfl))
  try simp only [Act.put, List.setIfInBounds_toArray, List.set_cons_zero, List.set_cons_succ]
  refine takeFirst (i := 7) (v := ?_) rfl (by kernel_rfl) (by kernel_rfl) (by kernel_rfl) (by rfl) (fun _ _ _ h => h) ?_ (by assumption) ?_
  rotate_left
  · (intro w hSw; go_simp; try (with_reducible rfl))
  try simp only [Act.put, List.setIfInBounds_toArray, List.set_cons_zero, List.set_cons_succ]
  refine takeFirst (i := 8) (v := ?_) rfl (by kernel_rfl) (by kernel_rfl) (by kernel_rfl) (by rfl) (fun _ _ _ h => h) ?_ (by assumption) ?_
  rotate_left
  · (intro w hSw; go_simp; try (with_reducible rfl))
  try simp only [Act.put, List.setIfInBounds_toArray, List.set_cons_zero, List.set_cons_succ]
  refine stepNext (i := 3) (by kernel_rfl) rfl (by rfl) (fun K hK => ?_)
  go_simp
  (refine (AC.out _ h.drew).mono ?_); rintro e w4 ⟨⟨v', rfl, fr⟩, hb4⟩
  have z3 : w.heap.size + 1 + 1 < w3.heap.size := wb.lt
  have z4 : w3.heap.size ≤ w4.heap.size := hb4.size
  replace ob := ob.drew.call hb4
  replace wb := wb.drew.call hb4
  replace low := gCall low.drew hb4
  obtain ⟨A', c', rfl⟩ := fr.shape
  obtain ⟨hh0, hh1, hh2, hh3, hh4, hh5, hh6, hh7, hh8, hh9⟩ := hHeld
  have hHeld := (And.intro (callC hb4 hh0) (And.intro (callC hb4 hh1) (And.intro (callC hb4 hh2) (And.intro (callC hb4 hh3) (And.intro (callC hb4 hh4) (And.intro (callC hb4 hh5) (And.intro (callC hb4 hh6) (And.intro (callC hb4 hh7) (And.intro (callC hb4 hh8) (callC hb4 hh9))))))))))
  clear hh0 hh1 hh2 hh3 hh4 hh5 hh6 hh7 hh8 hh9
  refine hK.out _ _ hHeld ?_
  clear hK K
  try simp only [Act.put]
  try simp only [List.setIfInBounds_toArray, List.set_cons_zero, List.set_cons_succ]
  refine stepNext (i := 9) (by kernel_rfl) rfl (by rfl) (fun K hK => ?_)
  refine wp_store_box 78 (.tmp 6) (.tmp 30) rfl _ _ rfl rfl ob size_row rfl (by simp [Value.oneCell']) ?_
  intro w5 ob st
  replace wb := st.box wb (by omega)
  replace fr := st.fr fr (.inl (by show _ < w3.heap.size; omega))
  replace low := st.low low (by omega)
  have z5 := st.size
  obtain ⟨hh0, hh1, hh2, hh3, hh4, hh5, hh6, hh7, hh8, hh9⟩ := hHeld
  have hHeld := (And.intro (st.cell (by dsimp only; omega) hh0) (And.intro (st.cell (by dsimp only; omega) hh1) (And.intro (st.cell (by dsimp only; omega) hh2) (And.intro (st.cell (by dsimp only; omega) hh3) (And.intro (st.cell (by dsimp only; omega) hh4) (And.intro (st.cell (by dsimp only; omega) hh5) (And.intro (st.cell (by dsimp only; omega) hh6) (And.intro (st.cell (by dsimp only; omega) hh7) (And.intro (st.cell (by dsimp only; omega) hh8) (st.cell (by dsimp only; omega) hh9))))))))))
  clear hh0 hh1 hh2 hh3 hh4 hh5 hh6 hh7 hh8 hh9
  clear st
  refine hK.out _ _ hHeld ?_
  clear hK K
  try simp only [Act.put]
  try simp only [List.setIfInBounds_toArray, List.set_cons_zero, List.set_cons_succ]
  refine stepNext (i := 10) (by kernel_rfl) rfl (by rfl) (fun K hK => ?_)
  refine wp_store_box 51 (.tmp 7) (.tmp 35) rfl _ _ rfl rfl wb size_way rfl (by simp [Value.oneCell']) ?_
  intro w6 wb st
  replace ob := st.box ob (by omega)
  replace fr := st.fr fr (.inl (by show _ < w3.heap.size; omega))
  replace low := st.low low (by omega)
  have z6 := st.size
  obtain ⟨hh0, hh1, hh2, hh3, hh4, hh5, hh6, hh7, hh8, hh9⟩ := hHeld
  have hHeld := (And.intro (st.cell (by dsimp only; omega) hh0) (And.intro (st.cell (by dsimp only; omega) hh1) (And.intro (st.cell (by dsimp only; omega) hh2) (And.intro (st.cell (by dsimp only; omega) hh3) (And.intro (st.cell (by dsimp only; omega) hh4) (And.intro (st.cell (by dsimp only; omega) hh5) (And.intro (st.cell (by dsimp only; omega) hh6) (And.intro (st.cell (by dsimp only; omega) hh7) (And.intro (st.cell (by dsimp only; omega) hh8) (st.cell (by dsimp only; omega) hh9))))))))))
  clear hh0 hh1 hh2 hh3 hh4 hh5 hh6 hh7 hh8 hh9
  clear st
  refine hK.out _ _ hHeld ?_
  clear hK K
  try simp only [Act.put]
  try simp only [List.setIfInBounds_toArray, List.set_cons_zero, List.set_cons_succ]
  refine stepNext (i := 11) (by kernel_rfl) rfl (by rfl) (fun K hK => ?_)
  go_simp
  refine hK.out _ _ hHeld ?_
  clear hK K
  try simp only [Act.put]
  try simp only [List.setIfInBounds_toArray, List.set_cons_zero, List.set_cons_succ]
  clear hHeld c0 c1 c2 c3 c4 c5 r0 r1 r2 r3 rb
  refine wpAnyH_done (by kernel_rfl) ?_ _
  refine NoPanic.normal ?_
  go_wp2_with fail
  obtain ⟨p0, p1, p2, p3⟩ := ob.rowC
  obtain ⟨q0, q1, q2, q3, q4, q5⟩ := wb.wayC
  refine bodyPost_ret (v := .tuple #[rowV (.slice A' (l.set k wy0).length c') a b c, y.val, .int .i64 0]) (by simp [results, Try.results54, go_sem, p0, p1, p2, p3, q0, q1, q2, q3, q4, q5]) rfl ⟨⟨_, rfl, ?_⟩, low⟩
  exact fr.more (by show _ ≤ w3.heap.size; omega) (by omega)

set_option maxHeartbeats 2000000 in
theorem rowSet_bad (v : Value) (l : List Wy) (a b c : Bool) (n : Int) (x : Wy) (w : World) (h : Ws w v l) (he : setE l a b c n x ≠ 0) :
    Calls Try.prog 85 #[rowV v a b c, .int .i64 n, x.val] w fun e w' => e = .returned (.tuple #[noRow, .int .i64 (setE l a b c n x)]) ∧ Below w.heap.size w w' := by
  have low := Below.refl w.heap.size w
  have rb := boxNext low 78 (rowA v a b c)
  replace low := gAlloc low (.cells (rowA v a b c) 78)
  replace h := h.alloc (.cells (rowA v a b c) 78)
  try simp only [World.size_alloc] at rb
  simp only [rowA] at rb
  have xb := boxNext low 51 x.arr
  replace low := gAlloc low (.cells x.arr 51)
  replace h := h.alloc (.cells x.arr 51)
  replace rb := rb.alloc (.cells x.arr 51)
  try simp only [World.size_alloc] at xb
  simp only [Wy.arr] at xb
  have ob := boxNext low 78 (rowA (.slice none 0 0) false false false)
  replace low := gAlloc low (.cells (rowA (.slice none 0 0) false false false) 78)
  replace h := h.alloc (.cells (rowA (.slice none 0 0) false false false) 78)
  replace rb := rb.alloc (.cells (rowA (.slice none 0 0) false false false) 78)
  replace xb := xb.alloc (.cells (rowA (.slice none 0 0) false false false) 78)
  try simp only [World.size_alloc] at ob
  simp only [rowA] at ob
  have R := Lib.hid fun w' hw => rowCheck_any v l a b c n w' hw
  have HL := Lib.hid fun w' => hasLine_any x w'
  have FA := Lib.hid fun w' hw => find_any v l x.ln w' hw
  generalize hE : setE l a b c n x = E at he ⊢
  unfold setE at hE
  generalize rowE l a b c n = r at R hE
  generalize hlB x = t at HL hE
  generalize idxP (hasW x.ln) l = f at FA hE
  have HE := Lib.hid hE
  have HH := Lib.hid he
  clear he hE
  cases hr : (r != 0)
  rotate_left
  · obtain rfl : r = E := by have := HE.out; rwa [if_pos (by simpa using hr)] at this
    go_enter Try.func85, Try.ntmps85
    go_wp2_with fail
    (with_reducible refine (R.out _ h).mono ?_); rintro e w1 ⟨rfl, hb⟩
    replace rb := rb.call hb
    replace xb := xb.call hb
    replace ob := ob.call hb
    replace low := gCall low hb
    clear hb
    have ob_0 := ob.at_ 0 rfl
    have ob_1 := ob.at_ 1 rfl
    have ob_2 := ob.at_ 2 rfl
    have ob_3 := ob.at_ 3 rfl
    have ob_f0 := ob.frozen 0
    have ob_f1 := ob.frozen 1
    have ob_f2 := ob.frozen 2
    have ob_f3 := ob.frozen 3
    have z1 : w.heap.size + 1 + 1 < w1.heap.size := ob.lt
    go_wp2_with fail
    refine bodyPost_ret (v := .tuple #[noRow, .int .i64 r]) (by simp [results, Try.results85, go_sem, ob_0, ob_1, ob_2, ob_3]) rfl ⟨rfl, ?_⟩
    repeat (refine gSet ?_ (by dsimp only; omega) _)
    exact low
  obtain rfl : r = 0 := by simpa using hr
  cases t
  · obtain rfl : 4 = E := by simpa using HE.out
    go_enter Try.func85, Try.ntmps85
    go_wp2_with fail
    (with_reducible refine (R.out _ h).mono ?_); rintro e w0 ⟨rfl, hb⟩
    replace rb := rb.call hb
    replace xb := xb.call hb
    replace ob := ob.call hb
    replace low := gCall low hb
    clear hb
    have xb_0 := xb.at_ 0 rfl
    have xb_1 := xb.at_ 1 rfl
    have xb_2 := xb.at_ 2 rfl
    have xb_3 := xb.at_ 3 rfl
    have xb_4 := xb.at_ 4 rfl
    have xb_5 := xb.at_ 5 rfl
    go_wp2_with fail
    (with_reducible refine (HL.out _).mono ?_); rintro e w1 ⟨rfl, hb⟩
    replace rb := rb.call hb
    replace xb := xb.call hb
    replace ob := ob.call hb
    replace low := gCall low hb
    clear hb xb_0 xb_1 xb_2 xb_3 xb_4 xb_5
    have ob_0 := ob.at_ 0 rfl
    have ob_1 := ob.at_ 1 rfl
    have ob_2 := ob.at_ 2 rfl
    have ob_3 := ob.at_ 3 rfl
    have ob_f0 := ob.frozen 0
    have ob_f1 := ob.frozen 1
    have ob_f2 := ob.frozen 2
    have ob_f3 := ob.frozen 3
    have z1 : w.heap.size + 1 + 1 < w1.heap.size := ob.lt
    go_wp2_with fail
    refine bodyPost_ret (v := .tuple #[noRow, .int .i64 4]) (by simp [results, Try.results85, go_sem, ob_0, ob_1, ob_2, ob_3]) rfl ⟨rfl, ?_⟩
    repeat (refine gSet ?_ (by dsimp only; omega) _)
    exact low
  cases hf : decide (f < 0)
  · have := HE.out
    rw [if_neg (by simp), if_neg (by simp), if_neg (by simpa using hf)] at this
    exact absurd this.symm HH.out
  · obtain rfl : 5 = E := by have := HE.out; rwa [if_neg (by simp), if_neg (by simp), if_pos (by simpa using hf)] at this
    go_enter Try.func85, Try.ntmps85
    go_wp2_with fail
    (with_reducible refine (R.out _ h).mono ?_); rintro e w0 ⟨rfl, hb⟩
    replace rb := rb.call hb
    replace xb := xb.call hb
    replace ob := ob.call hb
    replace h := h.call hb
    replace low := gCall low hb
    clear hb
    have xb_0 := xb.at_ 0 rfl
    have xb_1 := xb.at_ 1 rfl
    have xb_2 := xb.at_ 2 rfl
    have xb_3 := xb.at_ 3 rfl
    have xb_4 := xb.at_ 4 rfl
    have xb_5 := xb.at_ 5 rfl
    go_wp2_with fail
    (with_reducible refine (HL.out _).mono ?_); rintro e w00 ⟨rfl, hb⟩
    replace rb := rb.call hb
    replace xb := xb.call hb
    replace ob := ob.call hb
    replace h := h.call hb
    replace low := gCall low hb
    clear hb xb_0 xb_1 xb_2 xb_3 xb_4 xb_5
    have xb_0 := xb.at_ 0 rfl
    have xb_1 := xb.at_ 1 rfl
    have xb_2 := xb.at_ 2 rfl
    have xb_3 := xb.at_ 3 rfl
    have xb_4 := xb.at_ 4 rfl
    have xb_5 := xb.at_ 5 rfl
    have rb_0 := rb.at_ 0 rfl
    go_wp2_with fail
    (with_reducible refine (FA.out _ h).mono ?_); rintro e w1 ⟨rfl, hb⟩
    replace rb := rb.call hb
    replace xb := xb.call hb
    replace ob := ob.call hb
    replace low := gCall low hb
    clear hb xb_0 xb_1 xb_2 xb_3 xb_4 xb_5 rb_0
    have ob_0 := ob.at_ 0 rfl
    have ob_1 := ob.at_ 1 rfl
    have ob_2 := ob.at_ 2 rfl
    have ob_3 := ob.at_ 3 rfl
    have ob_f0 := ob.frozen 0
    have ob_f1 := ob.frozen 1
    have ob_f2 := ob.frozen 2
    have ob_f3 := ob.frozen 3
    have z1 : w.heap.size + 1 + 1 < w1.heap.size := ob.lt
    go_wp2_with fail
    refine bodyPost_ret (v := .tuple #[noRow, .int .i64 5]) (by simp [results, Try.results85, go_sem, ob_0, ob_1, ob_2, ob_3]) rfl ⟨rfl, ?_⟩
    repeat (refine gSet ?_ (by dsimp only; omega) _)
    exact low

set_option maxRecDepth 10000 in
set_option maxHeartbeats 2000000 in
theorem rowSet_ok (v : Value) (l : List Wy) (a b c : Bool) (n : Int) (x : Wy) (k : Nat) (w : World) (h : Ws w v l) (he : rowE l a b c n = 0) (hx : hlB x = true) (hk : idxP (hasW x.ln) l = k) (kl : k < l.length) :
    Calls Try.prog 85 #[rowV v a b c, .int .i64 n, x.val] w fun e w' =>
      (∃ v', e = .returned (.tuple #[rowV v' (touchT a b c n k).1 (touchT a b c n k).2.1 (touchT a b c n k).2.2, .int .i64 0]) ∧ Fr w' w.heap.size w'.heap.size v' (l.set k x)) ∧ Below w.heap.size w w' := by
  obtain ⟨e4, e5, _⟩ := rowE_ok he
  have low := Below.refl w.heap.size w
  have rb := boxNext low 78 (rowA v a b c)
  replace low := gAlloc low (.cells (rowA v a b c) 78)
  replace h := h.alloc (.cells (rowA v a b c) 78)
  try simp only [World.size_alloc] at rb
  simp only [rowA] at rb
  have xb := boxNext low 51 x.arr
  replace low := gAlloc low (.cells x.arr 51)
  replace h := h.alloc (.cells x.arr 51)
  replace rb := rb.alloc (.cells x.arr 51)
  try simp only [World.size_alloc] at xb
  simp only [Wy.arr] at xb
  have ob := boxNext low 78 (rowA (.slice none 0 0) false false false)
  replace low := gAlloc low (.cells (rowA (.slice none 0 0) false false false) 78)
  replace h := h.alloc (.cells (rowA (.slice none 0 0) false false false) 78)
  replace rb := rb.alloc (.cells (rowA (.slice none 0 0) false false false) 78)
  replace xb := xb.alloc (.cells (rowA (.slice none 0 0) false false false) 78)
  try simp only [World.size_alloc] at ob
  simp only [rowA] at ob
  have R := Lib.hid fun w' hw => rowCheck_any v l a b c n w' hw
  have HL := Lib.hid fun w' => hasLine_any x w'
  have FA := Lib.hid fun w' hw => find_any v l x.ln w' hw
  have AC := Lib.hid fun w' hw => access_any v l a b c n k x w' hw e4 e5 kl
  rw [he] at R
  rw [hx] at HL
  rw [hk] at FA
  generalize touchT a b c n k = t at AC ⊢
  have kd : decide ((k : Int) < 0) = false := decide_eq_false (by omega)
  clear he e4 e5 hk hx
  go_enter Try.func85, Try.ntmps85
  go_wp2_with fail
  (with_reducible refine (R.out _ h).mono ?_); rintro e w0 ⟨rfl, hb⟩
  replace rb := rb.call hb
  replace xb := xb.call hb
  replace ob := ob.call hb
  replace h := h.call hb
  replace low := gCall low hb
  clear hb
  have xb_0 := xb.at_ 0 rfl
  have xb_1 := xb.at_ 1 rfl
  have xb_2 := xb.at_ 2 rfl
  have xb_3 := xb.at_ 3 rfl
  have xb_4 := xb.at_ 4 rfl
  have xb_5 := xb.at_ 5 rfl
  go_wp2_with fail
  (with_reducible refine (HL.out _).mono ?_); rintro e w1 ⟨rfl, hb⟩
  replace rb := rb.call hb
  replace xb := xb.call hb
  replace ob := ob.call hb
  replace h := h.call hb
  replace low := gCall low hb
  clear hb xb_0 xb_1 xb_2 xb_3 xb_4 xb_5
  have xb_0 := xb.at_ 0 rfl
  have xb_1 := xb.at_ 1 rfl
  have xb_2 := xb.at_ 2 rfl
  have xb_3 := xb.at_ 3 rfl
  have xb_4 := xb.at_ 4 rfl
  have xb_5 := xb.at_ 5 rfl
  have rb_0 := rb.at_ 0 rfl
  have rb_1 := rb.at_ 1 rfl
  have rb_2 := rb.at_ 2 rfl
  have rb_3 := rb.at_ 3 rfl
  go_wp2_with fail
  (with_reducible refine (FA.out _ h).mono ?_); rintro e w2 ⟨rfl, hb⟩
  replace rb := rb.call hb
  replace xb := xb.call hb
  replace ob := ob.call hb
  replace h := h.call hb
  replace low := gCall low hb
  clear hb xb_0 xb_1 xb_2 xb_3 xb_4 xb_5 rb_0 rb_1 rb_2 rb_3
  have xb_0 := xb.at_ 0 rfl
  have xb_1 := xb.at_ 1 rfl
  have xb_2 := xb.at_ 2 rfl
  have xb_3 := xb.at_ 3 rfl
  have xb_4 := xb.at_ 4 rfl
  have xb_5 := xb.at_ 5 rfl
  have rb_0 := rb.at_ 0 rfl
  have rb_1 := rb.at_ 1 rfl
  have rb_2 := rb.at_ 2 rfl
  have rb_3 := rb.at_ 3 rfl
  go_wp2_with fail
  (with_reducible refine (AC.out _ h).mono ?_); rintro e w4 ⟨⟨v', rfl, fr⟩, hb4⟩
  clear xb_0 xb_1 xb_2 xb_3 xb_4 xb_5 rb_0 rb_1 rb_2 rb_3
  have z3 : w.heap.size + 1 + 1 < w2.heap.size := ob.lt
  have z4 : w2.heap.size ≤ w4.heap.size := hb4.size
  replace ob := ob.call hb4
  replace low := gCall low hb4
  clear hb4
  obtain ⟨A', c', rfl⟩ := fr.shape
  have ob_0 := ob.at_ 0 rfl
  have ob_1 := ob.at_ 1 rfl
  have ob_2 := ob.at_ 2 rfl
  have ob_3 := ob.at_ 3 rfl
  have ob_f0 := ob.frozen 0
  have ob_f1 := ob.frozen 1
  have ob_f2 := ob.frozen 2
  have ob_f3 := ob.frozen 3
  go_wp2_with fail
  refine bodyPost_ret (v := .tuple #[rowV (.slice A' (l.set k x).length c') t.1 t.2.1 t.2.2, .int .i64 0]) (by simp [results, Try.results85, go_sem, ob_0, ob_1, ob_2, ob_3]) rfl ⟨⟨_, rfl, ?_⟩, ?_⟩
  · refine Fr.more ?_ (B := w2.heap.size) (C := w4.heap.size) (by omega) (by simp)
    repeat (refine Fr.far ?_ (by dsimp only; omega) _)
    exact fr
  · repeat (refine gSet ?_ (by dsimp only; omega) _)
    exact low
end Go.Proofs.Ytahoadfofleacaa

/- RowFacts: Proved: facts on lists of ways: when a set is right, where a line is, what putting and taking change. No condition. -/
namespace Go.Proofs.Ytahoadfofleacaa

/-- Each way is right by itself, and no line is there twice. -/
def GoodW (l : List Wy) : Prop :=
  (∀ (q : Nat) x, l[q]? = some x → wayE x = 0) ∧ ∀ (p q : Nat) x y, p < q → l[p]? = some x → l[q]? = some y → x.st ≠ 0 → y.st ≠ 0 → x.ln ≠ y.ln

theorem hasW_iff {m : Int} {x : Wy} : hasW m x = true ↔ x.st ≠ 0 ∧ x.ln = m := by simp [hasW]
theorem hasW_no {m : Int} {x : Wy} : hasW m x = false ↔ (x.st ≠ 0 → x.ln ≠ m) := by
  rw [← Bool.not_eq_true, hasW_iff]
  exact ⟨fun h a b => h ⟨a, b⟩, fun h k => h k.1 k.2⟩

theorem idxP_neg {p : Wy → Bool} {l : List Wy} : (¬ 0 ≤ idxP p l) ↔ ∀ x ∈ l, p x = false := by
  rcases idxP_cases p l with ⟨e, h⟩ | ⟨k, x, e, hx, hp, _⟩
  · rw [e]; exact ⟨fun _ => h, fun _ => by decide⟩
  · rw [e]
    refine ⟨fun h => absurd (Int.natCast_nonneg k) h, fun h => ?_⟩
    rw [h x (List.mem_of_getElem? hx)] at hp
    cases hp

theorem waysE_zero : ∀ (l pre : List Wy), waysE pre l = 0 ↔ ∀ (k : Nat) x, l[k]? = some x → wayE x = 0 ∧ (x.st ≠ 0 → ∀ y ∈ pre ++ l.take k, hasW x.ln y = false)
  | [], pre => by simp [waysE]
  | x :: r, pre => by
    rw [waysE]
    have ih := waysE_zero r (pre ++ [x])
    constructor
    · intro h k y hy
      by_cases h1 : wayE x ≠ 0
      · rw [if_pos h1] at h; exact absurd h h1
      · rw [if_neg h1] at h
        by_cases h2 : (x.st != 0 && decide (0 ≤ idxP (hasW x.ln) pre)) = true
        · rw [if_pos h2] at h; cases h
        · rw [if_neg h2] at h
          cases k with
          | zero =>
            simp at hy
            subst hy
            refine ⟨by simpa using h1, fun hs z hz => ?_⟩
            simp only [List.take_zero, List.append_nil] at hz
            refine idxP_neg.1 (fun h0 => h2 ?_) z hz
            simp [hs, h0]
          | succ k =>
            obtain ⟨a1, a2⟩ := ih.1 h k y (by simpa using hy)
            refine ⟨a1, fun hs z hz => a2 hs z ?_⟩
            simpa using hz
    · intro h
      obtain ⟨b1, b2⟩ := h 0 x rfl
      rw [if_neg (by simp [b1]), if_neg]
      · refine ih.2 fun k y hy => ?_
        obtain ⟨a1, a2⟩ := h (k + 1) y (by simpa using hy)
        exact ⟨a1, fun hs z hz => a2 hs z (by simpa using hz)⟩
      · intro h2
        rw [Bool.and_eq_true, decide_eq_true_iff] at h2
        have hs : x.st ≠ 0 := by simpa using h2.1
        exact idxP_neg.2 (fun y hy => b2 hs y (by simpa using hy)) h2.2

theorem goodW_iff (l : List Wy) : waysE [] l = 0 ↔ GoodW l := by
  rw [waysE_zero]
  constructor
  · refine fun h => ⟨fun q x hx => (h q x hx).1, fun p q x y hpq hx hy sx sy e => ?_⟩
    have := (h q y hy).2 sy x (by
      rw [List.nil_append]
      exact List.mem_of_getElem? (i := p) (by rw [List.getElem?_take, if_pos hpq]; exact hx))
    exact hasW_no.1 this sx e
  · refine fun h k x hx => ⟨h.1 k x hx, fun hs y hy => hasW_no.2 fun sy e => ?_⟩
    rw [List.nil_append] at hy
    obtain ⟨p, hp, e'⟩ := List.getElem_of_mem hy
    have hpk : p < k := by simp at hp; omega
    have hy' : l[p]? = some y := by
      have : (l.take k)[p]? = some y := by rw [List.getElem?_eq_getElem hp, e']
      rwa [List.getElem?_take, if_pos hpk] at this
    exact h.2 p k y x hpk hy' hx sy hs e

/-- A line is in one place. -/
theorem GoodW.at_ {l : List Wy} (h : GoodW l) {m : Int} {q : Nat} {x : Wy} (hx : l[q]? = some x) (hm : hasW m x = true) : idxP (hasW m) l = q := by
  refine idxP_some (fun j y hj hy => ?_) hx hm
  refine hasW_no.2 fun sy e => ?_
  obtain ⟨sx, ex⟩ := hasW_iff.1 hm
  exact h.2 j q y x hj hy hx sy sx (e.trans ex.symm)

/-- Another line is in another place. -/
theorem GoodW.other {l : List Wy} (h : GoodW l) {m : Int} {q j : Nat} {x y : Wy} (hx : l[q]? = some x) (hm : hasW m x = true) (hy : l[j]? = some y) (hj : j ≠ q) : hasW m y = false := by
  cases e : hasW m y
  · rfl
  · have h1 := h.at_ hx hm
    rw [h.at_ hy e] at h1
    omega

theorem wayE_of {x : Wy} (h : hlB x = true) : wayE x = 0 ∧ x.st ≠ 0 := by
  simp only [hlB, Bool.and_eq_true] at h
  obtain ⟨h1, h2⟩ := h
  have hr : 1 ≤ x.st ∧ x.st ≤ 4 := by simpa [rdB] using h1
  have hs : stB x.st = true := decide_eq_true (by omega)
  refine ⟨?_, by omega⟩
  unfold wayE
  rw [if_pos ⟨hs, h2⟩, if_neg (fun k => by omega)]

/-- What is there in a list in which one is replaced. -/
theorem set_get {l : List Wy} {k q : Nat} {x z : Wy} (h : (l.set k x)[q]? = some z) : (q = k ∧ z = x) ∨ (q ≠ k ∧ l[q]? = some z) := by
  by_cases e : q = k
  · subst e
    have hk : q < l.length := by
      have := set_lt h
      simpa using this
    rw [List.getElem?_set_self hk] at h
    cases h
    exact .inl ⟨rfl, rfl⟩
  · rw [List.getElem?_set_ne (fun h => e h.symm)] at h
    exact .inr ⟨e, h⟩

theorem GoodW.put {l : List Wy} (h : GoodW l) {k : Nat} {x : Wy} (hx : hlB x = true) (hn : ∀ y ∈ l, hasW x.ln y = false) : GoodW (l.set k x) := by
  refine ⟨fun q z hz => ?_, fun p q z u hpq hz hu sz su => ?_⟩
  · rcases set_get hz with ⟨_, rfl⟩ | ⟨_, hz⟩
    · exact (wayE_of hx).1
    · exact h.1 q z hz
  · rcases set_get hz with ⟨e1, d1⟩ | ⟨_, z2⟩ <;> rcases set_get hu with ⟨e2, d2⟩ | ⟨_, u2⟩
    · omega
    · rw [d1]; exact fun e => hasW_no.1 (hn u (List.mem_of_getElem? u2)) su e.symm
    · rw [d2]; exact fun e => hasW_no.1 (hn z (List.mem_of_getElem? z2)) sz e
    · exact h.2 p q z u hpq z2 u2 sz su

theorem GoodW.drop_ {l : List Wy} (h : GoodW l) (k : Nat) : GoodW (l.set k wy0) := by
  refine ⟨fun q z hz => ?_, fun p q z u hpq hz hu sz su => ?_⟩
  · rcases set_get hz with ⟨_, rfl⟩ | ⟨_, hz⟩
    · decide
    · exact h.1 q z hz
  · rcases set_get hz with ⟨e1, rfl⟩ | ⟨_, hz⟩
    · exact absurd rfl sz
    · rcases set_get hu with ⟨e2, rfl⟩ | ⟨_, hu⟩
      · exact absurd rfl su
      · exact h.2 p q z u hpq hz hu sz su

theorem idxP_map {p : Wy → Bool} : ∀ {l l' : List Wy}, l.map p = l'.map p → idxP p l = idxP p l' := by
  intro l l' h
  have e : ∀ m : List Wy, m.findIdx? p = (m.map p).findIdx? id := by
    intro m
    rw [List.findIdx?_map]
    rfl
  unfold idxP
  rw [e l, e l', h]

theorem idxP_set {p : Wy → Bool} {l : List Wy} {k : Nat} {x y : Wy} (hy : l[k]? = some y) (h : p x = p y) : idxP p (l.set k x) = idxP p l := by
  refine idxP_map (List.ext_getElem? fun q => ?_)
  rw [List.getElem?_map, List.getElem?_map]
  by_cases e : q = k
  · subst e
    rw [List.getElem?_set_self (set_lt hy), hy]
    simp [h]
  · rw [List.getElem?_set_ne (fun h => e h.symm)]

theorem touch_keeps {a b c : Bool} {n k : Int} (h : treeE a b c n = 0) (h0 : 0 ≤ k) (h1 : k < n) : treeE (touchT a b c n k).1 (touchT a b c n k).2.1 (touchT a b c n k).2.2 n = 0 := by
  obtain ⟨hn1, hn4⟩ := treeE_range h
  have hn : n = 1 ∨ n = 2 ∨ n = 3 ∨ n = 4 := by omega
  have hk : k = 0 ∨ k = 1 ∨ k = 2 ∨ k = 3 := by omega
  rcases hn with rfl | rfl | rfl | rfl <;> rcases hk with rfl | rfl | rfl | rfl <;> first | omega | (revert h; cases a <;> cases b <;> cases c <;> decide)

theorem rowE_zero {l : List Wy} {a b c : Bool} {n : Int} (h1 : treeE a b c n = 0) (h2 : (l.length : Int) = n) (h3 : GoodW l) : rowE l a b c n = 0 := by
  unfold rowE
  rw [if_neg (by simp [h1]), if_neg (by simp [h2])]
  exact (goodW_iff l).2 h3

/-- What holds behind a put: all that RowTurns asks. -/
theorem put_facts {l : List Wy} {a b c : Bool} {n : Int} {x : Wy} {k : Nat} {y : Wy} (he : putE l a b c n x = 0) (hy : l[k]? = some y) :
    rowE l a b c n = 0 ∧ rowE (l.set k x) (touchT a b c n k).1 (touchT a b c n k).2.1 (touchT a b c n k).2.2 n = 0 ∧ idxP (hasW x.ln) (l.set k x) = k ∧ (l.set k x)[k]? = some x ∧
    rowE ((l.set k x).set k wy0) (touchT a b c n k).1 (touchT a b c n k).2.1 (touchT a b c n k).2.2 n = 0 ∧ idxP (hasW x.ln) ((l.set k x).set k wy0) = -1 ∧
    ∀ m : Int, m = x.ln ∨ (y.st ≠ 0 ∧ m = y.ln ∧ idxP (hasW m) (l.set k x) < 0 ∧ 0 ≤ idxP (hasW m) l) ∨ idxP (hasW m) (l.set k x) = idxP (hasW m) l := by
  obtain ⟨e1, e2, e3⟩ := putE_ok he
  obtain ⟨t0, t1, t2⟩ := rowE_ok e1
  have good := (goodW_iff l).1 t2
  have none := idxP_neg.1 (show ¬ 0 ≤ idxP (hasW x.ln) l by omega)
  have hkl := set_lt hy
  have good1 := good.put (k := k) e2 none
  obtain ⟨_, sx⟩ := wayE_of e2
  have hx : (l.set k x)[k]? = some x := List.getElem?_set_self hkl
  have tk := touch_keeps t0 (show (0 : Int) ≤ k by omega) (show (k : Int) < n by omega)
  have hxx : hasW x.ln x = true := hasW_iff.2 ⟨sx, rfl⟩
  refine ⟨e1, rowE_zero tk (by simpa using t1) good1, good1.at_ hx hxx, hx, rowE_zero tk (by simpa using t1) (good1.drop_ k), ?_, fun m => ?_⟩
  · refine idxP_none fun q z hz => ?_
    rcases set_get hz with ⟨_, rfl⟩ | ⟨hq, hz⟩
    · rfl
    · exact good1.other hx hxx hz hq
  · by_cases hm : m = x.ln
    · exact .inl hm
    · refine .inr ?_
      have hxm : hasW m x = false := hasW_no.2 fun _ e => hm e.symm
      cases hym : hasW m y
      · exact .inr (idxP_set hy (hxm.trans hym.symm))
      · obtain ⟨sy, ey⟩ := hasW_iff.1 hym
        refine .inl ⟨sy, ey.symm, ?_, ?_⟩
        · rw [idxP_none]
          · decide
          · intro q z hz
            rcases set_get hz with ⟨_, rfl⟩ | ⟨hq, hz⟩
            · exact hxm
            · exact good.other hy hym hz hq
        · rw [good.at_ hy hym]
          omega

theorem idxP_there {p : Wy → Bool} {l : List Wy} (h : 0 ≤ idxP p l) : ∃ (k : Nat) (y : Wy), idxP p l = k ∧ l[k]? = some y ∧ p y = true := by
  rcases idxP_cases p l with ⟨e, _⟩ | ⟨k, x, e, hx, hp, _⟩
  · rw [e] at h; omega
  · exact ⟨k, x, e, hx, hp⟩
end Go.Proofs.Ytahoadfofleacaa

/- Addr: Proved: what each function of package addr returns, for every argument; none of them changes anything that was there. No condition. -/
namespace Go.Proofs.Ytahoadfofleacaa
open Go.ChangeShapes Go.WideShapes Go.ChangeAt Go.RowKit

/-- Are the numbers of a configuration in range? -/
def cfgB (n s y b : Int) : Bool := decide (2 ≤ n ∧ n ≤ 8 ∧ (s = 1 ∨ s = 2 ∨ s = 4) ∧ 1 ≤ y ∧ y ≤ 4 ∧ 1 ≤ b ∧ b ≤ 4)

theorem cfgB_iff {n s y b : Int} : cfgB n s y b = true ↔ (2 ≤ n ∧ n ≤ 8 ∧ (s = 1 ∨ s = 2 ∨ s = 4) ∧ 1 ≤ y ∧ y ≤ 4 ∧ 1 ≤ b ∧ b ≤ 4) := by
  unfold cfgB; exact decide_eq_true_iff

theorem cfgB_no {n s y b : Int} (h : cfgB n s y b = false) : n < 2 ∨ 8 < n ∨ (s ≠ 1 ∧ s ≠ 2 ∧ s ≠ 4) ∨ y < 1 ∨ 4 < y ∨ b < 1 ∨ 4 < b := by
  have : ¬ (2 ≤ n ∧ n ≤ 8 ∧ (s = 1 ∨ s = 2 ∨ s = 4) ∧ 1 ≤ y ∧ y ≤ 4 ∧ 1 ≤ b ∧ b ≤ 4) := by
    intro k; rw [cfgB_iff.2 k] at h; cases h
  omega

/-- The node that is k places after f in a ring of n. -/
def nodeAt (n f k : Int) : Int := (f + k % n) % n

theorem nodeAt_nonneg {n f k : Int} (h : 0 < n) : 0 ≤ nodeAt n f k := Int.emod_nonneg _ (by omega)
theorem nodeAt_lt {n f k : Int} (h : 0 < n) : nodeAt n f k < n := Int.emod_lt_of_pos _ h

theorem within_yes (n lo hi : Int) (w : World) (h1 : lo ≤ n) (h2 : n ≤ hi) :
    Calls Try.prog 74 #[.int .i64 n, .int .i64 lo, .int .i64 hi] w fun e w' => e = .returned (.bool true) ∧ w = w' := by
  go_enter Try.func74, Try.ntmps74
  go_wp2
  go_ret
  exact ⟨rfl, rfl⟩

theorem within_no (n lo hi : Int) (w : World) (h : n < lo ∨ hi < n) :
    Calls Try.prog 74 #[.int .i64 n, .int .i64 lo, .int .i64 hi] w fun e w' => e = .returned (.bool false) ∧ w = w' := by
  by_cases h1 : n < lo
  · go_enter Try.func74, Try.ntmps74
    go_wp2
    go_ret
    exact ⟨rfl, rfl⟩
  · have h2 : hi < n := by omega
    have h3 : lo ≤ n := by omega
    have h4 : decide (n ≤ hi) = false := by simpa using h2
    clear h h1
    go_enter Try.func74, Try.ntmps74
    go_wp2
    go_ret
    exact ⟨rfl, rfl⟩

theorem isSets_yes (s : Int) (w : World) (h : s = 1 ∨ s = 2 ∨ s = 4) :
    Calls Try.prog 75 #[.int .i64 s] w fun e w' => e = .returned (.bool true) ∧ w = w' := by
  rcases h with rfl | rfl | rfl
  all_goals
    go_enter Try.func75, Try.ntmps75
    go_wp2
    go_ret
    exact ⟨rfl, rfl⟩

theorem isSets_no (s : Int) (w : World) (h1 : s ≠ 1) (h2 : s ≠ 2) (h4 : s ≠ 4) :
    Calls Try.prog 75 #[.int .i64 s] w fun e w' => e = .returned (.bool false) ∧ w = w' := by
  have k1 : (s == 1) = false := by simpa using h1
  have k2 : (s == 2) = false := by simpa using h2
  have k4 : (s == 4) = false := by simpa using h4
  clear h1 h2 h4
  go_enter Try.func75, Try.ntmps75
  go_wp2
  go_ret
  exact ⟨rfl, rfl⟩

theorem check_ok (n s y b : Int) (w : World) (h : cfgB n s y b = true) :
    Calls Try.prog 48 #[cfg n s y b] w fun e w' => e = .returned (.int .i64 0) ∧ Below w.heap.size w w' := by
  obtain ⟨h1, h2, h3, h4, h5, h6, h7⟩ := cfgB_iff.1 h
  clear h
  have H3 := Lib.hid h3
  clear h3
  go_enter Try.func48, Try.ntmps48
  go_wp2_with (first
    | (go_at_call 74; refine (within_yes _ _ _ _ (by omega) (by omega)).mono ?_; rintro e w' ⟨rfl, rfl⟩)
    | (go_at_call 75; refine (isSets_yes _ _ H3.out).mono ?_; rintro e w' ⟨rfl, rfl⟩))
  go_ret
  exact ⟨rfl, gAlloc (Below.refl _ _) _⟩

theorem check_bad (n s y b : Int) (w : World) (h : cfgB n s y b = false) :
    Calls Try.prog 48 #[cfg n s y b] w fun e w' => e = .returned (.int .i64 4) ∧ Below w.heap.size w w' := by
  have h' := cfgB_no h
  clear h
  by_cases a1 : n < 2 ∨ 8 < n
  · go_enter Try.func48, Try.ntmps48
    go_wp2_with (go_at_call 74; refine (within_no _ _ _ _ (by omega)).mono ?_; rintro e w' ⟨rfl, rfl⟩)
    go_ret
    exact ⟨rfl, gAlloc (Below.refl _ _) _⟩
  by_cases a2 : s ≠ 1 ∧ s ≠ 2 ∧ s ≠ 4
  · have A2 := Lib.hid a2
    clear a2 h'
    go_enter Try.func48, Try.ntmps48
    go_wp2_with (first
      | (go_at_call 74; refine (within_yes _ _ _ _ (by omega) (by omega)).mono ?_; rintro e w' ⟨rfl, rfl⟩)
      | (go_at_call 75; refine (isSets_no _ _ A2.out.1 A2.out.2.1 A2.out.2.2).mono ?_; rintro e w' ⟨rfl, rfl⟩))
    go_ret
    exact ⟨rfl, gAlloc (Below.refl _ _) _⟩
  have a2' : s = 1 ∨ s = 2 ∨ s = 4 := by omega
  have A2 := Lib.hid a2'
  have b1 : 2 ≤ n := by omega
  have b2 : n ≤ 8 := by omega
  clear a2 a2'
  by_cases a3 : y < 1 ∨ 4 < y
  · clear h' a1
    go_enter Try.func48, Try.ntmps48
    go_wp2_with fail
    refine (within_yes _ _ _ _ (by omega) (by omega)).mono ?_; rintro e w' ⟨rfl, rfl⟩
    go_wp2_with fail
    refine (isSets_yes _ _ A2.out).mono ?_; rintro e w' ⟨rfl, rfl⟩
    go_wp2_with fail
    refine (within_no _ _ _ _ (by omega)).mono ?_; rintro e w' ⟨rfl, rfl⟩
    go_wp2_with fail
    go_ret
    exact ⟨rfl, gAlloc (Below.refl _ _) _⟩
  · have b3 : 1 ≤ y := by omega
    have b4 : y ≤ 4 := by omega
    have b5 : b < 1 ∨ 4 < b := by have := A2.out; omega
    clear h' a1 a3
    go_enter Try.func48, Try.ntmps48
    go_wp2_with fail
    refine (within_yes _ _ _ _ (by omega) (by omega)).mono ?_; rintro e w' ⟨rfl, rfl⟩
    go_wp2_with fail
    refine (isSets_yes _ _ A2.out).mono ?_; rintro e w' ⟨rfl, rfl⟩
    go_wp2_with fail
    refine (within_yes _ _ _ _ (by omega) (by omega)).mono ?_; rintro e w' ⟨rfl, rfl⟩
    go_wp2_with fail
    refine (within_no _ _ _ _ (by omega)).mono ?_; rintro e w' ⟨rfl, rfl⟩
    go_wp2_with fail
    go_ret
    exact ⟨rfl, gAlloc (Below.refl _ _) _⟩

theorem checkLine_ok (n s y b l : Int) (w : World) (h : cfgB n s y b = true) (h0 : 0 ≤ l) (h1 : l ≤ 15) :
    Calls Try.prog 90 #[cfg n s y b, .int .i64 l] w fun e w' => e = .returned (.int .i64 0) ∧ Below w.heap.size w w' := by
  have HB := Lib.hid h
  clear h
  go_enter Try.func90, Try.ntmps90
  go_wp2_with fail
  refine (check_ok _ _ _ _ _ HB.out).mono ?_; rintro e w1 ⟨rfl, hb⟩
  obtain ⟨hc, hf⟩ := bcell hb
  go_wp2_with fail
  refine (within_yes _ _ _ _ (by omega) (by omega)).mono ?_; rintro e w' ⟨rfl, rfl⟩
  go_wp2_with fail
  go_ret
  exact ⟨rfl, gCall (gAlloc (Below.refl _ _) _) hb⟩

theorem checkLine_bad (n s y b l : Int) (w : World) (h : cfgB n s y b = false) :
    Calls Try.prog 90 #[cfg n s y b, .int .i64 l] w fun e w' => e = .returned (.int .i64 4) ∧ Below w.heap.size w w' := by
  have HB := Lib.hid h
  clear h
  go_enter Try.func90, Try.ntmps90
  go_wp2_with fail
  refine (check_bad _ _ _ _ _ HB.out).mono ?_; rintro e w1 ⟨rfl, hb⟩
  go_wp2_with fail
  go_ret
  exact ⟨rfl, gCall (gAlloc (Below.refl _ _) _) hb⟩

theorem checkLine_out (n s y b l : Int) (w : World) (h : cfgB n s y b = true) (h0 : l < 0 ∨ 15 < l) :
    Calls Try.prog 90 #[cfg n s y b, .int .i64 l] w fun e w' => e = .returned (.int .i64 4) ∧ Below w.heap.size w w' := by
  have HB := Lib.hid h
  clear h
  go_enter Try.func90, Try.ntmps90
  go_wp2_with fail
  refine (check_ok _ _ _ _ _ HB.out).mono ?_; rintro e w1 ⟨rfl, hb⟩
  obtain ⟨hc, hf⟩ := bcell hb
  go_wp2_with fail
  refine (within_no _ _ _ _ (by omega)).mono ?_; rintro e w' ⟨rfl, rfl⟩
  go_wp2_with fail
  go_ret
  exact ⟨rfl, gCall (gAlloc (Below.refl _ _) _) hb⟩

theorem checkLine_no (n s y b l : Int) (w : World) (h : cfgB n s y b = false ∨ l < 0 ∨ 15 < l) :
    Calls Try.prog 90 #[cfg n s y b, .int .i64 l] w fun e w' => e = .returned (.int .i64 4) ∧ Below w.heap.size w w' := by
  cases hB : cfgB n s y b with
  | false => exact checkLine_bad n s y b l w hB
  | true => exact checkLine_out n s y b l w hB (by rcases h with h | h; rw [hB] at h; cases h; exact h)

theorem line_ok (a : Int) (w : World) (h0 : 0 ≤ a) (h1 : a ≤ 63) :
    Calls Try.prog 55 #[.int .i64 a] w fun e w' => e = .returned (.tuple #[.int .i64 (a / 4), .int .i64 (a % 4), .int .i64 0]) ∧ w = w' := by
  go_enter Try.func55, Try.ntmps55
  go_wp2_with fail
  refine (within_yes _ _ _ _ (by omega) (by omega)).mono ?_; rintro e w' ⟨rfl, rfl⟩
  go_wp2_with fail
  go_ret3
  exact ⟨rfl, rfl⟩

theorem line_out (a : Int) (w : World) (h : a < 0 ∨ 63 < a) :
    Calls Try.prog 55 #[.int .i64 a] w fun e w' => e = .returned (.tuple #[.int .i64 0, .int .i64 0, .int .i64 4]) ∧ w = w' := by
  go_enter Try.func55, Try.ntmps55
  go_wp2_with fail
  refine (within_no _ _ _ _ (by omega)).mono ?_; rintro e w' ⟨rfl, rfl⟩
  go_wp2_with fail
  go_ret3
  exact ⟨rfl, rfl⟩

theorem set_ok (n s y b l : Int) (w : World) (h : cfgB n s y b = true) (h0 : 0 ≤ l) (h1 : l ≤ 15) :
    Calls Try.prog 69 #[cfg n s y b, .int .i64 l] w fun e w' => e = .returned (.tuple #[.int .i64 (l % s), .int .i64 0]) ∧ Below w.heap.size w w' := by
  have hs : 1 ≤ s ∧ s ≤ 4 := by have := cfgB_iff.1 h; omega
  obtain ⟨hs1, hs2⟩ := hs
  have HB := Lib.hid h
  clear h
  go_enter Try.func69, Try.ntmps69
  go_wp2_with fail
  refine (checkLine_ok _ _ _ _ _ _ HB.out h0 h1).mono ?_; rintro e w1 ⟨rfl, hb⟩
  obtain ⟨hc, hf⟩ := bcell hb
  go_wp2_with fail
  go_ret2
  exact ⟨rfl, gCall (gAlloc (Below.refl _ _) _) hb⟩

theorem set_bad (n s y b l : Int) (w : World) (h : cfgB n s y b = false ∨ l < 0 ∨ 15 < l) :
    Calls Try.prog 69 #[cfg n s y b, .int .i64 l] w fun e w' => e = .returned (.tuple #[.int .i64 0, .int .i64 4]) ∧ Below w.heap.size w w' := by
  have HB := Lib.hid h
  clear h
  go_enter Try.func69, Try.ntmps69
  go_wp2_with fail
  refine (checkLine_no _ _ _ _ _ _ HB.out).mono ?_; rintro e w1 ⟨rfl, hb⟩
  obtain ⟨hc, hf⟩ := bcell hb
  go_wp2_with fail
  go_ret2
  exact ⟨rfl, gCall (gAlloc (Below.refl _ _) _) hb⟩


end Go.Proofs.Ytahoadfofleacaa
