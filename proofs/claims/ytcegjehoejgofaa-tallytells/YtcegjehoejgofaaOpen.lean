/-
Proved: what is known of an argument that can be read: an integer, a bool, a configuration. Condition: the value reads as data of its type.
-/
import Derived.Test.YtcegjehoejgofaaLaw
namespace Go.Proofs.Ytcegjehoejgofaa
open Go.ChangeShapes Go.WideShapes Go.ChangeAt Go.RowKit Go.Joins

/-- The bounds of an int. -/
def I64 (a : Int) : Prop := -9223372036854775808 ≤ a ∧ a ≤ 9223372036854775807

def IsInt (v : Value) : Prop := ∃ a, v = .int .i64 a ∧ I64 a

/-- A configuration as a value. -/
abbrev cfg (n s y b : Int) : Value := .agg #[.int .i64 n, .int .i64 s, .int .i64 y, .int .i64 b]

def IsCfg (v : Value) : Prop := ∃ n s y b, v = cfg n s y b ∧ I64 n ∧ I64 s ∧ I64 y ∧ I64 b

/-- A tree as a value. -/
abbrev tree (a b c : Bool) : Value := .agg #[.bool a, .bool b, .bool c]

def IsTree (v : Value) : Prop := ∃ a b c, v = tree a b c

/-- The bounds of a uint64. -/
def U64 (a : Int) : Prop := 0 ≤ a ∧ a ≤ 18446744073709551615

def IsU64 (v : Value) : Prop := ∃ a, v = .int .u64 a ∧ U64 a

/-- A cache line as a value. -/
abbrev line (a b c d : Int) : Value := .agg #[.int .u64 a, .int .u64 b, .int .u64 c, .int .u64 d]

def IsLine (v : Value) : Prop := ∃ a b c d, v = line a b c d ∧ U64 a ∧ U64 b ∧ U64 c ∧ U64 d

def IsStr (v : Value) : Prop := ∃ s : ByteArray, v = .string s ∧ (s.size : Int) ≤ 9223372036854775807

section
variable {H : Type} {enc : TypeId × Value → H} {W : World} {base : Nat} {v : Value} {d : DataW H} {p : List MemPlace}

set_option maxRecDepth 10000 in
theorem openInt (hv : Value.okWide Try.prog W .any base 3 v) (h : DataW.Trod enc Try.prog W 0 (fun _ => true) true 3 v d p) : IsInt v := by
  obtain ⟨a, rfl, _, _, wa⟩ := open_int Try.underlying3 hv h
  exact ⟨a, rfl, bounds_i64 wa⟩

theorem cells_cfg : Try.prog.cellsOf 23 = 4 := by kernel_rfl

set_option maxRecDepth 10000 in
theorem openCfg (hv : Value.okWide Try.prog W .any base 23 v) (h : DataW.Trod enc Try.prog W 0 (fun _ => true) true 23 v d p) : IsCfg v := by
  obtain ⟨c0, c1, c2, c3, y0, y1, y2, y3, m, rfl, _, _, h0, h1, h2, h3⟩ := open_agg4 Try.underlying23 (by kernel_rfl) cells_cfg hv h
  obtain ⟨a0, e0, _, w0⟩ := DataW.trod_int Try.underlying3 h0
  obtain ⟨a1, e1, _, w1⟩ := DataW.trod_int Try.underlying3 h1
  obtain ⟨a2, e2, _, w2⟩ := DataW.trod_int Try.underlying3 h2
  obtain ⟨a3, e3, _, w3⟩ := DataW.trod_int Try.underlying3 h3
  simp only [List.cons.injEq, and_true] at e0 e1 e2 e3
  subst e0 e1 e2 e3
  exact ⟨a0, a1, a2, a3, rfl, bounds_i64 w0, bounds_i64 w1, bounds_i64 w2, bounds_i64 w3⟩

theorem bounds_u64 {a : Int} (h : (Lit.int .u64 a).wf = true) : U64 a := by
  simp [Lit.wf, IntKind.min, IntKind.max, IntKind.bits, IntKind.signed] at h
  exact ⟨by omega, by omega⟩

set_option maxRecDepth 10000 in
theorem openU64 (hv : Value.okWide Try.prog W .any base 24 v) (h : DataW.Trod enc Try.prog W 0 (fun _ => true) true 24 v d p) : IsU64 v := by
  obtain ⟨a, rfl, _, _, wa⟩ := open_int Try.underlying24 hv h
  exact ⟨a, rfl, bounds_u64 wa⟩
end
end Go.Proofs.Ytcegjehoejgofaa
