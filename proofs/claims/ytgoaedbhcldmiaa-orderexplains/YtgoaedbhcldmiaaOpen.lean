/-
Proved: what is known of an argument that can be read: an integer, a bool, a configuration. Condition: the value reads as data of its type.
-/
import Derived.Test.YtgoaedbhcldmiaaLaw
namespace Go.Proofs.Ytgoaedbhcldmiaa
open Go.ChangeShapes Go.WideShapes Go.ChangeAt Go.RowKit Go.Joins

/-- The bounds of an int. -/
def I64 (a : Int) : Prop := -9223372036854775808 ≤ a ∧ a ≤ 9223372036854775807

def IsInt (v : Value) : Prop := ∃ a, v = .int .i64 a ∧ I64 a

/-- A configuration as a value. -/
abbrev cfg (n s y b : Int) : Value := .agg #[.int .i64 n, .int .i64 s, .int .i64 y, .int .i64 b]

def IsCfg (v : Value) : Prop := ∃ n s y b, v = cfg n s y b ∧ I64 n ∧ I64 s ∧ I64 y ∧ I64 b

/-- A tree as a value. -/
abbrev tree (a b c : Bool) : Value := .agg #[.bool a, .bool b, .bool c]

def IsTree (v : Value) : Prop := ∃ a b c, v = tree a b c

/-- The bounds of a uint64. -/
def U64 (a : Int) : Prop := 0 ≤ a ∧ a ≤ 18446744073709551615

def IsU64 (v : Value) : Prop := ∃ a, v = .int .u64 a ∧ U64 a

/-- A cache line as a value. -/
abbrev line (a b c d : Int) : Value := .agg #[.int .u64 a, .int .u64 b, .int .u64 c, .int .u64 d]

def IsLine (v : Value) : Prop := ∃ a b c d, v = line a b c d ∧ U64 a ∧ U64 b ∧ U64 c ∧ U64 d

def IsStr (v : Value) : Prop := ∃ s : ByteArray, v = .string s ∧ (s.size : Int) ≤ 9223372036854775807

section
variable {H : Type} {enc : TypeId × Value → H} {W : World} {base : Nat} {v : Value} {d : DataW H} {p : List MemPlace}

set_option maxRecDepth 10000 in
theorem openInt (hv : Value.okWide Try.prog W .any base 3 v) (h : DataW.Trod enc Try.prog W 0 (fun _ => true) true 3 v d p) : IsInt v := by
  obtain ⟨a, rfl, _, _, wa⟩ := open_int Try.underlying3 hv h
  exact ⟨a, rfl, bounds_i64 wa⟩


theorem bounds_u64 {a : Int} (h : (Lit.int .u64 a).wf = true) : U64 a := by
  simp [Lit.wf, IntKind.min, IntKind.max, IntKind.bits, IntKind.signed] at h
  exact ⟨by omega, by omega⟩

set_option maxRecDepth 10000 in
theorem openU64 (hv : Value.okWide Try.prog W .any base 22 v) (h : DataW.Trod enc Try.prog W 0 (fun _ => true) true 22 v d p) : IsU64 v := by
  obtain ⟨a, rfl, _, _, wa⟩ := open_int Try.underlying22 hv h
  exact ⟨a, rfl, bounds_u64 wa⟩
end
end Go.Proofs.Ytgoaedbhcldmiaa
