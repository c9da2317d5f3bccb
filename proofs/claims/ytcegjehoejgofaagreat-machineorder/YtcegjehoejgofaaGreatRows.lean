/-
  No cell of these rows narrows 'for every input' (looked for: loops, veiled, ifaces, maps, wideKeys, modest, calm, conditions, laid).
  DERIVED. THE GIVEN ROWS OF THIS SEAT. 3 by the template 'for every input the law returns true; each argument reads behind the call as it read before'; 0 by the template 'total and deterministic' (their statements: YtcegjehoejgofaaGreatTotals.lean).
  GIVEN WITH THE SEED: the statements are not yours to turn. If you find one false, say at which input.
  Laid BY PROGRAM, IN A SANDBOX (cutbox-rows.mjs): the forced cells as the released guide's own fill.sh prints them over the translation c37378c63161ed79… (all of the seat's roots in one cut). By AI agents, Wed Nov 11 2026. No macro, syntax, notation, axiom, sorry.
-/
import Derived.Test.YtcegjehoejgofaaGreatChecked
import GoSem.Claim
import GoSem.ClaimJoined
import GoSem.ClaimMapViews
import Derived.JoinedTies
import Derived.KernelRfl
namespace Go.Proofs.YtcegjehoejgofaaGreat
/- THE CELL 'sum', in the pinned program and in every row, IS THE sha256 OF THE DUMP (.gsa) THAT YtcegjehoejgofaaGreatProg.lean LOADS. Nothing in Lean hashes anything: it is a label: what it is worth is what the hold of that sum in a sandbox is worth. -/
noncomputable def Tryz.pinned : Pinned := { name := "ytcegjehoejgofaagreat", sum := "c37378c63161ed791e827e60f576c04bf75132c1fae8f3bef4118611eaa7c074", checked := Tryz.checked }
namespace Rows
def none {H : Type} : Left H := { results := [], args := [] }

/-- 'ringdovekeep.MachinePlain': WHATEVER THE INPUT: true; the input reads as it did. -/
def machinePlainSpec : ChangeSpec := { name := "machinePlain", fn := fun _ => fun
  | [d] => { results := [.lit (.bool true)], args := [d] }
  | _ => none }
def machinePlainRow : OpenClaim := { program := "ytcegjehoejgofaagreat", sum := "c37378c63161ed791e827e60f576c04bf75132c1fae8f3bef4118611eaa7c074", func := "ringdove/ringdovekeep.MachinePlain", spec := "machinePlain", unfollowed := true, recurses := true, plainKeys := false, apart := false }
def MachinePlainSaid : Prop := machinePlainRow.holds Tryz.pinned (OpenSpec.ofChange machinePlainSpec)

/-- ITS FALSE NEIGHBOUR: 'it returns false'. Refute it at one input. -/
def machinePlainWrong : ChangeSpec := { name := "machinePlain", fn := fun _ => fun
  | [d] => { results := [.lit (.bool false)], args := [d] }
  | _ => none }
def MachinePlainWrongFalsely : Prop := machinePlainRow.holds Tryz.pinned (OpenSpec.ofChange machinePlainWrong)

/-- 'ringdovekeep.MachineOrder': WHATEVER THE INPUT: true; the input reads as it did. -/
def machineOrderSpec : ChangeSpec := { name := "machineOrder", fn := fun _ => fun
  | [d1, d2, d3, d4, d5] => { results := [.lit (.bool true)], args := [d1, d2, d3, d4, d5] }
  | _ => none }
def machineOrderRow : OpenClaim := { program := "ytcegjehoejgofaagreat", sum := "c37378c63161ed791e827e60f576c04bf75132c1fae8f3bef4118611eaa7c074", func := "ringdove/ringdovekeep.MachineOrder", spec := "machineOrder", unfollowed := true, recurses := true, plainKeys := false, apart := false }
def MachineOrderSaid : Prop := machineOrderRow.holds Tryz.pinned (OpenSpec.ofChange machineOrderSpec)

/-- ITS FALSE NEIGHBOUR: 'it returns false'. Refute it at one input. -/
def machineOrderWrong : ChangeSpec := { name := "machineOrder", fn := fun _ => fun
  | [d1, d2, d3, d4, d5] => { results := [.lit (.bool false)], args := [d1, d2, d3, d4, d5] }
  | _ => none }
def MachineOrderWrongFalsely : Prop := machineOrderRow.holds Tryz.pinned (OpenSpec.ofChange machineOrderWrong)

/-- 'ringdovekeep.MachineExplains': WHATEVER THE INPUT: true; the input reads as it did. -/
def machineExplainsSpec : ChangeSpec := { name := "machineExplains", fn := fun _ => fun
  | [d1, d2, d3, d4, d5] => { results := [.lit (.bool true)], args := [d1, d2, d3, d4, d5] }
  | _ => none }
def machineExplainsRow : OpenClaim := { program := "ytcegjehoejgofaagreat", sum := "c37378c63161ed791e827e60f576c04bf75132c1fae8f3bef4118611eaa7c074", func := "ringdove/ringdovekeep.MachineExplains", spec := "machineExplains", unfollowed := true, recurses := true, plainKeys := false, apart := false }
def MachineExplainsSaid : Prop := machineExplainsRow.holds Tryz.pinned (OpenSpec.ofChange machineExplainsSpec)

/-- ITS FALSE NEIGHBOUR: 'it returns false'. Refute it at one input. -/
def machineExplainsWrong : ChangeSpec := { name := "machineExplains", fn := fun _ => fun
  | [d1, d2, d3, d4, d5] => { results := [.lit (.bool false)], args := [d1, d2, d3, d4, d5] }
  | _ => none }
def MachineExplainsWrongFalsely : Prop := machineExplainsRow.holds Tryz.pinned (OpenSpec.ofChange machineExplainsWrong)

/- THE SECOND FORM. 'bulk': how many values and letters a reading holds, each counted each time it is reached (what is shared counts as often as it is met; a slice's spare places count too). A statement '..UptoSaid' is the law's where the arguments, and the package variables that the reading takes, are together of bulk at most 1048576: NARROWER than '..Said'. Prove '..Said' where nothing that the law and all that it calls make is longer than what came in: it says more and counts as full. Else prove '..UptoSaid'. A law counts once. -/
mutual
def uptoBulk {H : Type} : DataW H → Nat
  | .lit (.string bytes) => bytes.length + 1
  | .lit _ => 1
  | .nil => 1
  | .ptr d => uptoBulk d + 1
  | .slice elems spare => uptoBulkAll elems + uptoBulkAll spare + 1
  | .agg parts => uptoBulkAll parts + 1
  | .iface _ d => uptoBulk d + 1
  | .map entries => uptoBulkEntries entries + 1
  | .held _ => 1
def uptoBulkAll {H : Type} : List (DataW H) → Nat
  | [] => 0
  | d :: r => uptoBulk d + uptoBulkAll r
def uptoBulkEntries {H : Type} : List (Lit × DataW H) → Nat
  | [] => 0
  | x :: r => uptoBulkEntry x + uptoBulkEntries r
def uptoBulkEntry {H : Type} : Lit × DataW H → Nat
  | (.string bytes, d) => bytes.length + uptoBulk d + 1
  | (_, d) => uptoBulk d + 1
 end
def uptoSmall : (H : Type) → List (DataW H) → Bool := fun _ ds => decide (uptoBulkAll ds ≤ 1048576)
def OpenSpec.upto (s : _root_.Go.ChangeSpec) : _root_.Go.OpenSpec := { _root_.Go.OpenSpec.ofChange s with cond := some uptoSmall }

/-- 'ringdovekeep.MachinePlain', WHERE WHAT IT READS IS OF BULK AT MOST 1048576: true; the input reads as it did. -/
def machinePlainUptoRow : OpenClaim := { program := "ytcegjehoejgofaagreat", sum := "c37378c63161ed791e827e60f576c04bf75132c1fae8f3bef4118611eaa7c074", func := "ringdove/ringdovekeep.MachinePlain", spec := "machinePlain", unfollowed := true, recurses := true, plainKeys := false, apart := false, narrowed := true }
def MachinePlainUptoSaid : Prop := machinePlainUptoRow.holds Tryz.pinned (OpenSpec.upto machinePlainSpec)

/-- 'ringdovekeep.MachineOrder', WHERE WHAT IT READS IS OF BULK AT MOST 1048576: true; the input reads as it did. -/
def machineOrderUptoRow : OpenClaim := { program := "ytcegjehoejgofaagreat", sum := "c37378c63161ed791e827e60f576c04bf75132c1fae8f3bef4118611eaa7c074", func := "ringdove/ringdovekeep.MachineOrder", spec := "machineOrder", unfollowed := true, recurses := true, plainKeys := false, apart := false, narrowed := true }
def MachineOrderUptoSaid : Prop := machineOrderUptoRow.holds Tryz.pinned (OpenSpec.upto machineOrderSpec)

/-- 'ringdovekeep.MachineExplains', WHERE WHAT IT READS IS OF BULK AT MOST 1048576: true; the input reads as it did. -/
def machineExplainsUptoRow : OpenClaim := { program := "ytcegjehoejgofaagreat", sum := "c37378c63161ed791e827e60f576c04bf75132c1fae8f3bef4118611eaa7c074", func := "ringdove/ringdovekeep.MachineExplains", spec := "machineExplains", unfollowed := true, recurses := true, plainKeys := false, apart := false, narrowed := true }
def MachineExplainsUptoSaid : Prop := machineExplainsUptoRow.holds Tryz.pinned (OpenSpec.upto machineExplainsSpec)

end Rows
end Go.Proofs.YtcegjehoejgofaaGreat
