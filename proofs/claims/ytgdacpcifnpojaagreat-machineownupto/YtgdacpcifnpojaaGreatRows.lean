/-
  No cell of these rows narrows 'for every input' (looked for: loops, veiled, ifaces, maps, wideKeys, modest, calm, conditions, laid).
  DERIVED. THE GIVEN ROWS OF THIS SEAT. 5 by the template 'for every input the law returns true; each argument reads behind the call as it read before'; 0 by the template 'total and deterministic' (their statements: YtgdacpcifnpojaaGreatTotals.lean).
  GIVEN WITH THE SEED: the statements are not yours to turn. If you find one false, say at which input.
  Laid BY PROGRAM, IN A SANDBOX (cutbox-rows.mjs): the forced cells as the released guide's own fill.sh prints them over the translation d4be3e2a969cfbc0… (all of the seat's roots in one cut). By AI agents, Wed Nov 11 2026. No macro, syntax, notation, axiom, sorry.
-/
import Derived.Test.YtgdacpcifnpojaaGreatChecked
import GoSem.Claim
import GoSem.ClaimJoined
import GoSem.ClaimMapViews
import Derived.JoinedTies
import Derived.KernelRfl
namespace Go.Proofs.YtgdacpcifnpojaaGreat
/- THE CELL 'sum', in the pinned program and in every row, IS THE sha256 OF THE DUMP (.gsa) THAT YtgdacpcifnpojaaGreatProg.lean LOADS. Nothing in Lean hashes anything: it is a label: what it is worth is what the hold of that sum in a sandbox is worth. -/
noncomputable def Tryz.pinned : Pinned := { name := "ytgdacpcifnpojaagreat", sum := "d4be3e2a969cfbc0b832e8c12e8eb89ee77e02dcc405d54dce7a916c10474462", checked := Tryz.checked }
namespace Rows
def none {H : Type} : Left H := { results := [], args := [] }

/-- 'ringdovekeep.MachineRight': WHATEVER THE INPUT: true; the input reads as it did. -/
def machineRightSpec : ChangeSpec := { name := "machineRight", fn := fun _ => fun
  | [d] => { results := [.lit (.bool true)], args := [d] }
  | _ => none }
def machineRightRow : OpenClaim := { program := "ytgdacpcifnpojaagreat", sum := "d4be3e2a969cfbc0b832e8c12e8eb89ee77e02dcc405d54dce7a916c10474462", func := "ringdove/ringdovekeep.MachineRight", spec := "machineRight", unfollowed := true, recurses := true, apart := false }
def MachineRightSaid : Prop := machineRightRow.holds Tryz.pinned (OpenSpec.ofChange machineRightSpec)

/-- ITS FALSE NEIGHBOUR: 'it returns false'. Refute it at one input. -/
def machineRightWrong : ChangeSpec := { name := "machineRight", fn := fun _ => fun
  | [d] => { results := [.lit (.bool false)], args := [d] }
  | _ => none }
def MachineRightWrongFalsely : Prop := machineRightRow.holds Tryz.pinned (OpenSpec.ofChange machineRightWrong)

/-- 'ringdovekeep.MachineEnds': WHATEVER THE INPUT: true; the input reads as it did. -/
def machineEndsSpec : ChangeSpec := { name := "machineEnds", fn := fun _ => fun
  | [d1, d2, d3, d4] => { results := [.lit (.bool true)], args := [d1, d2, d3, d4] }
  | _ => none }
def machineEndsRow : OpenClaim := { program := "ytgdacpcifnpojaagreat", sum := "d4be3e2a969cfbc0b832e8c12e8eb89ee77e02dcc405d54dce7a916c10474462", func := "ringdove/ringdovekeep.MachineEnds", spec := "machineEnds", unfollowed := true, recurses := true, apart := false }
def MachineEndsSaid : Prop := machineEndsRow.holds Tryz.pinned (OpenSpec.ofChange machineEndsSpec)

/-- ITS FALSE NEIGHBOUR: 'it returns false'. Refute it at one input. -/
def machineEndsWrong : ChangeSpec := { name := "machineEnds", fn := fun _ => fun
  | [d1, d2, d3, d4] => { results := [.lit (.bool false)], args := [d1, d2, d3, d4] }
  | _ => none }
def MachineEndsWrongFalsely : Prop := machineEndsRow.holds Tryz.pinned (OpenSpec.ofChange machineEndsWrong)

/-- 'ringdovekeep.MachineCuts': WHATEVER THE INPUT: true; the input reads as it did. -/
def machineCutsSpec : ChangeSpec := { name := "machineCuts", fn := fun _ => fun
  | [d1, d2, d3] => { results := [.lit (.bool true)], args := [d1, d2, d3] }
  | _ => none }
def machineCutsRow : OpenClaim := { program := "ytgdacpcifnpojaagreat", sum := "d4be3e2a969cfbc0b832e8c12e8eb89ee77e02dcc405d54dce7a916c10474462", func := "ringdove/ringdovekeep.MachineCuts", spec := "machineCuts", unfollowed := true, recurses := true, apart := false }
def MachineCutsSaid : Prop := machineCutsRow.holds Tryz.pinned (OpenSpec.ofChange machineCutsSpec)

/-- ITS FALSE NEIGHBOUR: 'it returns false'. Refute it at one input. -/
def machineCutsWrong : ChangeSpec := { name := "machineCuts", fn := fun _ => fun
  | [d1, d2, d3] => { results := [.lit (.bool false)], args := [d1, d2, d3] }
  | _ => none }
def MachineCutsWrongFalsely : Prop := machineCutsRow.holds Tryz.pinned (OpenSpec.ofChange machineCutsWrong)

/-- 'ringdovekeep.MachineOnce': WHATEVER THE INPUT: true; the input reads as it did. -/
def machineOnceSpec : ChangeSpec := { name := "machineOnce", fn := fun _ => fun
  | [d] => { results := [.lit (.bool true)], args := [d] }
  | _ => none }
def machineOnceRow : OpenClaim := { program := "ytgdacpcifnpojaagreat", sum := "d4be3e2a969cfbc0b832e8c12e8eb89ee77e02dcc405d54dce7a916c10474462", func := "ringdove/ringdovekeep.MachineOnce", spec := "machineOnce", unfollowed := true, recurses := true, apart := false }
def MachineOnceSaid : Prop := machineOnceRow.holds Tryz.pinned (OpenSpec.ofChange machineOnceSpec)

/-- ITS FALSE NEIGHBOUR: 'it returns false'. Refute it at one input. -/
def machineOnceWrong : ChangeSpec := { name := "machineOnce", fn := fun _ => fun
  | [d] => { results := [.lit (.bool false)], args := [d] }
  | _ => none }
def MachineOnceWrongFalsely : Prop := machineOnceRow.holds Tryz.pinned (OpenSpec.ofChange machineOnceWrong)

/-- 'ringdovekeep.MachineOwn': WHATEVER THE INPUT: true; the input reads as it did. -/
def machineOwnSpec : ChangeSpec := { name := "machineOwn", fn := fun _ => fun
  | [d1, d2] => { results := [.lit (.bool true)], args := [d1, d2] }
  | _ => none }
def machineOwnRow : OpenClaim := { program := "ytgdacpcifnpojaagreat", sum := "d4be3e2a969cfbc0b832e8c12e8eb89ee77e02dcc405d54dce7a916c10474462", func := "ringdove/ringdovekeep.MachineOwn", spec := "machineOwn", unfollowed := true, recurses := true, apart := false }
def MachineOwnSaid : Prop := machineOwnRow.holds Tryz.pinned (OpenSpec.ofChange machineOwnSpec)

/-- ITS FALSE NEIGHBOUR: 'it returns false'. Refute it at one input. -/
def machineOwnWrong : ChangeSpec := { name := "machineOwn", fn := fun _ => fun
  | [d1, d2] => { results := [.lit (.bool false)], args := [d1, d2] }
  | _ => none }
def MachineOwnWrongFalsely : Prop := machineOwnRow.holds Tryz.pinned (OpenSpec.ofChange machineOwnWrong)

/- THE SECOND FORM. 'bulk': how many values and letters a reading holds, each counted each time it is reached (what is shared counts as often as it is met; a slice's spare places count too). A statement '..UptoSaid' is the law's where the arguments, and the package variables that the reading takes, are together of bulk at most 1048576: NARROWER than '..Said'. Prove '..Said' where nothing that the law and all that it calls make is longer than what came in: it says more and counts as full. Else prove '..UptoSaid'. A law counts once. -/
mutual
def uptoBulk {H : Type} : DataW H → Nat
  | .lit (.string bytes) => bytes.length + 1
  | .lit _ => 1
  | .nil => 1
  | .ptr d => uptoBulk d + 1
  | .slice elems spare => uptoBulkAll elems + uptoBulkAll spare + 1
  | .agg parts => uptoBulkAll parts + 1
  | .iface _ d => uptoBulk d + 1
  | .map entries => uptoBulkEntries entries + 1
  | .held _ => 1
def uptoBulkAll {H : Type} : List (DataW H) → Nat
  | [] => 0
  | d :: r => uptoBulk d + uptoBulkAll r
def uptoBulkEntries {H : Type} : List (Lit × DataW H) → Nat
  | [] => 0
  | x :: r => uptoBulkEntry x + uptoBulkEntries r
def uptoBulkEntry {H : Type} : Lit × DataW H → Nat
  | (.string bytes, d) => bytes.length + uptoBulk d + 1
  | (_, d) => uptoBulk d + 1
 end
def uptoSmall : (H : Type) → List (DataW H) → Bool := fun _ ds => decide (uptoBulkAll ds ≤ 1048576)
def OpenSpec.upto (s : _root_.Go.ChangeSpec) : _root_.Go.OpenSpec := { _root_.Go.OpenSpec.ofChange s with cond := some uptoSmall }

/-- 'ringdovekeep.MachineRight', WHERE WHAT IT READS IS OF BULK AT MOST 1048576: true; the input reads as it did. -/
def machineRightUptoRow : OpenClaim := { program := "ytgdacpcifnpojaagreat", sum := "d4be3e2a969cfbc0b832e8c12e8eb89ee77e02dcc405d54dce7a916c10474462", func := "ringdove/ringdovekeep.MachineRight", spec := "machineRight", unfollowed := true, recurses := true, apart := false, narrowed := true }
def MachineRightUptoSaid : Prop := machineRightUptoRow.holds Tryz.pinned (OpenSpec.upto machineRightSpec)

/-- 'ringdovekeep.MachineEnds', WHERE WHAT IT READS IS OF BULK AT MOST 1048576: true; the input reads as it did. -/
def machineEndsUptoRow : OpenClaim := { program := "ytgdacpcifnpojaagreat", sum := "d4be3e2a969cfbc0b832e8c12e8eb89ee77e02dcc405d54dce7a916c10474462", func := "ringdove/ringdovekeep.MachineEnds", spec := "machineEnds", unfollowed := true, recurses := true, apart := false, narrowed := true }
def MachineEndsUptoSaid : Prop := machineEndsUptoRow.holds Tryz.pinned (OpenSpec.upto machineEndsSpec)

/-- 'ringdovekeep.MachineCuts', WHERE WHAT IT READS IS OF BULK AT MOST 1048576: true; the input reads as it did. -/
def machineCutsUptoRow : OpenClaim := { program := "ytgdacpcifnpojaagreat", sum := "d4be3e2a969cfbc0b832e8c12e8eb89ee77e02dcc405d54dce7a916c10474462", func := "ringdove/ringdovekeep.MachineCuts", spec := "machineCuts", unfollowed := true, recurses := true, apart := false, narrowed := true }
def MachineCutsUptoSaid : Prop := machineCutsUptoRow.holds Tryz.pinned (OpenSpec.upto machineCutsSpec)

/-- 'ringdovekeep.MachineOnce', WHERE WHAT IT READS IS OF BULK AT MOST 1048576: true; the input reads as it did. -/
def machineOnceUptoRow : OpenClaim := { program := "ytgdacpcifnpojaagreat", sum := "d4be3e2a969cfbc0b832e8c12e8eb89ee77e02dcc405d54dce7a916c10474462", func := "ringdove/ringdovekeep.MachineOnce", spec := "machineOnce", unfollowed := true, recurses := true, apart := false, narrowed := true }
def MachineOnceUptoSaid : Prop := machineOnceUptoRow.holds Tryz.pinned (OpenSpec.upto machineOnceSpec)

/-- 'ringdovekeep.MachineOwn', WHERE WHAT IT READS IS OF BULK AT MOST 1048576: true; the input reads as it did. -/
def machineOwnUptoRow : OpenClaim := { program := "ytgdacpcifnpojaagreat", sum := "d4be3e2a969cfbc0b832e8c12e8eb89ee77e02dcc405d54dce7a916c10474462", func := "ringdove/ringdovekeep.MachineOwn", spec := "machineOwn", unfollowed := true, recurses := true, apart := false, narrowed := true }
def MachineOwnUptoSaid : Prop := machineOwnUptoRow.holds Tryz.pinned (OpenSpec.upto machineOwnSpec)

end Rows
end Go.Proofs.YtgdacpcifnpojaaGreat
