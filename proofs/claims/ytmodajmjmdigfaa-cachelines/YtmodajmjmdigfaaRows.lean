/-
  No cell of these rows narrows 'for every input' (looked for: loops, veiled, ifaces, maps, wideKeys, modest, calm, conditions, laid).
  DERIVED. THE GIVEN ROWS OF THIS SEAT. 5 by the template 'for every input the law returns true; each argument reads behind the call as it read before'; 0 by the template 'total and deterministic' (their statements: YtmodajmjmdigfaaTotals.lean).
  GIVEN WITH THE SEED: the statements are not yours to turn. If you find one false, say at which input.
  Laid BY PROGRAM, IN A SANDBOX (cutbox-rows.mjs): the forced cells as the released guide's own fill.sh prints them over the translation 9ebcf360290c3886… (all of the seat's roots in one cut). By AI agents, Wed Nov 11 2026. No macro, syntax, notation, axiom, sorry.
-/
import Derived.Test.YtmodajmjmdigfaaChecked
import GoSem.Claim
import GoSem.ClaimJoined
import GoSem.ClaimMapViews
import Derived.JoinedTies
import Derived.KernelRfl
namespace Go.Proofs.Ytmodajmjmdigfaa
/- THE CELL 'sum', in the pinned program and in every row, IS THE sha256 OF THE DUMP (.gsa) THAT YtmodajmjmdigfaaProg.lean LOADS. Nothing in Lean hashes anything: it is a label: what it is worth is what the hold of that sum in a sandbox is worth. -/
noncomputable def Try.pinned : Pinned := { name := "ytmodajmjmdigfaa", sum := "9ebcf360290c388610cf0e6bc062245c88482534be387ccb8710e7ee0d669cce", checked := Try.checked }
namespace Rows
def none {H : Type} : Left H := { results := [], args := [] }

/-- 'ringdovekeep.RowTurns': WHATEVER THE INPUT: true; the input reads as it did. -/
def rowTurnsSpec : ChangeSpec := { name := "rowTurns", fn := fun _ => fun
  | [d1, d2, d3, d4] => { results := [.lit (.bool true)], args := [d1, d2, d3, d4] }
  | _ => none }
def rowTurnsRow : OpenClaim := { program := "ytmodajmjmdigfaa", sum := "9ebcf360290c388610cf0e6bc062245c88482534be387ccb8710e7ee0d669cce", func := "ringdove/ringdovekeep.RowTurns", spec := "rowTurns", unfollowed := true, recurses := true, apart := false }
def RowTurnsSaid : Prop := rowTurnsRow.holds Try.pinned (OpenSpec.ofChange rowTurnsSpec)

/-- ITS FALSE NEIGHBOUR: 'it returns false'. Refute it at one input. -/
def rowTurnsWrong : ChangeSpec := { name := "rowTurns", fn := fun _ => fun
  | [d1, d2, d3, d4] => { results := [.lit (.bool false)], args := [d1, d2, d3, d4] }
  | _ => none }
def RowTurnsWrongFalsely : Prop := rowTurnsRow.holds Try.pinned (OpenSpec.ofChange rowTurnsWrong)

/-- 'ringdovelaw.CacheTells': WHATEVER THE INPUT: true; the input reads as it did. -/
def cacheTellsSpec : ChangeSpec := { name := "cacheTells", fn := fun _ => fun
  | [d1, d2, d3, d4] => { results := [.lit (.bool true)], args := [d1, d2, d3, d4] }
  | _ => none }
def cacheTellsRow : OpenClaim := { program := "ytmodajmjmdigfaa", sum := "9ebcf360290c388610cf0e6bc062245c88482534be387ccb8710e7ee0d669cce", func := "ringdove/ringdovelaw.CacheTells", spec := "cacheTells", apart := false }
def CacheTellsSaid : Prop := cacheTellsRow.holds Try.pinned (OpenSpec.ofChange cacheTellsSpec)

/-- ITS FALSE NEIGHBOUR: 'it returns false'. Refute it at one input. -/
def cacheTellsWrong : ChangeSpec := { name := "cacheTells", fn := fun _ => fun
  | [d1, d2, d3, d4] => { results := [.lit (.bool false)], args := [d1, d2, d3, d4] }
  | _ => none }
def CacheTellsWrongFalsely : Prop := cacheTellsRow.holds Try.pinned (OpenSpec.ofChange cacheTellsWrong)

/-- 'ringdovekeep.CacheTurns': WHATEVER THE INPUT: true; the input reads as it did. -/
def cacheTurnsSpec : ChangeSpec := { name := "cacheTurns", fn := fun _ => fun
  | [d1, d2, d3, d4] => { results := [.lit (.bool true)], args := [d1, d2, d3, d4] }
  | _ => none }
def cacheTurnsRow : OpenClaim := { program := "ytmodajmjmdigfaa", sum := "9ebcf360290c388610cf0e6bc062245c88482534be387ccb8710e7ee0d669cce", func := "ringdove/ringdovekeep.CacheTurns", spec := "cacheTurns", apart := false }
def CacheTurnsSaid : Prop := cacheTurnsRow.holds Try.pinned (OpenSpec.ofChange cacheTurnsSpec)

/-- ITS FALSE NEIGHBOUR: 'it returns false'. Refute it at one input. -/
def cacheTurnsWrong : ChangeSpec := { name := "cacheTurns", fn := fun _ => fun
  | [d1, d2, d3, d4] => { results := [.lit (.bool false)], args := [d1, d2, d3, d4] }
  | _ => none }
def CacheTurnsWrongFalsely : Prop := cacheTurnsRow.holds Try.pinned (OpenSpec.ofChange cacheTurnsWrong)

/-- 'ringdovekeep.CacheLines': WHATEVER THE INPUT: true; the input reads as it did. -/
def cacheLinesSpec : ChangeSpec := { name := "cacheLines", fn := fun _ => fun
  | [d1, d2] => { results := [.lit (.bool true)], args := [d1, d2] }
  | _ => none }
def cacheLinesRow : OpenClaim := { program := "ytmodajmjmdigfaa", sum := "9ebcf360290c388610cf0e6bc062245c88482534be387ccb8710e7ee0d669cce", func := "ringdove/ringdovekeep.CacheLines", spec := "cacheLines", unfollowed := true, recurses := true, apart := false }
def CacheLinesSaid : Prop := cacheLinesRow.holds Try.pinned (OpenSpec.ofChange cacheLinesSpec)

/-- ITS FALSE NEIGHBOUR: 'it returns false'. Refute it at one input. -/
def cacheLinesWrong : ChangeSpec := { name := "cacheLines", fn := fun _ => fun
  | [d1, d2] => { results := [.lit (.bool false)], args := [d1, d2] }
  | _ => none }
def CacheLinesWrongFalsely : Prop := cacheLinesRow.holds Try.pinned (OpenSpec.ofChange cacheLinesWrong)

/-- 'ringdovekeep.AgreeReads': WHATEVER THE INPUT: true; the input reads as it did. -/
def agreeReadsSpec : ChangeSpec := { name := "agreeReads", fn := fun _ => fun
  | [d1, d2, d3] => { results := [.lit (.bool true)], args := [d1, d2, d3] }
  | _ => none }
def agreeReadsRow : OpenClaim := { program := "ytmodajmjmdigfaa", sum := "9ebcf360290c388610cf0e6bc062245c88482534be387ccb8710e7ee0d669cce", func := "ringdove/ringdovekeep.AgreeReads", spec := "agreeReads", apart := false }
def AgreeReadsSaid : Prop := agreeReadsRow.holds Try.pinned (OpenSpec.ofChange agreeReadsSpec)

/-- ITS FALSE NEIGHBOUR: 'it returns false'. Refute it at one input. -/
def agreeReadsWrong : ChangeSpec := { name := "agreeReads", fn := fun _ => fun
  | [d1, d2, d3] => { results := [.lit (.bool false)], args := [d1, d2, d3] }
  | _ => none }
def AgreeReadsWrongFalsely : Prop := agreeReadsRow.holds Try.pinned (OpenSpec.ofChange agreeReadsWrong)

/- THE SECOND FORM. 'bulk': how many values and letters a reading holds, each counted each time it is reached (what is shared counts as often as it is met; a slice's spare places count too). A statement '..UptoSaid' is the law's where the arguments, and the package variables that the reading takes, are together of bulk at most 1048576: NARROWER than '..Said'. Prove '..Said' where nothing that the law and all that it calls make is longer than what came in: it says more and counts as full. Else prove '..UptoSaid'. A law counts once. -/
mutual
def uptoBulk {H : Type} : DataW H → Nat
  | .lit (.string bytes) => bytes.length + 1
  | .lit _ => 1
  | .nil => 1
  | .ptr d => uptoBulk d + 1
  | .slice elems spare => uptoBulkAll elems + uptoBulkAll spare + 1
  | .agg parts => uptoBulkAll parts + 1
  | .iface _ d => uptoBulk d + 1
  | .map entries => uptoBulkEntries entries + 1
  | .held _ => 1
def uptoBulkAll {H : Type} : List (DataW H) → Nat
  | [] => 0
  | d :: r => uptoBulk d + uptoBulkAll r
def uptoBulkEntries {H : Type} : List (Lit × DataW H) → Nat
  | [] => 0
  | x :: r => uptoBulkEntry x + uptoBulkEntries r
def uptoBulkEntry {H : Type} : Lit × DataW H → Nat
  | (.string bytes, d) => bytes.length + uptoBulk d + 1
  | (_, d) => uptoBulk d + 1
 end
def uptoSmall : (H : Type) → List (DataW H) → Bool := fun _ ds => decide (uptoBulkAll ds ≤ 1048576)
def OpenSpec.upto (s : _root_.Go.ChangeSpec) : _root_.Go.OpenSpec := { _root_.Go.OpenSpec.ofChange s with cond := some uptoSmall }

/-- 'ringdovekeep.RowTurns', WHERE WHAT IT READS IS OF BULK AT MOST 1048576: true; the input reads as it did. -/
def rowTurnsUptoRow : OpenClaim := { program := "ytmodajmjmdigfaa", sum := "9ebcf360290c388610cf0e6bc062245c88482534be387ccb8710e7ee0d669cce", func := "ringdove/ringdovekeep.RowTurns", spec := "rowTurns", unfollowed := true, recurses := true, apart := false, narrowed := true }
def RowTurnsUptoSaid : Prop := rowTurnsUptoRow.holds Try.pinned (OpenSpec.upto rowTurnsSpec)

/-- 'ringdovelaw.CacheTells', WHERE WHAT IT READS IS OF BULK AT MOST 1048576: true; the input reads as it did. -/
def cacheTellsUptoRow : OpenClaim := { program := "ytmodajmjmdigfaa", sum := "9ebcf360290c388610cf0e6bc062245c88482534be387ccb8710e7ee0d669cce", func := "ringdove/ringdovelaw.CacheTells", spec := "cacheTells", apart := false, narrowed := true }
def CacheTellsUptoSaid : Prop := cacheTellsUptoRow.holds Try.pinned (OpenSpec.upto cacheTellsSpec)

/-- 'ringdovekeep.CacheTurns', WHERE WHAT IT READS IS OF BULK AT MOST 1048576: true; the input reads as it did. -/
def cacheTurnsUptoRow : OpenClaim := { program := "ytmodajmjmdigfaa", sum := "9ebcf360290c388610cf0e6bc062245c88482534be387ccb8710e7ee0d669cce", func := "ringdove/ringdovekeep.CacheTurns", spec := "cacheTurns", apart := false, narrowed := true }
def CacheTurnsUptoSaid : Prop := cacheTurnsUptoRow.holds Try.pinned (OpenSpec.upto cacheTurnsSpec)

/-- 'ringdovekeep.CacheLines', WHERE WHAT IT READS IS OF BULK AT MOST 1048576: true; the input reads as it did. -/
def cacheLinesUptoRow : OpenClaim := { program := "ytmodajmjmdigfaa", sum := "9ebcf360290c388610cf0e6bc062245c88482534be387ccb8710e7ee0d669cce", func := "ringdove/ringdovekeep.CacheLines", spec := "cacheLines", unfollowed := true, recurses := true, apart := false, narrowed := true }
def CacheLinesUptoSaid : Prop := cacheLinesUptoRow.holds Try.pinned (OpenSpec.upto cacheLinesSpec)

/-- 'ringdovekeep.AgreeReads', WHERE WHAT IT READS IS OF BULK AT MOST 1048576: true; the input reads as it did. -/
def agreeReadsUptoRow : OpenClaim := { program := "ytmodajmjmdigfaa", sum := "9ebcf360290c388610cf0e6bc062245c88482534be387ccb8710e7ee0d669cce", func := "ringdove/ringdovekeep.AgreeReads", spec := "agreeReads", apart := false, narrowed := true }
def AgreeReadsUptoSaid : Prop := agreeReadsUptoRow.holds Try.pinned (OpenSpec.upto agreeReadsSpec)

end Rows
end Go.Proofs.Ytmodajmjmdigfaa
