/-
  No cell of these rows narrows 'for every input' (looked for: loops, veiled, ifaces, maps, wideKeys, modest, calm, conditions, laid).
  DERIVED. THE GIVEN ROWS OF THIS SEAT. 5 by the template 'for every input the law returns true; each argument reads behind the call as it read before'; 0 by the template 'total and deterministic' (their statements: YtahoadfofleacaaTotals.lean).
  GIVEN WITH THE SEED: the statements are not yours to turn. If you find one false, say at which input.
  Laid BY PROGRAM, IN A SANDBOX (cutbox-rows.mjs): the forced cells as the released guide's own fill.sh prints them over the translation 7ce34207ec3e4319… (all of the seat's roots in one cut). By AI agents, Wed Nov 11 2026. No macro, syntax, notation, axiom, sorry.
-/
import Derived.Test.YtahoadfofleacaaChecked
import GoSem.Claim
import GoSem.ClaimJoined
import GoSem.ClaimMapViews
import Derived.JoinedTies
import Derived.KernelRfl
namespace Go.Proofs.Ytahoadfofleacaa
/- THE CELL 'sum', in the pinned program and in every row, IS THE sha256 OF THE DUMP (.gsa) THAT YtahoadfofleacaaProg.lean LOADS. Nothing in Lean hashes anything: it is a label: what it is worth is what the hold of that sum in a sandbox is worth. -/
noncomputable def Try.pinned : Pinned := { name := "ytahoadfofleacaa", sum := "7ce34207ec3e43193769d2a8b0f9b3075c62c282cb57fc13992adf3a8fe9cbc0", checked := Try.checked }
namespace Rows
def none {H : Type} : Left H := { results := [], args := [] }

/-- 'ringdovekeep.DeedPlain': WHATEVER THE INPUT: true; the input reads as it did. -/
def deedPlainSpec : ChangeSpec := { name := "deedPlain", fn := fun _ => fun
  | [d1, d2, d3] => { results := [.lit (.bool true)], args := [d1, d2, d3] }
  | _ => none }
def deedPlainRow : OpenClaim := { program := "ytahoadfofleacaa", sum := "7ce34207ec3e43193769d2a8b0f9b3075c62c282cb57fc13992adf3a8fe9cbc0", func := "ringdove/ringdovekeep.DeedPlain", spec := "deedPlain", unfollowed := true, recurses := true, apart := false }
def DeedPlainSaid : Prop := deedPlainRow.holds Try.pinned (OpenSpec.ofChange deedPlainSpec)

/-- ITS FALSE NEIGHBOUR: 'it returns false'. Refute it at one input. -/
def deedPlainWrong : ChangeSpec := { name := "deedPlain", fn := fun _ => fun
  | [d1, d2, d3] => { results := [.lit (.bool false)], args := [d1, d2, d3] }
  | _ => none }
def DeedPlainWrongFalsely : Prop := deedPlainRow.holds Try.pinned (OpenSpec.ofChange deedPlainWrong)

/-- 'ringdovekeep.DeedRight': WHATEVER THE INPUT: true; the input reads as it did. -/
def deedRightSpec : ChangeSpec := { name := "deedRight", fn := fun _ => fun
  | [d1, d2, d3] => { results := [.lit (.bool true)], args := [d1, d2, d3] }
  | _ => none }
def deedRightRow : OpenClaim := { program := "ytahoadfofleacaa", sum := "7ce34207ec3e43193769d2a8b0f9b3075c62c282cb57fc13992adf3a8fe9cbc0", func := "ringdove/ringdovekeep.DeedRight", spec := "deedRight", unfollowed := true, recurses := true, apart := false }
def DeedRightSaid : Prop := deedRightRow.holds Try.pinned (OpenSpec.ofChange deedRightSpec)

/-- ITS FALSE NEIGHBOUR: 'it returns false'. Refute it at one input. -/
def deedRightWrong : ChangeSpec := { name := "deedRight", fn := fun _ => fun
  | [d1, d2, d3] => { results := [.lit (.bool false)], args := [d1, d2, d3] }
  | _ => none }
def DeedRightWrongFalsely : Prop := deedRightRow.holds Try.pinned (OpenSpec.ofChange deedRightWrong)

/-- 'ringdovekeep.DeedHits': WHATEVER THE INPUT: true; the input reads as it did. -/
def deedHitsSpec : ChangeSpec := { name := "deedHits", fn := fun _ => fun
  | [d1, d2, d3] => { results := [.lit (.bool true)], args := [d1, d2, d3] }
  | _ => none }
def deedHitsRow : OpenClaim := { program := "ytahoadfofleacaa", sum := "7ce34207ec3e43193769d2a8b0f9b3075c62c282cb57fc13992adf3a8fe9cbc0", func := "ringdove/ringdovekeep.DeedHits", spec := "deedHits", unfollowed := true, recurses := true, apart := false }
def DeedHitsSaid : Prop := deedHitsRow.holds Try.pinned (OpenSpec.ofChange deedHitsSpec)

/-- ITS FALSE NEIGHBOUR: 'it returns false'. Refute it at one input. -/
def deedHitsWrong : ChangeSpec := { name := "deedHits", fn := fun _ => fun
  | [d1, d2, d3] => { results := [.lit (.bool false)], args := [d1, d2, d3] }
  | _ => none }
def DeedHitsWrongFalsely : Prop := deedHitsRow.holds Try.pinned (OpenSpec.ofChange deedHitsWrong)

/-- 'ringdovekeep.DeedPlaysPlain': WHATEVER THE INPUT: true; the input reads as it did. -/
def deedPlaysPlainSpec : ChangeSpec := { name := "deedPlaysPlain", fn := fun _ => fun
  | [d1, d2] => { results := [.lit (.bool true)], args := [d1, d2] }
  | _ => none }
def deedPlaysPlainRow : OpenClaim := { program := "ytahoadfofleacaa", sum := "7ce34207ec3e43193769d2a8b0f9b3075c62c282cb57fc13992adf3a8fe9cbc0", func := "ringdove/ringdovekeep.DeedPlaysPlain", spec := "deedPlaysPlain", unfollowed := true, recurses := true, apart := false }
def DeedPlaysPlainSaid : Prop := deedPlaysPlainRow.holds Try.pinned (OpenSpec.ofChange deedPlaysPlainSpec)

/-- ITS FALSE NEIGHBOUR: 'it returns false'. Refute it at one input. -/
def deedPlaysPlainWrong : ChangeSpec := { name := "deedPlaysPlain", fn := fun _ => fun
  | [d1, d2] => { results := [.lit (.bool false)], args := [d1, d2] }
  | _ => none }
def DeedPlaysPlainWrongFalsely : Prop := deedPlaysPlainRow.holds Try.pinned (OpenSpec.ofChange deedPlaysPlainWrong)

/-- 'ringdovekeep.WorldOwn': WHATEVER THE INPUT: true; the input reads as it did. -/
def worldOwnSpec : ChangeSpec := { name := "worldOwn", fn := fun _ => fun
  | [d1, d2, d3, d4] => { results := [.lit (.bool true)], args := [d1, d2, d3, d4] }
  | _ => none }
def worldOwnRow : OpenClaim := { program := "ytahoadfofleacaa", sum := "7ce34207ec3e43193769d2a8b0f9b3075c62c282cb57fc13992adf3a8fe9cbc0", func := "ringdove/ringdovekeep.WorldOwn", spec := "worldOwn", unfollowed := true, recurses := true, apart := false }
def WorldOwnSaid : Prop := worldOwnRow.holds Try.pinned (OpenSpec.ofChange worldOwnSpec)

/-- ITS FALSE NEIGHBOUR: 'it returns false'. Refute it at one input. -/
def worldOwnWrong : ChangeSpec := { name := "worldOwn", fn := fun _ => fun
  | [d1, d2, d3, d4] => { results := [.lit (.bool false)], args := [d1, d2, d3, d4] }
  | _ => none }
def WorldOwnWrongFalsely : Prop := worldOwnRow.holds Try.pinned (OpenSpec.ofChange worldOwnWrong)

/- THE SECOND FORM. 'bulk': how many values and letters a reading holds, each counted each time it is reached (what is shared counts as often as it is met; a slice's spare places count too). A statement '..UptoSaid' is the law's where the arguments, and the package variables that the reading takes, are together of bulk at most 1048576: NARROWER than '..Said'. Prove '..Said' where nothing that the law and all that it calls make is longer than what came in: it says more and counts as full. Else prove '..UptoSaid'. A law counts once. -/
mutual
def uptoBulk {H : Type} : DataW H → Nat
  | .lit (.string bytes) => bytes.length + 1
  | .lit _ => 1
  | .nil => 1
  | .ptr d => uptoBulk d + 1
  | .slice elems spare => uptoBulkAll elems + uptoBulkAll spare + 1
  | .agg parts => uptoBulkAll parts + 1
  | .iface _ d => uptoBulk d + 1
  | .map entries => uptoBulkEntries entries + 1
  | .held _ => 1
def uptoBulkAll {H : Type} : List (DataW H) → Nat
  | [] => 0
  | d :: r => uptoBulk d + uptoBulkAll r
def uptoBulkEntries {H : Type} : List (Lit × DataW H) → Nat
  | [] => 0
  | x :: r => uptoBulkEntry x + uptoBulkEntries r
def uptoBulkEntry {H : Type} : Lit × DataW H → Nat
  | (.string bytes, d) => bytes.length + uptoBulk d + 1
  | (_, d) => uptoBulk d + 1
 end
def uptoSmall : (H : Type) → List (DataW H) → Bool := fun _ ds => decide (uptoBulkAll ds ≤ 1048576)
def OpenSpec.upto (s : _root_.Go.ChangeSpec) : _root_.Go.OpenSpec := { _root_.Go.OpenSpec.ofChange s with cond := some uptoSmall }

/-- 'ringdovekeep.DeedPlain', WHERE WHAT IT READS IS OF BULK AT MOST 1048576: true; the input reads as it did. -/
def deedPlainUptoRow : OpenClaim := { program := "ytahoadfofleacaa", sum := "7ce34207ec3e43193769d2a8b0f9b3075c62c282cb57fc13992adf3a8fe9cbc0", func := "ringdove/ringdovekeep.DeedPlain", spec := "deedPlain", unfollowed := true, recurses := true, apart := false, narrowed := true }
def DeedPlainUptoSaid : Prop := deedPlainUptoRow.holds Try.pinned (OpenSpec.upto deedPlainSpec)

/-- 'ringdovekeep.DeedRight', WHERE WHAT IT READS IS OF BULK AT MOST 1048576: true; the input reads as it did. -/
def deedRightUptoRow : OpenClaim := { program := "ytahoadfofleacaa", sum := "7ce34207ec3e43193769d2a8b0f9b3075c62c282cb57fc13992adf3a8fe9cbc0", func := "ringdove/ringdovekeep.DeedRight", spec := "deedRight", unfollowed := true, recurses := true, apart := false, narrowed := true }
def DeedRightUptoSaid : Prop := deedRightUptoRow.holds Try.pinned (OpenSpec.upto deedRightSpec)

/-- 'ringdovekeep.DeedHits', WHERE WHAT IT READS IS OF BULK AT MOST 1048576: true; the input reads as it did. -/
def deedHitsUptoRow : OpenClaim := { program := "ytahoadfofleacaa", sum := "7ce34207ec3e43193769d2a8b0f9b3075c62c282cb57fc13992adf3a8fe9cbc0", func := "ringdove/ringdovekeep.DeedHits", spec := "deedHits", unfollowed := true, recurses := true, apart := false, narrowed := true }
def DeedHitsUptoSaid : Prop := deedHitsUptoRow.holds Try.pinned (OpenSpec.upto deedHitsSpec)

/-- 'ringdovekeep.DeedPlaysPlain', WHERE WHAT IT READS IS OF BULK AT MOST 1048576: true; the input reads as it did. -/
def deedPlaysPlainUptoRow : OpenClaim := { program := "ytahoadfofleacaa", sum := "7ce34207ec3e43193769d2a8b0f9b3075c62c282cb57fc13992adf3a8fe9cbc0", func := "ringdove/ringdovekeep.DeedPlaysPlain", spec := "deedPlaysPlain", unfollowed := true, recurses := true, apart := false, narrowed := true }
def DeedPlaysPlainUptoSaid : Prop := deedPlaysPlainUptoRow.holds Try.pinned (OpenSpec.upto deedPlaysPlainSpec)

/-- 'ringdovekeep.WorldOwn', WHERE WHAT IT READS IS OF BULK AT MOST 1048576: true; the input reads as it did. -/
def worldOwnUptoRow : OpenClaim := { program := "ytahoadfofleacaa", sum := "7ce34207ec3e43193769d2a8b0f9b3075c62c282cb57fc13992adf3a8fe9cbc0", func := "ringdove/ringdovekeep.WorldOwn", spec := "worldOwn", unfollowed := true, recurses := true, apart := false, narrowed := true }
def WorldOwnUptoSaid : Prop := worldOwnUptoRow.holds Try.pinned (OpenSpec.upto worldOwnSpec)

end Rows
end Go.Proofs.Ytahoadfofleacaa
