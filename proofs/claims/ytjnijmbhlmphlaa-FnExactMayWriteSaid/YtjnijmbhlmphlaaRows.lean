/-
  No cell of these rows narrows 'for every input' (looked for: loops, veiled, ifaces, maps, wideKeys, modest, calm, conditions, laid).
  DERIVED. THE GIVEN ROWS OF THIS SEAT. 5 by the template 'for every input the law returns true; each argument reads behind the call as it read before'; 0 by the template 'total and deterministic' (their statements: YtjnijmbhlmphlaaTotals.lean).
  GIVEN WITH THE SEED: the statements are not yours to turn. If you find one false, say at which input.
  Laid BY PROGRAM, IN A SANDBOX (cutbox-rows.mjs): the forced cells as the released guide's own fill.sh prints them over the translation d3c8a9b351d96112… (all of the seat's roots in one cut). By AI agents, Wed Nov 11 2026. No macro, syntax, notation, axiom, sorry.
-/
import Derived.Test.YtjnijmbhlmphlaaChecked
import GoSem.Claim
import GoSem.ClaimJoined
import GoSem.ClaimMapViews
import Derived.JoinedTies
import Derived.KernelRfl
namespace Go.Proofs.Ytjnijmbhlmphlaa
/- THE CELL 'sum', in the pinned program and in every row, IS THE sha256 OF THE DUMP (.gsa) THAT YtjnijmbhlmphlaaProg.lean LOADS. Nothing in Lean hashes anything: it is a label: what it is worth is what the hold of that sum in a sandbox is worth. -/
noncomputable def Try.pinned : Pinned := { name := "ytjnijmbhlmphlaa", sum := "d3c8a9b351d96112d51678513fab8d647930bba2d9f1f2559d2750f0cfcd4ad0", checked := Try.checked }
namespace Rows
def none {H : Type} : Left H := { results := [], args := [] }

/-- 'laws.FnMustWrite': WHATEVER THE INPUT: true; the input reads as it did. -/
def fnMustWriteSpec : ChangeSpec := { name := "fnMustWrite", fn := fun _ => fun
  | [d] => { results := [.lit (.bool true)], args := [d] }
  | _ => none }
def fnMustWriteRow : OpenClaim := { program := "ytjnijmbhlmphlaa", sum := "d3c8a9b351d96112d51678513fab8d647930bba2d9f1f2559d2750f0cfcd4ad0", func := "loop.example/g00983/laws.FnMustWrite", spec := "fnMustWrite", inPlace := ["maps.clone"], unfollowed := true, recurses := true, apart := false }
def FnMustWriteSaid : Prop := fnMustWriteRow.holds Try.pinned (OpenSpec.ofChange fnMustWriteSpec)

/-- ITS FALSE NEIGHBOUR: 'it returns false'. Refute it at one input. -/
def fnMustWriteWrong : ChangeSpec := { name := "fnMustWrite", fn := fun _ => fun
  | [d] => { results := [.lit (.bool false)], args := [d] }
  | _ => none }
def FnMustWriteWrongFalsely : Prop := fnMustWriteRow.holds Try.pinned (OpenSpec.ofChange fnMustWriteWrong)

/-- 'laws.FnExactMayWrite': WHATEVER THE INPUT: true; the input reads as it did. -/
def fnExactMayWriteSpec : ChangeSpec := { name := "fnExactMayWrite", fn := fun _ => fun
  | [d] => { results := [.lit (.bool true)], args := [d] }
  | _ => none }
def fnExactMayWriteRow : OpenClaim := { program := "ytjnijmbhlmphlaa", sum := "d3c8a9b351d96112d51678513fab8d647930bba2d9f1f2559d2750f0cfcd4ad0", func := "loop.example/g00983/laws.FnExactMayWrite", spec := "fnExactMayWrite", unfollowed := true, recurses := true, apart := false }
def FnExactMayWriteSaid : Prop := fnExactMayWriteRow.holds Try.pinned (OpenSpec.ofChange fnExactMayWriteSpec)

/-- ITS FALSE NEIGHBOUR: 'it returns false'. Refute it at one input. -/
def fnExactMayWriteWrong : ChangeSpec := { name := "fnExactMayWrite", fn := fun _ => fun
  | [d] => { results := [.lit (.bool false)], args := [d] }
  | _ => none }
def FnExactMayWriteWrongFalsely : Prop := fnExactMayWriteRow.holds Try.pinned (OpenSpec.ofChange fnExactMayWriteWrong)

/-- 'laws.FnExactMustWrite': WHATEVER THE INPUT: true; the input reads as it did. -/
def fnExactMustWriteSpec : ChangeSpec := { name := "fnExactMustWrite", fn := fun _ => fun
  | [d] => { results := [.lit (.bool true)], args := [d] }
  | _ => none }
def fnExactMustWriteRow : OpenClaim := { program := "ytjnijmbhlmphlaa", sum := "d3c8a9b351d96112d51678513fab8d647930bba2d9f1f2559d2750f0cfcd4ad0", func := "loop.example/g00983/laws.FnExactMustWrite", spec := "fnExactMustWrite", inPlace := ["maps.clone"], unfollowed := true, recurses := true, apart := false }
def FnExactMustWriteSaid : Prop := fnExactMustWriteRow.holds Try.pinned (OpenSpec.ofChange fnExactMustWriteSpec)

/-- ITS FALSE NEIGHBOUR: 'it returns false'. Refute it at one input. -/
def fnExactMustWriteWrong : ChangeSpec := { name := "fnExactMustWrite", fn := fun _ => fun
  | [d] => { results := [.lit (.bool false)], args := [d] }
  | _ => none }
def FnExactMustWriteWrongFalsely : Prop := fnExactMustWriteRow.holds Try.pinned (OpenSpec.ofChange fnExactMustWriteWrong)

/-- 'laws.FnExactMayReadFirst': WHATEVER THE INPUT: true; the input reads as it did. -/
def fnExactMayReadFirstSpec : ChangeSpec := { name := "fnExactMayReadFirst", fn := fun _ => fun
  | [d] => { results := [.lit (.bool true)], args := [d] }
  | _ => none }
def fnExactMayReadFirstRow : OpenClaim := { program := "ytjnijmbhlmphlaa", sum := "d3c8a9b351d96112d51678513fab8d647930bba2d9f1f2559d2750f0cfcd4ad0", func := "loop.example/g00983/laws.FnExactMayReadFirst", spec := "fnExactMayReadFirst", inPlace := ["maps.clone"], unfollowed := true, recurses := true, apart := false }
def FnExactMayReadFirstSaid : Prop := fnExactMayReadFirstRow.holds Try.pinned (OpenSpec.ofChange fnExactMayReadFirstSpec)

/-- ITS FALSE NEIGHBOUR: 'it returns false'. Refute it at one input. -/
def fnExactMayReadFirstWrong : ChangeSpec := { name := "fnExactMayReadFirst", fn := fun _ => fun
  | [d] => { results := [.lit (.bool false)], args := [d] }
  | _ => none }
def FnExactMayReadFirstWrongFalsely : Prop := fnExactMayReadFirstRow.holds Try.pinned (OpenSpec.ofChange fnExactMayReadFirstWrong)

/-- 'laws.FnExactHasVar': WHATEVER THE INPUT: true; the input reads as it did. -/
def fnExactHasVarSpec : ChangeSpec := { name := "fnExactHasVar", fn := fun _ => fun
  | [d1, d2] => { results := [.lit (.bool true)], args := [d1, d2] }
  | _ => none }
def fnExactHasVarRow : OpenClaim := { program := "ytjnijmbhlmphlaa", sum := "d3c8a9b351d96112d51678513fab8d647930bba2d9f1f2559d2750f0cfcd4ad0", func := "loop.example/g00983/laws.FnExactHasVar", spec := "fnExactHasVar", apart := false }
def FnExactHasVarSaid : Prop := fnExactHasVarRow.holds Try.pinned (OpenSpec.ofChange fnExactHasVarSpec)

/-- ITS FALSE NEIGHBOUR: 'it returns false'. Refute it at one input. -/
def fnExactHasVarWrong : ChangeSpec := { name := "fnExactHasVar", fn := fun _ => fun
  | [d1, d2] => { results := [.lit (.bool false)], args := [d1, d2] }
  | _ => none }
def FnExactHasVarWrongFalsely : Prop := fnExactHasVarRow.holds Try.pinned (OpenSpec.ofChange fnExactHasVarWrong)

/- THE SECOND FORM. 'bulk': how many values and letters a reading holds, each counted each time it is reached (what is shared counts as often as it is met; a slice's spare places count too). A statement '..UptoSaid' is the law's where the arguments, and the package variables that the reading takes, are together of bulk at most 1048576: NARROWER than '..Said'. Prove '..Said' where nothing that the law and all that it calls make is longer than what came in: it says more and counts as full. Else prove '..UptoSaid'. A law counts once. -/
mutual
def uptoBulk {H : Type} : DataW H → Nat
  | .lit (.string bytes) => bytes.length + 1
  | .lit _ => 1
  | .nil => 1
  | .ptr d => uptoBulk d + 1
  | .slice elems spare => uptoBulkAll elems + uptoBulkAll spare + 1
  | .agg parts => uptoBulkAll parts + 1
  | .iface _ d => uptoBulk d + 1
  | .map entries => uptoBulkEntries entries + 1
  | .held _ => 1
def uptoBulkAll {H : Type} : List (DataW H) → Nat
  | [] => 0
  | d :: r => uptoBulk d + uptoBulkAll r
def uptoBulkEntries {H : Type} : List (Lit × DataW H) → Nat
  | [] => 0
  | x :: r => uptoBulkEntry x + uptoBulkEntries r
def uptoBulkEntry {H : Type} : Lit × DataW H → Nat
  | (.string bytes, d) => bytes.length + uptoBulk d + 1
  | (_, d) => uptoBulk d + 1
 end
def uptoSmall : (H : Type) → List (DataW H) → Bool := fun _ ds => decide (uptoBulkAll ds ≤ 1048576)
def OpenSpec.upto (s : _root_.Go.ChangeSpec) : _root_.Go.OpenSpec := { _root_.Go.OpenSpec.ofChange s with cond := some uptoSmall }

/-- 'laws.FnMustWrite', WHERE WHAT IT READS IS OF BULK AT MOST 1048576: true; the input reads as it did. -/
def fnMustWriteUptoRow : OpenClaim := { program := "ytjnijmbhlmphlaa", sum := "d3c8a9b351d96112d51678513fab8d647930bba2d9f1f2559d2750f0cfcd4ad0", func := "loop.example/g00983/laws.FnMustWrite", spec := "fnMustWrite", inPlace := ["maps.clone"], unfollowed := true, recurses := true, apart := false, narrowed := true }
def FnMustWriteUptoSaid : Prop := fnMustWriteUptoRow.holds Try.pinned (OpenSpec.upto fnMustWriteSpec)

/-- 'laws.FnExactMayWrite', WHERE WHAT IT READS IS OF BULK AT MOST 1048576: true; the input reads as it did. -/
def fnExactMayWriteUptoRow : OpenClaim := { program := "ytjnijmbhlmphlaa", sum := "d3c8a9b351d96112d51678513fab8d647930bba2d9f1f2559d2750f0cfcd4ad0", func := "loop.example/g00983/laws.FnExactMayWrite", spec := "fnExactMayWrite", unfollowed := true, recurses := true, apart := false, narrowed := true }
def FnExactMayWriteUptoSaid : Prop := fnExactMayWriteUptoRow.holds Try.pinned (OpenSpec.upto fnExactMayWriteSpec)

/-- 'laws.FnExactMustWrite', WHERE WHAT IT READS IS OF BULK AT MOST 1048576: true; the input reads as it did. -/
def fnExactMustWriteUptoRow : OpenClaim := { program := "ytjnijmbhlmphlaa", sum := "d3c8a9b351d96112d51678513fab8d647930bba2d9f1f2559d2750f0cfcd4ad0", func := "loop.example/g00983/laws.FnExactMustWrite", spec := "fnExactMustWrite", inPlace := ["maps.clone"], unfollowed := true, recurses := true, apart := false, narrowed := true }
def FnExactMustWriteUptoSaid : Prop := fnExactMustWriteUptoRow.holds Try.pinned (OpenSpec.upto fnExactMustWriteSpec)

/-- 'laws.FnExactMayReadFirst', WHERE WHAT IT READS IS OF BULK AT MOST 1048576: true; the input reads as it did. -/
def fnExactMayReadFirstUptoRow : OpenClaim := { program := "ytjnijmbhlmphlaa", sum := "d3c8a9b351d96112d51678513fab8d647930bba2d9f1f2559d2750f0cfcd4ad0", func := "loop.example/g00983/laws.FnExactMayReadFirst", spec := "fnExactMayReadFirst", inPlace := ["maps.clone"], unfollowed := true, recurses := true, apart := false, narrowed := true }
def FnExactMayReadFirstUptoSaid : Prop := fnExactMayReadFirstUptoRow.holds Try.pinned (OpenSpec.upto fnExactMayReadFirstSpec)

/-- 'laws.FnExactHasVar', WHERE WHAT IT READS IS OF BULK AT MOST 1048576: true; the input reads as it did. -/
def fnExactHasVarUptoRow : OpenClaim := { program := "ytjnijmbhlmphlaa", sum := "d3c8a9b351d96112d51678513fab8d647930bba2d9f1f2559d2750f0cfcd4ad0", func := "loop.example/g00983/laws.FnExactHasVar", spec := "fnExactHasVar", apart := false, narrowed := true }
def FnExactHasVarUptoSaid : Prop := fnExactHasVarUptoRow.holds Try.pinned (OpenSpec.upto fnExactHasVarSpec)

end Rows
end Go.Proofs.Ytjnijmbhlmphlaa
