/-
  No cell of these rows narrows 'for every input' (looked for: loops, veiled, ifaces, maps, wideKeys, modest, calm, conditions, laid).
  DERIVED. THE GIVEN ROWS OF THIS SEAT. 6 by the template 'for every input the law returns true; each argument reads behind the call as it read before'; 0 by the template 'total and deterministic' (their statements: YtbifacjemdoenaaTotals.lean).
  GIVEN WITH THE SEED: the statements are not yours to turn. If you find one false, say at which input.
  Laid BY PROGRAM, IN A SANDBOX (cutbox-rows.mjs): the forced cells as the released guide's own fill.sh prints them over the translation 36864b825f3fb9e0… (all of the seat's roots in one cut). By AI agents, Wed Nov 11 2026. No macro, syntax, notation, axiom, sorry.
-/
import Derived.Test.YtbifacjemdoenaaChecked
import GoSem.Claim
import GoSem.ClaimJoined
import GoSem.ClaimMapViews
import Derived.JoinedTies
import Derived.KernelRfl
namespace Go.Proofs.Ytbifacjemdoenaa
/- THE CELL 'sum', in the pinned program and in every row, IS THE sha256 OF THE DUMP (.gsa) THAT YtbifacjemdoenaaProg.lean LOADS. Nothing in Lean hashes anything: it is a label: what it is worth is what the hold of that sum in a sandbox is worth. -/
noncomputable def Try.pinned : Pinned := { name := "ytbifacjemdoenaa", sum := "36864b825f3fb9e08c1ba8c30e40ab4e64db3ce0ed44d96b6cd5cf718f9b3a6e", checked := Try.checked }
namespace Rows
def none {H : Type} : Left H := { results := [], args := [] }

/-- 'laws.FnExactOperandOk': WHATEVER THE INPUT: true; the input reads as it did. -/
def fnExactOperandOkSpec : ChangeSpec := { name := "fnExactOperandOk", fn := fun _ => fun
  | [d] => { results := [.lit (.bool true)], args := [d] }
  | _ => none }
def fnExactOperandOkRow : OpenClaim := { program := "ytbifacjemdoenaa", sum := "36864b825f3fb9e08c1ba8c30e40ab4e64db3ce0ed44d96b6cd5cf718f9b3a6e", func := "loop.example/g00983/laws.FnExactOperandOk", spec := "fnExactOperandOk", apart := false }
def FnExactOperandOkSaid : Prop := fnExactOperandOkRow.holds Try.pinned (OpenSpec.ofChange fnExactOperandOkSpec)

/-- ITS FALSE NEIGHBOUR: 'it returns false'. Refute it at one input. -/
def fnExactOperandOkWrong : ChangeSpec := { name := "fnExactOperandOk", fn := fun _ => fun
  | [d] => { results := [.lit (.bool false)], args := [d] }
  | _ => none }
def FnExactOperandOkWrongFalsely : Prop := fnExactOperandOkRow.holds Try.pinned (OpenSpec.ofChange fnExactOperandOkWrong)

/-- 'laws.FnExactExprOk': WHATEVER THE INPUT: true; the input reads as it did. -/
def fnExactExprOkSpec : ChangeSpec := { name := "fnExactExprOk", fn := fun _ => fun
  | [d] => { results := [.lit (.bool true)], args := [d] }
  | _ => none }
def fnExactExprOkRow : OpenClaim := { program := "ytbifacjemdoenaa", sum := "36864b825f3fb9e08c1ba8c30e40ab4e64db3ce0ed44d96b6cd5cf718f9b3a6e", func := "loop.example/g00983/laws.FnExactExprOk", spec := "fnExactExprOk", apart := false }
def FnExactExprOkSaid : Prop := fnExactExprOkRow.holds Try.pinned (OpenSpec.ofChange fnExactExprOkSpec)

/-- ITS FALSE NEIGHBOUR: 'it returns false'. Refute it at one input. -/
def fnExactExprOkWrong : ChangeSpec := { name := "fnExactExprOk", fn := fun _ => fun
  | [d] => { results := [.lit (.bool false)], args := [d] }
  | _ => none }
def FnExactExprOkWrongFalsely : Prop := fnExactExprOkRow.holds Try.pinned (OpenSpec.ofChange fnExactExprOkWrong)

/-- 'laws.FnExactVarsOk': WHATEVER THE INPUT: true; the input reads as it did. -/
def fnExactVarsOkSpec : ChangeSpec := { name := "fnExactVarsOk", fn := fun _ => fun
  | [d] => { results := [.lit (.bool true)], args := [d] }
  | _ => none }
def fnExactVarsOkRow : OpenClaim := { program := "ytbifacjemdoenaa", sum := "36864b825f3fb9e08c1ba8c30e40ab4e64db3ce0ed44d96b6cd5cf718f9b3a6e", func := "loop.example/g00983/laws.FnExactVarsOk", spec := "fnExactVarsOk", apart := false }
def FnExactVarsOkSaid : Prop := fnExactVarsOkRow.holds Try.pinned (OpenSpec.ofChange fnExactVarsOkSpec)

/-- ITS FALSE NEIGHBOUR: 'it returns false'. Refute it at one input. -/
def fnExactVarsOkWrong : ChangeSpec := { name := "fnExactVarsOk", fn := fun _ => fun
  | [d] => { results := [.lit (.bool false)], args := [d] }
  | _ => none }
def FnExactVarsOkWrongFalsely : Prop := fnExactVarsOkRow.holds Try.pinned (OpenSpec.ofChange fnExactVarsOkWrong)

/-- 'laws.FnExactOperandValue': WHATEVER THE INPUT: true; the input reads as it did. -/
def fnExactOperandValueSpec : ChangeSpec := { name := "fnExactOperandValue", fn := fun _ => fun
  | [d1, d2] => { results := [.lit (.bool true)], args := [d1, d2] }
  | _ => none }
def fnExactOperandValueRow : OpenClaim := { program := "ytbifacjemdoenaa", sum := "36864b825f3fb9e08c1ba8c30e40ab4e64db3ce0ed44d96b6cd5cf718f9b3a6e", func := "loop.example/g00983/laws.FnExactOperandValue", spec := "fnExactOperandValue", apart := false }
def FnExactOperandValueSaid : Prop := fnExactOperandValueRow.holds Try.pinned (OpenSpec.ofChange fnExactOperandValueSpec)

/-- ITS FALSE NEIGHBOUR: 'it returns false'. Refute it at one input. -/
def fnExactOperandValueWrong : ChangeSpec := { name := "fnExactOperandValue", fn := fun _ => fun
  | [d1, d2] => { results := [.lit (.bool false)], args := [d1, d2] }
  | _ => none }
def FnExactOperandValueWrongFalsely : Prop := fnExactOperandValueRow.holds Try.pinned (OpenSpec.ofChange fnExactOperandValueWrong)

/-- 'laws.FnExactEvalExpr': WHATEVER THE INPUT: true; the input reads as it did. -/
def fnExactEvalExprSpec : ChangeSpec := { name := "fnExactEvalExpr", fn := fun _ => fun
  | [d1, d2] => { results := [.lit (.bool true)], args := [d1, d2] }
  | _ => none }
def fnExactEvalExprRow : OpenClaim := { program := "ytbifacjemdoenaa", sum := "36864b825f3fb9e08c1ba8c30e40ab4e64db3ce0ed44d96b6cd5cf718f9b3a6e", func := "loop.example/g00983/laws.FnExactEvalExpr", spec := "fnExactEvalExpr", unfollowed := true, recurses := true, apart := false }
def FnExactEvalExprSaid : Prop := fnExactEvalExprRow.holds Try.pinned (OpenSpec.ofChange fnExactEvalExprSpec)

/-- ITS FALSE NEIGHBOUR: 'it returns false'. Refute it at one input. -/
def fnExactEvalExprWrong : ChangeSpec := { name := "fnExactEvalExpr", fn := fun _ => fun
  | [d1, d2] => { results := [.lit (.bool false)], args := [d1, d2] }
  | _ => none }
def FnExactEvalExprWrongFalsely : Prop := fnExactEvalExprRow.holds Try.pinned (OpenSpec.ofChange fnExactEvalExprWrong)

/-- 'laws.FnExactReadsOf': WHATEVER THE INPUT: true; the input reads as it did. -/
def fnExactReadsOfSpec : ChangeSpec := { name := "fnExactReadsOf", fn := fun _ => fun
  | [d] => { results := [.lit (.bool true)], args := [d] }
  | _ => none }
def fnExactReadsOfRow : OpenClaim := { program := "ytbifacjemdoenaa", sum := "36864b825f3fb9e08c1ba8c30e40ab4e64db3ce0ed44d96b6cd5cf718f9b3a6e", func := "loop.example/g00983/laws.FnExactReadsOf", spec := "fnExactReadsOf", recurses := true, apart := false }
def FnExactReadsOfSaid : Prop := fnExactReadsOfRow.holds Try.pinned (OpenSpec.ofChange fnExactReadsOfSpec)

/-- ITS FALSE NEIGHBOUR: 'it returns false'. Refute it at one input. -/
def fnExactReadsOfWrong : ChangeSpec := { name := "fnExactReadsOf", fn := fun _ => fun
  | [d] => { results := [.lit (.bool false)], args := [d] }
  | _ => none }
def FnExactReadsOfWrongFalsely : Prop := fnExactReadsOfRow.holds Try.pinned (OpenSpec.ofChange fnExactReadsOfWrong)

/- THE SECOND FORM. 'bulk': how many values and letters a reading holds, each counted each time it is reached (what is shared counts as often as it is met; a slice's spare places count too). A statement '..UptoSaid' is the law's where the arguments, and the package variables that the reading takes, are together of bulk at most 1048576: NARROWER than '..Said'. Prove '..Said' where nothing that the law and all that it calls make is longer than what came in: it says more and counts as full. Else prove '..UptoSaid'. A law counts once. -/
mutual
def uptoBulk {H : Type} : DataW H → Nat
  | .lit (.string bytes) => bytes.length + 1
  | .lit _ => 1
  | .nil => 1
  | .ptr d => uptoBulk d + 1
  | .slice elems spare => uptoBulkAll elems + uptoBulkAll spare + 1
  | .agg parts => uptoBulkAll parts + 1
  | .iface _ d => uptoBulk d + 1
  | .map entries => uptoBulkEntries entries + 1
  | .held _ => 1
def uptoBulkAll {H : Type} : List (DataW H) → Nat
  | [] => 0
  | d :: r => uptoBulk d + uptoBulkAll r
def uptoBulkEntries {H : Type} : List (Lit × DataW H) → Nat
  | [] => 0
  | x :: r => uptoBulkEntry x + uptoBulkEntries r
def uptoBulkEntry {H : Type} : Lit × DataW H → Nat
  | (.string bytes, d) => bytes.length + uptoBulk d + 1
  | (_, d) => uptoBulk d + 1
 end
def uptoSmall : (H : Type) → List (DataW H) → Bool := fun _ ds => decide (uptoBulkAll ds ≤ 1048576)
def OpenSpec.upto (s : _root_.Go.ChangeSpec) : _root_.Go.OpenSpec := { _root_.Go.OpenSpec.ofChange s with cond := some uptoSmall }

/-- 'laws.FnExactOperandOk', WHERE WHAT IT READS IS OF BULK AT MOST 1048576: true; the input reads as it did. -/
def fnExactOperandOkUptoRow : OpenClaim := { program := "ytbifacjemdoenaa", sum := "36864b825f3fb9e08c1ba8c30e40ab4e64db3ce0ed44d96b6cd5cf718f9b3a6e", func := "loop.example/g00983/laws.FnExactOperandOk", spec := "fnExactOperandOk", apart := false, narrowed := true }
def FnExactOperandOkUptoSaid : Prop := fnExactOperandOkUptoRow.holds Try.pinned (OpenSpec.upto fnExactOperandOkSpec)

/-- 'laws.FnExactExprOk', WHERE WHAT IT READS IS OF BULK AT MOST 1048576: true; the input reads as it did. -/
def fnExactExprOkUptoRow : OpenClaim := { program := "ytbifacjemdoenaa", sum := "36864b825f3fb9e08c1ba8c30e40ab4e64db3ce0ed44d96b6cd5cf718f9b3a6e", func := "loop.example/g00983/laws.FnExactExprOk", spec := "fnExactExprOk", apart := false, narrowed := true }
def FnExactExprOkUptoSaid : Prop := fnExactExprOkUptoRow.holds Try.pinned (OpenSpec.upto fnExactExprOkSpec)

/-- 'laws.FnExactVarsOk', WHERE WHAT IT READS IS OF BULK AT MOST 1048576: true; the input reads as it did. -/
def fnExactVarsOkUptoRow : OpenClaim := { program := "ytbifacjemdoenaa", sum := "36864b825f3fb9e08c1ba8c30e40ab4e64db3ce0ed44d96b6cd5cf718f9b3a6e", func := "loop.example/g00983/laws.FnExactVarsOk", spec := "fnExactVarsOk", apart := false, narrowed := true }
def FnExactVarsOkUptoSaid : Prop := fnExactVarsOkUptoRow.holds Try.pinned (OpenSpec.upto fnExactVarsOkSpec)

/-- 'laws.FnExactOperandValue', WHERE WHAT IT READS IS OF BULK AT MOST 1048576: true; the input reads as it did. -/
def fnExactOperandValueUptoRow : OpenClaim := { program := "ytbifacjemdoenaa", sum := "36864b825f3fb9e08c1ba8c30e40ab4e64db3ce0ed44d96b6cd5cf718f9b3a6e", func := "loop.example/g00983/laws.FnExactOperandValue", spec := "fnExactOperandValue", apart := false, narrowed := true }
def FnExactOperandValueUptoSaid : Prop := fnExactOperandValueUptoRow.holds Try.pinned (OpenSpec.upto fnExactOperandValueSpec)

/-- 'laws.FnExactEvalExpr', WHERE WHAT IT READS IS OF BULK AT MOST 1048576: true; the input reads as it did. -/
def fnExactEvalExprUptoRow : OpenClaim := { program := "ytbifacjemdoenaa", sum := "36864b825f3fb9e08c1ba8c30e40ab4e64db3ce0ed44d96b6cd5cf718f9b3a6e", func := "loop.example/g00983/laws.FnExactEvalExpr", spec := "fnExactEvalExpr", unfollowed := true, recurses := true, apart := false, narrowed := true }
def FnExactEvalExprUptoSaid : Prop := fnExactEvalExprUptoRow.holds Try.pinned (OpenSpec.upto fnExactEvalExprSpec)

/-- 'laws.FnExactReadsOf', WHERE WHAT IT READS IS OF BULK AT MOST 1048576: true; the input reads as it did. -/
def fnExactReadsOfUptoRow : OpenClaim := { program := "ytbifacjemdoenaa", sum := "36864b825f3fb9e08c1ba8c30e40ab4e64db3ce0ed44d96b6cd5cf718f9b3a6e", func := "loop.example/g00983/laws.FnExactReadsOf", spec := "fnExactReadsOf", recurses := true, apart := false, narrowed := true }
def FnExactReadsOfUptoSaid : Prop := fnExactReadsOfUptoRow.holds Try.pinned (OpenSpec.upto fnExactReadsOfSpec)

end Rows
end Go.Proofs.Ytbifacjemdoenaa
