/-
  No cell of these rows narrows 'for every input' (looked for: loops, veiled, ifaces, maps, wideKeys, modest, calm, conditions, laid).
  DERIVED. THE GIVEN ROWS OF THIS SEAT. 7 by the template 'for every input the law returns true; each argument reads behind the call as it read before'; 0 by the template 'total and deterministic' (their statements: YtnpofcalghdaaaaTotals.lean).
  GIVEN WITH THE SEED: the statements are not yours to turn. If you find one false, say at which input.
  Laid BY PROGRAM, IN A SANDBOX (cutbox-rows.mjs): the forced cells as the released guide's own fill.sh prints them over the translation 7e160d59658aedd7… (all of the seat's roots in one cut). By AI agents, Wed Nov 11 2026. No macro, syntax, notation, axiom, sorry.
-/
import Derived.Test.YtnpofcalghdaaaaChecked
import GoSem.Claim
import GoSem.ClaimJoined
import GoSem.ClaimMapViews
import Derived.JoinedTies
import Derived.KernelRfl
namespace Go.Proofs.Ytnpofcalghdaaaa
/- THE CELL 'sum', in the pinned program and in every row, IS THE sha256 OF THE DUMP (.gsa) THAT YtnpofcalghdaaaaProg.lean LOADS. Nothing in Lean hashes anything: it is a label: what it is worth is what the hold of that sum in a sandbox is worth. -/
noncomputable def Try.pinned : Pinned := { name := "ytnpofcalghdaaaa", sum := "7e160d59658aedd7030050ea6245dc37d5712223d0cbff2e4f332620667126e2", checked := Try.checked }
namespace Rows
def none {H : Type} : Left H := { results := [], args := [] }

/-- 'laws.FnExactVarsOk': WHATEVER THE INPUT: true; the input reads as it did. -/
def fnExactVarsOkSpec : ChangeSpec := { name := "fnExactVarsOk", fn := fun _ => fun
  | [d] => { results := [.lit (.bool true)], args := [d] }
  | _ => none }
def fnExactVarsOkRow : OpenClaim := { program := "ytnpofcalghdaaaa", sum := "7e160d59658aedd7030050ea6245dc37d5712223d0cbff2e4f332620667126e2", func := "loop.example/g00983/laws.FnExactVarsOk", spec := "fnExactVarsOk", apart := false }
def FnExactVarsOkSaid : Prop := fnExactVarsOkRow.holds Try.pinned (OpenSpec.ofChange fnExactVarsOkSpec)

/-- ITS FALSE NEIGHBOUR: 'it returns false'. Refute it at one input. -/
def fnExactVarsOkWrong : ChangeSpec := { name := "fnExactVarsOk", fn := fun _ => fun
  | [d] => { results := [.lit (.bool false)], args := [d] }
  | _ => none }
def FnExactVarsOkWrongFalsely : Prop := fnExactVarsOkRow.holds Try.pinned (OpenSpec.ofChange fnExactVarsOkWrong)

/-- 'laws.FnExactOperandValue': WHATEVER THE INPUT: true; the input reads as it did. -/
def fnExactOperandValueSpec : ChangeSpec := { name := "fnExactOperandValue", fn := fun _ => fun
  | [d1, d2] => { results := [.lit (.bool true)], args := [d1, d2] }
  | _ => none }
def fnExactOperandValueRow : OpenClaim := { program := "ytnpofcalghdaaaa", sum := "7e160d59658aedd7030050ea6245dc37d5712223d0cbff2e4f332620667126e2", func := "loop.example/g00983/laws.FnExactOperandValue", spec := "fnExactOperandValue", apart := false }
def FnExactOperandValueSaid : Prop := fnExactOperandValueRow.holds Try.pinned (OpenSpec.ofChange fnExactOperandValueSpec)

/-- ITS FALSE NEIGHBOUR: 'it returns false'. Refute it at one input. -/
def fnExactOperandValueWrong : ChangeSpec := { name := "fnExactOperandValue", fn := fun _ => fun
  | [d1, d2] => { results := [.lit (.bool false)], args := [d1, d2] }
  | _ => none }
def FnExactOperandValueWrongFalsely : Prop := fnExactOperandValueRow.holds Try.pinned (OpenSpec.ofChange fnExactOperandValueWrong)

/-- 'laws.FnExactEvalExpr': WHATEVER THE INPUT: true; the input reads as it did. -/
def fnExactEvalExprSpec : ChangeSpec := { name := "fnExactEvalExpr", fn := fun _ => fun
  | [d1, d2] => { results := [.lit (.bool true)], args := [d1, d2] }
  | _ => none }
def fnExactEvalExprRow : OpenClaim := { program := "ytnpofcalghdaaaa", sum := "7e160d59658aedd7030050ea6245dc37d5712223d0cbff2e4f332620667126e2", func := "loop.example/g00983/laws.FnExactEvalExpr", spec := "fnExactEvalExpr", unfollowed := true, recurses := true, apart := false }
def FnExactEvalExprSaid : Prop := fnExactEvalExprRow.holds Try.pinned (OpenSpec.ofChange fnExactEvalExprSpec)

/-- ITS FALSE NEIGHBOUR: 'it returns false'. Refute it at one input. -/
def fnExactEvalExprWrong : ChangeSpec := { name := "fnExactEvalExpr", fn := fun _ => fun
  | [d1, d2] => { results := [.lit (.bool false)], args := [d1, d2] }
  | _ => none }
def FnExactEvalExprWrongFalsely : Prop := fnExactEvalExprRow.holds Try.pinned (OpenSpec.ofChange fnExactEvalExprWrong)

/-- 'laws.FnExpressions': WHATEVER THE INPUT: true; the input reads as it did. -/
def fnExpressionsSpec : ChangeSpec := { name := "fnExpressions", fn := fun _ => fun
  | [d] => { results := [.lit (.bool true)], args := [d] }
  | _ => none }
def fnExpressionsRow : OpenClaim := { program := "ytnpofcalghdaaaa", sum := "7e160d59658aedd7030050ea6245dc37d5712223d0cbff2e4f332620667126e2", func := "loop.example/g00983/laws.FnExpressions", spec := "fnExpressions", unfollowed := true, recurses := true, apart := false }
def FnExpressionsSaid : Prop := fnExpressionsRow.holds Try.pinned (OpenSpec.ofChange fnExpressionsSpec)

/-- ITS FALSE NEIGHBOUR: 'it returns false'. Refute it at one input. -/
def fnExpressionsWrong : ChangeSpec := { name := "fnExpressions", fn := fun _ => fun
  | [d] => { results := [.lit (.bool false)], args := [d] }
  | _ => none }
def FnExpressionsWrongFalsely : Prop := fnExpressionsRow.holds Try.pinned (OpenSpec.ofChange fnExpressionsWrong)

/-- 'laws.FnOperands': WHATEVER THE INPUT: true; the input reads as it did. -/
def fnOperandsSpec : ChangeSpec := { name := "fnOperands", fn := fun _ => fun
  | [d] => { results := [.lit (.bool true)], args := [d] }
  | _ => none }
def fnOperandsRow : OpenClaim := { program := "ytnpofcalghdaaaa", sum := "7e160d59658aedd7030050ea6245dc37d5712223d0cbff2e4f332620667126e2", func := "loop.example/g00983/laws.FnOperands", spec := "fnOperands", apart := false }
def FnOperandsSaid : Prop := fnOperandsRow.holds Try.pinned (OpenSpec.ofChange fnOperandsSpec)

/-- ITS FALSE NEIGHBOUR: 'it returns false'. Refute it at one input. -/
def fnOperandsWrong : ChangeSpec := { name := "fnOperands", fn := fun _ => fun
  | [d] => { results := [.lit (.bool false)], args := [d] }
  | _ => none }
def FnOperandsWrongFalsely : Prop := fnOperandsRow.holds Try.pinned (OpenSpec.ofChange fnOperandsWrong)

/-- 'laws.FnExactNextTask': WHATEVER THE INPUT: true; the input reads as it did. -/
def fnExactNextTaskSpec : ChangeSpec := { name := "fnExactNextTask", fn := fun _ => fun
  | [d1, d2, d3] => { results := [.lit (.bool true)], args := [d1, d2, d3] }
  | _ => none }
def fnExactNextTaskRow : OpenClaim := { program := "ytnpofcalghdaaaa", sum := "7e160d59658aedd7030050ea6245dc37d5712223d0cbff2e4f332620667126e2", func := "loop.example/g00983/laws.FnExactNextTask", spec := "fnExactNextTask", unfollowed := true, recurses := true, apart := false }
def FnExactNextTaskSaid : Prop := fnExactNextTaskRow.holds Try.pinned (OpenSpec.ofChange fnExactNextTaskSpec)

/-- ITS FALSE NEIGHBOUR: 'it returns false'. Refute it at one input. -/
def fnExactNextTaskWrong : ChangeSpec := { name := "fnExactNextTask", fn := fun _ => fun
  | [d1, d2, d3] => { results := [.lit (.bool false)], args := [d1, d2, d3] }
  | _ => none }
def FnExactNextTaskWrongFalsely : Prop := fnExactNextTaskRow.holds Try.pinned (OpenSpec.ofChange fnExactNextTaskWrong)

/-- 'laws.FnNextTasks': WHATEVER THE INPUT: true; the input reads as it did. -/
def fnNextTasksSpec : ChangeSpec := { name := "fnNextTasks", fn := fun _ => fun
  | [d] => { results := [.lit (.bool true)], args := [d] }
  | _ => none }
def fnNextTasksRow : OpenClaim := { program := "ytnpofcalghdaaaa", sum := "7e160d59658aedd7030050ea6245dc37d5712223d0cbff2e4f332620667126e2", func := "loop.example/g00983/laws.FnNextTasks", spec := "fnNextTasks", unfollowed := true, recurses := true, apart := false }
def FnNextTasksSaid : Prop := fnNextTasksRow.holds Try.pinned (OpenSpec.ofChange fnNextTasksSpec)

/-- ITS FALSE NEIGHBOUR: 'it returns false'. Refute it at one input. -/
def fnNextTasksWrong : ChangeSpec := { name := "fnNextTasks", fn := fun _ => fun
  | [d] => { results := [.lit (.bool false)], args := [d] }
  | _ => none }
def FnNextTasksWrongFalsely : Prop := fnNextTasksRow.holds Try.pinned (OpenSpec.ofChange fnNextTasksWrong)

/- THE SECOND FORM. 'bulk': how many values and letters a reading holds, each counted each time it is reached (what is shared counts as often as it is met; a slice's spare places count too). A statement '..UptoSaid' is the law's where the arguments, and the package variables that the reading takes, are together of bulk at most 1048576: NARROWER than '..Said'. Prove '..Said' where nothing that the law and all that it calls make is longer than what came in: it says more and counts as full. Else prove '..UptoSaid'. A law counts once. -/
mutual
def uptoBulk {H : Type} : DataW H → Nat
  | .lit (.string bytes) => bytes.length + 1
  | .lit _ => 1
  | .nil => 1
  | .ptr d => uptoBulk d + 1
  | .slice elems spare => uptoBulkAll elems + uptoBulkAll spare + 1
  | .agg parts => uptoBulkAll parts + 1
  | .iface _ d => uptoBulk d + 1
  | .map entries => uptoBulkEntries entries + 1
  | .held _ => 1
def uptoBulkAll {H : Type} : List (DataW H) → Nat
  | [] => 0
  | d :: r => uptoBulk d + uptoBulkAll r
def uptoBulkEntries {H : Type} : List (Lit × DataW H) → Nat
  | [] => 0
  | x :: r => uptoBulkEntry x + uptoBulkEntries r
def uptoBulkEntry {H : Type} : Lit × DataW H → Nat
  | (.string bytes, d) => bytes.length + uptoBulk d + 1
  | (_, d) => uptoBulk d + 1
 end
def uptoSmall : (H : Type) → List (DataW H) → Bool := fun _ ds => decide (uptoBulkAll ds ≤ 1048576)
def OpenSpec.upto (s : _root_.Go.ChangeSpec) : _root_.Go.OpenSpec := { _root_.Go.OpenSpec.ofChange s with cond := some uptoSmall }

/-- 'laws.FnExactVarsOk', WHERE WHAT IT READS IS OF BULK AT MOST 1048576: true; the input reads as it did. -/
def fnExactVarsOkUptoRow : OpenClaim := { program := "ytnpofcalghdaaaa", sum := "7e160d59658aedd7030050ea6245dc37d5712223d0cbff2e4f332620667126e2", func := "loop.example/g00983/laws.FnExactVarsOk", spec := "fnExactVarsOk", apart := false, narrowed := true }
def FnExactVarsOkUptoSaid : Prop := fnExactVarsOkUptoRow.holds Try.pinned (OpenSpec.upto fnExactVarsOkSpec)

/-- 'laws.FnExactOperandValue', WHERE WHAT IT READS IS OF BULK AT MOST 1048576: true; the input reads as it did. -/
def fnExactOperandValueUptoRow : OpenClaim := { program := "ytnpofcalghdaaaa", sum := "7e160d59658aedd7030050ea6245dc37d5712223d0cbff2e4f332620667126e2", func := "loop.example/g00983/laws.FnExactOperandValue", spec := "fnExactOperandValue", apart := false, narrowed := true }
def FnExactOperandValueUptoSaid : Prop := fnExactOperandValueUptoRow.holds Try.pinned (OpenSpec.upto fnExactOperandValueSpec)

/-- 'laws.FnExactEvalExpr', WHERE WHAT IT READS IS OF BULK AT MOST 1048576: true; the input reads as it did. -/
def fnExactEvalExprUptoRow : OpenClaim := { program := "ytnpofcalghdaaaa", sum := "7e160d59658aedd7030050ea6245dc37d5712223d0cbff2e4f332620667126e2", func := "loop.example/g00983/laws.FnExactEvalExpr", spec := "fnExactEvalExpr", unfollowed := true, recurses := true, apart := false, narrowed := true }
def FnExactEvalExprUptoSaid : Prop := fnExactEvalExprUptoRow.holds Try.pinned (OpenSpec.upto fnExactEvalExprSpec)

/-- 'laws.FnExpressions', WHERE WHAT IT READS IS OF BULK AT MOST 1048576: true; the input reads as it did. -/
def fnExpressionsUptoRow : OpenClaim := { program := "ytnpofcalghdaaaa", sum := "7e160d59658aedd7030050ea6245dc37d5712223d0cbff2e4f332620667126e2", func := "loop.example/g00983/laws.FnExpressions", spec := "fnExpressions", unfollowed := true, recurses := true, apart := false, narrowed := true }
def FnExpressionsUptoSaid : Prop := fnExpressionsUptoRow.holds Try.pinned (OpenSpec.upto fnExpressionsSpec)

/-- 'laws.FnOperands', WHERE WHAT IT READS IS OF BULK AT MOST 1048576: true; the input reads as it did. -/
def fnOperandsUptoRow : OpenClaim := { program := "ytnpofcalghdaaaa", sum := "7e160d59658aedd7030050ea6245dc37d5712223d0cbff2e4f332620667126e2", func := "loop.example/g00983/laws.FnOperands", spec := "fnOperands", apart := false, narrowed := true }
def FnOperandsUptoSaid : Prop := fnOperandsUptoRow.holds Try.pinned (OpenSpec.upto fnOperandsSpec)

/-- 'laws.FnExactNextTask', WHERE WHAT IT READS IS OF BULK AT MOST 1048576: true; the input reads as it did. -/
def fnExactNextTaskUptoRow : OpenClaim := { program := "ytnpofcalghdaaaa", sum := "7e160d59658aedd7030050ea6245dc37d5712223d0cbff2e4f332620667126e2", func := "loop.example/g00983/laws.FnExactNextTask", spec := "fnExactNextTask", unfollowed := true, recurses := true, apart := false, narrowed := true }
def FnExactNextTaskUptoSaid : Prop := fnExactNextTaskUptoRow.holds Try.pinned (OpenSpec.upto fnExactNextTaskSpec)

/-- 'laws.FnNextTasks', WHERE WHAT IT READS IS OF BULK AT MOST 1048576: true; the input reads as it did. -/
def fnNextTasksUptoRow : OpenClaim := { program := "ytnpofcalghdaaaa", sum := "7e160d59658aedd7030050ea6245dc37d5712223d0cbff2e4f332620667126e2", func := "loop.example/g00983/laws.FnNextTasks", spec := "fnNextTasks", unfollowed := true, recurses := true, apart := false, narrowed := true }
def FnNextTasksUptoSaid : Prop := fnNextTasksUptoRow.holds Try.pinned (OpenSpec.upto fnNextTasksSpec)

end Rows
end Go.Proofs.Ytnpofcalghdaaaa
