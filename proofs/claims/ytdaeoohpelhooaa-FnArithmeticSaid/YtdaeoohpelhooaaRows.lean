/-
  No cell of these rows narrows 'for every input' (looked for: loops, veiled, ifaces, maps, wideKeys, modest, calm, conditions, laid).
  DERIVED. THE GIVEN ROWS OF THIS SEAT. 7 by the template 'for every input the law returns true; each argument reads behind the call as it read before'; 0 by the template 'total and deterministic' (their statements: YtdaeoohpelhooaaTotals.lean).
  GIVEN WITH THE SEED: the statements are not yours to turn. If you find one false, say at which input.
  Laid BY PROGRAM, IN A SANDBOX (cutbox-rows.mjs): the forced cells as the released guide's own fill.sh prints them over the translation 3554f4ec8dce7917… (all of the seat's roots in one cut). By AI agents, Wed Nov 11 2026. No macro, syntax, notation, axiom, sorry.
-/
import Derived.Test.YtdaeoohpelhooaaChecked
import GoSem.Claim
import GoSem.ClaimJoined
import GoSem.ClaimMapViews
import Derived.JoinedTies
import Derived.KernelRfl
namespace Go.Proofs.Ytdaeoohpelhooaa
/- THE CELL 'sum', in the pinned program and in every row, IS THE sha256 OF THE DUMP (.gsa) THAT YtdaeoohpelhooaaProg.lean LOADS. Nothing in Lean hashes anything: it is a label: what it is worth is what the hold of that sum in a sandbox is worth. -/
noncomputable def Try.pinned : Pinned := { name := "ytdaeoohpelhooaa", sum := "3554f4ec8dce7917374c2d91f78ab148f58965e924bc0f7ad1bc51fdb08e7810", checked := Try.checked }
namespace Rows
def none {H : Type} : Left H := { results := [], args := [] }

/-- 'laws.FnArithmetic': WHATEVER THE INPUT: true; the input reads as it did. -/
def fnArithmeticSpec : ChangeSpec := { name := "fnArithmetic", fn := fun _ => fun
  | [d] => { results := [.lit (.bool true)], args := [d] }
  | _ => none }
def fnArithmeticRow : OpenClaim := { program := "ytdaeoohpelhooaa", sum := "3554f4ec8dce7917374c2d91f78ab148f58965e924bc0f7ad1bc51fdb08e7810", func := "loop.example/g00983/laws.FnArithmetic", spec := "fnArithmetic", apart := false }
def FnArithmeticSaid : Prop := fnArithmeticRow.holds Try.pinned (OpenSpec.ofChange fnArithmeticSpec)

/-- ITS FALSE NEIGHBOUR: 'it returns false'. Refute it at one input. -/
def fnArithmeticWrong : ChangeSpec := { name := "fnArithmetic", fn := fun _ => fun
  | [d] => { results := [.lit (.bool false)], args := [d] }
  | _ => none }
def FnArithmeticWrongFalsely : Prop := fnArithmeticRow.holds Try.pinned (OpenSpec.ofChange fnArithmeticWrong)

/-- 'laws.FnSaturated': WHATEVER THE INPUT: true; the input reads as it did. -/
def fnSaturatedSpec : ChangeSpec := { name := "fnSaturated", fn := fun _ => fun
  | [d] => { results := [.lit (.bool true)], args := [d] }
  | _ => none }
def fnSaturatedRow : OpenClaim := { program := "ytdaeoohpelhooaa", sum := "3554f4ec8dce7917374c2d91f78ab148f58965e924bc0f7ad1bc51fdb08e7810", func := "loop.example/g00983/laws.FnSaturated", spec := "fnSaturated", apart := false }
def FnSaturatedSaid : Prop := fnSaturatedRow.holds Try.pinned (OpenSpec.ofChange fnSaturatedSpec)

/-- ITS FALSE NEIGHBOUR: 'it returns false'. Refute it at one input. -/
def fnSaturatedWrong : ChangeSpec := { name := "fnSaturated", fn := fun _ => fun
  | [d] => { results := [.lit (.bool false)], args := [d] }
  | _ => none }
def FnSaturatedWrongFalsely : Prop := fnSaturatedRow.holds Try.pinned (OpenSpec.ofChange fnSaturatedWrong)

/-- 'laws.FnExactSaturate': WHATEVER THE INPUT: true; the input reads as it did. -/
def fnExactSaturateSpec : ChangeSpec := { name := "fnExactSaturate", fn := fun _ => fun
  | [d] => { results := [.lit (.bool true)], args := [d] }
  | _ => none }
def fnExactSaturateRow : OpenClaim := { program := "ytdaeoohpelhooaa", sum := "3554f4ec8dce7917374c2d91f78ab148f58965e924bc0f7ad1bc51fdb08e7810", func := "loop.example/g00983/laws.FnExactSaturate", spec := "fnExactSaturate", apart := false }
def FnExactSaturateSaid : Prop := fnExactSaturateRow.holds Try.pinned (OpenSpec.ofChange fnExactSaturateSpec)

/-- ITS FALSE NEIGHBOUR: 'it returns false'. Refute it at one input. -/
def fnExactSaturateWrong : ChangeSpec := { name := "fnExactSaturate", fn := fun _ => fun
  | [d] => { results := [.lit (.bool false)], args := [d] }
  | _ => none }
def FnExactSaturateWrongFalsely : Prop := fnExactSaturateRow.holds Try.pinned (OpenSpec.ofChange fnExactSaturateWrong)

/-- 'laws.FnExactAddValues': WHATEVER THE INPUT: true; the input reads as it did. -/
def fnExactAddValuesSpec : ChangeSpec := { name := "fnExactAddValues", fn := fun _ => fun
  | [d1, d2] => { results := [.lit (.bool true)], args := [d1, d2] }
  | _ => none }
def fnExactAddValuesRow : OpenClaim := { program := "ytdaeoohpelhooaa", sum := "3554f4ec8dce7917374c2d91f78ab148f58965e924bc0f7ad1bc51fdb08e7810", func := "loop.example/g00983/laws.FnExactAddValues", spec := "fnExactAddValues", apart := false }
def FnExactAddValuesSaid : Prop := fnExactAddValuesRow.holds Try.pinned (OpenSpec.ofChange fnExactAddValuesSpec)

/-- ITS FALSE NEIGHBOUR: 'it returns false'. Refute it at one input. -/
def fnExactAddValuesWrong : ChangeSpec := { name := "fnExactAddValues", fn := fun _ => fun
  | [d1, d2] => { results := [.lit (.bool false)], args := [d1, d2] }
  | _ => none }
def FnExactAddValuesWrongFalsely : Prop := fnExactAddValuesRow.holds Try.pinned (OpenSpec.ofChange fnExactAddValuesWrong)

/-- 'laws.FnExactSubValues': WHATEVER THE INPUT: true; the input reads as it did. -/
def fnExactSubValuesSpec : ChangeSpec := { name := "fnExactSubValues", fn := fun _ => fun
  | [d1, d2] => { results := [.lit (.bool true)], args := [d1, d2] }
  | _ => none }
def fnExactSubValuesRow : OpenClaim := { program := "ytdaeoohpelhooaa", sum := "3554f4ec8dce7917374c2d91f78ab148f58965e924bc0f7ad1bc51fdb08e7810", func := "loop.example/g00983/laws.FnExactSubValues", spec := "fnExactSubValues", apart := false }
def FnExactSubValuesSaid : Prop := fnExactSubValuesRow.holds Try.pinned (OpenSpec.ofChange fnExactSubValuesSpec)

/-- ITS FALSE NEIGHBOUR: 'it returns false'. Refute it at one input. -/
def fnExactSubValuesWrong : ChangeSpec := { name := "fnExactSubValues", fn := fun _ => fun
  | [d1, d2] => { results := [.lit (.bool false)], args := [d1, d2] }
  | _ => none }
def FnExactSubValuesWrongFalsely : Prop := fnExactSubValuesRow.holds Try.pinned (OpenSpec.ofChange fnExactSubValuesWrong)

/-- 'laws.FnExactMulValues': WHATEVER THE INPUT: true; the input reads as it did. -/
def fnExactMulValuesSpec : ChangeSpec := { name := "fnExactMulValues", fn := fun _ => fun
  | [d1, d2] => { results := [.lit (.bool true)], args := [d1, d2] }
  | _ => none }
def fnExactMulValuesRow : OpenClaim := { program := "ytdaeoohpelhooaa", sum := "3554f4ec8dce7917374c2d91f78ab148f58965e924bc0f7ad1bc51fdb08e7810", func := "loop.example/g00983/laws.FnExactMulValues", spec := "fnExactMulValues", apart := false }
def FnExactMulValuesSaid : Prop := fnExactMulValuesRow.holds Try.pinned (OpenSpec.ofChange fnExactMulValuesSpec)

/-- ITS FALSE NEIGHBOUR: 'it returns false'. Refute it at one input. -/
def fnExactMulValuesWrong : ChangeSpec := { name := "fnExactMulValues", fn := fun _ => fun
  | [d1, d2] => { results := [.lit (.bool false)], args := [d1, d2] }
  | _ => none }
def FnExactMulValuesWrongFalsely : Prop := fnExactMulValuesRow.holds Try.pinned (OpenSpec.ofChange fnExactMulValuesWrong)

/-- 'laws.FnExactIsValue': WHATEVER THE INPUT: true; the input reads as it did. -/
def fnExactIsValueSpec : ChangeSpec := { name := "fnExactIsValue", fn := fun _ => fun
  | [d] => { results := [.lit (.bool true)], args := [d] }
  | _ => none }
def fnExactIsValueRow : OpenClaim := { program := "ytdaeoohpelhooaa", sum := "3554f4ec8dce7917374c2d91f78ab148f58965e924bc0f7ad1bc51fdb08e7810", func := "loop.example/g00983/laws.FnExactIsValue", spec := "fnExactIsValue", apart := false }
def FnExactIsValueSaid : Prop := fnExactIsValueRow.holds Try.pinned (OpenSpec.ofChange fnExactIsValueSpec)

/-- ITS FALSE NEIGHBOUR: 'it returns false'. Refute it at one input. -/
def fnExactIsValueWrong : ChangeSpec := { name := "fnExactIsValue", fn := fun _ => fun
  | [d] => { results := [.lit (.bool false)], args := [d] }
  | _ => none }
def FnExactIsValueWrongFalsely : Prop := fnExactIsValueRow.holds Try.pinned (OpenSpec.ofChange fnExactIsValueWrong)

/- THE SECOND FORM. 'bulk': how many values and letters a reading holds, each counted each time it is reached (what is shared counts as often as it is met; a slice's spare places count too). A statement '..UptoSaid' is the law's where the arguments, and the package variables that the reading takes, are together of bulk at most 1048576: NARROWER than '..Said'. Prove '..Said' where nothing that the law and all that it calls make is longer than what came in: it says more and counts as full. Else prove '..UptoSaid'. A law counts once. -/
mutual
def uptoBulk {H : Type} : DataW H → Nat
  | .lit (.string bytes) => bytes.length + 1
  | .lit _ => 1
  | .nil => 1
  | .ptr d => uptoBulk d + 1
  | .slice elems spare => uptoBulkAll elems + uptoBulkAll spare + 1
  | .agg parts => uptoBulkAll parts + 1
  | .iface _ d => uptoBulk d + 1
  | .map entries => uptoBulkEntries entries + 1
  | .held _ => 1
def uptoBulkAll {H : Type} : List (DataW H) → Nat
  | [] => 0
  | d :: r => uptoBulk d + uptoBulkAll r
def uptoBulkEntries {H : Type} : List (Lit × DataW H) → Nat
  | [] => 0
  | x :: r => uptoBulkEntry x + uptoBulkEntries r
def uptoBulkEntry {H : Type} : Lit × DataW H → Nat
  | (.string bytes, d) => bytes.length + uptoBulk d + 1
  | (_, d) => uptoBulk d + 1
 end
def uptoSmall : (H : Type) → List (DataW H) → Bool := fun _ ds => decide (uptoBulkAll ds ≤ 1048576)
def OpenSpec.upto (s : _root_.Go.ChangeSpec) : _root_.Go.OpenSpec := { _root_.Go.OpenSpec.ofChange s with cond := some uptoSmall }

/-- 'laws.FnArithmetic', WHERE WHAT IT READS IS OF BULK AT MOST 1048576: true; the input reads as it did. -/
def fnArithmeticUptoRow : OpenClaim := { program := "ytdaeoohpelhooaa", sum := "3554f4ec8dce7917374c2d91f78ab148f58965e924bc0f7ad1bc51fdb08e7810", func := "loop.example/g00983/laws.FnArithmetic", spec := "fnArithmetic", apart := false, narrowed := true }
def FnArithmeticUptoSaid : Prop := fnArithmeticUptoRow.holds Try.pinned (OpenSpec.upto fnArithmeticSpec)

/-- 'laws.FnSaturated', WHERE WHAT IT READS IS OF BULK AT MOST 1048576: true; the input reads as it did. -/
def fnSaturatedUptoRow : OpenClaim := { program := "ytdaeoohpelhooaa", sum := "3554f4ec8dce7917374c2d91f78ab148f58965e924bc0f7ad1bc51fdb08e7810", func := "loop.example/g00983/laws.FnSaturated", spec := "fnSaturated", apart := false, narrowed := true }
def FnSaturatedUptoSaid : Prop := fnSaturatedUptoRow.holds Try.pinned (OpenSpec.upto fnSaturatedSpec)

/-- 'laws.FnExactSaturate', WHERE WHAT IT READS IS OF BULK AT MOST 1048576: true; the input reads as it did. -/
def fnExactSaturateUptoRow : OpenClaim := { program := "ytdaeoohpelhooaa", sum := "3554f4ec8dce7917374c2d91f78ab148f58965e924bc0f7ad1bc51fdb08e7810", func := "loop.example/g00983/laws.FnExactSaturate", spec := "fnExactSaturate", apart := false, narrowed := true }
def FnExactSaturateUptoSaid : Prop := fnExactSaturateUptoRow.holds Try.pinned (OpenSpec.upto fnExactSaturateSpec)

/-- 'laws.FnExactAddValues', WHERE WHAT IT READS IS OF BULK AT MOST 1048576: true; the input reads as it did. -/
def fnExactAddValuesUptoRow : OpenClaim := { program := "ytdaeoohpelhooaa", sum := "3554f4ec8dce7917374c2d91f78ab148f58965e924bc0f7ad1bc51fdb08e7810", func := "loop.example/g00983/laws.FnExactAddValues", spec := "fnExactAddValues", apart := false, narrowed := true }
def FnExactAddValuesUptoSaid : Prop := fnExactAddValuesUptoRow.holds Try.pinned (OpenSpec.upto fnExactAddValuesSpec)

/-- 'laws.FnExactSubValues', WHERE WHAT IT READS IS OF BULK AT MOST 1048576: true; the input reads as it did. -/
def fnExactSubValuesUptoRow : OpenClaim := { program := "ytdaeoohpelhooaa", sum := "3554f4ec8dce7917374c2d91f78ab148f58965e924bc0f7ad1bc51fdb08e7810", func := "loop.example/g00983/laws.FnExactSubValues", spec := "fnExactSubValues", apart := false, narrowed := true }
def FnExactSubValuesUptoSaid : Prop := fnExactSubValuesUptoRow.holds Try.pinned (OpenSpec.upto fnExactSubValuesSpec)

/-- 'laws.FnExactMulValues', WHERE WHAT IT READS IS OF BULK AT MOST 1048576: true; the input reads as it did. -/
def fnExactMulValuesUptoRow : OpenClaim := { program := "ytdaeoohpelhooaa", sum := "3554f4ec8dce7917374c2d91f78ab148f58965e924bc0f7ad1bc51fdb08e7810", func := "loop.example/g00983/laws.FnExactMulValues", spec := "fnExactMulValues", apart := false, narrowed := true }
def FnExactMulValuesUptoSaid : Prop := fnExactMulValuesUptoRow.holds Try.pinned (OpenSpec.upto fnExactMulValuesSpec)

/-- 'laws.FnExactIsValue', WHERE WHAT IT READS IS OF BULK AT MOST 1048576: true; the input reads as it did. -/
def fnExactIsValueUptoRow : OpenClaim := { program := "ytdaeoohpelhooaa", sum := "3554f4ec8dce7917374c2d91f78ab148f58965e924bc0f7ad1bc51fdb08e7810", func := "loop.example/g00983/laws.FnExactIsValue", spec := "fnExactIsValue", apart := false, narrowed := true }
def FnExactIsValueUptoSaid : Prop := fnExactIsValueUptoRow.holds Try.pinned (OpenSpec.upto fnExactIsValueSpec)

end Rows
end Go.Proofs.Ytdaeoohpelhooaa
