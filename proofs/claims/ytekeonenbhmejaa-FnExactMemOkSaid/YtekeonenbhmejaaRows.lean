/-
  No cell of these rows narrows 'for every input' (looked for: loops, veiled, ifaces, maps, wideKeys, modest, calm, conditions, laid).
  DERIVED. THE GIVEN ROWS OF THIS SEAT. 7 by the template 'for every input the law returns true; each argument reads behind the call as it read before'; 0 by the template 'total and deterministic' (their statements: YtekeonenbhmejaaTotals.lean).
  GIVEN WITH THE SEED: the statements are not yours to turn. If you find one false, say at which input.
  Laid BY PROGRAM, IN A SANDBOX (cutbox-rows.mjs): the forced cells as the released guide's own fill.sh prints them over the translation 1f9d55194e8f196a… (all of the seat's roots in one cut). By AI agents, Wed Nov 11 2026. No macro, syntax, notation, axiom, sorry.
-/
import Derived.Test.YtekeonenbhmejaaChecked
import GoSem.Claim
import GoSem.ClaimJoined
import GoSem.ClaimMapViews
import Derived.JoinedTies
import Derived.KernelRfl
namespace Go.Proofs.Ytekeonenbhmejaa
/- THE CELL 'sum', in the pinned program and in every row, IS THE sha256 OF THE DUMP (.gsa) THAT YtekeonenbhmejaaProg.lean LOADS. Nothing in Lean hashes anything: it is a label: what it is worth is what the hold of that sum in a sandbox is worth. -/
noncomputable def Try.pinned : Pinned := { name := "ytekeonenbhmejaa", sum := "1f9d55194e8f196a92d3a9adc0e122de3e6b08d95230107c2196361e0b877756", checked := Try.checked }
namespace Rows
def none {H : Type} : Left H := { results := [], args := [] }

/-- 'laws.FnControlWords': WHATEVER THE INPUT: true; the input reads as it did. -/
def fnControlWordsSpec : ChangeSpec := { name := "fnControlWords", fn := fun _ => fun
  | [d] => { results := [.lit (.bool true)], args := [d] }
  | _ => none }
def fnControlWordsRow : OpenClaim := { program := "ytekeonenbhmejaa", sum := "1f9d55194e8f196a92d3a9adc0e122de3e6b08d95230107c2196361e0b877756", func := "loop.example/g00983/laws.FnControlWords", spec := "fnControlWords", apart := false }
def FnControlWordsSaid : Prop := fnControlWordsRow.holds Try.pinned (OpenSpec.ofChange fnControlWordsSpec)

/-- ITS FALSE NEIGHBOUR: 'it returns false'. Refute it at one input. -/
def fnControlWordsWrong : ChangeSpec := { name := "fnControlWords", fn := fun _ => fun
  | [d] => { results := [.lit (.bool false)], args := [d] }
  | _ => none }
def FnControlWordsWrongFalsely : Prop := fnControlWordsRow.holds Try.pinned (OpenSpec.ofChange fnControlWordsWrong)

/-- 'laws.FnExactPackControl': WHATEVER THE INPUT: true; the input reads as it did. -/
def fnExactPackControlSpec : ChangeSpec := { name := "fnExactPackControl", fn := fun _ => fun
  | [d1, d2, d3] => { results := [.lit (.bool true)], args := [d1, d2, d3] }
  | _ => none }
def fnExactPackControlRow : OpenClaim := { program := "ytekeonenbhmejaa", sum := "1f9d55194e8f196a92d3a9adc0e122de3e6b08d95230107c2196361e0b877756", func := "loop.example/g00983/laws.FnExactPackControl", spec := "fnExactPackControl", apart := false }
def FnExactPackControlSaid : Prop := fnExactPackControlRow.holds Try.pinned (OpenSpec.ofChange fnExactPackControlSpec)

/-- ITS FALSE NEIGHBOUR: 'it returns false'. Refute it at one input. -/
def fnExactPackControlWrong : ChangeSpec := { name := "fnExactPackControl", fn := fun _ => fun
  | [d1, d2, d3] => { results := [.lit (.bool false)], args := [d1, d2, d3] }
  | _ => none }
def FnExactPackControlWrongFalsely : Prop := fnExactPackControlRow.holds Try.pinned (OpenSpec.ofChange fnExactPackControlWrong)

/-- 'laws.FnExactUnpackControl': WHATEVER THE INPUT: true; the input reads as it did. -/
def fnExactUnpackControlSpec : ChangeSpec := { name := "fnExactUnpackControl", fn := fun _ => fun
  | [d] => { results := [.lit (.bool true)], args := [d] }
  | _ => none }
def fnExactUnpackControlRow : OpenClaim := { program := "ytekeonenbhmejaa", sum := "1f9d55194e8f196a92d3a9adc0e122de3e6b08d95230107c2196361e0b877756", func := "loop.example/g00983/laws.FnExactUnpackControl", spec := "fnExactUnpackControl", apart := false }
def FnExactUnpackControlSaid : Prop := fnExactUnpackControlRow.holds Try.pinned (OpenSpec.ofChange fnExactUnpackControlSpec)

/-- ITS FALSE NEIGHBOUR: 'it returns false'. Refute it at one input. -/
def fnExactUnpackControlWrong : ChangeSpec := { name := "fnExactUnpackControl", fn := fun _ => fun
  | [d] => { results := [.lit (.bool false)], args := [d] }
  | _ => none }
def FnExactUnpackControlWrongFalsely : Prop := fnExactUnpackControlRow.holds Try.pinned (OpenSpec.ofChange fnExactUnpackControlWrong)

/-- 'laws.FnExactMemNew': WHATEVER THE INPUT: true; the input reads as it did. -/
def fnExactMemNewSpec : ChangeSpec := { name := "fnExactMemNew", fn := fun _ => fun
  | [d] => { results := [.lit (.bool true)], args := [d] }
  | _ => none }
def fnExactMemNewRow : OpenClaim := { program := "ytekeonenbhmejaa", sum := "1f9d55194e8f196a92d3a9adc0e122de3e6b08d95230107c2196361e0b877756", func := "loop.example/g00983/laws.FnExactMemNew", spec := "fnExactMemNew", apart := false }
def FnExactMemNewSaid : Prop := fnExactMemNewRow.holds Try.pinned (OpenSpec.ofChange fnExactMemNewSpec)

/-- ITS FALSE NEIGHBOUR: 'it returns false'. Refute it at one input. -/
def fnExactMemNewWrong : ChangeSpec := { name := "fnExactMemNew", fn := fun _ => fun
  | [d] => { results := [.lit (.bool false)], args := [d] }
  | _ => none }
def FnExactMemNewWrongFalsely : Prop := fnExactMemNewRow.holds Try.pinned (OpenSpec.ofChange fnExactMemNewWrong)

/-- 'laws.FnExactMemOk': WHATEVER THE INPUT: true; the input reads as it did. -/
def fnExactMemOkSpec : ChangeSpec := { name := "fnExactMemOk", fn := fun _ => fun
  | [d1, d2] => { results := [.lit (.bool true)], args := [d1, d2] }
  | _ => none }
def fnExactMemOkRow : OpenClaim := { program := "ytekeonenbhmejaa", sum := "1f9d55194e8f196a92d3a9adc0e122de3e6b08d95230107c2196361e0b877756", func := "loop.example/g00983/laws.FnExactMemOk", spec := "fnExactMemOk", unfollowed := true, recurses := true, apart := false }
def FnExactMemOkSaid : Prop := fnExactMemOkRow.holds Try.pinned (OpenSpec.ofChange fnExactMemOkSpec)

/-- ITS FALSE NEIGHBOUR: 'it returns false'. Refute it at one input. -/
def fnExactMemOkWrong : ChangeSpec := { name := "fnExactMemOk", fn := fun _ => fun
  | [d1, d2] => { results := [.lit (.bool false)], args := [d1, d2] }
  | _ => none }
def FnExactMemOkWrongFalsely : Prop := fnExactMemOkRow.holds Try.pinned (OpenSpec.ofChange fnExactMemOkWrong)

/-- 'laws.FnExactMemVars': WHATEVER THE INPUT: true; the input reads as it did. -/
def fnExactMemVarsSpec : ChangeSpec := { name := "fnExactMemVars", fn := fun _ => fun
  | [d] => { results := [.lit (.bool true)], args := [d] }
  | _ => none }
def fnExactMemVarsRow : OpenClaim := { program := "ytekeonenbhmejaa", sum := "1f9d55194e8f196a92d3a9adc0e122de3e6b08d95230107c2196361e0b877756", func := "loop.example/g00983/laws.FnExactMemVars", spec := "fnExactMemVars", apart := false }
def FnExactMemVarsSaid : Prop := fnExactMemVarsRow.holds Try.pinned (OpenSpec.ofChange fnExactMemVarsSpec)

/-- ITS FALSE NEIGHBOUR: 'it returns false'. Refute it at one input. -/
def fnExactMemVarsWrong : ChangeSpec := { name := "fnExactMemVars", fn := fun _ => fun
  | [d] => { results := [.lit (.bool false)], args := [d] }
  | _ => none }
def FnExactMemVarsWrongFalsely : Prop := fnExactMemVarsRow.holds Try.pinned (OpenSpec.ofChange fnExactMemVarsWrong)

/-- 'laws.FnExactMemSent': WHATEVER THE INPUT: true; the input reads as it did. -/
def fnExactMemSentSpec : ChangeSpec := { name := "fnExactMemSent", fn := fun _ => fun
  | [d] => { results := [.lit (.bool true)], args := [d] }
  | _ => none }
def fnExactMemSentRow : OpenClaim := { program := "ytekeonenbhmejaa", sum := "1f9d55194e8f196a92d3a9adc0e122de3e6b08d95230107c2196361e0b877756", func := "loop.example/g00983/laws.FnExactMemSent", spec := "fnExactMemSent", apart := false }
def FnExactMemSentSaid : Prop := fnExactMemSentRow.holds Try.pinned (OpenSpec.ofChange fnExactMemSentSpec)

/-- ITS FALSE NEIGHBOUR: 'it returns false'. Refute it at one input. -/
def fnExactMemSentWrong : ChangeSpec := { name := "fnExactMemSent", fn := fun _ => fun
  | [d] => { results := [.lit (.bool false)], args := [d] }
  | _ => none }
def FnExactMemSentWrongFalsely : Prop := fnExactMemSentRow.holds Try.pinned (OpenSpec.ofChange fnExactMemSentWrong)

/- THE SECOND FORM. 'bulk': how many values and letters a reading holds, each counted each time it is reached (what is shared counts as often as it is met; a slice's spare places count too). A statement '..UptoSaid' is the law's where the arguments, and the package variables that the reading takes, are together of bulk at most 1048576: NARROWER than '..Said'. Prove '..Said' where nothing that the law and all that it calls make is longer than what came in: it says more and counts as full. Else prove '..UptoSaid'. A law counts once. -/
mutual
def uptoBulk {H : Type} : DataW H → Nat
  | .lit (.string bytes) => bytes.length + 1
  | .lit _ => 1
  | .nil => 1
  | .ptr d => uptoBulk d + 1
  | .slice elems spare => uptoBulkAll elems + uptoBulkAll spare + 1
  | .agg parts => uptoBulkAll parts + 1
  | .iface _ d => uptoBulk d + 1
  | .map entries => uptoBulkEntries entries + 1
  | .held _ => 1
def uptoBulkAll {H : Type} : List (DataW H) → Nat
  | [] => 0
  | d :: r => uptoBulk d + uptoBulkAll r
def uptoBulkEntries {H : Type} : List (Lit × DataW H) → Nat
  | [] => 0
  | x :: r => uptoBulkEntry x + uptoBulkEntries r
def uptoBulkEntry {H : Type} : Lit × DataW H → Nat
  | (.string bytes, d) => bytes.length + uptoBulk d + 1
  | (_, d) => uptoBulk d + 1
 end
def uptoSmall : (H : Type) → List (DataW H) → Bool := fun _ ds => decide (uptoBulkAll ds ≤ 1048576)
def OpenSpec.upto (s : _root_.Go.ChangeSpec) : _root_.Go.OpenSpec := { _root_.Go.OpenSpec.ofChange s with cond := some uptoSmall }

/-- 'laws.FnControlWords', WHERE WHAT IT READS IS OF BULK AT MOST 1048576: true; the input reads as it did. -/
def fnControlWordsUptoRow : OpenClaim := { program := "ytekeonenbhmejaa", sum := "1f9d55194e8f196a92d3a9adc0e122de3e6b08d95230107c2196361e0b877756", func := "loop.example/g00983/laws.FnControlWords", spec := "fnControlWords", apart := false, narrowed := true }
def FnControlWordsUptoSaid : Prop := fnControlWordsUptoRow.holds Try.pinned (OpenSpec.upto fnControlWordsSpec)

/-- 'laws.FnExactPackControl', WHERE WHAT IT READS IS OF BULK AT MOST 1048576: true; the input reads as it did. -/
def fnExactPackControlUptoRow : OpenClaim := { program := "ytekeonenbhmejaa", sum := "1f9d55194e8f196a92d3a9adc0e122de3e6b08d95230107c2196361e0b877756", func := "loop.example/g00983/laws.FnExactPackControl", spec := "fnExactPackControl", apart := false, narrowed := true }
def FnExactPackControlUptoSaid : Prop := fnExactPackControlUptoRow.holds Try.pinned (OpenSpec.upto fnExactPackControlSpec)

/-- 'laws.FnExactUnpackControl', WHERE WHAT IT READS IS OF BULK AT MOST 1048576: true; the input reads as it did. -/
def fnExactUnpackControlUptoRow : OpenClaim := { program := "ytekeonenbhmejaa", sum := "1f9d55194e8f196a92d3a9adc0e122de3e6b08d95230107c2196361e0b877756", func := "loop.example/g00983/laws.FnExactUnpackControl", spec := "fnExactUnpackControl", apart := false, narrowed := true }
def FnExactUnpackControlUptoSaid : Prop := fnExactUnpackControlUptoRow.holds Try.pinned (OpenSpec.upto fnExactUnpackControlSpec)

/-- 'laws.FnExactMemNew', WHERE WHAT IT READS IS OF BULK AT MOST 1048576: true; the input reads as it did. -/
def fnExactMemNewUptoRow : OpenClaim := { program := "ytekeonenbhmejaa", sum := "1f9d55194e8f196a92d3a9adc0e122de3e6b08d95230107c2196361e0b877756", func := "loop.example/g00983/laws.FnExactMemNew", spec := "fnExactMemNew", apart := false, narrowed := true }
def FnExactMemNewUptoSaid : Prop := fnExactMemNewUptoRow.holds Try.pinned (OpenSpec.upto fnExactMemNewSpec)

/-- 'laws.FnExactMemOk', WHERE WHAT IT READS IS OF BULK AT MOST 1048576: true; the input reads as it did. -/
def fnExactMemOkUptoRow : OpenClaim := { program := "ytekeonenbhmejaa", sum := "1f9d55194e8f196a92d3a9adc0e122de3e6b08d95230107c2196361e0b877756", func := "loop.example/g00983/laws.FnExactMemOk", spec := "fnExactMemOk", unfollowed := true, recurses := true, apart := false, narrowed := true }
def FnExactMemOkUptoSaid : Prop := fnExactMemOkUptoRow.holds Try.pinned (OpenSpec.upto fnExactMemOkSpec)

/-- 'laws.FnExactMemVars', WHERE WHAT IT READS IS OF BULK AT MOST 1048576: true; the input reads as it did. -/
def fnExactMemVarsUptoRow : OpenClaim := { program := "ytekeonenbhmejaa", sum := "1f9d55194e8f196a92d3a9adc0e122de3e6b08d95230107c2196361e0b877756", func := "loop.example/g00983/laws.FnExactMemVars", spec := "fnExactMemVars", apart := false, narrowed := true }
def FnExactMemVarsUptoSaid : Prop := fnExactMemVarsUptoRow.holds Try.pinned (OpenSpec.upto fnExactMemVarsSpec)

/-- 'laws.FnExactMemSent', WHERE WHAT IT READS IS OF BULK AT MOST 1048576: true; the input reads as it did. -/
def fnExactMemSentUptoRow : OpenClaim := { program := "ytekeonenbhmejaa", sum := "1f9d55194e8f196a92d3a9adc0e122de3e6b08d95230107c2196361e0b877756", func := "loop.example/g00983/laws.FnExactMemSent", spec := "fnExactMemSent", apart := false, narrowed := true }
def FnExactMemSentUptoSaid : Prop := fnExactMemSentUptoRow.holds Try.pinned (OpenSpec.upto fnExactMemSentSpec)

end Rows
end Go.Proofs.Ytekeonenbhmejaa
