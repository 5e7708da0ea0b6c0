/-
  No cell of these rows narrows 'for every input' (looked for: loops, veiled, ifaces, maps, wideKeys, modest, calm, conditions, laid).
  DERIVED. THE GIVEN ROWS OF THIS SEAT. 6 by the template 'for every input the law returns true; each argument reads behind the call as it read before'; 0 by the template 'total and deterministic' (their statements: YtndpadnjjbbkkaaTotals.lean).
  GIVEN WITH THE SEED: the statements are not yours to turn. If you find one false, say at which input.
  Laid BY PROGRAM, IN A SANDBOX (cutbox-rows.mjs): the forced cells as the released guide's own fill.sh prints them over the translation 68ec65c266298cc4… (all of the seat's roots in one cut). By AI agents, Wed Nov 11 2026. No macro, syntax, notation, axiom, sorry.
-/
import Derived.Test.YtndpadnjjbbkkaaChecked
import GoSem.Claim
import GoSem.ClaimJoined
import GoSem.ClaimMapViews
import Derived.JoinedTies
import Derived.KernelRfl
namespace Go.Proofs.Ytndpadnjjbbkkaa
/- THE CELL 'sum', in the pinned program and in every row, IS THE sha256 OF THE DUMP (.gsa) THAT YtndpadnjjbbkkaaProg.lean LOADS. Nothing in Lean hashes anything: it is a label: what it is worth is what the hold of that sum in a sandbox is worth. -/
noncomputable def Try.pinned : Pinned := { name := "ytndpadnjjbbkkaa", sum := "68ec65c266298cc4b028cbd14a29ae1d519eb57660e57a40a95ee8eff775b4a7", checked := Try.checked }
namespace Rows
def none {H : Type} : Left H := { results := [], args := [] }

/-- 'laws.FnExactReadSensor': WHATEVER THE INPUT: true; the input reads as it did. -/
def fnExactReadSensorSpec : ChangeSpec := { name := "fnExactReadSensor", fn := fun _ => fun
  | [d1, d2, d3] => { results := [.lit (.bool true)], args := [d1, d2, d3] }
  | _ => none }
def fnExactReadSensorRow : OpenClaim := { program := "ytndpadnjjbbkkaa", sum := "68ec65c266298cc4b028cbd14a29ae1d519eb57660e57a40a95ee8eff775b4a7", func := "loop.example/g00983/laws.FnExactReadSensor", spec := "fnExactReadSensor", apart := false }
def FnExactReadSensorSaid : Prop := fnExactReadSensorRow.holds Try.pinned (OpenSpec.ofChange fnExactReadSensorSpec)

/-- ITS FALSE NEIGHBOUR: 'it returns false'. Refute it at one input. -/
def fnExactReadSensorWrong : ChangeSpec := { name := "fnExactReadSensor", fn := fun _ => fun
  | [d1, d2, d3] => { results := [.lit (.bool false)], args := [d1, d2, d3] }
  | _ => none }
def FnExactReadSensorWrongFalsely : Prop := fnExactReadSensorRow.holds Try.pinned (OpenSpec.ofChange fnExactReadSensorWrong)

/-- 'laws.FnSenses': WHATEVER THE INPUT: true; the input reads as it did. -/
def fnSensesSpec : ChangeSpec := { name := "fnSenses", fn := fun _ => fun
  | [d] => { results := [.lit (.bool true)], args := [d] }
  | _ => none }
def fnSensesRow : OpenClaim := { program := "ytndpadnjjbbkkaa", sum := "68ec65c266298cc4b028cbd14a29ae1d519eb57660e57a40a95ee8eff775b4a7", func := "loop.example/g00983/laws.FnSenses", spec := "fnSenses", unfollowed := true, recurses := true, apart := false }
def FnSensesSaid : Prop := fnSensesRow.holds Try.pinned (OpenSpec.ofChange fnSensesSpec)

/-- ITS FALSE NEIGHBOUR: 'it returns false'. Refute it at one input. -/
def fnSensesWrong : ChangeSpec := { name := "fnSenses", fn := fun _ => fun
  | [d] => { results := [.lit (.bool false)], args := [d] }
  | _ => none }
def FnSensesWrongFalsely : Prop := fnSensesRow.holds Try.pinned (OpenSpec.ofChange fnSensesWrong)

/-- 'laws.FnReadings': WHATEVER THE INPUT: true; the input reads as it did. -/
def fnReadingsSpec : ChangeSpec := { name := "fnReadings", fn := fun _ => fun
  | [d] => { results := [.lit (.bool true)], args := [d] }
  | _ => none }
def fnReadingsRow : OpenClaim := { program := "ytndpadnjjbbkkaa", sum := "68ec65c266298cc4b028cbd14a29ae1d519eb57660e57a40a95ee8eff775b4a7", func := "loop.example/g00983/laws.FnReadings", spec := "fnReadings", apart := false }
def FnReadingsSaid : Prop := fnReadingsRow.holds Try.pinned (OpenSpec.ofChange fnReadingsSpec)

/-- ITS FALSE NEIGHBOUR: 'it returns false'. Refute it at one input. -/
def fnReadingsWrong : ChangeSpec := { name := "fnReadings", fn := fun _ => fun
  | [d] => { results := [.lit (.bool false)], args := [d] }
  | _ => none }
def FnReadingsWrongFalsely : Prop := fnReadingsRow.holds Try.pinned (OpenSpec.ofChange fnReadingsWrong)

/-- 'laws.FnLongest': WHATEVER THE INPUT: true; the input reads as it did. -/
def fnLongestSpec : ChangeSpec := { name := "fnLongest", fn := fun _ => fun
  | [d] => { results := [.lit (.bool true)], args := [d] }
  | _ => none }
def fnLongestRow : OpenClaim := { program := "ytndpadnjjbbkkaa", sum := "68ec65c266298cc4b028cbd14a29ae1d519eb57660e57a40a95ee8eff775b4a7", func := "loop.example/g00983/laws.FnLongest", spec := "fnLongest", unfollowed := true, recurses := true, apart := false }
def FnLongestSaid : Prop := fnLongestRow.holds Try.pinned (OpenSpec.ofChange fnLongestSpec)

/-- ITS FALSE NEIGHBOUR: 'it returns false'. Refute it at one input. -/
def fnLongestWrong : ChangeSpec := { name := "fnLongest", fn := fun _ => fun
  | [d] => { results := [.lit (.bool false)], args := [d] }
  | _ => none }
def FnLongestWrongFalsely : Prop := fnLongestRow.holds Try.pinned (OpenSpec.ofChange fnLongestWrong)

/-- 'laws.FnExactNextTask': WHATEVER THE INPUT: true; the input reads as it did. -/
def fnExactNextTaskSpec : ChangeSpec := { name := "fnExactNextTask", fn := fun _ => fun
  | [d1, d2, d3] => { results := [.lit (.bool true)], args := [d1, d2, d3] }
  | _ => none }
def fnExactNextTaskRow : OpenClaim := { program := "ytndpadnjjbbkkaa", sum := "68ec65c266298cc4b028cbd14a29ae1d519eb57660e57a40a95ee8eff775b4a7", func := "loop.example/g00983/laws.FnExactNextTask", spec := "fnExactNextTask", unfollowed := true, recurses := true, apart := false }
def FnExactNextTaskSaid : Prop := fnExactNextTaskRow.holds Try.pinned (OpenSpec.ofChange fnExactNextTaskSpec)

/-- ITS FALSE NEIGHBOUR: 'it returns false'. Refute it at one input. -/
def fnExactNextTaskWrong : ChangeSpec := { name := "fnExactNextTask", fn := fun _ => fun
  | [d1, d2, d3] => { results := [.lit (.bool false)], args := [d1, d2, d3] }
  | _ => none }
def FnExactNextTaskWrongFalsely : Prop := fnExactNextTaskRow.holds Try.pinned (OpenSpec.ofChange fnExactNextTaskWrong)

/-- 'laws.FnNextTasks': WHATEVER THE INPUT: true; the input reads as it did. -/
def fnNextTasksSpec : ChangeSpec := { name := "fnNextTasks", fn := fun _ => fun
  | [d] => { results := [.lit (.bool true)], args := [d] }
  | _ => none }
def fnNextTasksRow : OpenClaim := { program := "ytndpadnjjbbkkaa", sum := "68ec65c266298cc4b028cbd14a29ae1d519eb57660e57a40a95ee8eff775b4a7", func := "loop.example/g00983/laws.FnNextTasks", spec := "fnNextTasks", unfollowed := true, recurses := true, apart := false }
def FnNextTasksSaid : Prop := fnNextTasksRow.holds Try.pinned (OpenSpec.ofChange fnNextTasksSpec)

/-- ITS FALSE NEIGHBOUR: 'it returns false'. Refute it at one input. -/
def fnNextTasksWrong : ChangeSpec := { name := "fnNextTasks", fn := fun _ => fun
  | [d] => { results := [.lit (.bool false)], args := [d] }
  | _ => none }
def FnNextTasksWrongFalsely : Prop := fnNextTasksRow.holds Try.pinned (OpenSpec.ofChange fnNextTasksWrong)

/- THE SECOND FORM. 'bulk': how many values and letters a reading holds, each counted each time it is reached (what is shared counts as often as it is met; a slice's spare places count too). A statement '..UptoSaid' is the law's where the arguments, and the package variables that the reading takes, are together of bulk at most 1048576: NARROWER than '..Said'. Prove '..Said' where nothing that the law and all that it calls make is longer than what came in: it says more and counts as full. Else prove '..UptoSaid'. A law counts once. -/
mutual
def uptoBulk {H : Type} : DataW H → Nat
  | .lit (.string bytes) => bytes.length + 1
  | .lit _ => 1
  | .nil => 1
  | .ptr d => uptoBulk d + 1
  | .slice elems spare => uptoBulkAll elems + uptoBulkAll spare + 1
  | .agg parts => uptoBulkAll parts + 1
  | .iface _ d => uptoBulk d + 1
  | .map entries => uptoBulkEntries entries + 1
  | .held _ => 1
def uptoBulkAll {H : Type} : List (DataW H) → Nat
  | [] => 0
  | d :: r => uptoBulk d + uptoBulkAll r
def uptoBulkEntries {H : Type} : List (Lit × DataW H) → Nat
  | [] => 0
  | x :: r => uptoBulkEntry x + uptoBulkEntries r
def uptoBulkEntry {H : Type} : Lit × DataW H → Nat
  | (.string bytes, d) => bytes.length + uptoBulk d + 1
  | (_, d) => uptoBulk d + 1
 end
def uptoSmall : (H : Type) → List (DataW H) → Bool := fun _ ds => decide (uptoBulkAll ds ≤ 1048576)
def OpenSpec.upto (s : _root_.Go.ChangeSpec) : _root_.Go.OpenSpec := { _root_.Go.OpenSpec.ofChange s with cond := some uptoSmall }

/-- 'laws.FnExactReadSensor', WHERE WHAT IT READS IS OF BULK AT MOST 1048576: true; the input reads as it did. -/
def fnExactReadSensorUptoRow : OpenClaim := { program := "ytndpadnjjbbkkaa", sum := "68ec65c266298cc4b028cbd14a29ae1d519eb57660e57a40a95ee8eff775b4a7", func := "loop.example/g00983/laws.FnExactReadSensor", spec := "fnExactReadSensor", apart := false, narrowed := true }
def FnExactReadSensorUptoSaid : Prop := fnExactReadSensorUptoRow.holds Try.pinned (OpenSpec.upto fnExactReadSensorSpec)

/-- 'laws.FnSenses', WHERE WHAT IT READS IS OF BULK AT MOST 1048576: true; the input reads as it did. -/
def fnSensesUptoRow : OpenClaim := { program := "ytndpadnjjbbkkaa", sum := "68ec65c266298cc4b028cbd14a29ae1d519eb57660e57a40a95ee8eff775b4a7", func := "loop.example/g00983/laws.FnSenses", spec := "fnSenses", unfollowed := true, recurses := true, apart := false, narrowed := true }
def FnSensesUptoSaid : Prop := fnSensesUptoRow.holds Try.pinned (OpenSpec.upto fnSensesSpec)

/-- 'laws.FnReadings', WHERE WHAT IT READS IS OF BULK AT MOST 1048576: true; the input reads as it did. -/
def fnReadingsUptoRow : OpenClaim := { program := "ytndpadnjjbbkkaa", sum := "68ec65c266298cc4b028cbd14a29ae1d519eb57660e57a40a95ee8eff775b4a7", func := "loop.example/g00983/laws.FnReadings", spec := "fnReadings", apart := false, narrowed := true }
def FnReadingsUptoSaid : Prop := fnReadingsUptoRow.holds Try.pinned (OpenSpec.upto fnReadingsSpec)

/-- 'laws.FnLongest', WHERE WHAT IT READS IS OF BULK AT MOST 1048576: true; the input reads as it did. -/
def fnLongestUptoRow : OpenClaim := { program := "ytndpadnjjbbkkaa", sum := "68ec65c266298cc4b028cbd14a29ae1d519eb57660e57a40a95ee8eff775b4a7", func := "loop.example/g00983/laws.FnLongest", spec := "fnLongest", unfollowed := true, recurses := true, apart := false, narrowed := true }
def FnLongestUptoSaid : Prop := fnLongestUptoRow.holds Try.pinned (OpenSpec.upto fnLongestSpec)

/-- 'laws.FnExactNextTask', WHERE WHAT IT READS IS OF BULK AT MOST 1048576: true; the input reads as it did. -/
def fnExactNextTaskUptoRow : OpenClaim := { program := "ytndpadnjjbbkkaa", sum := "68ec65c266298cc4b028cbd14a29ae1d519eb57660e57a40a95ee8eff775b4a7", func := "loop.example/g00983/laws.FnExactNextTask", spec := "fnExactNextTask", unfollowed := true, recurses := true, apart := false, narrowed := true }
def FnExactNextTaskUptoSaid : Prop := fnExactNextTaskUptoRow.holds Try.pinned (OpenSpec.upto fnExactNextTaskSpec)

/-- 'laws.FnNextTasks', WHERE WHAT IT READS IS OF BULK AT MOST 1048576: true; the input reads as it did. -/
def fnNextTasksUptoRow : OpenClaim := { program := "ytndpadnjjbbkkaa", sum := "68ec65c266298cc4b028cbd14a29ae1d519eb57660e57a40a95ee8eff775b4a7", func := "loop.example/g00983/laws.FnNextTasks", spec := "fnNextTasks", unfollowed := true, recurses := true, apart := false, narrowed := true }
def FnNextTasksUptoSaid : Prop := fnNextTasksUptoRow.holds Try.pinned (OpenSpec.upto fnNextTasksSpec)

end Rows
end Go.Proofs.Ytndpadnjjbbkkaa
