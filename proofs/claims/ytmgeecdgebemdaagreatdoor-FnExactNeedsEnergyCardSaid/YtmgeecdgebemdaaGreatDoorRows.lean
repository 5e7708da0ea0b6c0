/-
  NARROWER THAN 'FOR EVERY INPUT', by the rows' own cells (each row's printed sentence says how): FnEnoughEnergy: laid · FnExactBootOnce: laid · FnExactNeedsEnergy: laid · FnTraces: laid · FnCounted: laid · FnExactTraceOf: laid · FnRollback: laid.
  DERIVED. THE GIVEN ROWS OF THIS SEAT. 7 by the template 'for every input the law returns true; each argument reads behind the call as it read before'; 0 by the template 'total and deterministic' (their statements: YtmgeecdgebemdaaGreatDoorTotals.lean).
  GIVEN WITH THE SEED: the statements are not yours to turn. If you find one false, say at which input.
  Laid BY PROGRAM, IN A SANDBOX (cutbox-rows.mjs): the forced cells as the released guide's own fill.sh prints them over the translation 2471f0afca2b0a49… (all of the seat's roots in one cut). By AI agents, Wed Nov 11 2026. No macro, syntax, notation, axiom, sorry.
-/
import Derived.Test.YtmgeecdgebemdaaGreatDoorChecked
import GoSem.Claim
import GoSem.ClaimJoined
import GoSem.ClaimMapViews
import Derived.JoinedTies
import Derived.KernelRfl
namespace Go.Proofs.YtmgeecdgebemdaaGreatDoor
/- THE CELL 'sum', in the pinned program and in every row, IS THE sha256 OF THE DUMP (.gsa) THAT YtmgeecdgebemdaaGreatDoorProg.lean LOADS. Nothing in Lean hashes anything: it is a label: what it is worth is what the hold of that sum in a sandbox is worth. -/
noncomputable def Tryz.pinned : Pinned := { name := "ytmgeecdgebemdaagreatdoor", sum := "2471f0afca2b0a49752864b1b5c31f00222334a77bf4bf277aa59ba39e50efa9", checked := Tryz.checked }
namespace Rows
def none {H : Type} : Left H := { results := [], args := [] }

/- WHAT THE LISTED PACKAGE-LEVEL VARIABLES READ AS WHEN THE CALL BEGINS. Each datum BY PROGRAM (the guide's laid-datum.mjs) off the statement by which the dump's own 'gosem.cut.vars' lays the variable. In a bare row this is a premise. The card (YtmgeecdgebemdaaGreatDoorCards.lean) ties it to the program's text. -/
def laid_loop_example_g00983_impl_stmtCosts {H : Type} : DataW H := .agg [.agg [.agg [.lit (.int .i64 1), .lit (.int .i64 0), .lit (.int .i64 0), .agg [.lit (.int .i64 0), .lit (.int .i64 0), .lit (.int .i64 0)]], .lit (.int .i64 2)], .agg [.agg [.lit (.int .i64 2), .lit (.int .i64 0), .lit (.int .i64 0), .agg [.lit (.int .i64 0), .lit (.int .i64 0), .lit (.int .i64 0)]], .lit (.int .i64 5)], .agg [.agg [.lit (.int .i64 3), .lit (.int .i64 0), .lit (.int .i64 0), .agg [.lit (.int .i64 0), .lit (.int .i64 0), .lit (.int .i64 0)]], .lit (.int .i64 4)], .agg [.agg [.lit (.int .i64 4), .lit (.int .i64 0), .lit (.int .i64 0), .agg [.lit (.int .i64 0), .lit (.int .i64 0), .lit (.int .i64 0)]], .lit (.int .i64 1)], .agg [.agg [.lit (.int .i64 5), .lit (.int .i64 0), .lit (.int .i64 0), .agg [.lit (.int .i64 0), .lit (.int .i64 0), .lit (.int .i64 0)]], .lit (.int .i64 1)]]

/-- 'laws.FnEnoughEnergy': WHATEVER THE INPUT: true; the input reads as it did. -/
def fnEnoughEnergySpec : ChangeSpec := { name := "fnEnoughEnergy", vars := ["loop.example/g00983/impl.stmtCosts"], fn := fun _ => fun
  | [d, g1] => { results := [.lit (.bool true)], args := [d], vars := [g1] }
  | _ => none }
def fnEnoughEnergyRow : OpenClaim := { program := "ytmgeecdgebemdaagreatdoor", sum := "2471f0afca2b0a49752864b1b5c31f00222334a77bf4bf277aa59ba39e50efa9", func := "loop.example/g00983/laws.FnEnoughEnergy", spec := "fnEnoughEnergy", inPlace := ["maps.clone"], unfollowed := true, recurses := true, named := ["loop.example/g00983/impl.stmtCosts"], apart := false, laid := [("loop.example/g00983/impl.stmtCosts", laid_loop_example_g00983_impl_stmtCosts)] }
def FnEnoughEnergySaid : Prop := fnEnoughEnergyRow.holds Tryz.pinned (OpenSpec.ofChange fnEnoughEnergySpec)

/-- ITS FALSE NEIGHBOUR: 'it returns false'. Refute it at one input. -/
def fnEnoughEnergyWrong : ChangeSpec := { name := "fnEnoughEnergy", vars := ["loop.example/g00983/impl.stmtCosts"], fn := fun _ => fun
  | [d, g1] => { results := [.lit (.bool false)], args := [d], vars := [g1] }
  | _ => none }
def FnEnoughEnergyWrongFalsely : Prop := fnEnoughEnergyRow.holds Tryz.pinned (OpenSpec.ofChange fnEnoughEnergyWrong)

/-- 'laws.FnExactBootOnce': WHATEVER THE INPUT: true; the input reads as it did. -/
def fnExactBootOnceSpec : ChangeSpec := { name := "fnExactBootOnce", vars := ["loop.example/g00983/impl.stmtCosts"], fn := fun _ => fun
  | [d1, d2, d3, d4, d5, g1] => { results := [.lit (.bool true)], args := [d1, d2, d3, d4, d5], vars := [g1] }
  | _ => none }
def fnExactBootOnceRow : OpenClaim := { program := "ytmgeecdgebemdaagreatdoor", sum := "2471f0afca2b0a49752864b1b5c31f00222334a77bf4bf277aa59ba39e50efa9", func := "loop.example/g00983/laws.FnExactBootOnce", spec := "fnExactBootOnce", inPlace := ["maps.clone"], unfollowed := true, recurses := true, named := ["loop.example/g00983/impl.stmtCosts"], apart := false, laid := [("loop.example/g00983/impl.stmtCosts", laid_loop_example_g00983_impl_stmtCosts)] }
def FnExactBootOnceSaid : Prop := fnExactBootOnceRow.holds Tryz.pinned (OpenSpec.ofChange fnExactBootOnceSpec)

/-- ITS FALSE NEIGHBOUR: 'it returns false'. Refute it at one input. -/
def fnExactBootOnceWrong : ChangeSpec := { name := "fnExactBootOnce", vars := ["loop.example/g00983/impl.stmtCosts"], fn := fun _ => fun
  | [d1, d2, d3, d4, d5, g1] => { results := [.lit (.bool false)], args := [d1, d2, d3, d4, d5], vars := [g1] }
  | _ => none }
def FnExactBootOnceWrongFalsely : Prop := fnExactBootOnceRow.holds Tryz.pinned (OpenSpec.ofChange fnExactBootOnceWrong)

/-- 'laws.FnExactNeedsEnergy': WHATEVER THE INPUT: true; the input reads as it did. -/
def fnExactNeedsEnergySpec : ChangeSpec := { name := "fnExactNeedsEnergy", vars := ["loop.example/g00983/impl.stmtCosts"], fn := fun _ => fun
  | [d1, d2, d3, d4, g1] => { results := [.lit (.bool true)], args := [d1, d2, d3, d4], vars := [g1] }
  | _ => none }
def fnExactNeedsEnergyRow : OpenClaim := { program := "ytmgeecdgebemdaagreatdoor", sum := "2471f0afca2b0a49752864b1b5c31f00222334a77bf4bf277aa59ba39e50efa9", func := "loop.example/g00983/laws.FnExactNeedsEnergy", spec := "fnExactNeedsEnergy", inPlace := ["maps.clone"], unfollowed := true, recurses := true, named := ["loop.example/g00983/impl.stmtCosts"], apart := false, laid := [("loop.example/g00983/impl.stmtCosts", laid_loop_example_g00983_impl_stmtCosts)] }
def FnExactNeedsEnergySaid : Prop := fnExactNeedsEnergyRow.holds Tryz.pinned (OpenSpec.ofChange fnExactNeedsEnergySpec)

/-- ITS FALSE NEIGHBOUR: 'it returns false'. Refute it at one input. -/
def fnExactNeedsEnergyWrong : ChangeSpec := { name := "fnExactNeedsEnergy", vars := ["loop.example/g00983/impl.stmtCosts"], fn := fun _ => fun
  | [d1, d2, d3, d4, g1] => { results := [.lit (.bool false)], args := [d1, d2, d3, d4], vars := [g1] }
  | _ => none }
def FnExactNeedsEnergyWrongFalsely : Prop := fnExactNeedsEnergyRow.holds Tryz.pinned (OpenSpec.ofChange fnExactNeedsEnergyWrong)

/-- 'laws.FnTraces': WHATEVER THE INPUT: true; the input reads as it did. -/
def fnTracesSpec : ChangeSpec := { name := "fnTraces", vars := ["loop.example/g00983/impl.stmtCosts"], fn := fun _ => fun
  | [d, g1] => { results := [.lit (.bool true)], args := [d], vars := [g1] }
  | _ => none }
def fnTracesRow : OpenClaim := { program := "ytmgeecdgebemdaagreatdoor", sum := "2471f0afca2b0a49752864b1b5c31f00222334a77bf4bf277aa59ba39e50efa9", func := "loop.example/g00983/laws.FnTraces", spec := "fnTraces", inPlace := ["maps.clone"], unfollowed := true, recurses := true, named := ["loop.example/g00983/impl.stmtCosts"], apart := false, laid := [("loop.example/g00983/impl.stmtCosts", laid_loop_example_g00983_impl_stmtCosts)] }
def FnTracesSaid : Prop := fnTracesRow.holds Tryz.pinned (OpenSpec.ofChange fnTracesSpec)

/-- ITS FALSE NEIGHBOUR: 'it returns false'. Refute it at one input. -/
def fnTracesWrong : ChangeSpec := { name := "fnTraces", vars := ["loop.example/g00983/impl.stmtCosts"], fn := fun _ => fun
  | [d, g1] => { results := [.lit (.bool false)], args := [d], vars := [g1] }
  | _ => none }
def FnTracesWrongFalsely : Prop := fnTracesRow.holds Tryz.pinned (OpenSpec.ofChange fnTracesWrong)

/-- 'laws.FnCounted': WHATEVER THE INPUT: true; the input reads as it did. -/
def fnCountedSpec : ChangeSpec := { name := "fnCounted", vars := ["loop.example/g00983/impl.stmtCosts"], fn := fun _ => fun
  | [d, g1] => { results := [.lit (.bool true)], args := [d], vars := [g1] }
  | _ => none }
def fnCountedRow : OpenClaim := { program := "ytmgeecdgebemdaagreatdoor", sum := "2471f0afca2b0a49752864b1b5c31f00222334a77bf4bf277aa59ba39e50efa9", func := "loop.example/g00983/laws.FnCounted", spec := "fnCounted", inPlace := ["maps.clone", "math/bits.Sub64"], unfollowed := true, recurses := true, named := ["loop.example/g00983/impl.stmtCosts"], apart := false, laid := [("loop.example/g00983/impl.stmtCosts", laid_loop_example_g00983_impl_stmtCosts)] }
def FnCountedSaid : Prop := fnCountedRow.holds Tryz.pinned (OpenSpec.ofChange fnCountedSpec)

/-- ITS FALSE NEIGHBOUR: 'it returns false'. Refute it at one input. -/
def fnCountedWrong : ChangeSpec := { name := "fnCounted", vars := ["loop.example/g00983/impl.stmtCosts"], fn := fun _ => fun
  | [d, g1] => { results := [.lit (.bool false)], args := [d], vars := [g1] }
  | _ => none }
def FnCountedWrongFalsely : Prop := fnCountedRow.holds Tryz.pinned (OpenSpec.ofChange fnCountedWrong)

/-- 'laws.FnExactTraceOf': WHATEVER THE INPUT: true; the input reads as it did. -/
def fnExactTraceOfSpec : ChangeSpec := { name := "fnExactTraceOf", vars := ["loop.example/g00983/impl.stmtCosts"], fn := fun _ => fun
  | [d1, d2, d3, d4, g1] => { results := [.lit (.bool true)], args := [d1, d2, d3, d4], vars := [g1] }
  | _ => none }
def fnExactTraceOfRow : OpenClaim := { program := "ytmgeecdgebemdaagreatdoor", sum := "2471f0afca2b0a49752864b1b5c31f00222334a77bf4bf277aa59ba39e50efa9", func := "loop.example/g00983/laws.FnExactTraceOf", spec := "fnExactTraceOf", inPlace := ["maps.clone"], unfollowed := true, recurses := true, named := ["loop.example/g00983/impl.stmtCosts"], apart := false, laid := [("loop.example/g00983/impl.stmtCosts", laid_loop_example_g00983_impl_stmtCosts)] }
def FnExactTraceOfSaid : Prop := fnExactTraceOfRow.holds Tryz.pinned (OpenSpec.ofChange fnExactTraceOfSpec)

/-- ITS FALSE NEIGHBOUR: 'it returns false'. Refute it at one input. -/
def fnExactTraceOfWrong : ChangeSpec := { name := "fnExactTraceOf", vars := ["loop.example/g00983/impl.stmtCosts"], fn := fun _ => fun
  | [d1, d2, d3, d4, g1] => { results := [.lit (.bool false)], args := [d1, d2, d3, d4], vars := [g1] }
  | _ => none }
def FnExactTraceOfWrongFalsely : Prop := fnExactTraceOfRow.holds Tryz.pinned (OpenSpec.ofChange fnExactTraceOfWrong)

/-- 'laws.FnRollback': WHATEVER THE INPUT: true; the input reads as it did. -/
def fnRollbackSpec : ChangeSpec := { name := "fnRollback", vars := ["loop.example/g00983/impl.stmtCosts"], fn := fun _ => fun
  | [d, g1] => { results := [.lit (.bool true)], args := [d], vars := [g1] }
  | _ => none }
def fnRollbackRow : OpenClaim := { program := "ytmgeecdgebemdaagreatdoor", sum := "2471f0afca2b0a49752864b1b5c31f00222334a77bf4bf277aa59ba39e50efa9", func := "loop.example/g00983/laws.FnRollback", spec := "fnRollback", inPlace := ["maps.clone"], unfollowed := true, recurses := true, named := ["loop.example/g00983/impl.stmtCosts"], apart := false, laid := [("loop.example/g00983/impl.stmtCosts", laid_loop_example_g00983_impl_stmtCosts)] }
def FnRollbackSaid : Prop := fnRollbackRow.holds Tryz.pinned (OpenSpec.ofChange fnRollbackSpec)

/-- ITS FALSE NEIGHBOUR: 'it returns false'. Refute it at one input. -/
def fnRollbackWrong : ChangeSpec := { name := "fnRollback", vars := ["loop.example/g00983/impl.stmtCosts"], fn := fun _ => fun
  | [d, g1] => { results := [.lit (.bool false)], args := [d], vars := [g1] }
  | _ => none }
def FnRollbackWrongFalsely : Prop := fnRollbackRow.holds Tryz.pinned (OpenSpec.ofChange fnRollbackWrong)

/- THE SECOND FORM. 'bulk': how many values and letters a reading holds, each counted each time it is reached (what is shared counts as often as it is met; a slice's spare places count too). A statement '..UptoSaid' is the law's where the arguments, and the package variables that the reading takes, are together of bulk at most 1048576: NARROWER than '..Said'. Prove '..Said' where nothing that the law and all that it calls make is longer than what came in: it says more and counts as full. Else prove '..UptoSaid'. A law counts once. -/
mutual
def uptoBulk {H : Type} : DataW H → Nat
  | .lit (.string bytes) => bytes.length + 1
  | .lit _ => 1
  | .nil => 1
  | .ptr d => uptoBulk d + 1
  | .slice elems spare => uptoBulkAll elems + uptoBulkAll spare + 1
  | .agg parts => uptoBulkAll parts + 1
  | .iface _ d => uptoBulk d + 1
  | .map entries => uptoBulkEntries entries + 1
  | .held _ => 1
def uptoBulkAll {H : Type} : List (DataW H) → Nat
  | [] => 0
  | d :: r => uptoBulk d + uptoBulkAll r
def uptoBulkEntries {H : Type} : List (Lit × DataW H) → Nat
  | [] => 0
  | x :: r => uptoBulkEntry x + uptoBulkEntries r
def uptoBulkEntry {H : Type} : Lit × DataW H → Nat
  | (.string bytes, d) => bytes.length + uptoBulk d + 1
  | (_, d) => uptoBulk d + 1
 end
def uptoSmall : (H : Type) → List (DataW H) → Bool := fun _ ds => decide (uptoBulkAll ds ≤ 1048576)
def OpenSpec.upto (s : _root_.Go.ChangeSpec) : _root_.Go.OpenSpec := { _root_.Go.OpenSpec.ofChange s with cond := some uptoSmall }

/-- 'laws.FnEnoughEnergy', WHERE WHAT IT READS IS OF BULK AT MOST 1048576: true; the input reads as it did. -/
def fnEnoughEnergyUptoRow : OpenClaim := { program := "ytmgeecdgebemdaagreatdoor", sum := "2471f0afca2b0a49752864b1b5c31f00222334a77bf4bf277aa59ba39e50efa9", func := "loop.example/g00983/laws.FnEnoughEnergy", spec := "fnEnoughEnergy", inPlace := ["maps.clone"], unfollowed := true, recurses := true, named := ["loop.example/g00983/impl.stmtCosts"], apart := false, laid := [("loop.example/g00983/impl.stmtCosts", laid_loop_example_g00983_impl_stmtCosts)], narrowed := true }
def FnEnoughEnergyUptoSaid : Prop := fnEnoughEnergyUptoRow.holds Tryz.pinned (OpenSpec.upto fnEnoughEnergySpec)

/-- 'laws.FnExactBootOnce', WHERE WHAT IT READS IS OF BULK AT MOST 1048576: true; the input reads as it did. -/
def fnExactBootOnceUptoRow : OpenClaim := { program := "ytmgeecdgebemdaagreatdoor", sum := "2471f0afca2b0a49752864b1b5c31f00222334a77bf4bf277aa59ba39e50efa9", func := "loop.example/g00983/laws.FnExactBootOnce", spec := "fnExactBootOnce", inPlace := ["maps.clone"], unfollowed := true, recurses := true, named := ["loop.example/g00983/impl.stmtCosts"], apart := false, laid := [("loop.example/g00983/impl.stmtCosts", laid_loop_example_g00983_impl_stmtCosts)], narrowed := true }
def FnExactBootOnceUptoSaid : Prop := fnExactBootOnceUptoRow.holds Tryz.pinned (OpenSpec.upto fnExactBootOnceSpec)

/-- 'laws.FnExactNeedsEnergy', WHERE WHAT IT READS IS OF BULK AT MOST 1048576: true; the input reads as it did. -/
def fnExactNeedsEnergyUptoRow : OpenClaim := { program := "ytmgeecdgebemdaagreatdoor", sum := "2471f0afca2b0a49752864b1b5c31f00222334a77bf4bf277aa59ba39e50efa9", func := "loop.example/g00983/laws.FnExactNeedsEnergy", spec := "fnExactNeedsEnergy", inPlace := ["maps.clone"], unfollowed := true, recurses := true, named := ["loop.example/g00983/impl.stmtCosts"], apart := false, laid := [("loop.example/g00983/impl.stmtCosts", laid_loop_example_g00983_impl_stmtCosts)], narrowed := true }
def FnExactNeedsEnergyUptoSaid : Prop := fnExactNeedsEnergyUptoRow.holds Tryz.pinned (OpenSpec.upto fnExactNeedsEnergySpec)

/-- 'laws.FnTraces', WHERE WHAT IT READS IS OF BULK AT MOST 1048576: true; the input reads as it did. -/
def fnTracesUptoRow : OpenClaim := { program := "ytmgeecdgebemdaagreatdoor", sum := "2471f0afca2b0a49752864b1b5c31f00222334a77bf4bf277aa59ba39e50efa9", func := "loop.example/g00983/laws.FnTraces", spec := "fnTraces", inPlace := ["maps.clone"], unfollowed := true, recurses := true, named := ["loop.example/g00983/impl.stmtCosts"], apart := false, laid := [("loop.example/g00983/impl.stmtCosts", laid_loop_example_g00983_impl_stmtCosts)], narrowed := true }
def FnTracesUptoSaid : Prop := fnTracesUptoRow.holds Tryz.pinned (OpenSpec.upto fnTracesSpec)

/-- 'laws.FnCounted', WHERE WHAT IT READS IS OF BULK AT MOST 1048576: true; the input reads as it did. -/
def fnCountedUptoRow : OpenClaim := { program := "ytmgeecdgebemdaagreatdoor", sum := "2471f0afca2b0a49752864b1b5c31f00222334a77bf4bf277aa59ba39e50efa9", func := "loop.example/g00983/laws.FnCounted", spec := "fnCounted", inPlace := ["maps.clone", "math/bits.Sub64"], unfollowed := true, recurses := true, named := ["loop.example/g00983/impl.stmtCosts"], apart := false, laid := [("loop.example/g00983/impl.stmtCosts", laid_loop_example_g00983_impl_stmtCosts)], narrowed := true }
def FnCountedUptoSaid : Prop := fnCountedUptoRow.holds Tryz.pinned (OpenSpec.upto fnCountedSpec)

/-- 'laws.FnExactTraceOf', WHERE WHAT IT READS IS OF BULK AT MOST 1048576: true; the input reads as it did. -/
def fnExactTraceOfUptoRow : OpenClaim := { program := "ytmgeecdgebemdaagreatdoor", sum := "2471f0afca2b0a49752864b1b5c31f00222334a77bf4bf277aa59ba39e50efa9", func := "loop.example/g00983/laws.FnExactTraceOf", spec := "fnExactTraceOf", inPlace := ["maps.clone"], unfollowed := true, recurses := true, named := ["loop.example/g00983/impl.stmtCosts"], apart := false, laid := [("loop.example/g00983/impl.stmtCosts", laid_loop_example_g00983_impl_stmtCosts)], narrowed := true }
def FnExactTraceOfUptoSaid : Prop := fnExactTraceOfUptoRow.holds Tryz.pinned (OpenSpec.upto fnExactTraceOfSpec)

/-- 'laws.FnRollback', WHERE WHAT IT READS IS OF BULK AT MOST 1048576: true; the input reads as it did. -/
def fnRollbackUptoRow : OpenClaim := { program := "ytmgeecdgebemdaagreatdoor", sum := "2471f0afca2b0a49752864b1b5c31f00222334a77bf4bf277aa59ba39e50efa9", func := "loop.example/g00983/laws.FnRollback", spec := "fnRollback", inPlace := ["maps.clone"], unfollowed := true, recurses := true, named := ["loop.example/g00983/impl.stmtCosts"], apart := false, laid := [("loop.example/g00983/impl.stmtCosts", laid_loop_example_g00983_impl_stmtCosts)], narrowed := true }
def FnRollbackUptoSaid : Prop := fnRollbackUptoRow.holds Tryz.pinned (OpenSpec.upto fnRollbackSpec)

end Rows
end Go.Proofs.YtmgeecdgebemdaaGreatDoor
