/-
  No cell of these rows narrows 'for every input' (looked for: loops, veiled, ifaces, maps, wideKeys, modest, calm, conditions, laid).
  DERIVED. THE GIVEN ROWS OF THIS SEAT. 4 by the template 'for every input the law returns true; each argument reads behind the call as it read before'; 0 by the template 'total and deterministic' (their statements: YtekdnhhmiabngaaTotals.lean).
  GIVEN WITH THE SEED: the statements are not yours to turn. If you find one false, say at which input.
  Laid BY PROGRAM, IN A SANDBOX (cutbox-rows.mjs): the forced cells as the released guide's own fill.sh prints them over the translation 68813c7b637d8f03… (all of the seat's roots in one cut). By AI agents, Wed Nov 11 2026. No macro, syntax, notation, axiom, sorry.
-/
import Derived.Test.YtekdnhhmiabngaaChecked
import GoSem.Claim
import GoSem.ClaimJoined
import GoSem.ClaimMapViews
import Derived.JoinedTies
import Derived.KernelRfl
namespace Go.Proofs.Ytekdnhhmiabngaa
/- THE CELL 'sum', in the pinned program and in every row, IS THE sha256 OF THE DUMP (.gsa) THAT YtekdnhhmiabngaaProg.lean LOADS. Nothing in Lean hashes anything: it is a label: what it is worth is what the hold of that sum in a sandbox is worth. -/
noncomputable def Try.pinned : Pinned := { name := "ytekdnhhmiabngaa", sum := "68813c7b637d8f03ae01b966830fadf496cb0dcad74263e7418afc4ec4b6fca6", checked := Try.checked }
namespace Rows
def none {H : Type} : Left H := { results := [], args := [] }

/-- 'laws.FnLongest': WHATEVER THE INPUT: true; the input reads as it did. -/
def fnLongestSpec : ChangeSpec := { name := "fnLongest", fn := fun _ => fun
  | [d] => { results := [.lit (.bool true)], args := [d] }
  | _ => none }
def fnLongestRow : OpenClaim := { program := "ytekdnhhmiabngaa", sum := "68813c7b637d8f03ae01b966830fadf496cb0dcad74263e7418afc4ec4b6fca6", func := "loop.example/g00983/laws.FnLongest", spec := "fnLongest", unfollowed := true, recurses := true, apart := false }
def FnLongestSaid : Prop := fnLongestRow.holds Try.pinned (OpenSpec.ofChange fnLongestSpec)

/-- ITS FALSE NEIGHBOUR: 'it returns false'. Refute it at one input. -/
def fnLongestWrong : ChangeSpec := { name := "fnLongest", fn := fun _ => fun
  | [d] => { results := [.lit (.bool false)], args := [d] }
  | _ => none }
def FnLongestWrongFalsely : Prop := fnLongestRow.holds Try.pinned (OpenSpec.ofChange fnLongestWrong)

/-- 'laws.FnSenses': WHATEVER THE INPUT: true; the input reads as it did. -/
def fnSensesSpec : ChangeSpec := { name := "fnSenses", fn := fun _ => fun
  | [d] => { results := [.lit (.bool true)], args := [d] }
  | _ => none }
def fnSensesRow : OpenClaim := { program := "ytekdnhhmiabngaa", sum := "68813c7b637d8f03ae01b966830fadf496cb0dcad74263e7418afc4ec4b6fca6", func := "loop.example/g00983/laws.FnSenses", spec := "fnSenses", unfollowed := true, recurses := true, apart := false }
def FnSensesSaid : Prop := fnSensesRow.holds Try.pinned (OpenSpec.ofChange fnSensesSpec)

/-- ITS FALSE NEIGHBOUR: 'it returns false'. Refute it at one input. -/
def fnSensesWrong : ChangeSpec := { name := "fnSenses", fn := fun _ => fun
  | [d] => { results := [.lit (.bool false)], args := [d] }
  | _ => none }
def FnSensesWrongFalsely : Prop := fnSensesRow.holds Try.pinned (OpenSpec.ofChange fnSensesWrong)

/-- 'laws.FnRefParts': WHATEVER THE INPUT: true; the input reads as it did. -/
def fnRefPartsSpec : ChangeSpec := { name := "fnRefParts", fn := fun _ => fun
  | [d] => { results := [.lit (.bool true)], args := [d] }
  | _ => none }
def fnRefPartsRow : OpenClaim := { program := "ytekdnhhmiabngaa", sum := "68813c7b637d8f03ae01b966830fadf496cb0dcad74263e7418afc4ec4b6fca6", func := "loop.example/g00983/laws.FnRefParts", spec := "fnRefParts", unfollowed := true, recurses := true, apart := false }
def FnRefPartsSaid : Prop := fnRefPartsRow.holds Try.pinned (OpenSpec.ofChange fnRefPartsSpec)

/-- ITS FALSE NEIGHBOUR: 'it returns false'. Refute it at one input. -/
def fnRefPartsWrong : ChangeSpec := { name := "fnRefParts", fn := fun _ => fun
  | [d] => { results := [.lit (.bool false)], args := [d] }
  | _ => none }
def FnRefPartsWrongFalsely : Prop := fnRefPartsRow.holds Try.pinned (OpenSpec.ofChange fnRefPartsWrong)

/-- 'laws.FnRefTasks': WHATEVER THE INPUT: true; the input reads as it did. -/
def fnRefTasksSpec : ChangeSpec := { name := "fnRefTasks", fn := fun _ => fun
  | [d] => { results := [.lit (.bool true)], args := [d] }
  | _ => none }
def fnRefTasksRow : OpenClaim := { program := "ytekdnhhmiabngaa", sum := "68813c7b637d8f03ae01b966830fadf496cb0dcad74263e7418afc4ec4b6fca6", func := "loop.example/g00983/laws.FnRefTasks", spec := "fnRefTasks", unfollowed := true, recurses := true, apart := false }
def FnRefTasksSaid : Prop := fnRefTasksRow.holds Try.pinned (OpenSpec.ofChange fnRefTasksSpec)

/-- ITS FALSE NEIGHBOUR: 'it returns false'. Refute it at one input. -/
def fnRefTasksWrong : ChangeSpec := { name := "fnRefTasks", fn := fun _ => fun
  | [d] => { results := [.lit (.bool false)], args := [d] }
  | _ => none }
def FnRefTasksWrongFalsely : Prop := fnRefTasksRow.holds Try.pinned (OpenSpec.ofChange fnRefTasksWrong)

/- THE SECOND FORM. 'bulk': how many values and letters a reading holds, each counted each time it is reached (what is shared counts as often as it is met; a slice's spare places count too). A statement '..UptoSaid' is the law's where the arguments, and the package variables that the reading takes, are together of bulk at most 1048576: NARROWER than '..Said'. Prove '..Said' where nothing that the law and all that it calls make is longer than what came in: it says more and counts as full. Else prove '..UptoSaid'. A law counts once. -/
mutual
def uptoBulk {H : Type} : DataW H → Nat
  | .lit (.string bytes) => bytes.length + 1
  | .lit _ => 1
  | .nil => 1
  | .ptr d => uptoBulk d + 1
  | .slice elems spare => uptoBulkAll elems + uptoBulkAll spare + 1
  | .agg parts => uptoBulkAll parts + 1
  | .iface _ d => uptoBulk d + 1
  | .map entries => uptoBulkEntries entries + 1
  | .held _ => 1
def uptoBulkAll {H : Type} : List (DataW H) → Nat
  | [] => 0
  | d :: r => uptoBulk d + uptoBulkAll r
def uptoBulkEntries {H : Type} : List (Lit × DataW H) → Nat
  | [] => 0
  | x :: r => uptoBulkEntry x + uptoBulkEntries r
def uptoBulkEntry {H : Type} : Lit × DataW H → Nat
  | (.string bytes, d) => bytes.length + uptoBulk d + 1
  | (_, d) => uptoBulk d + 1
 end
def uptoSmall : (H : Type) → List (DataW H) → Bool := fun _ ds => decide (uptoBulkAll ds ≤ 1048576)
def OpenSpec.upto (s : _root_.Go.ChangeSpec) : _root_.Go.OpenSpec := { _root_.Go.OpenSpec.ofChange s with cond := some uptoSmall }

/-- 'laws.FnLongest', WHERE WHAT IT READS IS OF BULK AT MOST 1048576: true; the input reads as it did. -/
def fnLongestUptoRow : OpenClaim := { program := "ytekdnhhmiabngaa", sum := "68813c7b637d8f03ae01b966830fadf496cb0dcad74263e7418afc4ec4b6fca6", func := "loop.example/g00983/laws.FnLongest", spec := "fnLongest", unfollowed := true, recurses := true, apart := false, narrowed := true }
def FnLongestUptoSaid : Prop := fnLongestUptoRow.holds Try.pinned (OpenSpec.upto fnLongestSpec)

/-- 'laws.FnSenses', WHERE WHAT IT READS IS OF BULK AT MOST 1048576: true; the input reads as it did. -/
def fnSensesUptoRow : OpenClaim := { program := "ytekdnhhmiabngaa", sum := "68813c7b637d8f03ae01b966830fadf496cb0dcad74263e7418afc4ec4b6fca6", func := "loop.example/g00983/laws.FnSenses", spec := "fnSenses", unfollowed := true, recurses := true, apart := false, narrowed := true }
def FnSensesUptoSaid : Prop := fnSensesUptoRow.holds Try.pinned (OpenSpec.upto fnSensesSpec)

/-- 'laws.FnRefParts', WHERE WHAT IT READS IS OF BULK AT MOST 1048576: true; the input reads as it did. -/
def fnRefPartsUptoRow : OpenClaim := { program := "ytekdnhhmiabngaa", sum := "68813c7b637d8f03ae01b966830fadf496cb0dcad74263e7418afc4ec4b6fca6", func := "loop.example/g00983/laws.FnRefParts", spec := "fnRefParts", unfollowed := true, recurses := true, apart := false, narrowed := true }
def FnRefPartsUptoSaid : Prop := fnRefPartsUptoRow.holds Try.pinned (OpenSpec.upto fnRefPartsSpec)

/-- 'laws.FnRefTasks', WHERE WHAT IT READS IS OF BULK AT MOST 1048576: true; the input reads as it did. -/
def fnRefTasksUptoRow : OpenClaim := { program := "ytekdnhhmiabngaa", sum := "68813c7b637d8f03ae01b966830fadf496cb0dcad74263e7418afc4ec4b6fca6", func := "loop.example/g00983/laws.FnRefTasks", spec := "fnRefTasks", unfollowed := true, recurses := true, apart := false, narrowed := true }
def FnRefTasksUptoSaid : Prop := fnRefTasksUptoRow.holds Try.pinned (OpenSpec.upto fnRefTasksSpec)

end Rows
end Go.Proofs.Ytekdnhhmiabngaa
