/-
  No cell of these rows narrows 'for every input' (looked for: loops, veiled, ifaces, maps, wideKeys, modest, calm, conditions, laid).
  DERIVED. THE GIVEN ROWS OF THIS SEAT. 4 by the template 'for every input the law returns true; each argument reads behind the call as it read before'; 0 by the template 'total and deterministic' (their statements: YtodlbbojjnkneaaTotals.lean).
  GIVEN WITH THE SEED: the statements are not yours to turn. If you find one false, say at which input.
  Laid BY PROGRAM, IN A SANDBOX (cutbox-rows.mjs): the forced cells as the released guide's own fill.sh prints them over the translation d68f8b1cbdada302… (all of the seat's roots in one cut). By AI agents, Wed Nov 11 2026. No macro, syntax, notation, axiom, sorry.
-/
import Derived.Test.YtodlbbojjnkneaaChecked
import GoSem.Claim
import GoSem.ClaimJoined
import GoSem.ClaimMapViews
import Derived.JoinedTies
import Derived.KernelRfl
namespace Go.Proofs.Ytodlbbojjnkneaa
/- THE CELL 'sum', in the pinned program and in every row, IS THE sha256 OF THE DUMP (.gsa) THAT YtodlbbojjnkneaaProg.lean LOADS. Nothing in Lean hashes anything: it is a label: what it is worth is what the hold of that sum in a sandbox is worth. -/
noncomputable def Try.pinned : Pinned := { name := "ytodlbbojjnkneaa", sum := "d68f8b1cbdada302d99c2178b73e397d172cfe9ce7977b5ccc834fed2129ad58", checked := Try.checked }
namespace Rows
def none {H : Type} : Left H := { results := [], args := [] }

/-- 'laws.FnCosts': WHATEVER THE INPUT: true; the input reads as it did. -/
def fnCostsSpec : ChangeSpec := { name := "fnCosts", fn := fun _ => fun
  | [d] => { results := [.lit (.bool true)], args := [d] }
  | _ => none }
def fnCostsRow : OpenClaim := { program := "ytodlbbojjnkneaa", sum := "d68f8b1cbdada302d99c2178b73e397d172cfe9ce7977b5ccc834fed2129ad58", func := "loop.example/g00983/laws.FnCosts", spec := "fnCosts", inPlace := ["maps.clone"], unfollowed := true, recurses := true, apart := false }
def FnCostsSaid : Prop := fnCostsRow.holds Try.pinned (OpenSpec.ofChange fnCostsSpec)

/-- ITS FALSE NEIGHBOUR: 'it returns false'. Refute it at one input. -/
def fnCostsWrong : ChangeSpec := { name := "fnCosts", fn := fun _ => fun
  | [d] => { results := [.lit (.bool false)], args := [d] }
  | _ => none }
def FnCostsWrongFalsely : Prop := fnCostsRow.holds Try.pinned (OpenSpec.ofChange fnCostsWrong)

/-- 'laws.FnExactWriteCount': WHATEVER THE INPUT: true; the input reads as it did. -/
def fnExactWriteCountSpec : ChangeSpec := { name := "fnExactWriteCount", fn := fun _ => fun
  | [d1, d2] => { results := [.lit (.bool true)], args := [d1, d2] }
  | _ => none }
def fnExactWriteCountRow : OpenClaim := { program := "ytodlbbojjnkneaa", sum := "d68f8b1cbdada302d99c2178b73e397d172cfe9ce7977b5ccc834fed2129ad58", func := "loop.example/g00983/laws.FnExactWriteCount", spec := "fnExactWriteCount", inPlace := ["maps.clone"], unfollowed := true, recurses := true, apart := false }
def FnExactWriteCountSaid : Prop := fnExactWriteCountRow.holds Try.pinned (OpenSpec.ofChange fnExactWriteCountSpec)

/-- ITS FALSE NEIGHBOUR: 'it returns false'. Refute it at one input. -/
def fnExactWriteCountWrong : ChangeSpec := { name := "fnExactWriteCount", fn := fun _ => fun
  | [d1, d2] => { results := [.lit (.bool false)], args := [d1, d2] }
  | _ => none }
def FnExactWriteCountWrongFalsely : Prop := fnExactWriteCountRow.holds Try.pinned (OpenSpec.ofChange fnExactWriteCountWrong)

/-- 'laws.FnExactRecoveryCost': WHATEVER THE INPUT: true; the input reads as it did. -/
def fnExactRecoveryCostSpec : ChangeSpec := { name := "fnExactRecoveryCost", fn := fun _ => fun
  | [d] => { results := [.lit (.bool true)], args := [d] }
  | _ => none }
def fnExactRecoveryCostRow : OpenClaim := { program := "ytodlbbojjnkneaa", sum := "d68f8b1cbdada302d99c2178b73e397d172cfe9ce7977b5ccc834fed2129ad58", func := "loop.example/g00983/laws.FnExactRecoveryCost", spec := "fnExactRecoveryCost", apart := false }
def FnExactRecoveryCostSaid : Prop := fnExactRecoveryCostRow.holds Try.pinned (OpenSpec.ofChange fnExactRecoveryCostSpec)

/-- ITS FALSE NEIGHBOUR: 'it returns false'. Refute it at one input. -/
def fnExactRecoveryCostWrong : ChangeSpec := { name := "fnExactRecoveryCost", fn := fun _ => fun
  | [d] => { results := [.lit (.bool false)], args := [d] }
  | _ => none }
def FnExactRecoveryCostWrongFalsely : Prop := fnExactRecoveryCostRow.holds Try.pinned (OpenSpec.ofChange fnExactRecoveryCostWrong)

/-- 'laws.FnExactEnergyFor': WHATEVER THE INPUT: true; the input reads as it did. -/
def fnExactEnergyForSpec : ChangeSpec := { name := "fnExactEnergyFor", fn := fun _ => fun
  | [d1, d2] => { results := [.lit (.bool true)], args := [d1, d2] }
  | _ => none }
def fnExactEnergyForRow : OpenClaim := { program := "ytodlbbojjnkneaa", sum := "d68f8b1cbdada302d99c2178b73e397d172cfe9ce7977b5ccc834fed2129ad58", func := "loop.example/g00983/laws.FnExactEnergyFor", spec := "fnExactEnergyFor", apart := false }
def FnExactEnergyForSaid : Prop := fnExactEnergyForRow.holds Try.pinned (OpenSpec.ofChange fnExactEnergyForSpec)

/-- ITS FALSE NEIGHBOUR: 'it returns false'. Refute it at one input. -/
def fnExactEnergyForWrong : ChangeSpec := { name := "fnExactEnergyFor", fn := fun _ => fun
  | [d1, d2] => { results := [.lit (.bool false)], args := [d1, d2] }
  | _ => none }
def FnExactEnergyForWrongFalsely : Prop := fnExactEnergyForRow.holds Try.pinned (OpenSpec.ofChange fnExactEnergyForWrong)

/- THE SECOND FORM. 'bulk': how many values and letters a reading holds, each counted each time it is reached (what is shared counts as often as it is met; a slice's spare places count too). A statement '..UptoSaid' is the law's where the arguments, and the package variables that the reading takes, are together of bulk at most 1048576: NARROWER than '..Said'. Prove '..Said' where nothing that the law and all that it calls make is longer than what came in: it says more and counts as full. Else prove '..UptoSaid'. A law counts once. -/
mutual
def uptoBulk {H : Type} : DataW H → Nat
  | .lit (.string bytes) => bytes.length + 1
  | .lit _ => 1
  | .nil => 1
  | .ptr d => uptoBulk d + 1
  | .slice elems spare => uptoBulkAll elems + uptoBulkAll spare + 1
  | .agg parts => uptoBulkAll parts + 1
  | .iface _ d => uptoBulk d + 1
  | .map entries => uptoBulkEntries entries + 1
  | .held _ => 1
def uptoBulkAll {H : Type} : List (DataW H) → Nat
  | [] => 0
  | d :: r => uptoBulk d + uptoBulkAll r
def uptoBulkEntries {H : Type} : List (Lit × DataW H) → Nat
  | [] => 0
  | x :: r => uptoBulkEntry x + uptoBulkEntries r
def uptoBulkEntry {H : Type} : Lit × DataW H → Nat
  | (.string bytes, d) => bytes.length + uptoBulk d + 1
  | (_, d) => uptoBulk d + 1
 end
def uptoSmall : (H : Type) → List (DataW H) → Bool := fun _ ds => decide (uptoBulkAll ds ≤ 1048576)
def OpenSpec.upto (s : _root_.Go.ChangeSpec) : _root_.Go.OpenSpec := { _root_.Go.OpenSpec.ofChange s with cond := some uptoSmall }

/-- 'laws.FnCosts', WHERE WHAT IT READS IS OF BULK AT MOST 1048576: true; the input reads as it did. -/
def fnCostsUptoRow : OpenClaim := { program := "ytodlbbojjnkneaa", sum := "d68f8b1cbdada302d99c2178b73e397d172cfe9ce7977b5ccc834fed2129ad58", func := "loop.example/g00983/laws.FnCosts", spec := "fnCosts", inPlace := ["maps.clone"], unfollowed := true, recurses := true, apart := false, narrowed := true }
def FnCostsUptoSaid : Prop := fnCostsUptoRow.holds Try.pinned (OpenSpec.upto fnCostsSpec)

/-- 'laws.FnExactWriteCount', WHERE WHAT IT READS IS OF BULK AT MOST 1048576: true; the input reads as it did. -/
def fnExactWriteCountUptoRow : OpenClaim := { program := "ytodlbbojjnkneaa", sum := "d68f8b1cbdada302d99c2178b73e397d172cfe9ce7977b5ccc834fed2129ad58", func := "loop.example/g00983/laws.FnExactWriteCount", spec := "fnExactWriteCount", inPlace := ["maps.clone"], unfollowed := true, recurses := true, apart := false, narrowed := true }
def FnExactWriteCountUptoSaid : Prop := fnExactWriteCountUptoRow.holds Try.pinned (OpenSpec.upto fnExactWriteCountSpec)

/-- 'laws.FnExactRecoveryCost', WHERE WHAT IT READS IS OF BULK AT MOST 1048576: true; the input reads as it did. -/
def fnExactRecoveryCostUptoRow : OpenClaim := { program := "ytodlbbojjnkneaa", sum := "d68f8b1cbdada302d99c2178b73e397d172cfe9ce7977b5ccc834fed2129ad58", func := "loop.example/g00983/laws.FnExactRecoveryCost", spec := "fnExactRecoveryCost", apart := false, narrowed := true }
def FnExactRecoveryCostUptoSaid : Prop := fnExactRecoveryCostUptoRow.holds Try.pinned (OpenSpec.upto fnExactRecoveryCostSpec)

/-- 'laws.FnExactEnergyFor', WHERE WHAT IT READS IS OF BULK AT MOST 1048576: true; the input reads as it did. -/
def fnExactEnergyForUptoRow : OpenClaim := { program := "ytodlbbojjnkneaa", sum := "d68f8b1cbdada302d99c2178b73e397d172cfe9ce7977b5ccc834fed2129ad58", func := "loop.example/g00983/laws.FnExactEnergyFor", spec := "fnExactEnergyFor", apart := false, narrowed := true }
def FnExactEnergyForUptoSaid : Prop := fnExactEnergyForUptoRow.holds Try.pinned (OpenSpec.upto fnExactEnergyForSpec)

end Rows
end Go.Proofs.Ytodlbbojjnkneaa
