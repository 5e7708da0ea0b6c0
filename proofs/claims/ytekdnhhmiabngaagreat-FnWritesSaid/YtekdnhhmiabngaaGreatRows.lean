/-
  No cell of these rows narrows 'for every input' (looked for: loops, veiled, ifaces, maps, wideKeys, modest, calm, conditions, laid).
  DERIVED. THE GIVEN ROWS OF THIS SEAT. 7 by the template 'for every input the law returns true; each argument reads behind the call as it read before'; 0 by the template 'total and deterministic' (their statements: YtekdnhhmiabngaaGreatTotals.lean).
  GIVEN WITH THE SEED: the statements are not yours to turn. If you find one false, say at which input.
  Laid BY PROGRAM, IN A SANDBOX (cutbox-rows.mjs): the forced cells as the released guide's own fill.sh prints them over the translation 668cb8ec6ebf78d6… (all of the seat's roots in one cut). By AI agents, Wed Nov 11 2026. No macro, syntax, notation, axiom, sorry.
-/
import Derived.Test.YtekdnhhmiabngaaGreatChecked
import GoSem.Claim
import GoSem.ClaimJoined
import GoSem.ClaimMapViews
import Derived.JoinedTies
import Derived.KernelRfl
namespace Go.Proofs.YtekdnhhmiabngaaGreat
/- THE CELL 'sum', in the pinned program and in every row, IS THE sha256 OF THE DUMP (.gsa) THAT YtekdnhhmiabngaaGreatProg.lean LOADS. Nothing in Lean hashes anything: it is a label: what it is worth is what the hold of that sum in a sandbox is worth. -/
noncomputable def Tryz.pinned : Pinned := { name := "ytekdnhhmiabngaagreat", sum := "668cb8ec6ebf78d653d1b08dcf8d266dd103ee2ff207711af94d83e12025ef12", checked := Tryz.checked }
namespace Rows
def none {H : Type} : Left H := { results := [], args := [] }

/-- 'laws.FnWrites': WHATEVER THE INPUT: true; the input reads as it did. -/
def fnWritesSpec : ChangeSpec := { name := "fnWrites", fn := fun _ => fun
  | [d] => { results := [.lit (.bool true)], args := [d] }
  | _ => none }
def fnWritesRow : OpenClaim := { program := "ytekdnhhmiabngaagreat", sum := "668cb8ec6ebf78d653d1b08dcf8d266dd103ee2ff207711af94d83e12025ef12", func := "loop.example/g00983/laws.FnWrites", spec := "fnWrites", inPlace := ["maps.clone"], unfollowed := true, recurses := true, apart := false }
def FnWritesSaid : Prop := fnWritesRow.holds Tryz.pinned (OpenSpec.ofChange fnWritesSpec)

/-- ITS FALSE NEIGHBOUR: 'it returns false'. Refute it at one input. -/
def fnWritesWrong : ChangeSpec := { name := "fnWrites", fn := fun _ => fun
  | [d] => { results := [.lit (.bool false)], args := [d] }
  | _ => none }
def FnWritesWrongFalsely : Prop := fnWritesRow.holds Tryz.pinned (OpenSpec.ofChange fnWritesWrong)

/-- 'laws.FnReadsFirst': WHATEVER THE INPUT: true; the input reads as it did. -/
def fnReadsFirstSpec : ChangeSpec := { name := "fnReadsFirst", fn := fun _ => fun
  | [d] => { results := [.lit (.bool true)], args := [d] }
  | _ => none }
def fnReadsFirstRow : OpenClaim := { program := "ytekdnhhmiabngaagreat", sum := "668cb8ec6ebf78d653d1b08dcf8d266dd103ee2ff207711af94d83e12025ef12", func := "loop.example/g00983/laws.FnReadsFirst", spec := "fnReadsFirst", inPlace := ["maps.clone"], unfollowed := true, recurses := true, apart := false }
def FnReadsFirstSaid : Prop := fnReadsFirstRow.holds Tryz.pinned (OpenSpec.ofChange fnReadsFirstSpec)

/-- ITS FALSE NEIGHBOUR: 'it returns false'. Refute it at one input. -/
def fnReadsFirstWrong : ChangeSpec := { name := "fnReadsFirst", fn := fun _ => fun
  | [d] => { results := [.lit (.bool false)], args := [d] }
  | _ => none }
def FnReadsFirstWrongFalsely : Prop := fnReadsFirstRow.holds Tryz.pinned (OpenSpec.ofChange fnReadsFirstWrong)

/-- 'laws.FnUnlogged': WHATEVER THE INPUT: true; the input reads as it did. -/
def fnUnloggedSpec : ChangeSpec := { name := "fnUnlogged", fn := fun _ => fun
  | [d] => { results := [.lit (.bool true)], args := [d] }
  | _ => none }
def fnUnloggedRow : OpenClaim := { program := "ytekdnhhmiabngaagreat", sum := "668cb8ec6ebf78d653d1b08dcf8d266dd103ee2ff207711af94d83e12025ef12", func := "loop.example/g00983/laws.FnUnlogged", spec := "fnUnlogged", inPlace := ["maps.clone"], unfollowed := true, recurses := true, apart := false }
def FnUnloggedSaid : Prop := fnUnloggedRow.holds Tryz.pinned (OpenSpec.ofChange fnUnloggedSpec)

/-- ITS FALSE NEIGHBOUR: 'it returns false'. Refute it at one input. -/
def fnUnloggedWrong : ChangeSpec := { name := "fnUnlogged", fn := fun _ => fun
  | [d] => { results := [.lit (.bool false)], args := [d] }
  | _ => none }
def FnUnloggedWrongFalsely : Prop := fnUnloggedRow.holds Tryz.pinned (OpenSpec.ofChange fnUnloggedWrong)

/-- 'laws.FnExactTaskEffect': WHATEVER THE INPUT: true; the input reads as it did. -/
def fnExactTaskEffectSpec : ChangeSpec := { name := "fnExactTaskEffect", fn := fun _ => fun
  | [d1, d2, d3, d4] => { results := [.lit (.bool true)], args := [d1, d2, d3, d4] }
  | _ => none }
def fnExactTaskEffectRow : OpenClaim := { program := "ytekdnhhmiabngaagreat", sum := "668cb8ec6ebf78d653d1b08dcf8d266dd103ee2ff207711af94d83e12025ef12", func := "loop.example/g00983/laws.FnExactTaskEffect", spec := "fnExactTaskEffect", unfollowed := true, recurses := true, apart := false }
def FnExactTaskEffectSaid : Prop := fnExactTaskEffectRow.holds Tryz.pinned (OpenSpec.ofChange fnExactTaskEffectSpec)

/-- ITS FALSE NEIGHBOUR: 'it returns false'. Refute it at one input. -/
def fnExactTaskEffectWrong : ChangeSpec := { name := "fnExactTaskEffect", fn := fun _ => fun
  | [d1, d2, d3, d4] => { results := [.lit (.bool false)], args := [d1, d2, d3, d4] }
  | _ => none }
def FnExactTaskEffectWrongFalsely : Prop := fnExactTaskEffectRow.holds Tryz.pinned (OpenSpec.ofChange fnExactTaskEffectWrong)

/-- 'laws.FnExactSensesOf': WHATEVER THE INPUT: true; the input reads as it did. -/
def fnExactSensesOfSpec : ChangeSpec := { name := "fnExactSensesOf", fn := fun _ => fun
  | [d1, d2, d3, d4, d5] => { results := [.lit (.bool true)], args := [d1, d2, d3, d4, d5] }
  | _ => none }
def fnExactSensesOfRow : OpenClaim := { program := "ytekdnhhmiabngaagreat", sum := "668cb8ec6ebf78d653d1b08dcf8d266dd103ee2ff207711af94d83e12025ef12", func := "loop.example/g00983/laws.FnExactSensesOf", spec := "fnExactSensesOf", unfollowed := true, recurses := true, apart := false }
def FnExactSensesOfSaid : Prop := fnExactSensesOfRow.holds Tryz.pinned (OpenSpec.ofChange fnExactSensesOfSpec)

/-- ITS FALSE NEIGHBOUR: 'it returns false'. Refute it at one input. -/
def fnExactSensesOfWrong : ChangeSpec := { name := "fnExactSensesOf", fn := fun _ => fun
  | [d1, d2, d3, d4, d5] => { results := [.lit (.bool false)], args := [d1, d2, d3, d4, d5] }
  | _ => none }
def FnExactSensesOfWrongFalsely : Prop := fnExactSensesOfRow.holds Tryz.pinned (OpenSpec.ofChange fnExactSensesOfWrong)

/-- 'laws.FnExactRefRun': WHATEVER THE INPUT: true; the input reads as it did. -/
def fnExactRefRunSpec : ChangeSpec := { name := "fnExactRefRun", fn := fun _ => fun
  | [d1, d2, d3, d4] => { results := [.lit (.bool true)], args := [d1, d2, d3, d4] }
  | _ => none }
def fnExactRefRunRow : OpenClaim := { program := "ytekdnhhmiabngaagreat", sum := "668cb8ec6ebf78d653d1b08dcf8d266dd103ee2ff207711af94d83e12025ef12", func := "loop.example/g00983/laws.FnExactRefRun", spec := "fnExactRefRun", unfollowed := true, recurses := true, apart := false }
def FnExactRefRunSaid : Prop := fnExactRefRunRow.holds Tryz.pinned (OpenSpec.ofChange fnExactRefRunSpec)

/-- ITS FALSE NEIGHBOUR: 'it returns false'. Refute it at one input. -/
def fnExactRefRunWrong : ChangeSpec := { name := "fnExactRefRun", fn := fun _ => fun
  | [d1, d2, d3, d4] => { results := [.lit (.bool false)], args := [d1, d2, d3, d4] }
  | _ => none }
def FnExactRefRunWrongFalsely : Prop := fnExactRefRunRow.holds Tryz.pinned (OpenSpec.ofChange fnExactRefRunWrong)

/-- 'laws.FnExactRefTasks': WHATEVER THE INPUT: true; the input reads as it did. -/
def fnExactRefTasksSpec : ChangeSpec := { name := "fnExactRefTasks", fn := fun _ => fun
  | [d1, d2, d3, d4] => { results := [.lit (.bool true)], args := [d1, d2, d3, d4] }
  | _ => none }
def fnExactRefTasksRow : OpenClaim := { program := "ytekdnhhmiabngaagreat", sum := "668cb8ec6ebf78d653d1b08dcf8d266dd103ee2ff207711af94d83e12025ef12", func := "loop.example/g00983/laws.FnExactRefTasks", spec := "fnExactRefTasks", unfollowed := true, recurses := true, apart := false }
def FnExactRefTasksSaid : Prop := fnExactRefTasksRow.holds Tryz.pinned (OpenSpec.ofChange fnExactRefTasksSpec)

/-- ITS FALSE NEIGHBOUR: 'it returns false'. Refute it at one input. -/
def fnExactRefTasksWrong : ChangeSpec := { name := "fnExactRefTasks", fn := fun _ => fun
  | [d1, d2, d3, d4] => { results := [.lit (.bool false)], args := [d1, d2, d3, d4] }
  | _ => none }
def FnExactRefTasksWrongFalsely : Prop := fnExactRefTasksRow.holds Tryz.pinned (OpenSpec.ofChange fnExactRefTasksWrong)

/- THE SECOND FORM. 'bulk': how many values and letters a reading holds, each counted each time it is reached (what is shared counts as often as it is met; a slice's spare places count too). A statement '..UptoSaid' is the law's where the arguments, and the package variables that the reading takes, are together of bulk at most 1048576: NARROWER than '..Said'. Prove '..Said' where nothing that the law and all that it calls make is longer than what came in: it says more and counts as full. Else prove '..UptoSaid'. A law counts once. -/
mutual
def uptoBulk {H : Type} : DataW H → Nat
  | .lit (.string bytes) => bytes.length + 1
  | .lit _ => 1
  | .nil => 1
  | .ptr d => uptoBulk d + 1
  | .slice elems spare => uptoBulkAll elems + uptoBulkAll spare + 1
  | .agg parts => uptoBulkAll parts + 1
  | .iface _ d => uptoBulk d + 1
  | .map entries => uptoBulkEntries entries + 1
  | .held _ => 1
def uptoBulkAll {H : Type} : List (DataW H) → Nat
  | [] => 0
  | d :: r => uptoBulk d + uptoBulkAll r
def uptoBulkEntries {H : Type} : List (Lit × DataW H) → Nat
  | [] => 0
  | x :: r => uptoBulkEntry x + uptoBulkEntries r
def uptoBulkEntry {H : Type} : Lit × DataW H → Nat
  | (.string bytes, d) => bytes.length + uptoBulk d + 1
  | (_, d) => uptoBulk d + 1
 end
def uptoSmall : (H : Type) → List (DataW H) → Bool := fun _ ds => decide (uptoBulkAll ds ≤ 1048576)
def OpenSpec.upto (s : _root_.Go.ChangeSpec) : _root_.Go.OpenSpec := { _root_.Go.OpenSpec.ofChange s with cond := some uptoSmall }

/-- 'laws.FnWrites', WHERE WHAT IT READS IS OF BULK AT MOST 1048576: true; the input reads as it did. -/
def fnWritesUptoRow : OpenClaim := { program := "ytekdnhhmiabngaagreat", sum := "668cb8ec6ebf78d653d1b08dcf8d266dd103ee2ff207711af94d83e12025ef12", func := "loop.example/g00983/laws.FnWrites", spec := "fnWrites", inPlace := ["maps.clone"], unfollowed := true, recurses := true, apart := false, narrowed := true }
def FnWritesUptoSaid : Prop := fnWritesUptoRow.holds Tryz.pinned (OpenSpec.upto fnWritesSpec)

/-- 'laws.FnReadsFirst', WHERE WHAT IT READS IS OF BULK AT MOST 1048576: true; the input reads as it did. -/
def fnReadsFirstUptoRow : OpenClaim := { program := "ytekdnhhmiabngaagreat", sum := "668cb8ec6ebf78d653d1b08dcf8d266dd103ee2ff207711af94d83e12025ef12", func := "loop.example/g00983/laws.FnReadsFirst", spec := "fnReadsFirst", inPlace := ["maps.clone"], unfollowed := true, recurses := true, apart := false, narrowed := true }
def FnReadsFirstUptoSaid : Prop := fnReadsFirstUptoRow.holds Tryz.pinned (OpenSpec.upto fnReadsFirstSpec)

/-- 'laws.FnUnlogged', WHERE WHAT IT READS IS OF BULK AT MOST 1048576: true; the input reads as it did. -/
def fnUnloggedUptoRow : OpenClaim := { program := "ytekdnhhmiabngaagreat", sum := "668cb8ec6ebf78d653d1b08dcf8d266dd103ee2ff207711af94d83e12025ef12", func := "loop.example/g00983/laws.FnUnlogged", spec := "fnUnlogged", inPlace := ["maps.clone"], unfollowed := true, recurses := true, apart := false, narrowed := true }
def FnUnloggedUptoSaid : Prop := fnUnloggedUptoRow.holds Tryz.pinned (OpenSpec.upto fnUnloggedSpec)

/-- 'laws.FnExactTaskEffect', WHERE WHAT IT READS IS OF BULK AT MOST 1048576: true; the input reads as it did. -/
def fnExactTaskEffectUptoRow : OpenClaim := { program := "ytekdnhhmiabngaagreat", sum := "668cb8ec6ebf78d653d1b08dcf8d266dd103ee2ff207711af94d83e12025ef12", func := "loop.example/g00983/laws.FnExactTaskEffect", spec := "fnExactTaskEffect", unfollowed := true, recurses := true, apart := false, narrowed := true }
def FnExactTaskEffectUptoSaid : Prop := fnExactTaskEffectUptoRow.holds Tryz.pinned (OpenSpec.upto fnExactTaskEffectSpec)

/-- 'laws.FnExactSensesOf', WHERE WHAT IT READS IS OF BULK AT MOST 1048576: true; the input reads as it did. -/
def fnExactSensesOfUptoRow : OpenClaim := { program := "ytekdnhhmiabngaagreat", sum := "668cb8ec6ebf78d653d1b08dcf8d266dd103ee2ff207711af94d83e12025ef12", func := "loop.example/g00983/laws.FnExactSensesOf", spec := "fnExactSensesOf", unfollowed := true, recurses := true, apart := false, narrowed := true }
def FnExactSensesOfUptoSaid : Prop := fnExactSensesOfUptoRow.holds Tryz.pinned (OpenSpec.upto fnExactSensesOfSpec)

/-- 'laws.FnExactRefRun', WHERE WHAT IT READS IS OF BULK AT MOST 1048576: true; the input reads as it did. -/
def fnExactRefRunUptoRow : OpenClaim := { program := "ytekdnhhmiabngaagreat", sum := "668cb8ec6ebf78d653d1b08dcf8d266dd103ee2ff207711af94d83e12025ef12", func := "loop.example/g00983/laws.FnExactRefRun", spec := "fnExactRefRun", unfollowed := true, recurses := true, apart := false, narrowed := true }
def FnExactRefRunUptoSaid : Prop := fnExactRefRunUptoRow.holds Tryz.pinned (OpenSpec.upto fnExactRefRunSpec)

/-- 'laws.FnExactRefTasks', WHERE WHAT IT READS IS OF BULK AT MOST 1048576: true; the input reads as it did. -/
def fnExactRefTasksUptoRow : OpenClaim := { program := "ytekdnhhmiabngaagreat", sum := "668cb8ec6ebf78d653d1b08dcf8d266dd103ee2ff207711af94d83e12025ef12", func := "loop.example/g00983/laws.FnExactRefTasks", spec := "fnExactRefTasks", unfollowed := true, recurses := true, apart := false, narrowed := true }
def FnExactRefTasksUptoSaid : Prop := fnExactRefTasksUptoRow.holds Tryz.pinned (OpenSpec.upto fnExactRefTasksSpec)

end Rows
end Go.Proofs.YtekdnhhmiabngaaGreat
