/-
  No cell of these rows narrows 'for every input' (looked for: loops, veiled, ifaces, maps, wideKeys, modest, calm, conditions, laid).
  DERIVED. THE GIVEN ROWS OF THIS SEAT. 6 by the template 'for every input the law returns true; each argument reads behind the call as it read before'; 0 by the template 'total and deterministic' (their statements: YtmanplejhcjnaaaTotals.lean).
  GIVEN WITH THE SEED: the statements are not yours to turn. If you find one false, say at which input.
  Laid BY PROGRAM, IN A SANDBOX (cutbox-rows.mjs): the forced cells as the released guide's own fill.sh prints them over the translation 82c9b7bf73fe80f6… (all of the seat's roots in one cut). By AI agents, Wed Nov 11 2026. No macro, syntax, notation, axiom, sorry.
-/
import Derived.Test.YtmanplejhcjnaaaChecked
import GoSem.Claim
import GoSem.ClaimJoined
import GoSem.ClaimMapViews
import Derived.JoinedTies
import Derived.KernelRfl
namespace Go.Proofs.Ytmanplejhcjnaaa
/- THE CELL 'sum', in the pinned program and in every row, IS THE sha256 OF THE DUMP (.gsa) THAT YtmanplejhcjnaaaProg.lean LOADS. Nothing in Lean hashes anything: it is a label: what it is worth is what the hold of that sum in a sandbox is worth. -/
noncomputable def Try.pinned : Pinned := { name := "ytmanplejhcjnaaa", sum := "82c9b7bf73fe80f652b08ba13140622ebf8a704b292d544a2a2872ef87ede77b", checked := Try.checked }
namespace Rows
def none {H : Type} : Left H := { results := [], args := [] }

/-- 'laws.FnParts': WHATEVER THE INPUT: true; the input reads as it did. -/
def fnPartsSpec : ChangeSpec := { name := "fnParts", fn := fun _ => fun
  | [d] => { results := [.lit (.bool true)], args := [d] }
  | _ => none }
def fnPartsRow : OpenClaim := { program := "ytmanplejhcjnaaa", sum := "82c9b7bf73fe80f652b08ba13140622ebf8a704b292d544a2a2872ef87ede77b", func := "loop.example/g00983/laws.FnParts", spec := "fnParts", recurses := true, apart := false }
def FnPartsSaid : Prop := fnPartsRow.holds Try.pinned (OpenSpec.ofChange fnPartsSpec)

/-- ITS FALSE NEIGHBOUR: 'it returns false'. Refute it at one input. -/
def fnPartsWrong : ChangeSpec := { name := "fnParts", fn := fun _ => fun
  | [d] => { results := [.lit (.bool false)], args := [d] }
  | _ => none }
def FnPartsWrongFalsely : Prop := fnPartsRow.holds Try.pinned (OpenSpec.ofChange fnPartsWrong)

/-- 'laws.FnTouched': WHATEVER THE INPUT: true; the input reads as it did. -/
def fnTouchedSpec : ChangeSpec := { name := "fnTouched", fn := fun _ => fun
  | [d] => { results := [.lit (.bool true)], args := [d] }
  | _ => none }
def fnTouchedRow : OpenClaim := { program := "ytmanplejhcjnaaa", sum := "82c9b7bf73fe80f652b08ba13140622ebf8a704b292d544a2a2872ef87ede77b", func := "loop.example/g00983/laws.FnTouched", spec := "fnTouched", recurses := true, apart := false }
def FnTouchedSaid : Prop := fnTouchedRow.holds Try.pinned (OpenSpec.ofChange fnTouchedSpec)

/-- ITS FALSE NEIGHBOUR: 'it returns false'. Refute it at one input. -/
def fnTouchedWrong : ChangeSpec := { name := "fnTouched", fn := fun _ => fun
  | [d] => { results := [.lit (.bool false)], args := [d] }
  | _ => none }
def FnTouchedWrongFalsely : Prop := fnTouchedRow.holds Try.pinned (OpenSpec.ofChange fnTouchedWrong)

/-- 'laws.FnExactWriteWord': WHATEVER THE INPUT: true; the input reads as it did. -/
def fnExactWriteWordSpec : ChangeSpec := { name := "fnExactWriteWord", fn := fun _ => fun
  | [d1, d2] => { results := [.lit (.bool true)], args := [d1, d2] }
  | _ => none }
def fnExactWriteWordRow : OpenClaim := { program := "ytmanplejhcjnaaa", sum := "82c9b7bf73fe80f652b08ba13140622ebf8a704b292d544a2a2872ef87ede77b", func := "loop.example/g00983/laws.FnExactWriteWord", spec := "fnExactWriteWord", apart := false }
def FnExactWriteWordSaid : Prop := fnExactWriteWordRow.holds Try.pinned (OpenSpec.ofChange fnExactWriteWordSpec)

/-- ITS FALSE NEIGHBOUR: 'it returns false'. Refute it at one input. -/
def fnExactWriteWordWrong : ChangeSpec := { name := "fnExactWriteWord", fn := fun _ => fun
  | [d1, d2] => { results := [.lit (.bool false)], args := [d1, d2] }
  | _ => none }
def FnExactWriteWordWrongFalsely : Prop := fnExactWriteWordRow.holds Try.pinned (OpenSpec.ofChange fnExactWriteWordWrong)

/-- 'laws.FnExactApplyWrites': WHATEVER THE INPUT: true; the input reads as it did. -/
def fnExactApplyWritesSpec : ChangeSpec := { name := "fnExactApplyWrites", fn := fun _ => fun
  | [d1, d2, d3] => { results := [.lit (.bool true)], args := [d1, d2, d3] }
  | _ => none }
def fnExactApplyWritesRow : OpenClaim := { program := "ytmanplejhcjnaaa", sum := "82c9b7bf73fe80f652b08ba13140622ebf8a704b292d544a2a2872ef87ede77b", func := "loop.example/g00983/laws.FnExactApplyWrites", spec := "fnExactApplyWrites", apart := false }
def FnExactApplyWritesSaid : Prop := fnExactApplyWritesRow.holds Try.pinned (OpenSpec.ofChange fnExactApplyWritesSpec)

/-- ITS FALSE NEIGHBOUR: 'it returns false'. Refute it at one input. -/
def fnExactApplyWritesWrong : ChangeSpec := { name := "fnExactApplyWrites", fn := fun _ => fun
  | [d1, d2, d3] => { results := [.lit (.bool false)], args := [d1, d2, d3] }
  | _ => none }
def FnExactApplyWritesWrongFalsely : Prop := fnExactApplyWritesRow.holds Try.pinned (OpenSpec.ofChange fnExactApplyWritesWrong)

/-- 'laws.FnExactFirstDiffering': WHATEVER THE INPUT: true; the input reads as it did. -/
def fnExactFirstDifferingSpec : ChangeSpec := { name := "fnExactFirstDiffering", fn := fun _ => fun
  | [d1, d2] => { results := [.lit (.bool true)], args := [d1, d2] }
  | _ => none }
def fnExactFirstDifferingRow : OpenClaim := { program := "ytmanplejhcjnaaa", sum := "82c9b7bf73fe80f652b08ba13140622ebf8a704b292d544a2a2872ef87ede77b", func := "loop.example/g00983/laws.FnExactFirstDiffering", spec := "fnExactFirstDiffering", apart := false }
def FnExactFirstDifferingSaid : Prop := fnExactFirstDifferingRow.holds Try.pinned (OpenSpec.ofChange fnExactFirstDifferingSpec)

/-- ITS FALSE NEIGHBOUR: 'it returns false'. Refute it at one input. -/
def fnExactFirstDifferingWrong : ChangeSpec := { name := "fnExactFirstDiffering", fn := fun _ => fun
  | [d1, d2] => { results := [.lit (.bool false)], args := [d1, d2] }
  | _ => none }
def FnExactFirstDifferingWrongFalsely : Prop := fnExactFirstDifferingRow.holds Try.pinned (OpenSpec.ofChange fnExactFirstDifferingWrong)

/-- 'laws.FnExactTouchedWords': WHATEVER THE INPUT: true; the input reads as it did. -/
def fnExactTouchedWordsSpec : ChangeSpec := { name := "fnExactTouchedWords", fn := fun _ => fun
  | [d] => { results := [.lit (.bool true)], args := [d] }
  | _ => none }
def fnExactTouchedWordsRow : OpenClaim := { program := "ytmanplejhcjnaaa", sum := "82c9b7bf73fe80f652b08ba13140622ebf8a704b292d544a2a2872ef87ede77b", func := "loop.example/g00983/laws.FnExactTouchedWords", spec := "fnExactTouchedWords", recurses := true, apart := false }
def FnExactTouchedWordsSaid : Prop := fnExactTouchedWordsRow.holds Try.pinned (OpenSpec.ofChange fnExactTouchedWordsSpec)

/-- ITS FALSE NEIGHBOUR: 'it returns false'. Refute it at one input. -/
def fnExactTouchedWordsWrong : ChangeSpec := { name := "fnExactTouchedWords", fn := fun _ => fun
  | [d] => { results := [.lit (.bool false)], args := [d] }
  | _ => none }
def FnExactTouchedWordsWrongFalsely : Prop := fnExactTouchedWordsRow.holds Try.pinned (OpenSpec.ofChange fnExactTouchedWordsWrong)

/- THE SECOND FORM. 'bulk': how many values and letters a reading holds, each counted each time it is reached (what is shared counts as often as it is met; a slice's spare places count too). A statement '..UptoSaid' is the law's where the arguments, and the package variables that the reading takes, are together of bulk at most 1048576: NARROWER than '..Said'. Prove '..Said' where nothing that the law and all that it calls make is longer than what came in: it says more and counts as full. Else prove '..UptoSaid'. A law counts once. -/
mutual
def uptoBulk {H : Type} : DataW H → Nat
  | .lit (.string bytes) => bytes.length + 1
  | .lit _ => 1
  | .nil => 1
  | .ptr d => uptoBulk d + 1
  | .slice elems spare => uptoBulkAll elems + uptoBulkAll spare + 1
  | .agg parts => uptoBulkAll parts + 1
  | .iface _ d => uptoBulk d + 1
  | .map entries => uptoBulkEntries entries + 1
  | .held _ => 1
def uptoBulkAll {H : Type} : List (DataW H) → Nat
  | [] => 0
  | d :: r => uptoBulk d + uptoBulkAll r
def uptoBulkEntries {H : Type} : List (Lit × DataW H) → Nat
  | [] => 0
  | x :: r => uptoBulkEntry x + uptoBulkEntries r
def uptoBulkEntry {H : Type} : Lit × DataW H → Nat
  | (.string bytes, d) => bytes.length + uptoBulk d + 1
  | (_, d) => uptoBulk d + 1
 end
def uptoSmall : (H : Type) → List (DataW H) → Bool := fun _ ds => decide (uptoBulkAll ds ≤ 1048576)
def OpenSpec.upto (s : _root_.Go.ChangeSpec) : _root_.Go.OpenSpec := { _root_.Go.OpenSpec.ofChange s with cond := some uptoSmall }

/-- 'laws.FnParts', WHERE WHAT IT READS IS OF BULK AT MOST 1048576: true; the input reads as it did. -/
def fnPartsUptoRow : OpenClaim := { program := "ytmanplejhcjnaaa", sum := "82c9b7bf73fe80f652b08ba13140622ebf8a704b292d544a2a2872ef87ede77b", func := "loop.example/g00983/laws.FnParts", spec := "fnParts", recurses := true, apart := false, narrowed := true }
def FnPartsUptoSaid : Prop := fnPartsUptoRow.holds Try.pinned (OpenSpec.upto fnPartsSpec)

/-- 'laws.FnTouched', WHERE WHAT IT READS IS OF BULK AT MOST 1048576: true; the input reads as it did. -/
def fnTouchedUptoRow : OpenClaim := { program := "ytmanplejhcjnaaa", sum := "82c9b7bf73fe80f652b08ba13140622ebf8a704b292d544a2a2872ef87ede77b", func := "loop.example/g00983/laws.FnTouched", spec := "fnTouched", recurses := true, apart := false, narrowed := true }
def FnTouchedUptoSaid : Prop := fnTouchedUptoRow.holds Try.pinned (OpenSpec.upto fnTouchedSpec)

/-- 'laws.FnExactWriteWord', WHERE WHAT IT READS IS OF BULK AT MOST 1048576: true; the input reads as it did. -/
def fnExactWriteWordUptoRow : OpenClaim := { program := "ytmanplejhcjnaaa", sum := "82c9b7bf73fe80f652b08ba13140622ebf8a704b292d544a2a2872ef87ede77b", func := "loop.example/g00983/laws.FnExactWriteWord", spec := "fnExactWriteWord", apart := false, narrowed := true }
def FnExactWriteWordUptoSaid : Prop := fnExactWriteWordUptoRow.holds Try.pinned (OpenSpec.upto fnExactWriteWordSpec)

/-- 'laws.FnExactApplyWrites', WHERE WHAT IT READS IS OF BULK AT MOST 1048576: true; the input reads as it did. -/
def fnExactApplyWritesUptoRow : OpenClaim := { program := "ytmanplejhcjnaaa", sum := "82c9b7bf73fe80f652b08ba13140622ebf8a704b292d544a2a2872ef87ede77b", func := "loop.example/g00983/laws.FnExactApplyWrites", spec := "fnExactApplyWrites", apart := false, narrowed := true }
def FnExactApplyWritesUptoSaid : Prop := fnExactApplyWritesUptoRow.holds Try.pinned (OpenSpec.upto fnExactApplyWritesSpec)

/-- 'laws.FnExactFirstDiffering', WHERE WHAT IT READS IS OF BULK AT MOST 1048576: true; the input reads as it did. -/
def fnExactFirstDifferingUptoRow : OpenClaim := { program := "ytmanplejhcjnaaa", sum := "82c9b7bf73fe80f652b08ba13140622ebf8a704b292d544a2a2872ef87ede77b", func := "loop.example/g00983/laws.FnExactFirstDiffering", spec := "fnExactFirstDiffering", apart := false, narrowed := true }
def FnExactFirstDifferingUptoSaid : Prop := fnExactFirstDifferingUptoRow.holds Try.pinned (OpenSpec.upto fnExactFirstDifferingSpec)

/-- 'laws.FnExactTouchedWords', WHERE WHAT IT READS IS OF BULK AT MOST 1048576: true; the input reads as it did. -/
def fnExactTouchedWordsUptoRow : OpenClaim := { program := "ytmanplejhcjnaaa", sum := "82c9b7bf73fe80f652b08ba13140622ebf8a704b292d544a2a2872ef87ede77b", func := "loop.example/g00983/laws.FnExactTouchedWords", spec := "fnExactTouchedWords", recurses := true, apart := false, narrowed := true }
def FnExactTouchedWordsUptoSaid : Prop := fnExactTouchedWordsUptoRow.holds Try.pinned (OpenSpec.upto fnExactTouchedWordsSpec)

end Rows
end Go.Proofs.Ytmanplejhcjnaaa
