/-
  DERIVED. GIVEN WITH THE SEED: THE CARDS: each row of YtjamfnckilfeoaaDoorRows.lean that lists a variable, with what it lists TIED to the program's text (the seventh form; the later family's looks); each row that meets fmt, with fmt's text TOLD by the authors' own Lean function (tested against real Go, not proved from fmt's source: count such statements apart). THE CARD IS WHAT COUNTS. Prove the row's statement (the work); the ties are given (YtjamfnckilfeoaaDoorTie.lean); close each card by the builder's one call (the guide's Derived/Test/ToyasCard.lean, 'card_holds'). Laid BY PROGRAM, IN A SANDBOX (cutbox-door.mjs). By AI agents, Wed Nov 11 2026. No macro, syntax, notation, axiom, sorry.
-/
import Derived.Test.YtjamfnckilfeoaaDoorRows
import GoSem.ClaimSeven
namespace Go.Proofs.YtjamfnckilfeoaaDoor
namespace Rows

/-- THE TIED CARD OF 'laws.FnStmtTexts'. -/
def fnStmtTextsCard : Claim7 := { stood := { row := fnStmtTextsRow, standIns := [], harness := (true, "cf0f826e18e9b7fd1bfd8bbb2ea8471183392211741fb55383945b78861b7cf1"), looks := true }, kinds := [], alts := [], laidByText := true, laidKinds := [.data, .data, .data, .sentinel, .sentinel], laidTests := true, laidLooks := .later }
def FnStmtTextsCardSaid : Prop := Claim7.holds Tryd.pinned (.plain (OpenSpec.ofChange fnStmtTextsSpec)) fnStmtTextsCard

/-- THE TIED CARD OF 'laws.FnExactFormatStmt'. -/
def fnExactFormatStmtCard : Claim7 := { stood := { row := fnExactFormatStmtRow, standIns := [], harness := (true, "cf0f826e18e9b7fd1bfd8bbb2ea8471183392211741fb55383945b78861b7cf1"), looks := true }, kinds := [], alts := [], laidByText := true, laidKinds := [.data, .data, .data], laidTests := true, laidLooks := .later }
def FnExactFormatStmtCardSaid : Prop := Claim7.holds Tryd.pinned (.plain (OpenSpec.ofChange fnExactFormatStmtSpec)) fnExactFormatStmtCard

/-- THE TIED CARD OF 'laws.FnExactParseStmt'. -/
def fnExactParseStmtCard : Claim7 := { stood := { row := fnExactParseStmtRow, standIns := [], harness := (true, "cf0f826e18e9b7fd1bfd8bbb2ea8471183392211741fb55383945b78861b7cf1"), looks := true }, kinds := [], alts := [], laidByText := true, laidKinds := [.data, .data, .data, .sentinel, .sentinel], laidTests := true, laidLooks := .later }
def FnExactParseStmtCardSaid : Prop := Claim7.holds Tryd.pinned (.plain (OpenSpec.ofChange fnExactParseStmtSpec)) fnExactParseStmtCard

/-- THE SECOND FORM's CARD OF 'laws.FnStmtTexts'. -/
def fnStmtTextsUptoCard : Claim7 := { stood := { row := fnStmtTextsUptoRow, standIns := [], harness := (true, "cf0f826e18e9b7fd1bfd8bbb2ea8471183392211741fb55383945b78861b7cf1"), looks := true }, kinds := [], alts := [], laidByText := true, laidKinds := [.data, .data, .data, .sentinel, .sentinel], laidTests := true, laidLooks := .later }
def FnStmtTextsUptoCardSaid : Prop := Claim7.holds Tryd.pinned (.plain (OpenSpec.upto fnStmtTextsSpec)) fnStmtTextsUptoCard

/-- THE SECOND FORM's CARD OF 'laws.FnExactFormatStmt'. -/
def fnExactFormatStmtUptoCard : Claim7 := { stood := { row := fnExactFormatStmtUptoRow, standIns := [], harness := (true, "cf0f826e18e9b7fd1bfd8bbb2ea8471183392211741fb55383945b78861b7cf1"), looks := true }, kinds := [], alts := [], laidByText := true, laidKinds := [.data, .data, .data], laidTests := true, laidLooks := .later }
def FnExactFormatStmtUptoCardSaid : Prop := Claim7.holds Tryd.pinned (.plain (OpenSpec.upto fnExactFormatStmtSpec)) fnExactFormatStmtUptoCard

/-- THE SECOND FORM's CARD OF 'laws.FnExactParseStmt'. -/
def fnExactParseStmtUptoCard : Claim7 := { stood := { row := fnExactParseStmtUptoRow, standIns := [], harness := (true, "cf0f826e18e9b7fd1bfd8bbb2ea8471183392211741fb55383945b78861b7cf1"), looks := true }, kinds := [], alts := [], laidByText := true, laidKinds := [.data, .data, .data, .sentinel, .sentinel], laidTests := true, laidLooks := .later }
def FnExactParseStmtUptoCardSaid : Prop := Claim7.holds Tryd.pinned (.plain (OpenSpec.upto fnExactParseStmtSpec)) fnExactParseStmtUptoCard
end Rows
end Go.Proofs.YtjamfnckilfeoaaDoor
