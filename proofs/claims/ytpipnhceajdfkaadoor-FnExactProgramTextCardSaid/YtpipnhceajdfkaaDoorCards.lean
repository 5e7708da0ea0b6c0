/-
  DERIVED. GIVEN WITH THE SEED: THE CARDS: each row of YtpipnhceajdfkaaDoorRows.lean that lists a variable, with what it lists TIED to the program's text (the seventh form; the later family's looks); each row that meets fmt, with fmt's text TOLD by the authors' own Lean function (tested against real Go, not proved from fmt's source: count such statements apart). THE CARD IS WHAT COUNTS. Prove the row's statement (the work); the ties are given (YtpipnhceajdfkaaDoorTie.lean); close each card by the builder's one call (the guide's Derived/Test/ToyasCard.lean, 'card_holds'). Laid BY PROGRAM, IN A SANDBOX (cutbox-door.mjs). By AI agents, Wed Nov 11 2026. No macro, syntax, notation, axiom, sorry.
-/
import Derived.Test.YtpipnhceajdfkaaDoorRows
import GoSem.ClaimSeven
namespace Go.Proofs.YtpipnhceajdfkaaDoor
namespace Rows

/-- THE TIED CARD OF 'laws.FnStmtTexts'. -/
def fnStmtTextsCard : Claim7 := { stood := { row := fnStmtTextsRow, standIns := [], harness := (true, "0003a437c9de32906924123970e0e9ae9de71c24c16ce0acdec23ca6a1bf78a0"), looks := true }, kinds := [], alts := [], laidByText := true, laidKinds := [.data, .data, .data, .sentinel, .sentinel], laidTests := true, laidLooks := .later }
def FnStmtTextsCardSaid : Prop := Claim7.holds Tryd.pinned (.plain (OpenSpec.ofChange fnStmtTextsSpec)) fnStmtTextsCard

/-- THE TIED CARD OF 'laws.FnExactFormatStmt'. -/
def fnExactFormatStmtCard : Claim7 := { stood := { row := fnExactFormatStmtRow, standIns := [], harness := (true, "0003a437c9de32906924123970e0e9ae9de71c24c16ce0acdec23ca6a1bf78a0"), looks := true }, kinds := [], alts := [], laidByText := true, laidKinds := [.data, .data, .data], laidTests := true, laidLooks := .later }
def FnExactFormatStmtCardSaid : Prop := Claim7.holds Tryd.pinned (.plain (OpenSpec.ofChange fnExactFormatStmtSpec)) fnExactFormatStmtCard

/-- THE TIED CARD OF 'laws.FnExactParseStmt'. -/
def fnExactParseStmtCard : Claim7 := { stood := { row := fnExactParseStmtRow, standIns := [], harness := (true, "0003a437c9de32906924123970e0e9ae9de71c24c16ce0acdec23ca6a1bf78a0"), looks := true }, kinds := [], alts := [], laidByText := true, laidKinds := [.data, .data, .data, .sentinel, .sentinel], laidTests := true, laidLooks := .later }
def FnExactParseStmtCardSaid : Prop := Claim7.holds Tryd.pinned (.plain (OpenSpec.ofChange fnExactParseStmtSpec)) fnExactParseStmtCard

/-- THE TIED CARD OF 'laws.FnExactProgramText'. -/
def fnExactProgramTextCard : Claim7 := { stood := { row := fnExactProgramTextRow, standIns := [], harness := (true, "0003a437c9de32906924123970e0e9ae9de71c24c16ce0acdec23ca6a1bf78a0"), looks := true }, kinds := [], alts := [], laidByText := true, laidKinds := [.data, .data, .data], laidTests := true, laidLooks := .later }
def FnExactProgramTextCardSaid : Prop := Claim7.holds Tryd.pinned (.plain (OpenSpec.ofChange fnExactProgramTextSpec)) fnExactProgramTextCard

/-- THE SECOND FORM's CARD OF 'laws.FnStmtTexts'. -/
def fnStmtTextsUptoCard : Claim7 := { stood := { row := fnStmtTextsUptoRow, standIns := [], harness := (true, "0003a437c9de32906924123970e0e9ae9de71c24c16ce0acdec23ca6a1bf78a0"), looks := true }, kinds := [], alts := [], laidByText := true, laidKinds := [.data, .data, .data, .sentinel, .sentinel], laidTests := true, laidLooks := .later }
def FnStmtTextsUptoCardSaid : Prop := Claim7.holds Tryd.pinned (.plain (OpenSpec.upto fnStmtTextsSpec)) fnStmtTextsUptoCard

/-- THE SECOND FORM's CARD OF 'laws.FnExactFormatStmt'. -/
def fnExactFormatStmtUptoCard : Claim7 := { stood := { row := fnExactFormatStmtUptoRow, standIns := [], harness := (true, "0003a437c9de32906924123970e0e9ae9de71c24c16ce0acdec23ca6a1bf78a0"), looks := true }, kinds := [], alts := [], laidByText := true, laidKinds := [.data, .data, .data], laidTests := true, laidLooks := .later }
def FnExactFormatStmtUptoCardSaid : Prop := Claim7.holds Tryd.pinned (.plain (OpenSpec.upto fnExactFormatStmtSpec)) fnExactFormatStmtUptoCard

/-- THE SECOND FORM's CARD OF 'laws.FnExactParseStmt'. -/
def fnExactParseStmtUptoCard : Claim7 := { stood := { row := fnExactParseStmtUptoRow, standIns := [], harness := (true, "0003a437c9de32906924123970e0e9ae9de71c24c16ce0acdec23ca6a1bf78a0"), looks := true }, kinds := [], alts := [], laidByText := true, laidKinds := [.data, .data, .data, .sentinel, .sentinel], laidTests := true, laidLooks := .later }
def FnExactParseStmtUptoCardSaid : Prop := Claim7.holds Tryd.pinned (.plain (OpenSpec.upto fnExactParseStmtSpec)) fnExactParseStmtUptoCard

/-- THE SECOND FORM's CARD OF 'laws.FnExactProgramText'. -/
def fnExactProgramTextUptoCard : Claim7 := { stood := { row := fnExactProgramTextUptoRow, standIns := [], harness := (true, "0003a437c9de32906924123970e0e9ae9de71c24c16ce0acdec23ca6a1bf78a0"), looks := true }, kinds := [], alts := [], laidByText := true, laidKinds := [.data, .data, .data], laidTests := true, laidLooks := .later }
def FnExactProgramTextUptoCardSaid : Prop := Claim7.holds Tryd.pinned (.plain (OpenSpec.upto fnExactProgramTextSpec)) fnExactProgramTextUptoCard
end Rows
end Go.Proofs.YtpipnhceajdfkaaDoor
