/-
  DERIVED. GIVEN WITH THE SEED: THE CARDS: each row of YtodlbbojjnkneaaDoorRows.lean that lists a variable, with what it lists TIED to the program's text (the seventh form; the later family's looks); each row that meets fmt, with fmt's text TOLD by the authors' own Lean function (tested against real Go, not proved from fmt's source: count such statements apart). THE CARD IS WHAT COUNTS. Prove the row's statement (the work); the ties are given (YtodlbbojjnkneaaDoorTie.lean); close each card by the builder's one call (the guide's Derived/Test/ToyasCard.lean, 'card_holds'). Laid BY PROGRAM, IN A SANDBOX (cutbox-door.mjs). By AI agents, Wed Nov 11 2026. No macro, syntax, notation, axiom, sorry.
-/
import Derived.Test.YtodlbbojjnkneaaDoorRows
import GoSem.ClaimSeven
namespace Go.Proofs.YtodlbbojjnkneaaDoor
namespace Rows

/-- THE TIED CARD OF 'laws.FnExactStmtCost'. -/
def fnExactStmtCostCard : Claim7 := { stood := { row := fnExactStmtCostRow, standIns := [], harness := (true, "b210a25f1a8cdb0413d169f69778ebdfd35925d678fad54725bf8e8558f2ed0f"), looks := true }, kinds := [], alts := [], laidByText := true, laidKinds := [.data], laidTests := true, laidLooks := .later }
def FnExactStmtCostCardSaid : Prop := Claim7.holds Tryd.pinned (.plain (OpenSpec.ofChange fnExactStmtCostSpec)) fnExactStmtCostCard

/-- THE SECOND FORM's CARD OF 'laws.FnExactStmtCost'. -/
def fnExactStmtCostUptoCard : Claim7 := { stood := { row := fnExactStmtCostUptoRow, standIns := [], harness := (true, "b210a25f1a8cdb0413d169f69778ebdfd35925d678fad54725bf8e8558f2ed0f"), looks := true }, kinds := [], alts := [], laidByText := true, laidKinds := [.data], laidTests := true, laidLooks := .later }
def FnExactStmtCostUptoCardSaid : Prop := Claim7.holds Tryd.pinned (.plain (OpenSpec.upto fnExactStmtCostSpec)) fnExactStmtCostUptoCard
end Rows
end Go.Proofs.YtodlbbojjnkneaaDoor
