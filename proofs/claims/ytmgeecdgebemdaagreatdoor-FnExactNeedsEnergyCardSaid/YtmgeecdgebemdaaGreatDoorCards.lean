/-
  DERIVED. GIVEN WITH THE SEED: THE CARDS: each row of YtmgeecdgebemdaaGreatDoorRows.lean that lists a variable, with what it lists TIED to the program's text (the seventh form; the later family's looks); each row that meets fmt, with fmt's text TOLD by the authors' own Lean function (tested against real Go, not proved from fmt's source: count such statements apart). THE CARD IS WHAT COUNTS. Prove the row's statement (the work); the ties are given (YtmgeecdgebemdaaGreatDoorTie.lean); close each card by the builder's one call (the guide's Derived/Test/ToyasCard.lean, 'card_holds'). Laid BY PROGRAM, IN A SANDBOX (cutbox-door.mjs). By AI agents, Wed Nov 11 2026. No macro, syntax, notation, axiom, sorry.
-/
import Derived.Test.YtmgeecdgebemdaaGreatDoorRows
import GoSem.ClaimSeven
namespace Go.Proofs.YtmgeecdgebemdaaGreatDoor
namespace Rows

/-- THE TIED CARD OF 'laws.FnEnoughEnergy'. -/
def fnEnoughEnergyCard : Claim7 := { stood := { row := fnEnoughEnergyRow, standIns := [], harness := (true, "89678b23e05d9388c7d7b3961f95b3cb35559b567b202cd024a2e3cd47837206"), looks := true }, kinds := [], alts := [], laidByText := true, laidKinds := [.data], laidTests := true, laidLooks := .later }
def FnEnoughEnergyCardSaid : Prop := Claim7.holds Tryz.pinned (.plain (OpenSpec.ofChange fnEnoughEnergySpec)) fnEnoughEnergyCard

/-- THE TIED CARD OF 'laws.FnExactBootOnce'. -/
def fnExactBootOnceCard : Claim7 := { stood := { row := fnExactBootOnceRow, standIns := [], harness := (true, "89678b23e05d9388c7d7b3961f95b3cb35559b567b202cd024a2e3cd47837206"), looks := true }, kinds := [], alts := [], laidByText := true, laidKinds := [.data], laidTests := true, laidLooks := .later }
def FnExactBootOnceCardSaid : Prop := Claim7.holds Tryz.pinned (.plain (OpenSpec.ofChange fnExactBootOnceSpec)) fnExactBootOnceCard

/-- THE TIED CARD OF 'laws.FnExactNeedsEnergy'. -/
def fnExactNeedsEnergyCard : Claim7 := { stood := { row := fnExactNeedsEnergyRow, standIns := [], harness := (true, "89678b23e05d9388c7d7b3961f95b3cb35559b567b202cd024a2e3cd47837206"), looks := true }, kinds := [], alts := [], laidByText := true, laidKinds := [.data], laidTests := true, laidLooks := .later }
def FnExactNeedsEnergyCardSaid : Prop := Claim7.holds Tryz.pinned (.plain (OpenSpec.ofChange fnExactNeedsEnergySpec)) fnExactNeedsEnergyCard

/-- THE TIED CARD OF 'laws.FnTraces'. -/
def fnTracesCard : Claim7 := { stood := { row := fnTracesRow, standIns := [], harness := (true, "89678b23e05d9388c7d7b3961f95b3cb35559b567b202cd024a2e3cd47837206"), looks := true }, kinds := [], alts := [], laidByText := true, laidKinds := [.data], laidTests := true, laidLooks := .later }
def FnTracesCardSaid : Prop := Claim7.holds Tryz.pinned (.plain (OpenSpec.ofChange fnTracesSpec)) fnTracesCard

/-- THE TIED CARD OF 'laws.FnCounted'. -/
def fnCountedCard : Claim7 := { stood := { row := fnCountedRow, standIns := [], harness := (true, "89678b23e05d9388c7d7b3961f95b3cb35559b567b202cd024a2e3cd47837206"), looks := true }, kinds := [], alts := [], laidByText := true, laidKinds := [.data], laidTests := true, laidLooks := .later }
def FnCountedCardSaid : Prop := Claim7.holds Tryz.pinned (.plain (OpenSpec.ofChange fnCountedSpec)) fnCountedCard

/-- THE TIED CARD OF 'laws.FnExactTraceOf'. -/
def fnExactTraceOfCard : Claim7 := { stood := { row := fnExactTraceOfRow, standIns := [], harness := (true, "89678b23e05d9388c7d7b3961f95b3cb35559b567b202cd024a2e3cd47837206"), looks := true }, kinds := [], alts := [], laidByText := true, laidKinds := [.data], laidTests := true, laidLooks := .later }
def FnExactTraceOfCardSaid : Prop := Claim7.holds Tryz.pinned (.plain (OpenSpec.ofChange fnExactTraceOfSpec)) fnExactTraceOfCard

/-- THE TIED CARD OF 'laws.FnRollback'. -/
def fnRollbackCard : Claim7 := { stood := { row := fnRollbackRow, standIns := [], harness := (true, "89678b23e05d9388c7d7b3961f95b3cb35559b567b202cd024a2e3cd47837206"), looks := true }, kinds := [], alts := [], laidByText := true, laidKinds := [.data], laidTests := true, laidLooks := .later }
def FnRollbackCardSaid : Prop := Claim7.holds Tryz.pinned (.plain (OpenSpec.ofChange fnRollbackSpec)) fnRollbackCard

/-- THE SECOND FORM's CARD OF 'laws.FnEnoughEnergy'. -/
def fnEnoughEnergyUptoCard : Claim7 := { stood := { row := fnEnoughEnergyUptoRow, standIns := [], harness := (true, "89678b23e05d9388c7d7b3961f95b3cb35559b567b202cd024a2e3cd47837206"), looks := true }, kinds := [], alts := [], laidByText := true, laidKinds := [.data], laidTests := true, laidLooks := .later }
def FnEnoughEnergyUptoCardSaid : Prop := Claim7.holds Tryz.pinned (.plain (OpenSpec.upto fnEnoughEnergySpec)) fnEnoughEnergyUptoCard

/-- THE SECOND FORM's CARD OF 'laws.FnExactBootOnce'. -/
def fnExactBootOnceUptoCard : Claim7 := { stood := { row := fnExactBootOnceUptoRow, standIns := [], harness := (true, "89678b23e05d9388c7d7b3961f95b3cb35559b567b202cd024a2e3cd47837206"), looks := true }, kinds := [], alts := [], laidByText := true, laidKinds := [.data], laidTests := true, laidLooks := .later }
def FnExactBootOnceUptoCardSaid : Prop := Claim7.holds Tryz.pinned (.plain (OpenSpec.upto fnExactBootOnceSpec)) fnExactBootOnceUptoCard

/-- THE SECOND FORM's CARD OF 'laws.FnExactNeedsEnergy'. -/
def fnExactNeedsEnergyUptoCard : Claim7 := { stood := { row := fnExactNeedsEnergyUptoRow, standIns := [], harness := (true, "89678b23e05d9388c7d7b3961f95b3cb35559b567b202cd024a2e3cd47837206"), looks := true }, kinds := [], alts := [], laidByText := true, laidKinds := [.data], laidTests := true, laidLooks := .later }
def FnExactNeedsEnergyUptoCardSaid : Prop := Claim7.holds Tryz.pinned (.plain (OpenSpec.upto fnExactNeedsEnergySpec)) fnExactNeedsEnergyUptoCard

/-- THE SECOND FORM's CARD OF 'laws.FnTraces'. -/
def fnTracesUptoCard : Claim7 := { stood := { row := fnTracesUptoRow, standIns := [], harness := (true, "89678b23e05d9388c7d7b3961f95b3cb35559b567b202cd024a2e3cd47837206"), looks := true }, kinds := [], alts := [], laidByText := true, laidKinds := [.data], laidTests := true, laidLooks := .later }
def FnTracesUptoCardSaid : Prop := Claim7.holds Tryz.pinned (.plain (OpenSpec.upto fnTracesSpec)) fnTracesUptoCard

/-- THE SECOND FORM's CARD OF 'laws.FnCounted'. -/
def fnCountedUptoCard : Claim7 := { stood := { row := fnCountedUptoRow, standIns := [], harness := (true, "89678b23e05d9388c7d7b3961f95b3cb35559b567b202cd024a2e3cd47837206"), looks := true }, kinds := [], alts := [], laidByText := true, laidKinds := [.data], laidTests := true, laidLooks := .later }
def FnCountedUptoCardSaid : Prop := Claim7.holds Tryz.pinned (.plain (OpenSpec.upto fnCountedSpec)) fnCountedUptoCard

/-- THE SECOND FORM's CARD OF 'laws.FnExactTraceOf'. -/
def fnExactTraceOfUptoCard : Claim7 := { stood := { row := fnExactTraceOfUptoRow, standIns := [], harness := (true, "89678b23e05d9388c7d7b3961f95b3cb35559b567b202cd024a2e3cd47837206"), looks := true }, kinds := [], alts := [], laidByText := true, laidKinds := [.data], laidTests := true, laidLooks := .later }
def FnExactTraceOfUptoCardSaid : Prop := Claim7.holds Tryz.pinned (.plain (OpenSpec.upto fnExactTraceOfSpec)) fnExactTraceOfUptoCard

/-- THE SECOND FORM's CARD OF 'laws.FnRollback'. -/
def fnRollbackUptoCard : Claim7 := { stood := { row := fnRollbackUptoRow, standIns := [], harness := (true, "89678b23e05d9388c7d7b3961f95b3cb35559b567b202cd024a2e3cd47837206"), looks := true }, kinds := [], alts := [], laidByText := true, laidKinds := [.data], laidTests := true, laidLooks := .later }
def FnRollbackUptoCardSaid : Prop := Claim7.holds Tryz.pinned (.plain (OpenSpec.upto fnRollbackSpec)) fnRollbackUptoCard
end Rows
end Go.Proofs.YtmgeecdgebemdaaGreatDoor
