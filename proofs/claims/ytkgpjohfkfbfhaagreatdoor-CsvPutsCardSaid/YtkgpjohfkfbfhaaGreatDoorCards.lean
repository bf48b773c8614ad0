/-
  DERIVED. GIVEN WITH THE SEED: THE CARDS: each row of YtkgpjohfkfbfhaaGreatDoorRows.lean that lists a variable, with what it lists TIED to the program's text (the seventh form; the later family's looks); each row that meets fmt, with fmt's text TOLD by the authors' own Lean function (tested against real Go, not proved from fmt's source: count such statements apart). THE CARD IS WHAT COUNTS. Prove the row's statement (the work); the ties are given (YtkgpjohfkfbfhaaGreatDoorTie.lean); close each card by the builder's one call (the guide's Derived/Test/ToyasCard.lean, 'card_holds'). Laid BY PROGRAM, IN A SANDBOX (cutbox-door.mjs). By AI agents, Wed Nov 11 2026. No macro, syntax, notation, axiom, sorry.
-/
import Derived.Test.YtkgpjohfkfbfhaaGreatDoorRows
import GoSem.ClaimSeven
namespace Go.Proofs.YtkgpjohfkfbfhaaGreatDoor
namespace Rows

/-- THE TIED CARD OF 'cadencelaw7.CsvPuts'. -/
def csvPutsCard : Claim7 := { stood := { row := csvPutsRow, standIns := [], harness := (true, "120f25921763a955cdd39af7d2b5f173308e31e61d73e519527dd74ee8d3b4e5"), looks := false }, kinds := [], alts := [], laidByText := true, laidKinds := [.data, .pinned], laidTests := true, laidLooks := .later }
def CsvPutsCardSaid : Prop := Claim7.holds Tryz.pinned (.plain (OpenSpec.ofChange csvPutsSpec)) csvPutsCard

/-- THE TIED CARD OF 'cadencelaw7.CsvBack'. -/
def csvBackCard : Claim7 := { stood := { row := csvBackRow, standIns := [], harness := (true, "120f25921763a955cdd39af7d2b5f173308e31e61d73e519527dd74ee8d3b4e5"), looks := false }, kinds := [], alts := [], laidByText := true, laidKinds := [.data, .pinned], laidTests := true, laidLooks := .later }
def CsvBackCardSaid : Prop := Claim7.holds Tryz.pinned (.plain (OpenSpec.ofChange csvBackSpec)) csvBackCard

/-- THE TIED CARD OF 'cadencelaw7.CsvLines'. -/
def csvLinesCard : Claim7 := { stood := { row := csvLinesRow, standIns := [], harness := (true, "120f25921763a955cdd39af7d2b5f173308e31e61d73e519527dd74ee8d3b4e5"), looks := false }, kinds := [], alts := [], laidByText := true, laidKinds := [.data, .pinned], laidTests := true, laidLooks := .later }
def CsvLinesCardSaid : Prop := Claim7.holds Tryz.pinned (.plain (OpenSpec.ofChange csvLinesSpec)) csvLinesCard

/-- THE SECOND FORM's CARD OF 'cadencelaw7.CsvPuts'. -/
def csvPutsUptoCard : Claim7 := { stood := { row := csvPutsUptoRow, standIns := [], harness := (true, "120f25921763a955cdd39af7d2b5f173308e31e61d73e519527dd74ee8d3b4e5"), looks := false }, kinds := [], alts := [], laidByText := true, laidKinds := [.data, .pinned], laidTests := true, laidLooks := .later }
def CsvPutsUptoCardSaid : Prop := Claim7.holds Tryz.pinned (.plain (OpenSpec.upto csvPutsSpec)) csvPutsUptoCard

/-- THE SECOND FORM's CARD OF 'cadencelaw7.CsvBack'. -/
def csvBackUptoCard : Claim7 := { stood := { row := csvBackUptoRow, standIns := [], harness := (true, "120f25921763a955cdd39af7d2b5f173308e31e61d73e519527dd74ee8d3b4e5"), looks := false }, kinds := [], alts := [], laidByText := true, laidKinds := [.data, .pinned], laidTests := true, laidLooks := .later }
def CsvBackUptoCardSaid : Prop := Claim7.holds Tryz.pinned (.plain (OpenSpec.upto csvBackSpec)) csvBackUptoCard

/-- THE SECOND FORM's CARD OF 'cadencelaw7.CsvLines'. -/
def csvLinesUptoCard : Claim7 := { stood := { row := csvLinesUptoRow, standIns := [], harness := (true, "120f25921763a955cdd39af7d2b5f173308e31e61d73e519527dd74ee8d3b4e5"), looks := false }, kinds := [], alts := [], laidByText := true, laidKinds := [.data, .pinned], laidTests := true, laidLooks := .later }
def CsvLinesUptoCardSaid : Prop := Claim7.holds Tryz.pinned (.plain (OpenSpec.upto csvLinesSpec)) csvLinesUptoCard
end Rows
end Go.Proofs.YtkgpjohfkfbfhaaGreatDoor
