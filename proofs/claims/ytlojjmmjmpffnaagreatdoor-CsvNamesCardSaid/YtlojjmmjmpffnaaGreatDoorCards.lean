/-
  DERIVED. GIVEN WITH THE SEED: THE CARDS: each row of YtlojjmmjmpffnaaGreatDoorRows.lean that lists a variable, with what it lists TIED to the program's text (the seventh form; the later family's looks); each row that meets fmt, with fmt's text TOLD by the authors' own Lean function (tested against real Go, not proved from fmt's source: count such statements apart). THE CARD IS WHAT COUNTS. Prove the row's statement (the work); the ties are given (YtlojjmmjmpffnaaGreatDoorTie.lean); close each card by the builder's one call (the guide's Derived/Test/ToyasCard.lean, 'card_holds'). Laid BY PROGRAM, IN A SANDBOX (cutbox-door.mjs). By AI agents, Wed Nov 11 2026. No macro, syntax, notation, axiom, sorry.
-/
import Derived.Test.YtlojjmmjmpffnaaGreatDoorRows
import GoSem.ClaimSeven
namespace Go.Proofs.YtlojjmmjmpffnaaGreatDoor
namespace Rows

/-- THE TIED CARD OF 'cadencelaw7.CsvLoads'. -/
def csvLoadsCard : Claim7 := { stood := { row := csvLoadsRow, standIns := [], harness := (true, "711ce691c34f078efaf5b77fc3faba1b2fc5c685120346be042caf6ecf9f07ba"), looks := false }, kinds := [], alts := [], laidByText := true, laidKinds := [.data, .pinned], laidTests := true, laidLooks := .later }
def CsvLoadsCardSaid : Prop := Claim7.holds Tryz.pinned (.plain (OpenSpec.ofChange csvLoadsSpec)) csvLoadsCard

/-- THE TIED CARD OF 'cadencelaw7.CsvKnown'. -/
def csvKnownCard : Claim7 := { stood := { row := csvKnownRow, standIns := [], harness := (true, "711ce691c34f078efaf5b77fc3faba1b2fc5c685120346be042caf6ecf9f07ba"), looks := false }, kinds := [], alts := [], laidByText := true, laidKinds := [.data, .pinned], laidTests := true, laidLooks := .later }
def CsvKnownCardSaid : Prop := Claim7.holds Tryz.pinned (.plain (OpenSpec.ofChange csvKnownSpec)) csvKnownCard

/-- THE TIED CARD OF 'cadencelaw7.CsvNames'. -/
def csvNamesCard : Claim7 := { stood := { row := csvNamesRow, standIns := [], harness := (true, "711ce691c34f078efaf5b77fc3faba1b2fc5c685120346be042caf6ecf9f07ba"), looks := false }, kinds := [], alts := [], laidByText := true, laidKinds := [.data, .pinned], laidTests := true, laidLooks := .later }
def CsvNamesCardSaid : Prop := Claim7.holds Tryz.pinned (.plain (OpenSpec.ofChange csvNamesSpec)) csvNamesCard

/-- THE SECOND FORM's CARD OF 'cadencelaw7.CsvLoads'. -/
def csvLoadsUptoCard : Claim7 := { stood := { row := csvLoadsUptoRow, standIns := [], harness := (true, "711ce691c34f078efaf5b77fc3faba1b2fc5c685120346be042caf6ecf9f07ba"), looks := false }, kinds := [], alts := [], laidByText := true, laidKinds := [.data, .pinned], laidTests := true, laidLooks := .later }
def CsvLoadsUptoCardSaid : Prop := Claim7.holds Tryz.pinned (.plain (OpenSpec.upto csvLoadsSpec)) csvLoadsUptoCard

/-- THE SECOND FORM's CARD OF 'cadencelaw7.CsvKnown'. -/
def csvKnownUptoCard : Claim7 := { stood := { row := csvKnownUptoRow, standIns := [], harness := (true, "711ce691c34f078efaf5b77fc3faba1b2fc5c685120346be042caf6ecf9f07ba"), looks := false }, kinds := [], alts := [], laidByText := true, laidKinds := [.data, .pinned], laidTests := true, laidLooks := .later }
def CsvKnownUptoCardSaid : Prop := Claim7.holds Tryz.pinned (.plain (OpenSpec.upto csvKnownSpec)) csvKnownUptoCard

/-- THE SECOND FORM's CARD OF 'cadencelaw7.CsvNames'. -/
def csvNamesUptoCard : Claim7 := { stood := { row := csvNamesUptoRow, standIns := [], harness := (true, "711ce691c34f078efaf5b77fc3faba1b2fc5c685120346be042caf6ecf9f07ba"), looks := false }, kinds := [], alts := [], laidByText := true, laidKinds := [.data, .pinned], laidTests := true, laidLooks := .later }
def CsvNamesUptoCardSaid : Prop := Claim7.holds Tryz.pinned (.plain (OpenSpec.upto csvNamesSpec)) csvNamesUptoCard
end Rows
end Go.Proofs.YtlojjmmjmpffnaaGreatDoor
