/-
  DERIVED. GIVEN WITH THE SEED: THE CARDS: each row of YtecnilcfhicfmaaGreatDoorRows.lean that lists a variable, with what it lists TIED to the program's text (the seventh form; the later family's looks); each row that meets fmt, with fmt's text TOLD by the authors' own Lean function (tested against real Go, not proved from fmt's source: count such statements apart). THE CARD IS WHAT COUNTS. Prove the row's statement (the work); the ties are given (YtecnilcfhicfmaaGreatDoorTie.lean); close each card by the builder's one call (the guide's Derived/Test/ToyasCard.lean, 'card_holds'). Laid BY PROGRAM, IN A SANDBOX (cutbox-door.mjs). By AI agents, Wed Nov 11 2026. No macro, syntax, notation, axiom, sorry.
-/
import Derived.Test.YtecnilcfhicfmaaGreatDoorRows
import GoSem.ClaimSeven
namespace Go.Proofs.YtecnilcfhicfmaaGreatDoor
namespace Rows

/-- THE TIED CARD OF 'cadencelaw7.CsvWrites'. -/
def csvWritesCard : Claim7 := { stood := { row := csvWritesRow, standIns := [], harness := (true, "00f6f428cbefae700acd3521a2134668b6dab091e84beac76a8de0f74ad408e6"), looks := false }, kinds := [], alts := [], laidByText := true, laidKinds := [.data, .pinned], laidTests := true, laidLooks := .later }
def CsvWritesCardSaid : Prop := Claim7.holds Tryz.pinned (.plain (OpenSpec.ofChange csvWritesSpec)) csvWritesCard

/-- THE SECOND FORM's CARD OF 'cadencelaw7.CsvWrites'. -/
def csvWritesUptoCard : Claim7 := { stood := { row := csvWritesUptoRow, standIns := [], harness := (true, "00f6f428cbefae700acd3521a2134668b6dab091e84beac76a8de0f74ad408e6"), looks := false }, kinds := [], alts := [], laidByText := true, laidKinds := [.data, .pinned], laidTests := true, laidLooks := .later }
def CsvWritesUptoCardSaid : Prop := Claim7.holds Tryz.pinned (.plain (OpenSpec.upto csvWritesSpec)) csvWritesUptoCard
end Rows
end Go.Proofs.YtecnilcfhicfmaaGreatDoor
