/-
  DERIVED. GIVEN WITH THE SEED: THE CARDS: each row of YtapgaglkkgbgkaaGreatDoorRows.lean that lists a variable, with what it lists TIED to the program's text (the seventh form; the later family's looks); each row that meets fmt, with fmt's text TOLD by the authors' own Lean function (tested against real Go, not proved from fmt's source: count such statements apart). THE CARD IS WHAT COUNTS. Prove the row's statement (the work); the ties are given (YtapgaglkkgbgkaaGreatDoorTie.lean); close each card by the builder's one call (the guide's Derived/Test/ToyasCard.lean, 'card_holds'). Laid BY PROGRAM, IN A SANDBOX (cutbox-door.mjs). By AI agents, Wed Nov 11 2026. No macro, syntax, notation, axiom, sorry.
-/
import Derived.Test.YtapgaglkkgbgkaaGreatDoorRows
import GoSem.ClaimSeven
namespace Go.Proofs.YtapgaglkkgbgkaaGreatDoor
namespace Rows

/-- THE TIED CARD OF 'cadencelaw6.IniLoads'. -/
def iniLoadsCard : Claim7 := { stood := { row := iniLoadsRow, standIns := [], harness := (true, "490dd7949b75f56fdd0fd5ee8d7ae58e17ecdcc941267eefa57f07d8645739df"), looks := false }, kinds := [], alts := [], laidByText := true, laidKinds := [.data, .pinned], laidTests := true, laidLooks := .later }
def IniLoadsCardSaid : Prop := Claim7.holds Tryz.pinned (.plain (OpenSpec.ofChange iniLoadsSpec)) iniLoadsCard

/-- THE TIED CARD OF 'cadencelaw6.IniPuts'. -/
def iniPutsCard : Claim7 := { stood := { row := iniPutsRow, standIns := [], harness := (true, "490dd7949b75f56fdd0fd5ee8d7ae58e17ecdcc941267eefa57f07d8645739df"), looks := false }, kinds := [], alts := [], laidByText := true, laidKinds := [.data, .pinned], laidTests := true, laidLooks := .later }
def IniPutsCardSaid : Prop := Claim7.holds Tryz.pinned (.plain (OpenSpec.ofChange iniPutsSpec)) iniPutsCard

/-- THE TIED CARD OF 'cadencelaw6.IniBack'. -/
def iniBackCard : Claim7 := { stood := { row := iniBackRow, standIns := [], harness := (true, "490dd7949b75f56fdd0fd5ee8d7ae58e17ecdcc941267eefa57f07d8645739df"), looks := false }, kinds := [], alts := [], laidByText := true, laidKinds := [.data, .pinned], laidTests := true, laidLooks := .later }
def IniBackCardSaid : Prop := Claim7.holds Tryz.pinned (.plain (OpenSpec.ofChange iniBackSpec)) iniBackCard

/-- THE TIED CARD OF 'cadencelaw6.IniKeeps'. -/
def iniKeepsCard : Claim7 := { stood := { row := iniKeepsRow, standIns := [], harness := (true, "490dd7949b75f56fdd0fd5ee8d7ae58e17ecdcc941267eefa57f07d8645739df"), looks := false }, kinds := [], alts := [], laidByText := true, laidKinds := [.data, .pinned], laidTests := true, laidLooks := .later }
def IniKeepsCardSaid : Prop := Claim7.holds Tryz.pinned (.plain (OpenSpec.ofChange iniKeepsSpec)) iniKeepsCard

/-- THE TIED CARD OF 'cadencelaw6.IniOrder'. -/
def iniOrderCard : Claim7 := { stood := { row := iniOrderRow, standIns := [], harness := (true, "490dd7949b75f56fdd0fd5ee8d7ae58e17ecdcc941267eefa57f07d8645739df"), looks := false }, kinds := [], alts := [], laidByText := true, laidKinds := [.data, .pinned], laidTests := true, laidLooks := .later }
def IniOrderCardSaid : Prop := Claim7.holds Tryz.pinned (.plain (OpenSpec.ofChange iniOrderSpec)) iniOrderCard

/-- THE SECOND FORM's CARD OF 'cadencelaw6.IniLoads'. -/
def iniLoadsUptoCard : Claim7 := { stood := { row := iniLoadsUptoRow, standIns := [], harness := (true, "490dd7949b75f56fdd0fd5ee8d7ae58e17ecdcc941267eefa57f07d8645739df"), looks := false }, kinds := [], alts := [], laidByText := true, laidKinds := [.data, .pinned], laidTests := true, laidLooks := .later }
def IniLoadsUptoCardSaid : Prop := Claim7.holds Tryz.pinned (.plain (OpenSpec.upto iniLoadsSpec)) iniLoadsUptoCard

/-- THE SECOND FORM's CARD OF 'cadencelaw6.IniPuts'. -/
def iniPutsUptoCard : Claim7 := { stood := { row := iniPutsUptoRow, standIns := [], harness := (true, "490dd7949b75f56fdd0fd5ee8d7ae58e17ecdcc941267eefa57f07d8645739df"), looks := false }, kinds := [], alts := [], laidByText := true, laidKinds := [.data, .pinned], laidTests := true, laidLooks := .later }
def IniPutsUptoCardSaid : Prop := Claim7.holds Tryz.pinned (.plain (OpenSpec.upto iniPutsSpec)) iniPutsUptoCard

/-- THE SECOND FORM's CARD OF 'cadencelaw6.IniBack'. -/
def iniBackUptoCard : Claim7 := { stood := { row := iniBackUptoRow, standIns := [], harness := (true, "490dd7949b75f56fdd0fd5ee8d7ae58e17ecdcc941267eefa57f07d8645739df"), looks := false }, kinds := [], alts := [], laidByText := true, laidKinds := [.data, .pinned], laidTests := true, laidLooks := .later }
def IniBackUptoCardSaid : Prop := Claim7.holds Tryz.pinned (.plain (OpenSpec.upto iniBackSpec)) iniBackUptoCard

/-- THE SECOND FORM's CARD OF 'cadencelaw6.IniKeeps'. -/
def iniKeepsUptoCard : Claim7 := { stood := { row := iniKeepsUptoRow, standIns := [], harness := (true, "490dd7949b75f56fdd0fd5ee8d7ae58e17ecdcc941267eefa57f07d8645739df"), looks := false }, kinds := [], alts := [], laidByText := true, laidKinds := [.data, .pinned], laidTests := true, laidLooks := .later }
def IniKeepsUptoCardSaid : Prop := Claim7.holds Tryz.pinned (.plain (OpenSpec.upto iniKeepsSpec)) iniKeepsUptoCard

/-- THE SECOND FORM's CARD OF 'cadencelaw6.IniOrder'. -/
def iniOrderUptoCard : Claim7 := { stood := { row := iniOrderUptoRow, standIns := [], harness := (true, "490dd7949b75f56fdd0fd5ee8d7ae58e17ecdcc941267eefa57f07d8645739df"), looks := false }, kinds := [], alts := [], laidByText := true, laidKinds := [.data, .pinned], laidTests := true, laidLooks := .later }
def IniOrderUptoCardSaid : Prop := Claim7.holds Tryz.pinned (.plain (OpenSpec.upto iniOrderSpec)) iniOrderUptoCard
end Rows
end Go.Proofs.YtapgaglkkgbgkaaGreatDoor
