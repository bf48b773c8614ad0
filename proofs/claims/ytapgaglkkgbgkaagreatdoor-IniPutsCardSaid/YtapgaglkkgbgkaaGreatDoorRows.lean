/-
  NARROWER THAN 'FOR EVERY INPUT', by the rows' own cells (each row's printed sentence says how): IniLoads: laid · IniPuts: loops, laid · IniBack: laid · IniKeeps: laid · IniOrder: laid.
  DERIVED. THE GIVEN ROWS OF THIS SEAT. 5 by the template 'for every input the law returns true; each argument reads behind the call as it read before'; 0 by the template 'total and deterministic' (their statements: YtapgaglkkgbgkaaGreatDoorTotals.lean).
  GIVEN WITH THE SEED: the statements are not yours to turn. If you find one false, say at which input.
  Laid BY PROGRAM, IN A SANDBOX (cutbox-rows.mjs): the forced cells as the released guide's own fill.sh prints them over the translation 111cc01759d3cb89… (all of the seat's roots in one cut). By AI agents, Wed Nov 11 2026. No macro, syntax, notation, axiom, sorry.
-/
import Derived.Test.YtapgaglkkgbgkaaGreatDoorChecked
import GoSem.PinnedTables
import GoSem.Claim
import GoSem.ClaimJoined
import GoSem.ClaimMapViews
import Derived.JoinedTies
import Derived.KernelRfl
namespace Go.Proofs.YtapgaglkkgbgkaaGreatDoor
/- THE CELL 'sum', in the pinned program and in every row, IS THE sha256 OF THE DUMP (.gsa) THAT YtapgaglkkgbgkaaGreatDoorProg.lean LOADS. Nothing in Lean hashes anything: it is a label: what it is worth is what the hold of that sum in a sandbox is worth. -/
noncomputable def Tryz.pinned : Pinned := { name := "ytapgaglkkgbgkaagreatdoor", sum := "111cc01759d3cb8955ff8a686430e1d15e220983b893af740da02cc7b604aa17", checked := Tryz.checked }
namespace Rows
def none {H : Type} : Left H := { results := [], args := [] }

/- WHAT THE LISTED PACKAGE-LEVEL VARIABLES READ AS WHEN THE CALL BEGINS. Each datum BY PROGRAM (the guide's laid-datum.mjs) off the statement by which the dump's own 'gosem.cut.vars' lays the variable. In a bare row this is a premise. The card (YtapgaglkkgbgkaaGreatDoorCards.lean) ties it to the program's text. -/
def laid_unicode_utf8_acceptRanges {H : Type} : DataW H := .agg [.agg [.lit (.int .u8 128), .lit (.int .u8 191)], .agg [.lit (.int .u8 160), .lit (.int .u8 191)], .agg [.lit (.int .u8 128), .lit (.int .u8 159)], .agg [.lit (.int .u8 144), .lit (.int .u8 191)], .agg [.lit (.int .u8 128), .lit (.int .u8 143)], .agg [.lit (.int .u8 0), .lit (.int .u8 0)], .agg [.lit (.int .u8 0), .lit (.int .u8 0)], .agg [.lit (.int .u8 0), .lit (.int .u8 0)], .agg [.lit (.int .u8 0), .lit (.int .u8 0)], .agg [.lit (.int .u8 0), .lit (.int .u8 0)], .agg [.lit (.int .u8 0), .lit (.int .u8 0)], .agg [.lit (.int .u8 0), .lit (.int .u8 0)], .agg [.lit (.int .u8 0), .lit (.int .u8 0)], .agg [.lit (.int .u8 0), .lit (.int .u8 0)], .agg [.lit (.int .u8 0), .lit (.int .u8 0)], .agg [.lit (.int .u8 0), .lit (.int .u8 0)]]
/-- One of Go's own tables, pinned by name: the form's constant. -/
def laid_unicode_utf8_first : DataW Unit := Go.Pinned.utf8First

/-- 'cadencelaw6.IniLoads': WHATEVER THE INPUT: true; the input reads as it did. -/
def iniLoadsSpec : ChangeSpec := { name := "iniLoads", fn := fun _ => fun
  | [d1, d2, d3, d4, d5] => { results := [.lit (.bool true)], args := [d1, d2, d3, d4, d5] }
  | _ => none }
def iniLoadsRow : OpenClaim := { program := "ytapgaglkkgbgkaagreatdoor", sum := "111cc01759d3cb8955ff8a686430e1d15e220983b893af740da02cc7b604aa17", func := "cadence/cadencelaw6.IniLoads", spec := "iniLoads", inPlace := ["internal/bytealg.IndexByteString", "internal/bytealg.IndexString", "internal/bytealg.abigen_runtime_cmpstring", "slices.overlaps[cadence/api.Line]", "internal/abi.NoEscape"], unfollowed := true, recurses := true, named := ["unicode/utf8.first", "unicode/utf8.acceptRanges", "internal/bytealg.MaxLen"], apart := false, laid := [("unicode/utf8.acceptRanges", laid_unicode_utf8_acceptRanges), ("unicode/utf8.first", laid_unicode_utf8_first)] }
def IniLoadsSaid : Prop := iniLoadsRow.holds Tryz.pinned (OpenSpec.ofChange iniLoadsSpec)

/-- ITS FALSE NEIGHBOUR: 'it returns false'. Refute it at one input. -/
def iniLoadsWrong : ChangeSpec := { name := "iniLoads", fn := fun _ => fun
  | [d1, d2, d3, d4, d5] => { results := [.lit (.bool false)], args := [d1, d2, d3, d4, d5] }
  | _ => none }
def IniLoadsWrongFalsely : Prop := iniLoadsRow.holds Tryz.pinned (OpenSpec.ofChange iniLoadsWrong)

/-- 'cadencelaw6.IniPuts': WHATEVER THE INPUT: true; the input reads as it did. -/
def iniPutsSpec : ChangeSpec := { name := "iniPuts", fn := fun _ => fun
  | [d1, d2, d3, d4, d5] => { results := [.lit (.bool true)], args := [d1, d2, d3, d4, d5] }
  | _ => none }
def iniPutsRow : OpenClaim := { program := "ytapgaglkkgbgkaagreatdoor", sum := "111cc01759d3cb8955ff8a686430e1d15e220983b893af740da02cc7b604aa17", func := "cadence/cadencelaw6.IniPuts", spec := "iniPuts", inPlace := ["internal/bytealg.IndexByteString", "internal/bytealg.IndexString", "internal/bytealg.abigen_runtime_cmpstring", "slices.overlaps[cadence/api.Line]", "internal/abi.NoEscape"], unfollowed := true, recurses := true, named := ["unicode/utf8.first", "unicode/utf8.acceptRanges", "internal/bytealg.MaxLen"], loops := true, apart := false, laid := [("unicode/utf8.acceptRanges", laid_unicode_utf8_acceptRanges), ("unicode/utf8.first", laid_unicode_utf8_first)] }
def IniPutsSaid : Prop := iniPutsRow.holds Tryz.pinned (OpenSpec.ofChange iniPutsSpec)

/-- ITS FALSE NEIGHBOUR: 'it returns false'. Refute it at one input. -/
def iniPutsWrong : ChangeSpec := { name := "iniPuts", fn := fun _ => fun
  | [d1, d2, d3, d4, d5] => { results := [.lit (.bool false)], args := [d1, d2, d3, d4, d5] }
  | _ => none }
def IniPutsWrongFalsely : Prop := iniPutsRow.holds Tryz.pinned (OpenSpec.ofChange iniPutsWrong)

/-- 'cadencelaw6.IniBack': WHATEVER THE INPUT: true; the input reads as it did. -/
def iniBackSpec : ChangeSpec := { name := "iniBack", fn := fun _ => fun
  | [d1, d2, d3] => { results := [.lit (.bool true)], args := [d1, d2, d3] }
  | _ => none }
def iniBackRow : OpenClaim := { program := "ytapgaglkkgbgkaagreatdoor", sum := "111cc01759d3cb8955ff8a686430e1d15e220983b893af740da02cc7b604aa17", func := "cadence/cadencelaw6.IniBack", spec := "iniBack", inPlace := ["internal/bytealg.IndexByteString", "internal/bytealg.IndexString", "internal/bytealg.abigen_runtime_cmpstring", "slices.overlaps[cadence/api.Line]", "internal/abi.NoEscape"], unfollowed := true, recurses := true, named := ["unicode/utf8.first", "unicode/utf8.acceptRanges", "internal/bytealg.MaxLen"], apart := false, laid := [("unicode/utf8.acceptRanges", laid_unicode_utf8_acceptRanges), ("unicode/utf8.first", laid_unicode_utf8_first)] }
def IniBackSaid : Prop := iniBackRow.holds Tryz.pinned (OpenSpec.ofChange iniBackSpec)

/-- ITS FALSE NEIGHBOUR: 'it returns false'. Refute it at one input. -/
def iniBackWrong : ChangeSpec := { name := "iniBack", fn := fun _ => fun
  | [d1, d2, d3] => { results := [.lit (.bool false)], args := [d1, d2, d3] }
  | _ => none }
def IniBackWrongFalsely : Prop := iniBackRow.holds Tryz.pinned (OpenSpec.ofChange iniBackWrong)

/-- 'cadencelaw6.IniKeeps': WHATEVER THE INPUT: true; the input reads as it did. -/
def iniKeepsSpec : ChangeSpec := { name := "iniKeeps", fn := fun _ => fun
  | [d1, d2] => { results := [.lit (.bool true)], args := [d1, d2] }
  | _ => none }
def iniKeepsRow : OpenClaim := { program := "ytapgaglkkgbgkaagreatdoor", sum := "111cc01759d3cb8955ff8a686430e1d15e220983b893af740da02cc7b604aa17", func := "cadence/cadencelaw6.IniKeeps", spec := "iniKeeps", inPlace := ["internal/bytealg.IndexByteString", "internal/bytealg.IndexString", "internal/bytealg.abigen_runtime_cmpstring", "slices.overlaps[cadence/api.Line]", "internal/abi.NoEscape"], unfollowed := true, recurses := true, named := ["unicode/utf8.first", "unicode/utf8.acceptRanges", "internal/bytealg.MaxLen"], apart := false, laid := [("unicode/utf8.acceptRanges", laid_unicode_utf8_acceptRanges), ("unicode/utf8.first", laid_unicode_utf8_first)] }
def IniKeepsSaid : Prop := iniKeepsRow.holds Tryz.pinned (OpenSpec.ofChange iniKeepsSpec)

/-- ITS FALSE NEIGHBOUR: 'it returns false'. Refute it at one input. -/
def iniKeepsWrong : ChangeSpec := { name := "iniKeeps", fn := fun _ => fun
  | [d1, d2] => { results := [.lit (.bool false)], args := [d1, d2] }
  | _ => none }
def IniKeepsWrongFalsely : Prop := iniKeepsRow.holds Tryz.pinned (OpenSpec.ofChange iniKeepsWrong)

/-- 'cadencelaw6.IniOrder': WHATEVER THE INPUT: true; the input reads as it did. -/
def iniOrderSpec : ChangeSpec := { name := "iniOrder", fn := fun _ => fun
  | [d1, d2, d3] => { results := [.lit (.bool true)], args := [d1, d2, d3] }
  | _ => none }
def iniOrderRow : OpenClaim := { program := "ytapgaglkkgbgkaagreatdoor", sum := "111cc01759d3cb8955ff8a686430e1d15e220983b893af740da02cc7b604aa17", func := "cadence/cadencelaw6.IniOrder", spec := "iniOrder", inPlace := ["internal/bytealg.IndexByteString", "internal/bytealg.IndexString", "internal/bytealg.abigen_runtime_cmpstring", "slices.overlaps[cadence/api.Line]", "internal/abi.NoEscape"], unfollowed := true, recurses := true, named := ["unicode/utf8.first", "unicode/utf8.acceptRanges", "internal/bytealg.MaxLen"], apart := false, laid := [("unicode/utf8.acceptRanges", laid_unicode_utf8_acceptRanges), ("unicode/utf8.first", laid_unicode_utf8_first)] }
def IniOrderSaid : Prop := iniOrderRow.holds Tryz.pinned (OpenSpec.ofChange iniOrderSpec)

/-- ITS FALSE NEIGHBOUR: 'it returns false'. Refute it at one input. -/
def iniOrderWrong : ChangeSpec := { name := "iniOrder", fn := fun _ => fun
  | [d1, d2, d3] => { results := [.lit (.bool false)], args := [d1, d2, d3] }
  | _ => none }
def IniOrderWrongFalsely : Prop := iniOrderRow.holds Tryz.pinned (OpenSpec.ofChange iniOrderWrong)

/- THE SECOND FORM. 'bulk': how many values and letters a reading holds, each counted each time it is reached (what is shared counts as often as it is met; a slice's spare places count too). A statement '..UptoSaid' is the law's where the arguments, and the package variables that the reading takes, are together of bulk at most 1048576: NARROWER than '..Said'. Prove '..Said' where nothing that the law and all that it calls make is longer than what came in: it says more and counts as full. Else prove '..UptoSaid'. A law counts once. -/
mutual
def uptoBulk {H : Type} : DataW H → Nat
  | .lit (.string bytes) => bytes.length + 1
  | .lit _ => 1
  | .nil => 1
  | .ptr d => uptoBulk d + 1
  | .slice elems spare => uptoBulkAll elems + uptoBulkAll spare + 1
  | .agg parts => uptoBulkAll parts + 1
  | .iface _ d => uptoBulk d + 1
  | .map entries => uptoBulkEntries entries + 1
  | .held _ => 1
def uptoBulkAll {H : Type} : List (DataW H) → Nat
  | [] => 0
  | d :: r => uptoBulk d + uptoBulkAll r
def uptoBulkEntries {H : Type} : List (Lit × DataW H) → Nat
  | [] => 0
  | x :: r => uptoBulkEntry x + uptoBulkEntries r
def uptoBulkEntry {H : Type} : Lit × DataW H → Nat
  | (.string bytes, d) => bytes.length + uptoBulk d + 1
  | (_, d) => uptoBulk d + 1
 end
def uptoSmall : (H : Type) → List (DataW H) → Bool := fun _ ds => decide (uptoBulkAll ds ≤ 1048576)
def OpenSpec.upto (s : _root_.Go.ChangeSpec) : _root_.Go.OpenSpec := { _root_.Go.OpenSpec.ofChange s with cond := some uptoSmall }

/-- 'cadencelaw6.IniLoads', WHERE WHAT IT READS IS OF BULK AT MOST 1048576: true; the input reads as it did. -/
def iniLoadsUptoRow : OpenClaim := { program := "ytapgaglkkgbgkaagreatdoor", sum := "111cc01759d3cb8955ff8a686430e1d15e220983b893af740da02cc7b604aa17", func := "cadence/cadencelaw6.IniLoads", spec := "iniLoads", inPlace := ["internal/bytealg.IndexByteString", "internal/bytealg.IndexString", "internal/bytealg.abigen_runtime_cmpstring", "slices.overlaps[cadence/api.Line]", "internal/abi.NoEscape"], unfollowed := true, recurses := true, named := ["unicode/utf8.first", "unicode/utf8.acceptRanges", "internal/bytealg.MaxLen"], apart := false, laid := [("unicode/utf8.acceptRanges", laid_unicode_utf8_acceptRanges), ("unicode/utf8.first", laid_unicode_utf8_first)], narrowed := true }
def IniLoadsUptoSaid : Prop := iniLoadsUptoRow.holds Tryz.pinned (OpenSpec.upto iniLoadsSpec)

/-- 'cadencelaw6.IniPuts', WHERE WHAT IT READS IS OF BULK AT MOST 1048576: true; the input reads as it did. -/
def iniPutsUptoRow : OpenClaim := { program := "ytapgaglkkgbgkaagreatdoor", sum := "111cc01759d3cb8955ff8a686430e1d15e220983b893af740da02cc7b604aa17", func := "cadence/cadencelaw6.IniPuts", spec := "iniPuts", inPlace := ["internal/bytealg.IndexByteString", "internal/bytealg.IndexString", "internal/bytealg.abigen_runtime_cmpstring", "slices.overlaps[cadence/api.Line]", "internal/abi.NoEscape"], unfollowed := true, recurses := true, named := ["unicode/utf8.first", "unicode/utf8.acceptRanges", "internal/bytealg.MaxLen"], loops := true, apart := false, laid := [("unicode/utf8.acceptRanges", laid_unicode_utf8_acceptRanges), ("unicode/utf8.first", laid_unicode_utf8_first)], narrowed := true }
def IniPutsUptoSaid : Prop := iniPutsUptoRow.holds Tryz.pinned (OpenSpec.upto iniPutsSpec)

/-- 'cadencelaw6.IniBack', WHERE WHAT IT READS IS OF BULK AT MOST 1048576: true; the input reads as it did. -/
def iniBackUptoRow : OpenClaim := { program := "ytapgaglkkgbgkaagreatdoor", sum := "111cc01759d3cb8955ff8a686430e1d15e220983b893af740da02cc7b604aa17", func := "cadence/cadencelaw6.IniBack", spec := "iniBack", inPlace := ["internal/bytealg.IndexByteString", "internal/bytealg.IndexString", "internal/bytealg.abigen_runtime_cmpstring", "slices.overlaps[cadence/api.Line]", "internal/abi.NoEscape"], unfollowed := true, recurses := true, named := ["unicode/utf8.first", "unicode/utf8.acceptRanges", "internal/bytealg.MaxLen"], apart := false, laid := [("unicode/utf8.acceptRanges", laid_unicode_utf8_acceptRanges), ("unicode/utf8.first", laid_unicode_utf8_first)], narrowed := true }
def IniBackUptoSaid : Prop := iniBackUptoRow.holds Tryz.pinned (OpenSpec.upto iniBackSpec)

/-- 'cadencelaw6.IniKeeps', WHERE WHAT IT READS IS OF BULK AT MOST 1048576: true; the input reads as it did. -/
def iniKeepsUptoRow : OpenClaim := { program := "ytapgaglkkgbgkaagreatdoor", sum := "111cc01759d3cb8955ff8a686430e1d15e220983b893af740da02cc7b604aa17", func := "cadence/cadencelaw6.IniKeeps", spec := "iniKeeps", inPlace := ["internal/bytealg.IndexByteString", "internal/bytealg.IndexString", "internal/bytealg.abigen_runtime_cmpstring", "slices.overlaps[cadence/api.Line]", "internal/abi.NoEscape"], unfollowed := true, recurses := true, named := ["unicode/utf8.first", "unicode/utf8.acceptRanges", "internal/bytealg.MaxLen"], apart := false, laid := [("unicode/utf8.acceptRanges", laid_unicode_utf8_acceptRanges), ("unicode/utf8.first", laid_unicode_utf8_first)], narrowed := true }
def IniKeepsUptoSaid : Prop := iniKeepsUptoRow.holds Tryz.pinned (OpenSpec.upto iniKeepsSpec)

/-- 'cadencelaw6.IniOrder', WHERE WHAT IT READS IS OF BULK AT MOST 1048576: true; the input reads as it did. -/
def iniOrderUptoRow : OpenClaim := { program := "ytapgaglkkgbgkaagreatdoor", sum := "111cc01759d3cb8955ff8a686430e1d15e220983b893af740da02cc7b604aa17", func := "cadence/cadencelaw6.IniOrder", spec := "iniOrder", inPlace := ["internal/bytealg.IndexByteString", "internal/bytealg.IndexString", "internal/bytealg.abigen_runtime_cmpstring", "slices.overlaps[cadence/api.Line]", "internal/abi.NoEscape"], unfollowed := true, recurses := true, named := ["unicode/utf8.first", "unicode/utf8.acceptRanges", "internal/bytealg.MaxLen"], apart := false, laid := [("unicode/utf8.acceptRanges", laid_unicode_utf8_acceptRanges), ("unicode/utf8.first", laid_unicode_utf8_first)], narrowed := true }
def IniOrderUptoSaid : Prop := iniOrderUptoRow.holds Tryz.pinned (OpenSpec.upto iniOrderSpec)

end Rows
end Go.Proofs.YtapgaglkkgbgkaaGreatDoor
