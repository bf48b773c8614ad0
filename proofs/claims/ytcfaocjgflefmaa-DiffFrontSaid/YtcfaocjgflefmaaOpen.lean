/- Arguments opened: a slice of bytes. -/
import Derived.Test.YtcfaocjgflefmaaWords
import Derived.Test.YtcfaocjgflefmaaShut
namespace Go.Proofs.Ytcfaocjgflefmaa
set_option maxRecDepth 100000
open Go.ChangeShapes Go.WideShapes Go.ChangeAt Go.RowKit

theorem cells_u8 : Try.prog.cellsOf 5 = 1 := by kernel_rfl

theorem block_lt {w : World} {a : Addr} {v : Value} (h : w.cell? a = some v) : a.block < w.heap.size := by
  rcases Nat.lt_or_ge a.block w.heap.size with g | g
  · exact g
  · rw [World.cell?, Array.getElem?_eq_none g] at h
    cases h

section
variable {H : Type} {enc : TypeId × Value → H}
end
end Go.Proofs.Ytcfaocjgflefmaa
