/- Make: a tree of raw edges. Conditions: fewer than 200 raw edges; at most 100 beside one another, 100 deep. -/
import Derived.Test.YtchoipmfngcdoaaWithW
import Derived.Deep.RegionHeld3
import Derived.IntWalk
namespace Go.Proofs.Ytchoipmfngcdoaa
open Go.RowKit
set_option maxRecDepth 100000

def cut30 (s : ByteArray) : ByteArray := s.extract 0 30
/-- Make: what is still to be gone through, how many edges may still come, how deep, what is made so far. -/
def Tr.makeT (W : Nat) : Tr → Nat → Nat → Tr → Tr
  | .nil, _, _, acc => acc
  | .cons s k r, left, deep, acc => if left = 0 ∨ deep = 0 then acc else r.makeT W (left - 1) deep (acc.withT (cut30 s) (k.makeT W W (deep - 1) .nil))

end Go.Proofs.Ytchoipmfngcdoaa
