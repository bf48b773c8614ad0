/- Get of the reference. Conditions: fewer than 2^39 edges. -/
import Derived.Test.YtchoipmfngcdoaaMwMgBox
import Derived.Outline
namespace Go.Proofs.Ytchoipmfngcdoaa.Pt
open Go.RowKit
set_option maxRecDepth 100000

def RGetP (w : World) (r : Tr × Bool) (e : Ending) (w' : World) : Prop :=
  ∃ A' n' c', e = .returned (.tuple #[.slice A' n' c', .bool r.2]) ∧ OkT w A' n' c' r.1 ∧ ∃ q, w' = w.drewN q

end Go.Proofs.Ytchoipmfngcdoaa.Pt
