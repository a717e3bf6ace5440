/- Contract of lit.Holds. -/
import Derived.Test.YtenmgkomffnjaaaD
namespace Go.Proofs.Ytenmgkomffnjaaa
open Go.RowKit
namespace L
open K

/-- Whether a literal holds in a model. -/
def litB (m : List Bool) (x : Int) : Bool := decide (0 < av x) && (decide (av x ≤ m.length) && (m.getD (av x - 1).toNat false == decide (0 < x)))
def holdsB (m : List Bool) (c : List Int) : Bool := c.any (litB m)

end L
end Go.Proofs.Ytenmgkomffnjaaa
