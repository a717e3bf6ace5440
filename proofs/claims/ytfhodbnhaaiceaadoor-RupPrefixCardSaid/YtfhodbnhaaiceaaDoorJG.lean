/- Contract of the comparison closure of lit.ordered. -/
import Derived.Test.YtfhodbnhaaiceaaDoorJF
namespace Go.Proofs.YtfhodbnhaaiceaaDoor
open Go.RowKit
namespace L
open K

/-- What the comparison returns. -/
def cmpI (x y : Int) : Int := if lessB x y = true then -1 else if lessB y x = true then 1 else 0

end L
end Go.Proofs.YtfhodbnhaaiceaaDoor
