/- Contract of the comparison closure of lit.ordered. -/
import Derived.Test.YtoffhaamkhfdeaaF
namespace Go.Proofs.Ytoffhaamkhfdeaa
open Go.RowKit
namespace L
open K

/-- What the comparison returns. -/
def cmpI (x y : Int) : Int := if lessB x y = true then -1 else if lessB y x = true then 1 else 0

end L
end Go.Proofs.Ytoffhaamkhfdeaa
