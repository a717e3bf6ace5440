/- In place of the contract of lit.ordered, where a seat has no sort. -/
import Derived.Test.YtfhodbnhaaiceaaDoorJG
namespace Go.Proofs.YtfhodbnhaaiceaaDoor
open Go.RowKit
namespace L
open K
/-- The list in the order of Less. -/
def sortI (l : List Int) : List Int := l.mergeSort fun a b => !lessB b a
end L
end Go.Proofs.YtfhodbnhaaiceaaDoor
