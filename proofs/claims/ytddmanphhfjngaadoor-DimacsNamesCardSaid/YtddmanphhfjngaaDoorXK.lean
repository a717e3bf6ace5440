/- Contracts of the kit's CopyLists, CopyFormula, EqualLists, EqualFormula. -/
import Derived.Test.YtddmanphhfjngaaDoorYB
namespace Go.Proofs.YtddmanphhfjngaaDoor
open Go.RowKit
namespace L
open K

end L
end Go.Proofs.YtddmanphhfjngaaDoor
