/- Contract of the reference's Holds. -/
import Derived.Test.YtddmanphhfjngaaDoorM
namespace Go.Proofs.YtddmanphhfjngaaDoor
open Go.RowKit
namespace L
open K

end L
end Go.Proofs.YtddmanphhfjngaaDoor
