/- Contract of slices.Clone at []int. -/
import Derived.Test.YtfhodbnhaaiceaaDoorQ17
import Derived.Lib.LazyBuf
namespace Go.Proofs.YtfhodbnhaaiceaaDoor
open Go.RowKit
namespace L
open K

end L
end Go.Proofs.YtfhodbnhaaiceaaDoor
