/- Contract of slices.Clone at []int. -/
import Derived.Test.YtoffhaamkhfdeaaE
import Derived.Lib.LazyBuf
namespace Go.Proofs.Ytoffhaamkhfdeaa
open Go.RowKit
namespace L
open K

end L
end Go.Proofs.Ytoffhaamkhfdeaa
