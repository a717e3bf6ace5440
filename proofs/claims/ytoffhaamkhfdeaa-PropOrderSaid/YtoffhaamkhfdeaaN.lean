/- Contract of the reference's Holds. -/
import Derived.Test.YtoffhaamkhfdeaaM
namespace Go.Proofs.Ytoffhaamkhfdeaa
open Go.RowKit
namespace L
open K

end L
end Go.Proofs.Ytoffhaamkhfdeaa
