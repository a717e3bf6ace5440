/- Contracts of cnf.First and of the reference's First. -/
import Derived.Test.YtddmanphhfjngaaDoorXF
namespace Go.Proofs.YtddmanphhfjngaaDoor
open Go.RowKit
namespace L
open K

theorem ret_two {a b c d : Int} (h : (a, b) = (c, d)) : Ending.returned (.tuple #[.int .i64 a, .int .i64 b]) = .returned (.tuple #[.int .i64 c, .int .i64 d]) := by
  cases h; rfl

end L
end Go.Proofs.YtddmanphhfjngaaDoor
