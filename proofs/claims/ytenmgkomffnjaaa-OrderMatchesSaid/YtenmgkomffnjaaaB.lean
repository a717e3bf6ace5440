/- Contracts of the kit's EqualInts and CopyInts. -/
import Derived.Test.YtenmgkomffnjaaaA
import Derived.Test.YtenmgkomffnjaaaK
namespace Go.Proofs.Ytenmgkomffnjaaa
open Go.RowKit
namespace L
open K

theorem neq_at {l1 l2 : List Int} {k : Nat} (hne : l1.getD k 0 ≠ l2.getD k 0) : l1 ≠ l2 := by
  rintro rfl; exact hne rfl

end L
end Go.Proofs.Ytenmgkomffnjaaa
