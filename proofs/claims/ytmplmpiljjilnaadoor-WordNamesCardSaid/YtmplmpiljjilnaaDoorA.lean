/- Contracts of lit.variable and lit.Less (and the reference's size and Less): what they return, for numbers of 64 bits. -/
import Derived.Test.YtmplmpiljjilnaaDoorProg
import Derived.WalkKit
import Derived.Handy
import Derived.Lib.Hide
import Derived.WalkSpells
import Derived.WalkLawsBesides
import Derived.BigQuiet
import Derived.Deep.QuietTactic
namespace Go.Proofs.YtmplmpiljjilnaaDoor
open Go.RowKit
namespace L

/-- A number of 64 bits. -/
def I64 (x : Int) : Prop := -9223372036854775808 ≤ x ∧ x ≤ 9223372036854775807
/-- Absolute value. -/
def av (x : Int) : Int := if x < 0 then -x else x

theorem ret_int {k : IntKind} {a b : Int} (h : a = b) : Ending.returned (.int k a) = .returned (.int k b) := by rw [h]
theorem ret_bool {a b : Bool} (h : a = b) : Ending.returned (.bool a) = .returned (.bool b) := by rw [h]
theorem wrap_pos (x : Int) (h : I64 x) (h0 : 0 ≤ x) : IntKind.u64.wrap x = x := by
  unfold I64 at h
  simp only [IntKind.wrap_u64]; omega
theorem wrap_neg (x : Int) (h : I64 x) (h0 : x < 0) : IntKind.u64.wrap (-IntKind.u64.wrap x) = -x := by
  unfold I64 at h
  simp only [IntKind.wrap_u64]; omega

def lessB (a b : Int) : Bool := decide (av a < av b) || (decide (av a = av b) && decide (b < a))

end L
end Go.Proofs.YtmplmpiljjilnaaDoor
