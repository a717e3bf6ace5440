/- Contracts of lit.Check and lit.Holds. -/
import Derived.Test.YtenmgkomffnjaaaC
namespace Go.Proofs.Ytenmgkomffnjaaa
open Go.RowKit
namespace L
open K

theorem I64.av {x : Int} (_h : I64 x) : 0 ≤ L.av x := by unfold L.av; split <;> omega
theorem mem_getD {l : List Int} {k : Nat} (h : k < l.length) : l.getD k 0 ∈ l := by
  rw [List.getD, List.getElem?_eq_getElem h]; exact List.getElem_mem h

/-- What Check returns. -/
def checkE (n : Int) (c : List Int) : Int :=
  if n < 0 ∨ 1048576 < n then 3 else if 4096 < c.length then 5 else if c.any (fun x => decide (x = 0) || decide (n < av x)) then 3 else 0

theorem any_upto {l : List Int} {p : Int → Bool} {k : Nat} (h : ∀ j, j < k → p (l.getD j 0) = false) (hk : l.length ≤ k) : l.any p = false := by
  rw [List.any_eq_false]
  intro x hx
  obtain ⟨j, hj, rfl⟩ := List.mem_iff_getElem.1 hx
  have := h j (by omega)
  simpa [List.getD, hj] using this
theorem any_at {l : List Int} {p : Int → Bool} {k : Nat} (hk : k < l.length) (h : p (l.getD k 0) = true) : l.any p = true :=
  List.any_eq_true.2 ⟨_, mem_getD hk, h⟩

end L
end Go.Proofs.Ytenmgkomffnjaaa
