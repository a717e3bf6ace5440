/- Contracts of First: the closure, slices.IndexFunc, cnf.First, the reference's First. -/
import Derived.Test.YtddmanphhfjngaaDoorXD
import Derived.Test.YtddmanphhfjngaaDoorXE
namespace Go.Proofs.YtddmanphhfjngaaDoor
open Go.RowKit
namespace L
open K

/-- The index of the first clause that does not hold. -/
def firstI (m : List Bool) (L : List (List Int)) : Int := if L.all (holdsB m) then -1 else (L.findIdx fun l => !holdsB m l : Nat)
theorem firstI_upto {m : List Bool} {L : List (List Int)} {k : Nat} (h : ∀ j, j < k → holdsB m (L.getD j []) = true) (hk : L.length ≤ k) : firstI m L = -1 := by
  unfold firstI
  rw [if_pos]
  rw [List.all_eq_true]
  intro l hl
  obtain ⟨j, hj, rfl⟩ := List.getElem_of_mem hl
  have := h j (by omega)
  simpa [List.getD, hj] using this
theorem firstI_at {m : List Bool} {L : List (List Int)} {k : Nat} (h : ∀ j, j < k → holdsB m (L.getD j []) = true) (hk : k < L.length) (hf : holdsB m (L.getD k []) = false) : firstI m L = k := by
  unfold firstI
  have hf' : holdsB m L[k] = false := by simpa [List.getD, hk] using hf
  rw [if_neg]
  · congr 1
    rw [List.findIdx_eq hk]
    refine ⟨by simp [hf'], fun j hj => ?_⟩
    have hj' : j < L.length := by omega
    have := h j hj
    simpa [List.getD, hj'] using this
  · rw [List.all_eq_true]
    intro h2
    have := h2 _ (List.getElem_mem hk)
    rw [hf'] at this
    cases this
/-- What First returns. -/
def firstF (n : Int) (L : List (List Int)) (m : List Bool) : Int × Int :=
  if checkF n L ≠ 0 then (0, checkF n L) else if (m.length : Int) ≠ n then (0, 2) else (firstI m L, 0)

end L
end Go.Proofs.YtddmanphhfjngaaDoor
