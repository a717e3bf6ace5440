/- Plain: the text of a formula. No program. -/
import Derived.Test.YtddmanphhfjngaaDoorPD
namespace Go.Proofs.PA
open Go.Lib

def headT (n : Int) (k : Nat) : List UInt8 := [112, 32, 99, 110, 102, 32] ++ itoa n ++ [32] ++ itoa k ++ [10]
def litT (x : Int) : List UInt8 := itoa x ++ [32]
def clauseT (c : List Int) : List UInt8 := c.flatMap litT ++ [48, 10]
def textT (n : Int) (L : List (List Int)) : List UInt8 := headT n L.length ++ L.flatMap clauseT
theorem flat_snoc {α : Type} (L : List α) (d : α) (k : Nat) (h : k < L.length) (f : α → List UInt8) : (L.take (k + 1)).flatMap f = (L.take k).flatMap f ++ f (L.getD k d) := by
  rw [List.take_succ_eq_append_getElem h, List.flatMap_append, List.getD_eq_getElem?_getD, List.getElem?_eq_getElem h]
  simp
theorem flat_len (L : List (List Int)) (k : Nat) : ((L.take k).flatMap clauseT).length ≤ (L.flatMap clauseT).length := by
  conv => rhs; rw [← List.take_append_drop k L, List.flatMap_append, List.length_append]
  omega
theorem lits_len (c : List Int) (k : Nat) (hk : k ≤ c.length) (h : ∀ x ∈ c, (itoa x).length ≤ 21) : ((c.take k).flatMap litT).length ≤ 22 * k := by
  induction k with
  | zero => simp
  | succ k ih =>
    rw [flat_snoc c 0 k (by omega), List.length_append]
    have := h (c.getD k 0) (by rw [List.getD_eq_getElem?_getD, List.getElem?_eq_getElem (by omega)]; exact List.getElem_mem _)
    have h1 := ih (by omega)
    have h2 : (litT (c.getD k 0)).length = (itoa (c.getD k 0)).length + 1 := by unfold litT; rw [List.length_append]; rfl
    omega
end Go.Proofs.PA
