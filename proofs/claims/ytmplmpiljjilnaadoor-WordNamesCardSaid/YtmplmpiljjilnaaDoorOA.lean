/- The operators, plain: their names, how many arguments they have, which of them commute; the table where the program keeps them. -/
import Derived.Test.YtmplmpiljjilnaaDoorA
import Derived.Laws.RangeString
import Derived.Laws.RangeAny
namespace Go.Proofs.YtmplmpiljjilnaaDoor
open Go.RowKit
namespace L

/-- The names from the operator 2 on. -/
def NL : List (List UInt8) := [[110, 111, 116], [110, 101, 103], [97, 100, 100], [115, 117, 98], [109, 117, 108], [100, 105, 118], [114, 101, 109], [97, 110, 100], [111, 114], [120, 111, 114], [115, 104, 108], [115, 104, 114], [115, 97, 114], [101, 113], [110, 101], [108, 116], [108, 101], [115, 108, 116], [115, 108, 101], [105, 116, 101]]
def nameL : List (List UInt8) := [] :: [] :: NL
def arL : List Int := [0, 0, 1, 1, 2, 2, 2, 2, 2, 2, 2, 2, 2, 2, 2, 2, 2, 2, 2, 2, 2, 3]
def str (l : List UInt8) : Value := .string ⟨l.toArray⟩
def arA (k : Nat) : Int := if k ≤ 21 then arL.getD k 0 else 0
def arE (k : Nat) : Int := if k ≤ 21 then 0 else 3
def nmS (k : Nat) : List UInt8 := if k ≤ 21 then nameL.getD k [] else []
def nmE (k : Nat) : Int := if k ≤ 21 then (if k < 2 then 6 else 0) else 3
def cmB (k : Nat) : Bool := k == 4 || k == 6 || k == 9 || k == 10 || k == 11 || k == 15 || k == 16
/-- The place of a name among the names: 20 if it is none. -/
def ofN (s : List UInt8) : Nat := NL.idxOf s
def ofV (s : List UInt8) : Int := if ofN s < 20 then ((ofN s + 2 : Nat) : Int) else 0
def ofE (s : List UInt8) : Int := if ofN s < 20 then 0 else 6

/-- The program's table of operators, as it lies in memory. -/
def OpTab (w : World) : Prop := ∀ k, k < 22 → w.cell? ⟨0, k * 2, none⟩ = some (.int .i64 (arL.getD k 0)) ∧ w.cell? ⟨0, k * 2 + 1, none⟩ = some (str (nameL.getD k []))
theorem OpTab.below {w w' : World} (h : OpTab w) (hb : Below w.heap.size w w') : OpTab w' := fun k hk =>
  ⟨(hb.cell (p := ⟨0, k * 2, none⟩) (World.block_lt_of_cell? _ _ (h k hk).1)).trans (h k hk).1, (hb.cell (p := ⟨0, k * 2 + 1, none⟩) (World.block_lt_of_cell? _ _ (h k hk).2)).trans (h k hk).2⟩

theorem toList_mk (l : List UInt8) : (⟨l.toArray⟩ : ByteArray).toList = l := by
  rw [ByteArray.toList_eq]
theorem str_same (a b : List UInt8) : ((⟨a.toArray⟩ : ByteArray).toList == (⟨b.toArray⟩ : ByteArray).toList) = decide (a = b) := by
  rw [toList_mk, toList_mk, Bool.eq_iff_iff]; simp
theorem nl_len : NL.length = 20 := by decide
theorem ofN_le (s : List UInt8) : ofN s ≤ 20 := by
  have := List.idxOf_le_length (a := s) (l := NL)
  rw [nl_len] at this
  exact this
theorem ofN_is (s : List UInt8) (k : Nat) (hk : k < 20) (h : NL.getD k [] = s) : ofN s = k := by
  subst h
  have : ∀ k : Fin 20, ofN (NL.getD k.val []) = k.val := by decide +kernel
  exact this ⟨k, hk⟩
theorem ofN_get (s : List UInt8) (h : ofN s < 20) : NL.getD (ofN s) [] = s := by
  have h1 : NL.idxOf s < NL.length := by rw [nl_len]; exact h
  have := List.getElem_idxOf h1
  unfold ofN
  rw [List.getD_eq_getElem?_getD, List.getElem?_eq_getElem h1]
  exact this
theorem ofN_not (s : List UInt8) (h : ∀ j, j < 20 → NL.getD j [] ≠ s) : ofN s = 20 := by
  by_cases hk : ofN s < 20
  · exact absurd (ofN_get s hk) (h _ hk)
  · have := ofN_le s; omega
end L
end Go.Proofs.YtmplmpiljjilnaaDoor
