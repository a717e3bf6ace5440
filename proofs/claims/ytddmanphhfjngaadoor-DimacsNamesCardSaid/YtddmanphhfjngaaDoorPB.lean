/- Plain: the number that a word is. No program. -/
import Derived.Test.YtddmanphhfjngaaDoorPA
import Derived.Lib.Strings
namespace Go.Proofs.PA
open Go.Lib

def digB (b : UInt8) : Bool := 48 ≤ b && b ≤ 57
/-- The value of digits, cut at a limit. -/
def clampF (M : Int) (x : Int) (l : List UInt8) : Int := l.foldl (fun x b => min (10 * x + ((b.toNat : Int) - 48)) M) x
/-- Whether digits may be those of a number. -/
def formB (w d : List UInt8) : Bool := !(decide (d = []) || (d.head? == some 48 && !decide (w = [48])))
def numM (M : Int) (w : List UInt8) : Int × Bool :=
  let d := trimPrefix w [45]
  if formB w d && d.all digB then ((if hasPrefix w [45] then - clampF M 0 d else clampF M 0 d), true) else (0, false)

theorem clamp_bound {M x : Int} {l : List UInt8} (hM : 0 ≤ M) (h0 : 0 ≤ x) (h1 : x ≤ M) (hl : ∀ b ∈ l, digB b = true) : 0 ≤ clampF M x l ∧ clampF M x l ≤ M := by
  induction l generalizing x with
  | nil => exact ⟨h0, h1⟩
  | cons b l ih =>
    have hb := hl b (by simp)
    unfold digB at hb
    simp only [Bool.and_eq_true, decide_eq_true_eq, UInt8.le_iff_toNat_le] at hb
    have h48 : (48 : UInt8).toNat = 48 := rfl
    exact ih (x := min (10 * x + ((b.toNat : Int) - 48)) M) (by omega) (by omega) (fun c hc => hl c (by simp [hc]))
theorem clamp_snoc (M x : Int) (l : List UInt8) (b : UInt8) : clampF M x (l ++ [b]) = min (10 * clampF M x l + ((b.toNat : Int) - 48)) M := by simp [clampF]
theorem take_snoc {l : List UInt8} {k : Nat} (h : k < l.length) : l.take (k + 1) = l.take k ++ [l.getD k 0] := by
  rw [List.take_succ_eq_append_getElem h, List.getD_eq_getElem?_getD, List.getElem?_eq_getElem h]; rfl
theorem digB_iff (b : UInt8) : digB b = true ↔ 48 ≤ (b.toNat : Int) ∧ (b.toNat : Int) ≤ 57 := by
  unfold digB
  have h48 : (48 : UInt8).toNat = 48 := rfl
  have h57 : (57 : UInt8).toNat = 57 := rfl
  simp only [Bool.and_eq_true, decide_eq_true_eq, UInt8.le_iff_toNat_le, h48, h57]
  omega
theorem all_at {l : List UInt8} (h : ∀ j, j < l.length → digB (l.getD j 0) = true) : l.all digB = true := by
  rw [List.all_eq_true]
  intro x hx
  obtain ⟨j, hj, rfl⟩ := List.getElem_of_mem hx
  have := h j hj
  rwa [List.getD_eq_getElem?_getD, List.getElem?_eq_getElem hj] at this
theorem all_not {l : List UInt8} {k : Nat} (hk : k < l.length) (h : digB (l.getD k 0) = false) : l.all digB = false := by
  rw [Bool.eq_false_iff]
  intro ha
  rw [List.all_eq_true] at ha
  have := ha _ (List.getElem_mem hk)
  rw [List.getD_eq_getElem?_getD, List.getElem?_eq_getElem hk] at h
  simp at h
  rw [h] at this
  cases this
theorem take_dig {l : List UInt8} {k : Nat} (hk : k ≤ l.length) (h : ∀ j, j < k → digB (l.getD j 0) = true) : ∀ b ∈ l.take k, digB b = true := by
  intro b hb
  obtain ⟨j, hj, rfl⟩ := List.getElem_of_mem hb
  simp at hj
  have := h j (by omega)
  rw [List.getD_eq_getElem?_getD, List.getElem?_eq_getElem (by omega)] at this
  simpa using this
theorem num_false {M : Int} {w : List UInt8} (h : formB w (trimPrefix w [45]) = false ∨ (trimPrefix w [45]).all digB = false) : numM M w = (0, false) := by
  unfold numM
  rcases h with h | h <;> simp [h]
theorem num_true {M : Int} {w d : List UInt8} {n : Bool} (hd : trimPrefix w [45] = d) (hn : hasPrefix w [45] = n) (h1 : formB w d = true) (h2 : d.all digB = true) : numM M w = (if n then - clampF M 0 d else clampF M 0 d, true) := by
  unfold numM
  simp [hd, hn, h1, h2]
end Go.Proofs.PA
