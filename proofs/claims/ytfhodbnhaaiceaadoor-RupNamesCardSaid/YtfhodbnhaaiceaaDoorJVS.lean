/- What Check and Implied answer: more facts, plain. -/
import Derived.Test.YtfhodbnhaaiceaaDoorJVQ
namespace Go.Proofs.YtfhodbnhaaiceaaDoor
open Go.RowKit RA
namespace L
open K

theorem checkR_neg {F p : List (List Int)} : checkR F p = -1 ↔ firstNot F p = none ∧ p.getLast? = some [] := by
  unfold checkR
  cases firstNot F p with
  | some i => simp
  | none =>
    simp only [true_and]
    split
    · rename_i h; simp [h]
    · rename_i h; constructor
      · intro h2; omega
      · intro h2; exact absurd h2 h
theorem checkR_mono {F G p : List (List Int)} (h : ∀ c ∈ F, c ∈ G) (hn : checkR F p = -1) : checkR G p = -1 := by
  rw [checkR_neg] at hn ⊢
  exact ⟨firstNot_mono h hn.1, hn.2⟩
theorem checkR_before {F before p : List (List Int)} (hb : ∀ c ∈ before, Imp F c) (hn : checkR F p = -1) : checkR F (before ++ p) = -1 := by
  rw [checkR_neg] at hn ⊢
  refine ⟨firstNot_before hb hn.1, ?_⟩
  cases p with
  | nil => cases hn.2
  | cons a r => rw [List.getLast?_append, hn.2]; rfl
theorem impliedR_ok {n : Int} {F : List (List Int)} {c : List Int} (h1 : checkF n F = 0) (h2 : checkE n c = 0) : ∃ q : Bool, impliedR n F c = (q, 0) ∧ (q = true ↔ Imp F c) := by
  unfold impliedR
  rw [if_neg (by simp [h1]), if_neg (by simp [h2])]
  exact ⟨_, rfl, by simp⟩
theorem checkA_ok {n : Int} {F p : List (List Int)} (h1 : checkF n F = 0) (h2 : firstE n p = 0) : checkA n F p = (checkR F p, 0) := by
  unfold checkA; rw [if_neg (by simp [h1]), if_neg (by simp [h2])]
theorem checkR_rng (F p : List (List Int)) : -1 ≤ checkR F p ∧ checkR F p ≤ p.length := by
  rcases index_cases F p with ⟨_, h⟩ | ⟨i, _, h1, h⟩
  · rw [h]; split <;> omega
  · rw [h]; omega
end L
end Go.Proofs.YtfhodbnhaaiceaaDoor
