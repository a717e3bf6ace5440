/- CnfMore: the walk. -/
import Derived.Test.YtoffhaamkhfdeaaYD
namespace Go.Proofs.Ytoffhaamkhfdeaa
open Go.RowKit
namespace L
open K

theorem lists_take {w : World} {p : Option Addr} {c : Nat} {F : List (List Int)} (h : Lists w (.slice p F.length c) F) {k : Nat} (hk : k ≤ F.length) : Lists w (.slice p k c) (F.take k) := by
  obtain ⟨p', c', he, hl, hm, hc⟩ := h
  cases he
  refine ⟨p, c, by simp; omega, by simp; omega, by simp; omega, fun h0 => ?_⟩
  have h1 : 0 < k := by simp at h0; omega
  obtain ⟨b, off, hp, hc⟩ := hc (by omega)
  refine ⟨b, off, hp, fun j hj => ?_⟩
  have hj' : j < k := by simp at hj; omega
  obtain ⟨u, hu, hi⟩ := hc j (by omega)
  refine ⟨u, hu, ?_⟩
  have : (F.take k).getD j [] = F.getD j [] := by simp [List.getD, List.getElem?_take, hj']
  rw [this]; exact hi
theorem firstE_take {n : Int} {F : List (List Int)} {k : Nat} (h : firstE n F = 0) : firstE n (F.take k) = 0 := by
  induction F generalizing k with
  | nil => simp [firstE]
  | cons l r ih =>
    cases k with
    | zero => rfl
    | succ k =>
      simp only [firstE] at h
      by_cases hc : checkE n l = 0
      · rw [if_pos hc] at h
        simp only [List.take_succ_cons, firstE, hc, if_true]
        exact ih h
      · rw [if_neg hc] at h
        exact absurd h hc
theorem check_take {n : Int} {F : List (List Int)} {k : Nat} (h : checkF n F = 0) : checkF n (F.take k) = 0 := by
  unfold checkF at h ⊢
  by_cases h1 : n < 0 ∨ 1048576 < n
  · rw [if_pos h1] at h; cases h
  rw [if_neg h1] at h ⊢
  by_cases h2 : 1048576 < F.length
  · rw [if_pos h2] at h; cases h
  rw [if_neg h2] at h
  rw [if_neg (by simp; omega)]
  exact firstE_take h
theorem first_take (m : List Bool) (F : List (List Int)) (k : Nat) (hk : k ≤ F.length) : (firstI m (F.take k) = -1 ∧ (firstI m F = -1 ∨ (k : Int) ≤ firstI m F)) ∨ (0 ≤ firstI m (F.take k) ∧ firstI m (F.take k) = firstI m F) := by
  have hg : ∀ j, j < k → (F.take k).getD j [] = F.getD j [] := fun j hj => by simp [List.getD, List.getElem?_take, hj]
  rcases first_facts m (F.take k) with ⟨h1, h2⟩ | ⟨a, h1, h2, h3, h4⟩
  · left
    refine ⟨h1, ?_⟩
    rcases first_facts m F with ⟨h5, _⟩ | ⟨b, h5, h6, h7, h8⟩
    · exact .inl h5
    · right
      rw [h5]
      by_cases hb : b < k
      · have := h2 b (by simp; omega)
        rw [hg b hb, h8] at this
        cases this
      · omega
  · right
    have ha : a < k := by simp at h2; omega
    refine ⟨by omega, ?_⟩
    rw [h1]
    rw [hg a ha] at h4
    refine (firstI_at (fun j hj => ?_) (by simp at h2; omega) h4).symm
    rw [← hg j (by omega)]; exact h3 j hj

end L
end Go.Proofs.Ytoffhaamkhfdeaa
