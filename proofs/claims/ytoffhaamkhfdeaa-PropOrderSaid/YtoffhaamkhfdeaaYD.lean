/- What Fit makes is valid; what First's index says. CnfAll: the walk. -/
import Derived.Test.YtoffhaamkhfdeaaYC
namespace Go.Proofs.Ytoffhaamkhfdeaa
open Go.RowKit
namespace L
open K

theorem tmod_av (x V : Int) (h1 : 1 ≤ V) (h2 : V ≤ 1000) : av (x.tmod (V + 1)) ≤ V ∧ I64 (x.tmod (V + 1)) := by
  have h3 : x.tmod (V + 1) < V + 1 := Int.tmod_lt_of_pos x (by omega)
  have h4 : -(V + 1) < x.tmod (V + 1) := by
    have h := Int.tmod_lt_of_pos (-x) (show 0 < V + 1 by omega)
    rw [Int.neg_tmod] at h
    omega
  refine ⟨by unfold av; split <;> omega, by unfold I64; omega⟩
theorem fitC_mem {V : Int} {l : List Int} (h1 : 1 ≤ V) (h2 : V ≤ 1000) : ∀ x ∈ fitC V l, x ≠ 0 ∧ av x ≤ V ∧ I64 x := by
  intro x hx
  simp only [fitC, List.mem_filter, List.mem_map, bne_iff_ne, ne_eq] at hx
  obtain ⟨⟨y, _, rfl⟩, hy⟩ := hx
  exact ⟨hy, tmod_av y V h1 h2⟩
theorem fitC_check {V : Int} {l : List Int} (h1 : 1 ≤ V) (h2 : V ≤ 1000) (hl : l.length ≤ 4096) : checkE V (fitC V l) = 0 := by
  have hlen := fitC_len (V := V) (l := l)
  have hany : (fitC V l).any (fun x => decide (x = 0) || decide (V < av x)) = false := by
    rw [List.any_eq_false]
    intro x hx
    have := fitC_mem h1 h2 x hx
    simp [this.1]; omega
  simp only [checkE, hany]
  rw [if_neg (by omega), if_neg (by omega)]
  rfl
theorem firstE_zero {V : Int} {L : List (List Int)} (h : ∀ l ∈ L, checkE V l = 0) : firstE V L = 0 := by
  induction L with
  | nil => rfl
  | cons l r ih => simp only [firstE, h l (by simp), if_true]; exact ih fun x hx => h x (by simp [hx])
theorem fitL_mem {V : Int} {L : List (List Int)} {l : List Int} (h : l ∈ fitL V L) : ∃ l' ∈ L, l = fitC V l' := by
  simp only [fitL, List.mem_map] at h
  obtain ⟨l', h1, h2⟩ := h
  exact ⟨l', h1, h2.symm⟩
theorem fit_i64 {V : Int} {L : List (List Int)} (h1 : 1 ≤ V) (h2 : V ≤ 1000) : ∀ l ∈ fitL V L, ∀ x ∈ l, I64 x := by
  intro l hl x hx
  obtain ⟨l', _, rfl⟩ := fitL_mem hl
  exact (fitC_mem h1 h2 x hx).2.2
theorem fit_len {V : Int} {L : List (List Int)} (h : fitOk L = true) : (fitL V L).length ≤ 30 ∧ ∀ l ∈ fitL V L, l.length ≤ 20 := by
  obtain ⟨h1, h2⟩ := fitOk_bound h
  refine ⟨by simpa [fitL] using h1, fun l hl => ?_⟩
  obtain ⟨l', h3, rfl⟩ := fitL_mem hl
  exact Nat.le_trans fitC_len (h2 l' h3)
theorem fit_check {V : Int} {L : List (List Int)} (h1 : 1 ≤ V) (h2 : V ≤ 1000) (h : fitOk L = true) : checkF V (fitL V L) = 0 := by
  obtain ⟨h3, h4⟩ := fitOk_bound h
  have h5 : firstE V (fitL V L) = 0 := firstE_zero fun l hl => by
    obtain ⟨l', h6, rfl⟩ := fitL_mem hl
    exact fitC_check h1 h2 (by have := h4 l' h6; omega)
  have h6 := (fit_len (V := V) h).1
  simp only [checkF, h5]
  rw [if_neg (by omega), if_neg (by omega)]
theorem fit_own {V : Int} {L : List (List Int)} {w : World} {base : Nat} {v : Value} (h : fitOk L = true) (hO : OwnL w base v (fitL V L)) : Lists w v (fitL V L) :=
  hO.lists (by have := (fit_len (V := V) h).1; omega) fun j hj => by have := (fit_len (V := V) h).2 _ (mem_getDL hj); omega
theorem firstF_ok {V : Int} {L : List (List Int)} {m : List Bool} (h : checkF V L = 0) (hm : (m.length : Int) = V) : firstF V L m = (firstI m L, 0) := by
  simp [firstF, h, hm]
theorem least (p : Nat → Bool) (n : Nat) : (∀ j, j < n → p j = true) ∨ ∃ a, a < n ∧ p a = false ∧ ∀ j, j < a → p j = true := by
  induction n with
  | zero => exact .inl fun j hj => absurd hj (Nat.not_lt_zero _)
  | succ n ih =>
    rcases ih with h | ⟨a, ha, h1, h2⟩
    · cases hq : p n with
      | true =>
        left
        intro j hj
        by_cases hjn : j = n
        · rw [hjn]; exact hq
        · exact h j (by omega)
      | false => exact .inr ⟨n, by omega, hq, h⟩
    · exact .inr ⟨a, by omega, h1, h2⟩
theorem first_facts (m : List Bool) (L : List (List Int)) : (firstI m L = -1 ∧ ∀ j, j < L.length → holdsB m (L.getD j []) = true) ∨ ∃ a : Nat, firstI m L = a ∧ a < L.length ∧ (∀ j, j < a → holdsB m (L.getD j []) = true) ∧ holdsB m (L.getD a []) = false := by
  rcases least (fun j => holdsB m (L.getD j [])) L.length with h | ⟨a, ha, hf, hm⟩
  · exact .inl ⟨firstI_upto h (Nat.le_refl _), h⟩
  · exact .inr ⟨a, firstI_at hm ha hf, ha, hm, hf⟩
theorem holds_nil (m : List Bool) : holdsB m [] = false := rfl
end L
end Go.Proofs.Ytoffhaamkhfdeaa
