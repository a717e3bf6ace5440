/- Unit propagation and models, plain. -/
import Derived.Test.YtoffhaamkhfdeaaLW
namespace Go.Proofs.Ytoffhaamkhfdeaa
open Go.RowKit Go.Conc
namespace L
open K

theorem litB_val {m : List Bool} {n : Nat} (hm : m.length = n) {x : Int} (h0 : x ≠ 0) (hx : x.natAbs ≤ n) : litB m x = (m.getD (x.natAbs - 1) false == decide (0 < x)) := by
  have e1 : av x = (x.natAbs : Int) := by unfold av; split <;> omega
  unfold litB
  rw [e1, show (((x.natAbs : Int) - 1).toNat) = x.natAbs - 1 by omega, decide_eq_true (show (0 : Int) < (x.natAbs : Int) by omega), decide_eq_true (show (x.natAbs : Int) ≤ (m.length : Int) by omega)]
  rfl
theorem litB_neg {m : List Bool} {n : Nat} (hm : m.length = n) {x : Int} (h0 : x ≠ 0) (hx : x.natAbs ≤ n) : litB m (-x) = !litB m x := by
  rw [litB_val hm h0 hx, litB_val hm (show -x ≠ 0 by omega) (by omega), Int.natAbs_neg]
  have : decide (0 < -x) = !decide (0 < x) := by
    by_cases h : 0 < x
    · rw [decide_eq_true h, decide_eq_false (by omega)]; rfl
    · rw [decide_eq_false h, decide_eq_true (by omega)]; rfl
  rw [this]
  cases m.getD (x.natAbs - 1) false <;> cases decide (0 < x) <;> rfl
section
variable {m : List Bool} {n : Nat} {F : List (List Int)} {A : List Int}
theorem der_sound (hm : m.length = n) (hF : ∀ c ∈ F, holdsB m c = true) (hv : ∀ c ∈ F, U.Val n c) (hA : ∀ a ∈ A, litB m a = true) {x : Int} (h : U.Der F A x) : litB m x = true := by
  induction h with
  | assume hx => exact hA _ hx
  | @unit c x hc hx _ ih =>
    have h1 := hF c hc
    unfold holdsB at h1
    rw [List.any_eq_true] at h1
    obtain ⟨t, ht, h2⟩ := h1
    by_cases e : t = x
    · exact e ▸ h2
    · have h3 := ih t ht e
      obtain ⟨g1, g2⟩ := hv c hc t ht
      rw [litB_neg hm g1 g2, h2] at h3
      cases h3
theorem bad_sound (hm : m.length = n) (hF : ∀ c ∈ F, holdsB m c = true) (hv : ∀ c ∈ F, U.Val n c) (hA : ∀ a ∈ A, litB m a = true) (hvA : U.Val n A) : ¬ U.Bad F A := by
  rintro (⟨x, h1, h2⟩ | ⟨c, hc, hy⟩)
  · have h3 := hA _ h2
    obtain ⟨g1, g2⟩ := hvA x h1
    rw [litB_neg hm g1 g2, hA x h1] at h3
    cases h3
  · have h1 := hF c hc
    unfold holdsB at h1
    rw [List.any_eq_true] at h1
    obtain ⟨t, ht, h2⟩ := h1
    have h3 := der_sound hm hF hv hA (hy t ht)
    obtain ⟨g1, g2⟩ := hv c hc t ht
    rw [litB_neg hm g1 g2, h2] at h3
    cases h3
end
theorem pickL_in {T : Int → Prop} {v : Nat} (h : U.pickL T v ≠ 0) : T (U.pickL T v) := by
  unfold U.pickL at h ⊢
  by_cases h1 : T (v : Int)
  · simp [h1]
  · by_cases h2 : T (-(v : Int))
    · simp [h1, h2]
    · simp [h1, h2] at h
/-- All variables are known. -/
theorem lits_full {n : Nat} {T : Int → Prop} (h : (U.lits n T).length = n) : ∀ i, i < n → ((U.lits n T).getD i 0).natAbs = i + 1 ∧ T ((U.lits n T).getD i 0) := by
  have e0 : U.pickL T 0 = 0 := by unfold U.pickL; simp
  have e1 : U.lits n T = ((List.range n).map fun i => U.pickL T (i + 1)).filter (· ≠ 0) := by
    unfold U.lits
    rw [List.range_succ_eq_map, List.map_cons, List.filter_cons, e0, List.map_map]
    rfl
  have e2 : ∀ x ∈ (List.range n).map fun i => U.pickL T (i + 1), x ≠ 0 := by
    rw [e1] at h
    intro x hx
    have h2 := (List.length_filter_eq_length_iff (p := fun x : Int => decide (x ≠ 0)) (l := (List.range n).map fun i => U.pickL T (i + 1))).1 (by rw [h]; simp) x hx
    simpa using h2
  have e3 : U.lits n T = (List.range n).map fun i => U.pickL T (i + 1) := by
    rw [e1, List.filter_eq_self.2]
    intro x hx
    simpa using e2 x hx
  intro i hi
  have e4 : (U.lits n T).getD i 0 = U.pickL T (i + 1) := by rw [e3]; simp [List.getD, hi]
  have e5 : U.pickL T (i + 1) ≠ 0 := e2 _ (by simp only [List.mem_map, List.mem_range]; exact ⟨i, hi, rfl⟩)
  rw [e4]
  exact ⟨U.natAbs_pickL T (i + 1) e5, pickL_in e5⟩
def modelU (u : List Int) : List Bool := u.map fun x => decide (0 < x)
theorem full_holds {n : Nat} {F : List (List Int)} {A : List Int} {T : Int → Prop} (hcl : U.Closed F A T) (hv : ∀ c ∈ F, U.Val n c) (h : (U.lits n T).length = n) : ∀ c ∈ F, holdsB (modelU (U.lits n T)) c = true := by
  intro c hc
  have hlen : (modelU (U.lits n T)).length = n := by simp [modelU, h]
  have key : ∀ t ∈ c, T t → litB (modelU (U.lits n T)) t = true := by
    intro t ht hT
    obtain ⟨g1, g2⟩ := hv c hc t ht
    obtain ⟨k1, k2⟩ := lits_full h (t.natAbs - 1) (by omega)
    rw [litB_val hlen g1 g2]
    have e : (modelU (U.lits n T)).getD (t.natAbs - 1) false = decide (0 < (U.lits n T).getD (t.natAbs - 1) 0) := by
      have : t.natAbs - 1 < (U.lits n T).length := by omega
      simp [modelU, List.getD, this]
    rw [e]
    have e2 : (U.lits n T).getD (t.natAbs - 1) 0 = t := by
      generalize (U.lits n T).getD (t.natAbs - 1) 0 = y at *
      have : y = t ∨ y = -t := by omega
      rcases this with h1 | h1
      · exact h1
      · rw [h1] at k2
        exact absurd k2 (hcl.con t hT)
    rw [e2]; simp
  unfold holdsB
  rw [List.any_eq_true]
  rcases hcl.cl c hc with ⟨t, ht, hT⟩ | ⟨a, b, ha, _, _, hna, _⟩
  · exact ⟨t, ht, key t ht hT⟩
  · refine ⟨a, ha, key a ha ?_⟩
    obtain ⟨g1, g2⟩ := hv c hc a ha
    obtain ⟨k1, k2⟩ := lits_full h (a.natAbs - 1) (by omega)
    generalize (U.lits n T).getD (a.natAbs - 1) 0 = y at *
    have : y = a ∨ y = -a := by omega
    rcases this with h1 | h1
    · exact h1 ▸ k2
    · exact absurd (h1 ▸ k2) hna
end L
end Go.Proofs.Ytoffhaamkhfdeaa
