/- What Norm returns, in plain words: the list of all literals, by growing variables; none exactly if there is a clash. -/
import Derived.Test.YtbmpjglplmnlnaaI
namespace Go.Proofs.Ytbmpjglplmnlnaa
open Go.RowKit
namespace L

/-- By growing variables. -/
def Inc (l : List Int) : Prop := l.Pairwise (fun a b => av a < av b)
/-- A literal and its negative. -/
def Clash (l : List Int) : Prop := ∃ x y, x ∈ l ∧ y ∈ l ∧ x ≠ 0 ∧ y ≠ 0 ∧ x ≠ y ∧ av x = av y

theorem av_zero {x : Int} : av x = 0 ↔ x = 0 := by unfold av; split <;> omega

theorem inc_last {acc : List Int} (h : Inc acc) (h0 : 0 < acc.length) : ∀ x ∈ acc, av x ≤ av (acc.getD (acc.length - 1) 0) := by
  intro x hx
  obtain ⟨j, hj, rfl⟩ := List.mem_iff_getElem.1 hx
  have e : acc.getD (acc.length - 1) 0 = acc[acc.length - 1]'(by omega) := by rw [List.getD, List.getElem?_eq_getElem (show acc.length - 1 < acc.length by omega)]; rfl
  rw [e]
  by_cases hjl : j = acc.length - 1
  · subst hjl; exact Int.le_refl _
  · exact Int.le_of_lt (List.pairwise_iff_getElem.1 h j (acc.length - 1) hj (by omega) (by omega))
theorem last_mem {acc : List Int} (h0 : 0 < acc.length) : acc.getD (acc.length - 1) 0 ∈ acc := by
  have e : acc.getD (acc.length - 1) 0 = acc[acc.length - 1]'(by omega) := by rw [List.getD, List.getElem?_eq_getElem (show acc.length - 1 < acc.length by omega)]; rfl
  rw [e]; exact List.getElem_mem _
theorem inc_push {acc : List Int} {x : Int} (h : Inc acc) (hx : ∀ y ∈ acc, av y < av x) : Inc (acc ++ [x]) := by
  unfold Inc
  rw [List.pairwise_append]
  exact ⟨h, List.pairwise_singleton _ _, fun a ha b hb => by simp at hb; subst hb; exact hx a ha⟩

/-- What the loop makes of a sorted list. -/
theorem normGo_spec (s : List Int) : ∀ acc, Inc acc → (∀ x ∈ acc, x ≠ 0) → (s.Pairwise fun a b => lessB b a = false) → (∀ x ∈ acc, ∀ y ∈ s, lessB y x = false) →
    (∀ r, normGo acc s = some r → Inc r ∧ ∀ x, x ∈ r ↔ x ∈ acc ∨ (x ∈ s ∧ x ≠ 0)) ∧ (normGo acc s = none → Clash (acc ++ s)) := by
  induction s with
  | nil => intro acc hi hz _ _; refine ⟨fun r h => ?_, fun h => by simp [normGo] at h⟩; simp [normGo] at h; subst h; exact ⟨hi, fun x => by simp⟩
  | cons x r ih =>
    intro acc hi hz hs has
    have hsr := (List.pairwise_cons.1 hs).2
    have hxr := (List.pairwise_cons.1 hs).1
    have skip : (∀ q, normGo acc r = some q → Inc q ∧ ∀ z, z ∈ q ↔ z ∈ acc ∨ (z ∈ r ∧ z ≠ 0)) ∧ (normGo acc r = none → Clash (acc ++ r)) :=
      ih acc hi hz hsr fun a ha y hy => has a ha y (List.mem_cons_of_mem _ hy)
    have clash : Clash (acc ++ r) → Clash (acc ++ x :: r) := fun ⟨a, b, h1, h2, h3⟩ => ⟨a, b, by simp at *; rcases h1 with h | h <;> simp [h], by simp at *; rcases h2 with h | h <;> simp [h], h3⟩
    have push : x ≠ 0 → (∀ y ∈ acc, av y < av x) → ((∀ q, normGo (acc ++ [x]) r = some q → Inc q ∧ ∀ z, z ∈ q ↔ z ∈ acc ∨ (z ∈ x :: r ∧ z ≠ 0)) ∧ (normGo (acc ++ [x]) r = none → Clash (acc ++ x :: r))) := fun h0 hlt => by
      have h1 := ih (acc ++ [x]) (inc_push hi hlt) (fun y hy => by simp at hy; rcases hy with h | h; exact hz y h; exact h ▸ h0) hsr (fun a ha y hy => by
        simp at ha
        rcases ha with h | h
        · exact has a h y (List.mem_cons_of_mem _ hy)
        · subst h; exact hxr y hy)
      refine ⟨fun q hq => ⟨(h1.1 q hq).1, fun z => ?_⟩, fun hn => by have := h1.2 hn; simpa using this⟩
      rw [(h1.1 q hq).2 z]
      simp only [List.mem_append, List.mem_cons, List.not_mem_nil, or_false]
      constructor
      · rintro ((h | h) | h)
        · exact Or.inl h
        · exact Or.inr ⟨Or.inl h, h ▸ h0⟩
        · exact Or.inr ⟨Or.inr h.1, h.2⟩
      · rintro (h | ⟨h | h, h2⟩)
        · exact Or.inl (Or.inl h)
        · exact Or.inl (Or.inr h)
        · exact Or.inr ⟨h, h2⟩
    unfold normGo
    by_cases h0 : x = 0
    · rw [if_pos h0]
      refine ⟨fun q hq => ⟨(skip.1 q hq).1, fun z => ?_⟩, fun hn => clash (skip.2 hn)⟩
      rw [(skip.1 q hq).2 z]
      constructor
      · rintro (h | h)
        · exact Or.inl h
        · exact Or.inr ⟨List.mem_cons_of_mem _ h.1, h.2⟩
      · rintro (h | ⟨h, h2⟩)
        · exact Or.inl h
        · rcases List.mem_cons.1 h with h | h
          · exact absurd (h.trans h0) h2
          · exact Or.inr ⟨h, h2⟩
    · rw [if_neg h0]
      by_cases ha : acc = []
      · rw [if_pos ha]
        exact push h0 (fun y hy => by simp [ha] at hy)
      · rw [if_neg ha]
        have hlen : 0 < acc.length := List.length_pos_iff.2 ha
        have hym := last_mem hlen
        have hyl := inc_last hi hlen
        have hyx := has _ hym x (List.mem_cons_self)
        generalize acc.getD (acc.length - 1) 0 = y at hym hyl hyx
        by_cases he : y = x
        · rw [if_pos he]
          refine ⟨fun q hq => ⟨(skip.1 q hq).1, fun z => ?_⟩, fun hn => clash (skip.2 hn)⟩
          rw [(skip.1 q hq).2 z]
          constructor
          · rintro (h | h)
            · exact Or.inl h
            · exact Or.inr ⟨List.mem_cons_of_mem _ h.1, h.2⟩
          · rintro (h | ⟨h, h2⟩)
            · exact Or.inl h
            · rcases List.mem_cons.1 h with h | h
              · rw [h, ← he]; exact Or.inl hym
              · exact Or.inr ⟨h, h2⟩
        · rw [if_neg he]
          by_cases hv : av y = av x
          · rw [if_pos hv]
            exact ⟨fun q hq => (by cases hq), fun _ => ⟨y, x, by simp [hym], by simp, hz y hym, h0, he, hv⟩⟩
          · rw [if_neg hv]
            refine push h0 (fun z hz' => ?_)
            have h1 := hyl z hz'
            have h2 : av y < av x := by
              rw [Bool.eq_false_iff, ne_eq, less_iff] at hyx
              omega
            omega

theorem sortI_pairwise (l : List Int) : (sortI l).Pairwise fun a b => lessB b a = false := by
  have h := List.pairwise_mergeSort (le := fun a b => !lessB b a) (fun a b c h1 h2 => by
    simp only [Bool.not_eq_true'] at *
    exact lessB_ntrans h2 h1) (fun a b => by
    cases h : lessB b a with
    | false => simp
    | true => simp [lessB_asymm h]) l
  exact h.imp fun h => by simpa using h
theorem sortI_mem (l : List Int) (x : Int) : x ∈ sortI l ↔ x ∈ l := (List.mergeSort_perm l _).mem_iff

/-- NORM, IN PLAIN WORDS. -/
theorem norm_some {c r : List Int} (h : normR c = some r) : Inc r ∧ ∀ x, x ∈ r ↔ x ∈ c ∧ x ≠ 0 := by
  have := (normGo_spec (sortI c) [] List.Pairwise.nil (by simp) (sortI_pairwise c) (by simp)).1 r h
  exact ⟨this.1, fun x => by rw [this.2 x]; simp [sortI_mem]⟩
theorem norm_none {c : List Int} (h : normR c = none) : Clash c := by
  obtain ⟨x, y, h1, h2, h3⟩ := (normGo_spec (sortI c) [] List.Pairwise.nil (by simp) (sortI_pairwise c) (by simp)).2 h
  exact ⟨x, y, by simpa [sortI_mem] using h1, by simpa [sortI_mem] using h2, h3⟩
theorem inc_no_clash {r : List Int} (h : Inc r) : ¬ Clash r := by
  rintro ⟨x, y, hx, hy, _, _, hne, hv⟩
  obtain ⟨i, hi, rfl⟩ := List.mem_iff_getElem.1 hx
  obtain ⟨j, hj, rfl⟩ := List.mem_iff_getElem.1 hy
  rcases Nat.lt_trichotomy i j with h1 | h1 | h1
  · have := List.pairwise_iff_getElem.1 h i j hi hj h1; omega
  · subst h1; exact hne rfl
  · have := List.pairwise_iff_getElem.1 h j i hj hi h1; omega
theorem clash_none {c : List Int} (h : Clash c) : normR c = none := by
  cases hn : normR c with
  | none => rfl
  | some r =>
    obtain ⟨hi, hm⟩ := norm_some hn
    obtain ⟨x, y, hx, hy, hx0, hy0, h3⟩ := h
    exact absurd ⟨x, y, (hm x).2 ⟨hx, hx0⟩, (hm y).2 ⟨hy, hy0⟩, hx0, hy0, h3⟩ (inc_no_clash hi)
/-- Two lists by growing variables with the same literals are one. -/
theorem inc_unique {r : List Int} : ∀ {q : List Int}, Inc r → Inc q → (∀ x, x ∈ r ↔ x ∈ q) → r = q := by
  induction r with
  | nil => intro q _ _ h; cases q with
    | nil => rfl
    | cons y q => exact absurd ((h y).2 List.mem_cons_self) (by simp)
  | cons x r ih =>
    intro q hr hq h
    cases q with
    | nil => exact absurd ((h x).1 List.mem_cons_self) (by simp)
    | cons y q =>
      have hr1 := (List.pairwise_cons.1 hr).1
      have hq1 := (List.pairwise_cons.1 hq).1
      have hxy : x = y := by
        rcases List.mem_cons.1 ((h x).1 List.mem_cons_self) with h1 | h1
        · exact h1
        · rcases List.mem_cons.1 ((h y).2 List.mem_cons_self) with h2 | h2
          · exact h2.symm
          · have := hr1 y h2; have := hq1 x h1; omega
      subst hxy
      congr 1
      refine ih (List.pairwise_cons.1 hr).2 (List.pairwise_cons.1 hq).2 fun z => ?_
      have hz := h z
      simp only [List.mem_cons] at hz
      constructor
      · intro hzr
        rcases hz.1 (Or.inr hzr) with h1 | h1
        · have := hr1 z hzr; rw [h1] at this; omega
        · exact h1
      · intro hzq
        rcases hz.2 (Or.inr hzq) with h1 | h1
        · have := hq1 z hzq; rw [h1] at this; omega
        · exact h1
theorem norm_of {c r : List Int} (hi : Inc r) (hm : ∀ x, x ∈ r ↔ x ∈ c ∧ x ≠ 0) : normR c = some r := by
  cases hn : normR c with
  | none =>
    obtain ⟨x, y, hx, hy, hx0, hy0, h3⟩ := norm_none hn
    exact absurd ⟨x, y, (hm x).2 ⟨hx, hx0⟩, (hm y).2 ⟨hy, hy0⟩, hx0, hy0, h3⟩ (inc_no_clash hi)
  | some q =>
    obtain ⟨hi2, hm2⟩ := norm_some hn
    rw [inc_unique hi2 hi fun x => by rw [hm x, hm2 x]]
/-- Only which literals there are matters. -/
theorem norm_congr {c d : List Int} (h : ∀ x, x ≠ 0 → (x ∈ c ↔ x ∈ d)) : normR c = normR d := by
  cases hn : normR d with
  | none =>
    obtain ⟨x, y, hx, hy, hx0, hy0, h3⟩ := norm_none hn
    exact clash_none ⟨x, y, (h x hx0).2 hx, (h y hy0).2 hy, hx0, hy0, h3⟩
  | some r =>
    obtain ⟨hi, hm⟩ := norm_some hn
    exact norm_of hi fun x => by
      rw [hm x]
      constructor
      · rintro ⟨h1, h2⟩; exact ⟨(h x h2).2 h1, h2⟩
      · rintro ⟨h1, h2⟩; exact ⟨(h x h2).1 h1, h2⟩
theorem norm_norm {c r : List Int} (h : normR c = some r) : normR r = some r := by
  obtain ⟨hi, hm⟩ := norm_some h
  exact norm_of hi fun x => ⟨fun hx => ⟨hx, ((hm x).1 hx).2⟩, fun hx => hx.1⟩
end L
end Go.Proofs.Ytbmpjglplmnlnaa
