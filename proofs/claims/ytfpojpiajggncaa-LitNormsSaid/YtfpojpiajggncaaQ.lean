/- The reference's Norm by insertion: plain lemmas. -/
import Derived.Test.YtfpojpiajggncaaP
namespace Go.Proofs.Ytfpojpiajggncaa
open Go.RowKit
namespace L

/-- In the order of Less, each once. -/
def Srt (l : List Int) : Prop := l.Pairwise (fun a b => lessB a b = true)
/-- x put in at the place a. -/
def insL (out : List Int) (a : Nat) (x : Int) : List Int := out.take a ++ x :: out.drop a

theorem insL_len {out : List Int} {a : Nat} {x : Int} (ha : a ≤ out.length) : (insL out a x).length = out.length + 1 := by simp [insL]; omega
theorem insL_mem {out : List Int} {a : Nat} {x y : Int} : y ∈ insL out a x ↔ y ∈ out ∨ y = x := by
  have h : y ∈ out ↔ y ∈ out.take a ∨ y ∈ out.drop a := by
    conv => lhs; rw [← List.take_append_drop a out]
    exact List.mem_append
  rw [h]; simp only [insL, List.mem_append, List.mem_cons]
  constructor
  · rintro (h | h | h) <;> simp [h]
  · rintro ((h | h) | h) <;> simp [h]
theorem insL_srt {out : List Int} {a : Nat} {x : Int} (h : Srt out) (h1 : ∀ j, j < a → lessB (out.getD j 0) x = true) (h2 : a < out.length → lessB x (out.getD a 0) = true) (ha : a ≤ out.length) : Srt (insL out a x) := by
  unfold Srt insL
  rw [List.pairwise_append, List.pairwise_cons]
  have hdrop : ∀ y ∈ out.drop a, lessB x y = true := fun y hy => by
    obtain ⟨j, hj, rfl⟩ := List.mem_iff_getElem.1 hy
    rw [List.getElem_drop]
    have hj' : a + j < out.length := by simp at hj; omega
    have h3 := h2 (by omega)
    rw [List.getD, List.getElem?_eq_getElem (by omega)] at h3
    by_cases hj0 : j = 0
    · subst hj0; exact h3
    · exact lessB_trans h3 (List.pairwise_iff_getElem.1 h a (a + j) (by omega) hj' (by omega))
  have htake : ∀ y ∈ out.take a, lessB y x = true := fun y hy => by
    obtain ⟨j, hj, rfl⟩ := List.mem_iff_getElem.1 hy
    have hj' : j < a := by simp at hj; omega
    have := h1 j hj'
    rw [List.getD, List.getElem?_eq_getElem (by omega)] at this
    rw [List.getElem_take]; exact this
  refine ⟨h.sublist (List.take_sublist _ _), ⟨hdrop, h.sublist (List.drop_sublist _ _)⟩, fun y hy z hz => ?_⟩
  rcases List.mem_cons.1 hz with h3 | h3
  · exact h3 ▸ htake y hy
  · exact lessB_trans (htake y hy) (hdrop z h3)

/-- What the row holds while its end is moved up: L below m, L one place down from m on. -/
def Shift (out ys : List Int) (m : Nat) : Prop := ys.length = out.length + 1 ∧ (∀ j, j ≤ m → j < out.length → ys.getD j 0 = out.getD j 0) ∧ ∀ j, m < j → j ≤ out.length → ys.getD j 0 = out.getD (j - 1) 0
theorem shift_start (out : List Int) : Shift out (out ++ [0]) out.length := by
  refine ⟨by simp, fun j _ hj => getD_snoc_other hj, fun j h1 h2 => by omega⟩
theorem shift_step {out ys : List Int} {m : Nat} (h : Shift out ys m) (hm : 0 < m) (hn : m ≤ out.length) : Shift out (ys.set m (ys.getD (m - 1) 0)) (m - 1) := by
  obtain ⟨h1, h2, h3⟩ := h
  refine ⟨by simpa using h1, fun j hj hjn => ?_, fun j hj hjn => ?_⟩
  · rw [getD_set_other (by omega), h2 j (by omega) hjn]
  · by_cases hjm : j = m
    · subst hjm; rw [getD_set_same (by omega), h2 _ (by omega) (by omega)]
    · rw [getD_set_other (by omega), h3 j (by omega) hjn]
theorem shift_end {out ys : List Int} {a : Nat} {x : Int} (h : Shift out ys a) (ha : a ≤ out.length) : ys.set a x = insL out a x := by
  obtain ⟨h1, h2, h3⟩ := h
  apply List.ext_getElem (by rw [insL_len ha]; simpa using h1)
  intro j hj1 hj2
  have e : ∀ (l : List Int) (hl : j < l.length), l[j] = l.getD j 0 := fun l hl => by simp [List.getD, hl]
  rw [e _ hj1, e _ hj2]
  have hjn : j < out.length + 1 := by simp at hj1; omega
  unfold insL
  by_cases hja : j < a
  · rw [getD_set_other (by omega), h2 j (by omega) (by omega)]
    simp [List.getD, List.getElem?_append_left (show j < (out.take a).length by simp; omega), List.getElem?_take, hja]
  · have hlt : (out.take a).length = a := by simp; omega
    by_cases hja2 : j = a
    · subst hja2
      rw [getD_set_same (by omega)]
      simp [List.getD, List.getElem?_append_right (show (out.take j).length ≤ j by omega), hlt]
    · rw [getD_set_other (by omega), h3 j (by omega) (by omega)]
      simp only [List.getD]
      rw [List.getElem?_append_right (by omega), hlt]
      obtain ⟨d, hd⟩ : ∃ d, j - a = d + 1 := ⟨j - a - 1, by omega⟩
      rw [hd, List.getElem?_cons_succ, List.getElem?_drop, show a + d = j - 1 from by omega]

theorem take_mem_succ {c : List Int} {k : Nat} {x : Int} (hk : k < c.length) : x ∈ c.take (k + 1) ↔ x ∈ c.take k ∨ x = c.getD k 0 := by
  rw [take_succ' c k hk]; simp

/-- Sorted by Less with no two neighbours of one variable: by growing variables. -/
theorem srt_inc {out : List Int} (h : Srt out) (hn : ∀ j, j + 1 < out.length → av (out.getD j 0) ≠ av (out.getD (j + 1) 0)) : Inc out := by
  have adj : ∀ j, j + 1 < out.length → av (out.getD j 0) < av (out.getD (j + 1) 0) := fun j hj => by
    have h1 := List.pairwise_iff_getElem.1 h j (j + 1) (by omega) hj (by omega)
    have h2 := hn j hj
    rw [List.getD, List.getD, List.getElem?_eq_getElem (by omega), List.getElem?_eq_getElem hj] at *
    rw [less_iff] at h1
    simp only [Option.getD_some] at *
    omega
  have all : ∀ d j, j + d + 1 < out.length → av (out.getD j 0) < av (out.getD (j + d + 1) 0) := by
    intro d
    induction d with
    | zero => exact fun j hj => adj j (by omega)
    | succ d ih => intro j hj; have h1 := ih j (by omega); have h2 := adj (j + d + 1) (by omega); exact Int.lt_trans h1 h2
  unfold Inc
  rw [List.pairwise_iff_getElem]
  intro i j hi hj hij
  have := all (j - i - 1) i (by omega)
  rw [show i + (j - i - 1) + 1 = j from by omega, List.getD, List.getD, List.getElem?_eq_getElem hi, List.getElem?_eq_getElem hj] at this
  exact this
theorem srt_clash {out : List Int} (h : Srt out) (h0 : ∀ x ∈ out, x ≠ 0) {j : Nat} (hj : j + 1 < out.length) (hv : av (out.getD j 0) = av (out.getD (j + 1) 0)) : Clash out := by
  have h1 := List.pairwise_iff_getElem.1 h j (j + 1) (by omega) hj (by omega)
  have m1 := mem_getD (l := out) (k := j) (by omega)
  have m2 := mem_getD (l := out) hj
  refine ⟨_, _, m1, m2, h0 _ m1, h0 _ m2, fun he => ?_, hv⟩
  rw [List.getD, List.getD, List.getElem?_eq_getElem (by omega), List.getElem?_eq_getElem hj] at he
  simp only [Option.getD_some] at he
  rw [he, lessB_irrefl] at h1
  cases h1
end L
end Go.Proofs.Ytfpojpiajggncaa
