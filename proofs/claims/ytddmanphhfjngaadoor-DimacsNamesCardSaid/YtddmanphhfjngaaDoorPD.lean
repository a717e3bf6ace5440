/- Plain: lines that are no comments, step by step; lengths of words. No program. -/
import Derived.Test.YtddmanphhfjngaaDoorPC
namespace Go.Proofs.PA
open Go.Lib

theorem wgo_len (cur l : List UInt8) : (wgo cur l).length ≤ l.length + 1 := by
  induction l generalizing cur with
  | nil => unfold wgo; split <;> simp
  | cons b r ih =>
    have h1 := ih []
    have h2 := ih (cur ++ [b])
    unfold wgo
    split
    · split <;> simp <;> omega
    · simp; omega
theorem words_len (l : List UInt8) : (words l).length ≤ l.length + 1 := wgo_len [] l
theorem fields_size (s : ByteArray) (p : Nat → Bool) : ∀ a ∈ goFieldsP p s, a.size ≤ s.size := by
  intro a ha
  unfold goFieldsP at ha
  obtain ⟨x, _, rfl⟩ := List.mem_map.1 ha
  rw [ByteArray.size_extract]; omega
theorem dropG {α : Type} {L : List α} {k : Nat} (d : α) (h : k < L.length) : L.drop k = L.getD k d :: L.drop (k + 1) := by
  rw [List.getD_eq_getElem?_getD, List.getElem?_eq_getElem h, Option.getD_some]; exact List.drop_eq_getElem_cons h
theorem content_skip {L : List (List UInt8)} {j : Nat} (h : j < L.length) (hc : words (L.getD j []) = [] ∨ (words (L.getD j [])).head? = some [99]) : contentS j (L.drop j) = contentS ((j + 1 : Nat) : Int) (L.drop (j + 1)) := by
  rw [dropG [] h, contentS, if_pos hc]; rfl
theorem content_take {L : List (List UInt8)} {j : Nat} (h : j < L.length) (hc : ¬ (words (L.getD j []) = [] ∨ (words (L.getD j [])).head? = some [99])) : contentS j (L.drop j) = (((j + 1 : Nat) : Int), words (L.getD j [])) :: contentS ((j + 1 : Nat) : Int) (L.drop (j + 1)) := by
  rw [dropG [] h, contentS, if_neg hc]; rfl
theorem content_end (L : List (List UInt8)) (n : Int) : contentS n (L.drop L.length) = [] := by rw [List.drop_length]; rfl
theorem lgo_le (cur l : List UInt8) : (lgo cur l).length ≤ l.length + 1 := by
  induction l generalizing cur with
  | nil => unfold lgo; split <;> simp
  | cons b r ih =>
    have h1 := ih []
    have h2 := ih (cur ++ [b])
    unfold lgo
    split
    · simp; omega
    · simp; omega
theorem lns_le (l : List UInt8) : (lns l).length ≤ l.length + 1 := lgo_le [] l
theorem line_len {l : List UInt8} {t : List UInt8} (h : t ∈ lns l) : t.length ≤ l.length := by
  have : ∀ (cur l : List UInt8), ∀ t ∈ lgo cur l, t.length ≤ cur.length + l.length := by
    intro cur l
    induction l generalizing cur with
    | nil => intro t ht; unfold lgo at ht; split at ht <;> simp at ht; subst ht; simp
    | cons b r ih =>
      intro t ht
      unfold lgo at ht
      split at ht
      · rcases List.mem_cons.1 ht with rfl | h
        · simp
        · have := ih [] t h; simp at this ⊢; omega
      · have := ih _ t ht; simp at this ⊢; omega
  have := this [] l t h
  simpa using this
end Go.Proofs.PA
