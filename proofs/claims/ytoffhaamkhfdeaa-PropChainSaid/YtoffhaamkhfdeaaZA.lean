/- Contract of three, whose memory is the caller's own; one row of a row of rows replaced. -/
import Derived.Test.YtoffhaamkhfdeaaYD
namespace Go.Proofs.Ytoffhaamkhfdeaa
open Go.RowKit
namespace K
theorem owns_of_box {w : World} {g base n : Nat} {T : TypeId} {cs : Array Value} {xs : List Value} (h : Box w g T cs) (hb : base ≤ g) (hn : n = cs.size) (hx : xs = cs.toList) (hm : n ≤ maxLen) : w.ownsRow base T 1 (.slice (some ⟨g, 0, none⟩) n n) n xs := by
  subst hn; subst hx
  exact ⟨by simp, .inr ⟨g, cs.size, cs, rfl, hb, h, Nat.le_refl _, hm, by simp, by rw [Nat.mul_one]; exact List.take_of_length_le (by simp)⟩⟩
theorem OwnL.put {w : World} {base g cap i : Nat} {L : List (List Int)} {us : List Value} {u : Value} {l : List Int} (h1 : us.length = L.length) (h2 : w.ownsRow base 23 1 (.slice (some ⟨g, 0, none⟩) L.length cap) L.length us)
    (h3 : ∀ j, j < L.length → OwnI w base (us.getD j (.slice none 0 0)) (L.getD j [])) (hu : OwnI w base u l) :
    OwnL (w.setCell ⟨g, i, none⟩ u) base (.slice (some ⟨g, 0, none⟩) L.length cap) (L.set i l) := by
  have kept : ∀ {x : Value} {k : List Int}, OwnI w base x k → OwnI (w.setCell ⟨g, i, none⟩ u) base x k := fun hx => owns_of_block hx fun k hk => Deep.blk_setCell_other w _ _ k fun e => by
    rcases owns_ne hx h2 (by decide) with h | h
    · rw [h] at hk; cases hk
    · exact h (by rw [hk, e]; rfl)
  have hst := (h2.stored i u).1
  have hl : (L.set i l).length = L.length := by simp
  refine ⟨us.set i u, by simp [h1], by rw [hl]; exact hst, fun j hj => ?_⟩
  rw [hl] at hj
  by_cases hji : i = j
  · subst hji
    have e1 : (us.set i u).getD i (.slice none 0 0) = u := by simp [List.getD, show i < us.length by omega]
    have e2 : (L.set i l).getD i [] = l := by simp [List.getD, hj]
    rw [e1, e2]; exact kept hu
  · have e1 : (us.set i u).getD j (.slice none 0 0) = us.getD j (.slice none 0 0) := by simp only [List.getD_eq_getElem?_getD, List.getElem?_set, hji, if_false]
    have e2 : (L.set i l).getD j [] = L.getD j [] := by simp only [List.getD_eq_getElem?_getD, List.getElem?_set, hji, if_false]
    rw [e1, e2]; exact kept (h3 j hj)
end K
namespace L
open K

end L
end Go.Proofs.Ytoffhaamkhfdeaa
