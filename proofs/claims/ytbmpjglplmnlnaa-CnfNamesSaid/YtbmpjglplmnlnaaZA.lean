/- Contract of three, whose memory is the caller's own; one row of a row of rows replaced. -/
import Derived.Test.YtbmpjglplmnlnaaYD
namespace Go.Proofs.Ytbmpjglplmnlnaa
open Go.RowKit
namespace K
theorem owns_of_box {w : World} {g base n : Nat} {T : TypeId} {cs : Array Value} {xs : List Value} (h : Box w g T cs) (hb : base ≤ g) (hn : n = cs.size) (hx : xs = cs.toList) (hm : n ≤ maxLen) : w.ownsRow base T 1 (.slice (some ⟨g, 0, none⟩) n n) n xs := by
  subst hn; subst hx
  exact ⟨by simp, .inr ⟨g, cs.size, cs, rfl, hb, h, Nat.le_refl _, hm, by simp, by rw [Nat.mul_one]; exact List.take_of_length_le (by simp)⟩⟩
theorem OwnL.put {w : World} {base g cap i : Nat} {L : List (List Int)} {us : List Value} {u : Value} {l : List Int} (h1 : us.length = L.length) (h2 : w.ownsRow base 36 1 (.slice (some ⟨g, 0, none⟩) L.length cap) L.length us)
    (h3 : ∀ j, j < L.length → OwnI w base (us.getD j (.slice none 0 0)) (L.getD j [])) (hu : OwnI w base u l) :
    OwnL (w.setCell ⟨g, i, none⟩ u) base (.slice (some ⟨g, 0, none⟩) L.length cap) (L.set i l) := by
  have kept : ∀ {x : Value} {k : List Int}, OwnI w base x k → OwnI (w.setCell ⟨g, i, none⟩ u) base x k := fun hx => owns_of_block hx fun k hk => Deep.blk_setCell_other w _ _ k fun e => by
    rcases owns_ne hx h2 (by decide) with h | h
    · rw [h] at hk; cases hk
    · exact h (by rw [hk, e]; rfl)
  have hst := (h2.stored i u).1
  have hl : (L.set i l).length = L.length := by simp
  refine ⟨us.set i u, by simp [h1], by rw [hl]; exact hst, fun j hj => ?_⟩
  rw [hl] at hj
  by_cases hji : i = j
  · subst hji
    have e1 : (us.set i u).getD i (.slice none 0 0) = u := by simp [List.getD, show i < us.length by omega]
    have e2 : (L.set i l).getD i [] = l := by simp [List.getD, hj]
    rw [e1, e2]; exact kept hu
  · have e1 : (us.set i u).getD j (.slice none 0 0) = us.getD j (.slice none 0 0) := by simp only [List.getD_eq_getElem?_getD, List.getElem?_set, hji, if_false]
    have e2 : (L.set i l).getD j [] = L.getD j [] := by simp only [List.getD_eq_getElem?_getD, List.getElem?_set, hji, if_false]
    rw [e1, e2]; exact kept (h3 j hj)
end K
namespace L
open K

set_option maxHeartbeats 1000000 in
theorem three_own (w : World) :
    Calls Try.prog 21 #[] w fun e w' => ∃ v, e = .returned (.agg #[.int .i64 3, v]) ∧ OwnL w' w.heap.size v [[1, 2], [-1, 3], [-2, -3]] ∧ Below w.heap.size w w' := by
  go_enter Try.func21, Try.ntmps21
  go_wp2
  (try simp only [Exit.inBlock, Exit.then])
  refine bodyPost_ret (res_cell rfl rfl (by simp [go_sem]; rfl)) rfl ?_
  refine ⟨_, rfl, ?_, ?_⟩
  · refine ⟨[.slice (some ⟨w.heap.size + 1, 0, none⟩) 2 2, .slice (some ⟨w.heap.size + 1 + 1, 0, none⟩) 2 2, .slice (some ⟨w.heap.size + 1 + 1 + 1, 0, none⟩) 2 2], rfl, owns_of_box (Box.at _ _ _ (by simp)) (by omega) rfl rfl (by simp [maxLen]), fun j hj => ?_⟩
    have h3 : j = 0 ∨ j = 1 ∨ j = 2 := by simp at hj; omega
    rcases h3 with rfl | rfl | rfl
    · exact owns_of_box ((((Box.at _ 3 #[.int .i64 1, .int .i64 2] (by simp)).alloc _).alloc _).alloc _) (by omega) rfl rfl (by simp [maxLen])
    · exact owns_of_box (((Box.at _ 3 #[.int .i64 (-1), .int .i64 3] (by simp)).alloc _).alloc _) (by omega) rfl rfl (by simp [maxLen])
    · exact owns_of_box ((Box.at _ 3 #[.int .i64 (-2), .int .i64 (-3)] (by simp)).alloc _) (by omega) rfl rfl (by simp [maxLen])
  · exact (((((Below.refl _ _).alloc (Nat.le_refl _) _).alloc (by simp) _).alloc (by simp; omega) _).alloc (by simp; omega) _).alloc (by simp; omega) _
end L
end Go.Proofs.Ytbmpjglplmnlnaa
