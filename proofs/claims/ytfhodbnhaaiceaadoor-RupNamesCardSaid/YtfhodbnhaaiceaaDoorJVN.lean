/- Literals in memory; what Implied and Check answer on the chapter's examples. -/
import Derived.Test.YtfhodbnhaaiceaaDoorJVO
import Derived.Test.YtfhodbnhaaiceaaDoorQ26
import Derived.Test.YtfhodbnhaaiceaaDoorQ21
namespace Go.Proofs.YtfhodbnhaaiceaaDoor
open Go.RowKit RA
namespace L
open K
set_option maxRecDepth 100000

theorem ints_box {W : World} {b : Nat} {l : List Int} (hx : Box W b 3 (l.map (Value.int .i64)).toArray) (hl : l.length ≤ 1000) : Ints W (.slice (some ⟨b, 0, none⟩) l.length l.length) l :=
  ⟨_, l.length, rfl, Nat.le_refl _, by omega, fun _ => ⟨b, 0, rfl, fun i hi => by
    rw [Nat.zero_add, hx.cell i]
    simp [List.getD, hi]⟩⟩
theorem lists_box {W : World} {b : Nat} {us : List Value} {L : List (List Int)} (hx : Box W b 23 us.toArray) (hl : us.length = L.length) (hm : L.length ≤ 1000) (hi : ∀ j, j < L.length → Ints W (us.getD j (.slice none 0 0)) (L.getD j [])) : Lists W (.slice (some ⟨b, 0, none⟩) L.length L.length) L :=
  ⟨_, L.length, rfl, Nat.le_refl _, by omega, fun _ => ⟨b, 0, rfl, fun j hj => ⟨us.getD j (.slice none 0 0), by
    rw [Nat.zero_add, hx.cell j]
    simp [List.getD, show j < us.length by omega], hi j hj⟩⟩⟩
theorem ints_none (w : World) : Ints w (.slice none 0 0) [] := ⟨none, 0, rfl, by simp, by simp, fun h => absurd h (by simp)⟩
theorem two_four : checkF 2 fourL = 0 := by decide
theorem two_g : checkF 2 gL = 0 := by decide
theorem gL_i64 : ∀ c ∈ gL, ∀ x ∈ c, I64 x := by simp [I64, gL]
theorem im_1 : impliedR 2 fourL [1] = (true, 0) := impliedR_yes two_four (by decide) imp_four_1
theorem impliedR_no {n : Int} {F : List (List Int)} {c : List Int} (h1 : checkF n F = 0) (h2 : checkE n c = 0) (h : ¬ Imp F c) : impliedR n F c = (false, 0) := by
  obtain ⟨q, hq, hi⟩ := impliedR_ok h1 h2
  rw [hq]
  cases q with
  | false => rfl
  | true => exact absurd (hi.1 rfl) h
theorem im_2 : impliedR 2 fourL [] = (false, 0) := impliedR_no two_four (by decide) not_four_nil
theorem im_3 : impliedR 2 gL [-1] = (false, 0) := impliedR_no two_g (by decide) not_g_neg
theorem im_4 : impliedR 2 gL [1, -1] = (true, 0) := impliedR_yes two_g (by decide) imp_g_taut
theorem im_5 : impliedR 2 gL [2] = (true, 0) := impliedR_yes two_g (by decide) imp_g_2
theorem im_0 : impliedR 2 fourL [0] = (false, 3) := by
  have h : checkE 2 [0] = 3 := by decide
  unfold impliedR
  rw [if_neg (by simp [two_four]), if_pos (by simp [h]), h]
theorem ck_1 : checkA 2 fourL [[]] = (0, 0) := by
  rw [checkA_ok two_four (by decide)]
  unfold checkR firstNot
  rw [if_neg not_four_nil]
  rfl
theorem ck_2 : checkA 2 fourL [[1]] = (1, 0) := by
  rw [checkA_ok two_four (by decide)]
  unfold checkR firstNot
  rw [if_pos imp_four_1]
  rfl
theorem ck_3 : checkA 2 fourL [] = (0, 0) := by
  rw [checkA_ok two_four (by decide)]
  rfl
theorem ck_4 : checkA 2 gL [[1], []] = (1, 0) := by
  rw [checkA_ok two_g (by decide)]
  unfold checkR firstNot
  rw [if_pos imp_g_1]
  unfold firstNot
  rw [if_neg not_g1_nil]
  rfl
theorem ck_5 : checkA 2 fourL [[3]] = (0, 3) := by
  have h : firstE 2 [[3]] = 3 := by decide
  unfold checkA
  rw [if_neg (by simp [two_four]), if_pos (by simp [h]), h]
theorem ck_6 : checkA 2 fourL [[-2], [], [0]] = (0, 3) := by
  have h : firstE 2 [[-2], [], [0]] = 3 := by decide
  unfold checkA
  rw [if_neg (by simp [two_four]), if_pos (by simp [h]), h]
end L
end Go.Proofs.YtfhodbnhaaiceaaDoor
