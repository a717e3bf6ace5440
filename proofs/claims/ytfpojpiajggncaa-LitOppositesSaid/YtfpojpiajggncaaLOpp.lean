/- LitOpposites: the walk. -/
import Derived.Test.YtfpojpiajggncaaLChecks
namespace Go.Proofs.Ytfpojpiajggncaa
open Go.RowKit
namespace L
open K

theorem opp_both (m : List Bool) (x : Int) : holdsB m [x, -x] = (holdsB m [x] || holdsB m [-x]) := by simp [holdsB]
theorem opp_cases (m : List Bool) (x : Int) (h1 : -200 ≤ x) (h2 : x ≤ 200) :
    (holdsB m [x] = true ∧ holdsB m [-x] = false ∧ decide (1 ≤ max x (-x)) = true ∧ decide (max x (-x) ≤ (m.length : Int)) = true) ∨
    (holdsB m [x] = false ∧ holdsB m [-x] = true ∧ decide (1 ≤ max x (-x)) = true ∧ decide (max x (-x) ≤ (m.length : Int)) = true) ∨
    (holdsB m [x] = false ∧ holdsB m [-x] = false ∧ decide (1 ≤ max x (-x)) = false) ∨
    (holdsB m [x] = false ∧ holdsB m [-x] = false ∧ decide (1 ≤ max x (-x)) = true ∧ decide (max x (-x) ≤ (m.length : Int)) = false) := by
  have e1 : av x = max x (-x) := by unfold av; split <;> omega
  have e2 : av (-x) = max x (-x) := by unfold av; split <;> omega
  simp only [holdsB, List.any_cons, List.any_nil, Bool.or_false, litB, e1, e2]
  by_cases h3 : 1 ≤ max x (-x)
  · have h3' : 0 < max x (-x) := by omega
    by_cases h4 : max x (-x) ≤ (m.length : Int)
    · simp only [h3, h3', h4, decide_true, Bool.true_and]
      cases m.getD (max x (-x) - 1).toNat false <;> by_cases h5 : 0 < x
      all_goals (have h6 : ¬ 0 < -x ↔ 0 < x := by omega)
      all_goals (have h7 : ¬ 0 < x ↔ 0 < -x := by omega)
      all_goals simp_all
      all_goals omega
    · simp [h3, h3', h4]
  · have h3' : ¬ 0 < max x (-x) := by omega
    simp [h3, h3']

set_option maxHeartbeats 4000000 in
theorem opposites_walk (l : Int) (vm : Value) (m : List Bool) (w : World) (hl0 : (Lit.int .i64 l).wf = true) (hM : BoolsW w vm m) :
    Calls Try.prog 9 #[.int .i64 l, vm] w fun e w' => e = .returned (.bool true) ∧ Below w.heap.size w w' := by
  have hl := i64_of hl0
  unfold I64 at hl
  clear hl0
  have hshm : ∃ p cap, vm = .slice p m.length cap := by obtain ⟨p, cap, hv, _⟩ := hM; exact ⟨p, cap, hv⟩
  by_cases h1 : 100 < m.length
  · obtain ⟨pm, capm, rfl⟩ := hshm
    clear hM hl
    go_enter Try.func9, Try.ntmps9
    go_wp2_with (go_at_call 12; refine (known_any _).mono ?_; rintro e w' ⟨rfl, hbw⟩)
    go_ret
    exact ⟨rfl, by assumption⟩
  have hB := hM.bools (by omega)
  clear hM
  by_cases h2 : l = -9223372036854775808
  · obtain ⟨pm, capm, rfl⟩ := hshm
    have h2' : (l == -9223372036854775808) = true := by simp [h2]
    clear hB h2 hl
    go_enter Try.func9, Try.ntmps9
    go_wp2_with (go_at_call 12; refine (known_any _).mono ?_; rintro e w' ⟨rfl, hbw⟩)
    go_ret
    exact ⟨rfl, by assumption⟩
  have h2' : (l == -9223372036854775808) = false := by simp [h2]
  clear h2
  have H2 := Lib.hid h2'
  obtain ⟨pm, capm, rfl⟩ := hshm
  by_cases h3 : 200 < l
  · have hx1 : 0 ≤ l % 200 := by omega
    have hx2 : l % 200 < 200 := by omega
    go_enter Try.func9, Try.ntmps9
    go_wp2_with fail
    generalize l % 200 = x at hx1 hx2 ⊢
    clear h2'

    have ha := (Below.refl w.heap.size w).alloc (Nat.le_refl _) (.cells #[.int .i64 x] 3)
    refine (holds_any _ _ m [x] _ (by intro y hy; simp at hy; subst hy; unfold I64; omega) (hB.below ha) (ints_lit w [x] _ 1 _ rfl rfl rfl (by simp))).mono ?_
    rintro e w1 ⟨rfl, rfl⟩
    go_wp2_with fail
    have ha2 := ha.alloc (by simp) (.cells #[.int .i64 (-x)] 3)
    refine (holds_any _ _ m [-x] _ (by intro y hy; simp at hy; subst hy; unfold I64; omega) (hB.below ha2) (ints_lit _ [-x] _ 1 _ (by simp) rfl rfl (by simp))).mono ?_
    rintro e w1 ⟨rfl, rfl⟩
    have hcs := opp_cases m x (by omega) (by omega)
    have hO := opp_both m x
    rcases hcs with ⟨hA, hB', h1, h2⟩ | ⟨hA, hB', h1, h2⟩ | ⟨hA, hB', h1⟩ | ⟨hA, hB', h1, h2⟩
    · rw [hA, hB'] at hO
      have ha3 := ha2.alloc (by simp; omega) (.cells #[.int .i64 x, .int .i64 (-x)] 3)
      have hBB := hB.below ha3
      clear hB
      go_wp2_with fail
      refine (holds_any _ _ m [x, -x] _ (by intro y hy; simp at hy; unfold I64; omega) hBB (ints_lit _ [x, -x] _ 2 _ (by simp) rfl rfl (by simp))).mono ?_
      rintro e w1 ⟨rfl, rfl⟩
      go_wp2_with (go_at_call 12; refine (known_any _).mono ?_; rintro e w' ⟨rfl, hbw⟩)
      go_ret
      exact ⟨rfl, ha3.trans ((by assumption : Below _ _ _).mono ha3.size)⟩
    · rw [hA, hB'] at hO
      have ha3 := ha2.alloc (by simp; omega) (.cells #[.int .i64 x, .int .i64 (-x)] 3)
      have hBB := hB.below ha3
      clear hB
      go_wp2_with fail
      refine (holds_any _ _ m [x, -x] _ (by intro y hy; simp at hy; unfold I64; omega) hBB (ints_lit _ [x, -x] _ 2 _ (by simp) rfl rfl (by simp))).mono ?_
      rintro e w1 ⟨rfl, rfl⟩
      go_wp2_with (go_at_call 12; refine (known_any _).mono ?_; rintro e w' ⟨rfl, hbw⟩)
      go_ret
      exact ⟨rfl, ha3.trans ((by assumption : Below _ _ _).mono ha3.size)⟩
    · rw [hA, hB'] at hO
      have ha3 := ha2.alloc (by simp; omega) (.cells #[.int .i64 x, .int .i64 (-x)] 3)
      have hBB := hB.below ha3
      clear hB
      go_wp2_with fail
      refine (holds_any _ _ m [x, -x] _ (by intro y hy; simp at hy; unfold I64; omega) hBB (ints_lit _ [x, -x] _ 2 _ (by simp) rfl rfl (by simp))).mono ?_
      rintro e w1 ⟨rfl, rfl⟩
      go_wp2_with (go_at_call 12; refine (known_any _).mono ?_; rintro e w' ⟨rfl, hbw⟩)
      go_ret
      exact ⟨rfl, ha3.trans ((by assumption : Below _ _ _).mono ha3.size)⟩
    · rw [hA, hB'] at hO
      have ha3 := ha2.alloc (by simp; omega) (.cells #[.int .i64 x, .int .i64 (-x)] 3)
      have hBB := hB.below ha3
      clear hB
      go_wp2_with fail
      refine (holds_any _ _ m [x, -x] _ (by intro y hy; simp at hy; unfold I64; omega) hBB (ints_lit _ [x, -x] _ 2 _ (by simp) rfl rfl (by simp))).mono ?_
      rintro e w1 ⟨rfl, rfl⟩
      go_wp2_with (go_at_call 12; refine (known_any _).mono ?_; rintro e w' ⟨rfl, hbw⟩)
      go_ret
      exact ⟨rfl, ha3.trans ((by assumption : Below _ _ _).mono ha3.size)⟩
  by_cases h4 : l < -200
  · have hx0 : l.tmod 200 = -((-l) % 200) := by
      rw [← Int.tmod_eq_emod_of_nonneg (by omega), Int.neg_tmod, Int.neg_neg]
    have hx1 : -200 < l.tmod 200 := by omega
    have hx2 : l.tmod 200 ≤ 0 := by omega
    clear hx0
    go_enter Try.func9, Try.ntmps9
    go_wp2_with fail
    generalize l.tmod 200 = x at hx1 hx2 ⊢
    clear h2'

    have ha := (Below.refl w.heap.size w).alloc (Nat.le_refl _) (.cells #[.int .i64 x] 3)
    refine (holds_any _ _ m [x] _ (by intro y hy; simp at hy; subst hy; unfold I64; omega) (hB.below ha) (ints_lit w [x] _ 1 _ rfl rfl rfl (by simp))).mono ?_
    rintro e w1 ⟨rfl, rfl⟩
    go_wp2_with fail
    have ha2 := ha.alloc (by simp) (.cells #[.int .i64 (-x)] 3)
    refine (holds_any _ _ m [-x] _ (by intro y hy; simp at hy; subst hy; unfold I64; omega) (hB.below ha2) (ints_lit _ [-x] _ 1 _ (by simp) rfl rfl (by simp))).mono ?_
    rintro e w1 ⟨rfl, rfl⟩
    have hcs := opp_cases m x (by omega) (by omega)
    have hO := opp_both m x
    rcases hcs with ⟨hA, hB', h1, h2⟩ | ⟨hA, hB', h1, h2⟩ | ⟨hA, hB', h1⟩ | ⟨hA, hB', h1, h2⟩
    · rw [hA, hB'] at hO
      have ha3 := ha2.alloc (by simp; omega) (.cells #[.int .i64 x, .int .i64 (-x)] 3)
      have hBB := hB.below ha3
      clear hB
      go_wp2_with fail
      refine (holds_any _ _ m [x, -x] _ (by intro y hy; simp at hy; unfold I64; omega) hBB (ints_lit _ [x, -x] _ 2 _ (by simp) rfl rfl (by simp))).mono ?_
      rintro e w1 ⟨rfl, rfl⟩
      go_wp2_with (go_at_call 12; refine (known_any _).mono ?_; rintro e w' ⟨rfl, hbw⟩)
      go_ret
      exact ⟨rfl, ha3.trans ((by assumption : Below _ _ _).mono ha3.size)⟩
    · rw [hA, hB'] at hO
      have ha3 := ha2.alloc (by simp; omega) (.cells #[.int .i64 x, .int .i64 (-x)] 3)
      have hBB := hB.below ha3
      clear hB
      go_wp2_with fail
      refine (holds_any _ _ m [x, -x] _ (by intro y hy; simp at hy; unfold I64; omega) hBB (ints_lit _ [x, -x] _ 2 _ (by simp) rfl rfl (by simp))).mono ?_
      rintro e w1 ⟨rfl, rfl⟩
      go_wp2_with (go_at_call 12; refine (known_any _).mono ?_; rintro e w' ⟨rfl, hbw⟩)
      go_ret
      exact ⟨rfl, ha3.trans ((by assumption : Below _ _ _).mono ha3.size)⟩
    · rw [hA, hB'] at hO
      have ha3 := ha2.alloc (by simp; omega) (.cells #[.int .i64 x, .int .i64 (-x)] 3)
      have hBB := hB.below ha3
      clear hB
      go_wp2_with fail
      refine (holds_any _ _ m [x, -x] _ (by intro y hy; simp at hy; unfold I64; omega) hBB (ints_lit _ [x, -x] _ 2 _ (by simp) rfl rfl (by simp))).mono ?_
      rintro e w1 ⟨rfl, rfl⟩
      go_wp2_with (go_at_call 12; refine (known_any _).mono ?_; rintro e w' ⟨rfl, hbw⟩)
      go_ret
      exact ⟨rfl, ha3.trans ((by assumption : Below _ _ _).mono ha3.size)⟩
    · rw [hA, hB'] at hO
      have ha3 := ha2.alloc (by simp; omega) (.cells #[.int .i64 x, .int .i64 (-x)] 3)
      have hBB := hB.below ha3
      clear hB
      go_wp2_with fail
      refine (holds_any _ _ m [x, -x] _ (by intro y hy; simp at hy; unfold I64; omega) hBB (ints_lit _ [x, -x] _ 2 _ (by simp) rfl rfl (by simp))).mono ?_
      rintro e w1 ⟨rfl, rfl⟩
      go_wp2_with (go_at_call 12; refine (known_any _).mono ?_; rintro e w' ⟨rfl, hbw⟩)
      go_ret
      exact ⟨rfl, ha3.trans ((by assumption : Below _ _ _).mono ha3.size)⟩
  · go_enter Try.func9, Try.ntmps9
    go_wp2_with fail
    clear h2'
    generalize l = x at *

    have ha := (Below.refl w.heap.size w).alloc (Nat.le_refl _) (.cells #[.int .i64 x] 3)
    refine (holds_any _ _ m [x] _ (by intro y hy; simp at hy; subst hy; unfold I64; omega) (hB.below ha) (ints_lit w [x] _ 1 _ rfl rfl rfl (by simp))).mono ?_
    rintro e w1 ⟨rfl, rfl⟩
    go_wp2_with fail
    have ha2 := ha.alloc (by simp) (.cells #[.int .i64 (-x)] 3)
    refine (holds_any _ _ m [-x] _ (by intro y hy; simp at hy; subst hy; unfold I64; omega) (hB.below ha2) (ints_lit _ [-x] _ 1 _ (by simp) rfl rfl (by simp))).mono ?_
    rintro e w1 ⟨rfl, rfl⟩
    have hcs := opp_cases m x (by omega) (by omega)
    have hO := opp_both m x
    rcases hcs with ⟨hA, hB', h1, h2⟩ | ⟨hA, hB', h1, h2⟩ | ⟨hA, hB', h1⟩ | ⟨hA, hB', h1, h2⟩
    · rw [hA, hB'] at hO
      have ha3 := ha2.alloc (by simp; omega) (.cells #[.int .i64 x, .int .i64 (-x)] 3)
      have hBB := hB.below ha3
      clear hB
      go_wp2_with fail
      refine (holds_any _ _ m [x, -x] _ (by intro y hy; simp at hy; unfold I64; omega) hBB (ints_lit _ [x, -x] _ 2 _ (by simp) rfl rfl (by simp))).mono ?_
      rintro e w1 ⟨rfl, rfl⟩
      go_wp2_with (go_at_call 12; refine (known_any _).mono ?_; rintro e w' ⟨rfl, hbw⟩)
      go_ret
      exact ⟨rfl, ha3.trans ((by assumption : Below _ _ _).mono ha3.size)⟩
    · rw [hA, hB'] at hO
      have ha3 := ha2.alloc (by simp; omega) (.cells #[.int .i64 x, .int .i64 (-x)] 3)
      have hBB := hB.below ha3
      clear hB
      go_wp2_with fail
      refine (holds_any _ _ m [x, -x] _ (by intro y hy; simp at hy; unfold I64; omega) hBB (ints_lit _ [x, -x] _ 2 _ (by simp) rfl rfl (by simp))).mono ?_
      rintro e w1 ⟨rfl, rfl⟩
      go_wp2_with (go_at_call 12; refine (known_any _).mono ?_; rintro e w' ⟨rfl, hbw⟩)
      go_ret
      exact ⟨rfl, ha3.trans ((by assumption : Below _ _ _).mono ha3.size)⟩
    · rw [hA, hB'] at hO
      have ha3 := ha2.alloc (by simp; omega) (.cells #[.int .i64 x, .int .i64 (-x)] 3)
      have hBB := hB.below ha3
      clear hB
      go_wp2_with fail
      refine (holds_any _ _ m [x, -x] _ (by intro y hy; simp at hy; unfold I64; omega) hBB (ints_lit _ [x, -x] _ 2 _ (by simp) rfl rfl (by simp))).mono ?_
      rintro e w1 ⟨rfl, rfl⟩
      go_wp2_with (go_at_call 12; refine (known_any _).mono ?_; rintro e w' ⟨rfl, hbw⟩)
      go_ret
      exact ⟨rfl, ha3.trans ((by assumption : Below _ _ _).mono ha3.size)⟩
    · rw [hA, hB'] at hO
      have ha3 := ha2.alloc (by simp; omega) (.cells #[.int .i64 x, .int .i64 (-x)] 3)
      have hBB := hB.below ha3
      clear hB
      go_wp2_with fail
      refine (holds_any _ _ m [x, -x] _ (by intro y hy; simp at hy; unfold I64; omega) hBB (ints_lit _ [x, -x] _ 2 _ (by simp) rfl rfl (by simp))).mono ?_
      rintro e w1 ⟨rfl, rfl⟩
      go_wp2_with (go_at_call 12; refine (known_any _).mono ?_; rintro e w' ⟨rfl, hbw⟩)
      go_ret
      exact ⟨rfl, ha3.trans ((by assumption : Below _ _ _).mono ha3.size)⟩
end L
end Go.Proofs.Ytfpojpiajggncaa
