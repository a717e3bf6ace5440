/- LitOrder: the walk. -/
import Derived.Test.YtfpojpiajggncaaJ
namespace Go.Proofs.Ytfpojpiajggncaa
open Go.RowKit
namespace L
open K

theorem i64_of {x : Int} (h : (Lit.int .i64 x).wf = true) : I64 x := by
  simp [Lit.wf, IntKind.min, IntKind.max, IntKind.signed, IntKind.bits] at h
  unfold I64; omega

set_option maxHeartbeats 2000000 in
theorem order_walk (a b c : Int) (w : World) (ha0 : (Lit.int .i64 a).wf = true) (hb0 : (Lit.int .i64 b).wf = true) (hc0 : (Lit.int .i64 c).wf = true) : Calls Try.prog 10 #[.int .i64 a, .int .i64 b, .int .i64 c] w fun e w' => e = .returned (.bool true) ∧ Below w.heap.size w w' := by
  have ha := i64_of ha0
  have hb := i64_of hb0
  have hc := i64_of hc0
  clear ha0 hb0 hc0
  have haa := lessB_irrefl a
  cases hab : lessB a b with
  | true =>
    have hba := lessB_asymm hab
    cases hbc : lessB b c with
    | true =>
      have hac := lessB_trans hab hbc
      go_enter Try.func10, Try.ntmps10
      go_wp2_with (first | (go_at_call 19; refine (less_any _ _ (by assumption) (by assumption) _).mono ?_; rintro e w' ⟨rfl, rfl⟩) | (go_at_call 12; refine (known_any _).mono ?_; rintro e w' ⟨rfl, hbw⟩))
      all_goals (go_ret; exact ⟨rfl, by assumption⟩)
    | false =>
      go_enter Try.func10, Try.ntmps10
      go_wp2_with (first | (go_at_call 19; refine (less_any _ _ (by assumption) (by assumption) _).mono ?_; rintro e w' ⟨rfl, rfl⟩) | (go_at_call 12; refine (known_any _).mono ?_; rintro e w' ⟨rfl, hbw⟩))
      all_goals (go_ret; exact ⟨rfl, by assumption⟩)
  | false =>
    by_cases hne : a = b
    · have hn : (a != b) = false := by simp [hne]
      have HNE := Lib.hid hne
      clear hne
      go_enter Try.func10, Try.ntmps10
      go_wp2_with (first | (go_at_call 19; refine (less_any _ _ (by assumption) (by assumption) _).mono ?_; rintro e w' ⟨rfl, rfl⟩) | (go_at_call 12; refine (known_any _).mono ?_; rintro e w' ⟨rfl, hbw⟩))
      all_goals (go_ret; exact ⟨rfl, by assumption⟩)
    · have hn : (a != b) = true := by simp [hne]
      have hba : lessB b a = true := by
        cases h : lessB b a with
        | true => rfl
        | false => exact absurd (lessB_tot hab h) hne
      go_enter Try.func10, Try.ntmps10
      go_wp2_with (first | (go_at_call 19; refine (less_any _ _ (by assumption) (by assumption) _).mono ?_; rintro e w' ⟨rfl, rfl⟩) | (go_at_call 12; refine (known_any _).mono ?_; rintro e w' ⟨rfl, hbw⟩))
      all_goals (go_ret; exact ⟨rfl, by assumption⟩)
end L
end Go.Proofs.Ytfpojpiajggncaa
