/- Contract of the comparison closure of lit.ordered. -/
import Derived.Test.YtbmpjglplmnlnaaF
namespace Go.Proofs.Ytbmpjglplmnlnaa
open Go.RowKit
namespace L
open K

/-- What the comparison returns. -/
def cmpI (x y : Int) : Int := if lessB x y = true then -1 else if lessB y x = true then 1 else 0

set_option maxHeartbeats 1000000 in
theorem closure_any (bx : Nat) (x y : Int) (hx : I64 x) (hy : I64 y) (w : World) (hb : w.cell? ⟨bx, 0, none⟩ = some (.func (.func 37) #[] #[])) :
    Calls Try.prog 43 #[.int .i64 x, .int .i64 y, .pointer (some ⟨bx, 0, none⟩)] w fun e w' => e = .returned (.int .i64 (cmpI x y)) ∧ w = w' := by
  cases h1 : lessB x y with
  | true =>
    have e : cmpI x y = -1 := by simp [cmpI, h1]
    rw [e]; clear e
    go_enter Try.func43, Try.ntmps43
    go_wp2_with (go_at_call 37; refine (less_any _ _ (by assumption) (by assumption) _).mono ?_; rintro e w' ⟨rfl, rfl⟩)
    go_ret
    exact ⟨rfl, rfl⟩
  | false =>
    cases h2 : lessB y x with
    | true =>
      have e : cmpI x y = 1 := by simp [cmpI, h1, h2]
      rw [e]; clear e
      go_enter Try.func43, Try.ntmps43
      go_wp2_with (go_at_call 37; refine (less_any _ _ (by assumption) (by assumption) _).mono ?_; rintro e w' ⟨rfl, rfl⟩)
      go_ret
      exact ⟨rfl, rfl⟩
    | false =>
      have e : cmpI x y = 0 := by simp [cmpI, h1, h2]
      rw [e]; clear e
      go_enter Try.func43, Try.ntmps43
      go_wp2_with (go_at_call 37; refine (less_any _ _ (by assumption) (by assumption) _).mono ?_; rintro e w' ⟨rfl, rfl⟩)
      go_ret
      exact ⟨rfl, rfl⟩
end L
end Go.Proofs.Ytbmpjglplmnlnaa
