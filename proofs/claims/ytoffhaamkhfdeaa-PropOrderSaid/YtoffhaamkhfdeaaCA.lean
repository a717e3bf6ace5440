/- Contracts of prop: variable, holds, isFalse. -/
import Derived.Test.YtoffhaamkhfdeaaMB
namespace Go.Proofs.Ytoffhaamkhfdeaa
open Go.RowKit
namespace L
open K

set_option maxHeartbeats 400000 in
theorem pvar_any (x : Int) (h : x.natAbs ≤ 1048576) (w : World) :
    Calls Try.prog 46 #[.int .i64 x] w fun e w' => e = .returned (.int .i64 (x.natAbs : Int)) ∧ w = w' := by
  by_cases h0 : x < 0
  · have e1 : (x.natAbs : Int) = -x := by omega
    rw [e1]; clear e1
    have hb : (-x) ≤ 1048576 := by omega
    clear h
    go_enter Try.func46, Try.ntmps46
    go_wp2
    go_ret
    exact ⟨ret_int (by simp <;> omega), rfl⟩
  · have e1 : (x.natAbs : Int) = x := by omega
    rw [e1]; clear e1
    have hb : x ≤ 1048576 := by omega
    clear h
    go_enter Try.func46, Try.ntmps46
    go_wp2
    go_ret
    exact ⟨ret_int (by simp <;> omega), rfl⟩

set_option maxHeartbeats 1000000 in
theorem isF_any {w : World} {p : Bl} {al : Nat → Value} {N : Nat} {vs : Int → Value} {s : U.St} (h : Mem w p al N vs s) (x : Int) (hx : x.natAbs ≤ p.n) :
    Calls Try.prog 44 #[.pointer (some ⟨p.pb, 0, none⟩), .int .i64 x] w fun e w' => e = .returned (.bool (decide (s.kn x.natAbs = -x))) ∧ Below w.heap.size w w' := by
  have hn := h.lim.1
  obtain ⟨c0, _⟩ := h.c
  have k0 := (h.k hx).1
  have hb : x.natAbs ≤ 1048576 := by omega
  have hpv := fun W => pvar_any x hb W
  have hneg : IntKind.i64.wrap (-x) = -x := by simp only [IntKind.wrap_i64]; omega
  generalize s.kn x.natAbs = y at *
  generalize hv : x.natAbs = v at *
  have h1 : (v : Int) < (p.n : Int) + 1 := by omega
  clear h hv hb
  go_enter Try.func44, Try.ntmps44
  go_wp2
  go_quiet ((go_at_call 46; exact Calls.quiet_of_same ((hpv _).mono fun _ _ h => ⟨h.1, h.2.symm⟩)))
  go_wp2
  go_ret
  exact ⟨ret_bool (by first | rfl | trace_state), below_drewN (Below.refl _ _) _⟩

set_option maxHeartbeats 1000000 in
theorem isT_any {w : World} {p : Bl} {al : Nat → Value} {N : Nat} {vs : Int → Value} {s : U.St} (h : Mem w p al N vs s) (x : Int) (hx : x.natAbs ≤ p.n) :
    Calls Try.prog 45 #[.pointer (some ⟨p.pb, 0, none⟩), .int .i64 x] w fun e w' => e = .returned (.bool (decide (s.kn x.natAbs = x))) ∧ Below w.heap.size w w' := by
  have hn := h.lim.1
  obtain ⟨c0, _⟩ := h.c
  have k0 := (h.k hx).1
  have hb : x.natAbs ≤ 1048576 := by omega
  have hpv := fun W => pvar_any x hb W
  generalize s.kn x.natAbs = y at *
  generalize hv : x.natAbs = v at *
  have h1 : (v : Int) < (p.n : Int) + 1 := by omega
  clear h hv hb
  go_enter Try.func45, Try.ntmps45
  go_wp2
  go_quiet ((go_at_call 46; exact Calls.quiet_of_same ((hpv _).mono fun _ _ h => ⟨h.1, h.2.symm⟩)))
  go_wp2
  go_ret
  exact ⟨ret_bool (by first | rfl | trace_state), below_drewN (Below.refl _ _) _⟩
end L
end Go.Proofs.Ytoffhaamkhfdeaa
