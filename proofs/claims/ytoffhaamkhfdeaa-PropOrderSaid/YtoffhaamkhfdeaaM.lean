/- Contracts of the reference's size, Less and Check, and of has. -/
import Derived.Test.YtoffhaamkhfdeaaE
namespace Go.Proofs.Ytoffhaamkhfdeaa
open Go.RowKit
namespace L
open K

set_option maxHeartbeats 400000 in
theorem size_any (x : Int) (h : I64 x) (w : World) :
    Calls Try.prog 48 #[.int .i64 x] w fun e w' => e = .returned (.int .u64 (av x)) ∧ w = w' := by
  by_cases h0 : x < 0
  · have e1 := Lib.hid (wrap_neg x h h0)
    have e2 : av x = -x := by simp [av, h0]
    rw [e2]; clear e2
    go_enter Try.func48, Try.ntmps48
    go_wp2
    go_ret
    exact ⟨ret_int e1.out, rfl⟩
  · have e1 := Lib.hid (wrap_pos x h (by omega))
    have e2 : av x = x := by simp [av, h0]
    rw [e2]; clear e2
    go_enter Try.func48, Try.ntmps48
    go_wp2
    go_ret
    exact ⟨ret_int e1.out, rfl⟩

set_option maxHeartbeats 1000000 in
theorem rcheck_any (n : Int) (v : Value) (l : List Int) (w : World) (hn : I64 n) (hl : ∀ x ∈ l, I64 x) (h : Ints w v l) :
    Calls Try.prog 41 #[.int .i64 n, v] w fun e w' => e = .returned (.int .i64 (checkE n l)) ∧ w = w' := by
  obtain ⟨p, c, rfl, hg, hm, hc⟩ := h
  unfold I64 at hn
  by_cases h1 : n < 0
  · have e : checkE n l = 3 := by simp [checkE, h1]
    rw [e]; clear e
    go_enter Try.func41, Try.ntmps41
    go_wp2
    go_ret
    exact ⟨rfl, rfl⟩
  by_cases h2 : 1048576 < n
  · have e : checkE n l = 3 := by simp [checkE, h2]
    rw [e]; clear e
    go_enter Try.func41, Try.ntmps41
    go_wp2
    go_ret
    exact ⟨rfl, rfl⟩
  by_cases h3 : 4096 < l.length
  · have e : checkE n l = 5 := by simp [checkE, h1, h2, h3]
    rw [e]; clear e
    go_enter Try.func41, Try.ntmps41
    go_wp2
    go_ret
    exact ⟨rfl, rfl⟩
  have ec : checkE n l = if l.any (fun x => decide (x = 0) || decide (n < av x)) then 3 else 0 := by simp [checkE, h1, h2, h3]
  have hwn : IntKind.u64.wrap n = n := by simp only [IntKind.wrap_u64]; omega
  have HW := Lib.hid hwn
  clear hwn
  go_enter Try.func41, Try.ntmps41
  go_wp2
  go_loop [5] (fun i => ∃ k : Nat, k ≤ l.length ∧ i = .int .i64 k ∧ (∀ j, j < k → (decide (l.getD j 0 = 0) || decide (n < av (l.getD j 0))) = false)) (fun i => l.length - (intOf i).toNat)
  case atStart => exact ⟨0, Nat.zero_le _, rfl, fun j hj => absurd hj (Nat.not_lt_zero _)⟩
  case round =>
    obtain ⟨k, hk, rfl, hno⟩ := hrel
    have HE := Lib.hid hno
    have HC := Lib.hid ec
    clear hno ec
    by_cases hlt : k < l.length
    · obtain ⟨b1, o1, rfl, e1⟩ := hc (by omega)
      have d1 := e1 k hlt
      have hx64 := hl _ (mem_getD hlt)
      have HA := Lib.hid (fun h => any_at (p := fun x => decide (x = 0) || decide (n < av x)) hlt h)
      clear hc e1 hl
      generalize hx1 : l.getD k 0 = x at d1 hx64 HA
      have HX1 := Lib.hid hx1
      clear hx1
      by_cases hx0 : x = 0
      · have hb0 : (x == 0) = true := by simp [hx0]
        have HX0 := Lib.hid hx0
        clear hx0
        go_wp2
        go_ret
        refine ⟨ret_int ?_, rfl⟩
        rw [HC.out, if_pos (HA.out (by simp [HX0.out]))]
      · have hb0 : (x == 0) = false := by simp [hx0]
        have hav := hx64.av
        by_cases hx2 : n < av x
        · go_wp2_with (go_at_call 48; refine (size_any _ (by assumption) _).mono ?_; rintro e w' ⟨rfl, rfl⟩)
          go_ret
          refine ⟨ret_int ?_, rfl⟩
          rw [HC.out, if_pos (HA.out (by simp [hx2]))]
        · go_wp2_with (go_at_call 48; refine (size_any _ (by assumption) _).mono ?_; rintro e w' ⟨rfl, rfl⟩)
          go_round
          case rel =>
            refine ⟨k + 1, by omega, by go_num, fun j hj => ?_⟩
            by_cases hjk : j = k
            · subst hjk; rw [HX1.out]; simp [hx0, hx2]
            · exact HE.out j (by omega)
          case measure => simp [intOf]; omega
    · go_wp2
      go_ret
      refine ⟨ret_int ?_, rfl⟩
      rw [HC.out, any_upto (p := fun x => decide (x = 0) || decide (n < av x)) HE.out (by omega)]
      rfl

end L
end Go.Proofs.Ytoffhaamkhfdeaa
