/- Contracts of lit.Check and lit.Holds. -/
import Derived.Test.YtoffhaamkhfdeaaC
namespace Go.Proofs.Ytoffhaamkhfdeaa
open Go.RowKit
namespace L
open K

theorem I64.av {x : Int} (_h : I64 x) : 0 ≤ L.av x := by unfold L.av; split <;> omega
theorem mem_getD {l : List Int} {k : Nat} (h : k < l.length) : l.getD k 0 ∈ l := by
  rw [List.getD, List.getElem?_eq_getElem h]; exact List.getElem_mem h

/-- What Check returns. -/
def checkE (n : Int) (c : List Int) : Int :=
  if n < 0 ∨ 1048576 < n then 3 else if 4096 < c.length then 5 else if c.any (fun x => decide (x = 0) || decide (n < av x)) then 3 else 0

theorem any_upto {l : List Int} {p : Int → Bool} {k : Nat} (h : ∀ j, j < k → p (l.getD j 0) = false) (hk : l.length ≤ k) : l.any p = false := by
  rw [List.any_eq_false]
  intro x hx
  obtain ⟨j, hj, rfl⟩ := List.mem_iff_getElem.1 hx
  have := h j (by omega)
  simpa [List.getD, hj] using this
theorem any_at {l : List Int} {p : Int → Bool} {k : Nat} (hk : k < l.length) (h : p (l.getD k 0) = true) : l.any p = true :=
  List.any_eq_true.2 ⟨_, mem_getD hk, h⟩

set_option maxHeartbeats 1000000 in
theorem check_any (n : Int) (v : Value) (l : List Int) (w : World) (hn : I64 n) (hl : ∀ x ∈ l, I64 x) (h : Ints w v l) :
    Calls Try.prog 37 #[.int .i64 n, v] w fun e w' => e = .returned (.int .i64 (checkE n l)) ∧ w = w' := by
  obtain ⟨p, c, rfl, hg, hm, hc⟩ := h
  unfold I64 at hn
  by_cases h1 : n < 0
  · have e : checkE n l = 3 := by simp [checkE, h1]
    rw [e]; clear e
    go_enter Try.func37, Try.ntmps37
    go_wp2
    go_ret
    exact ⟨rfl, rfl⟩
  by_cases h2 : 1048576 < n
  · have e : checkE n l = 3 := by simp [checkE, h2]
    rw [e]; clear e
    go_enter Try.func37, Try.ntmps37
    go_wp2
    go_ret
    exact ⟨rfl, rfl⟩
  by_cases h3 : 4096 < l.length
  · have e : checkE n l = 5 := by simp [checkE, h1, h2, h3]
    rw [e]; clear e
    go_enter Try.func37, Try.ntmps37
    go_wp2
    go_ret
    exact ⟨rfl, rfl⟩
  have ec : checkE n l = if l.any (fun x => decide (x = 0) || decide (n < av x)) then 3 else 0 := by simp [checkE, h1, h2, h3]
  have hwn : IntKind.u64.wrap n = n := by simp only [IntKind.wrap_u64]; omega
  have HW := Lib.hid hwn
  clear hwn
  go_enter Try.func37, Try.ntmps37
  go_wp2
  go_loop [18] (fun i => ∃ k : Nat, k ≤ l.length ∧ i = .int .i64 k ∧ (∀ j, j < k → (decide (l.getD j 0 = 0) || decide (n < av (l.getD j 0))) = false)) (fun i => l.length - (intOf i).toNat)
  case atStart => exact ⟨0, Nat.zero_le _, rfl, fun j hj => absurd hj (Nat.not_lt_zero _)⟩
  case round =>
    obtain ⟨k, hk, rfl, hno⟩ := hrel
    have HE := Lib.hid hno
    have HC := Lib.hid ec
    clear hno ec
    by_cases hlt : k < l.length
    · obtain ⟨b1, o1, rfl, e1⟩ := hc (by omega)
      have d1 := e1 k hlt
      have hx64 := hl _ (mem_getD hlt)
      have HA := Lib.hid (fun h => any_at (p := fun x => decide (x = 0) || decide (n < av x)) hlt h)
      clear hc e1 hl
      generalize hx1 : l.getD k 0 = x at d1 hx64 HA
      have HX1 := Lib.hid hx1
      clear hx1
      by_cases hx0 : x = 0
      · have hb0 : (x == 0) = true := by simp [hx0]
        have HX0 := Lib.hid hx0
        clear hx0
        go_wp2
        go_ret
        refine ⟨ret_int ?_, rfl⟩
        rw [HC.out, if_pos (HA.out (by simp [HX0.out]))]
      · have hb0 : (x == 0) = false := by simp [hx0]
        have hav := hx64.av
        by_cases hx2 : n < av x
        · go_wp2_with (go_at_call 43; refine (variable_any _ (by assumption) _).mono ?_; rintro e w' ⟨rfl, rfl⟩)
          go_ret
          refine ⟨ret_int ?_, rfl⟩
          rw [HC.out, if_pos (HA.out (by simp [hx2]))]
        · go_wp2_with (go_at_call 43; refine (variable_any _ (by assumption) _).mono ?_; rintro e w' ⟨rfl, rfl⟩)
          go_round
          case rel =>
            refine ⟨k + 1, by omega, by go_num, fun j hj => ?_⟩
            by_cases hjk : j = k
            · subst hjk; rw [HX1.out]; simp [hx0, hx2]
            · exact HE.out j (by omega)
          case measure => simp [intOf]; omega
    · go_wp2
      go_ret
      refine ⟨ret_int ?_, rfl⟩
      rw [HC.out, any_upto (p := fun x => decide (x = 0) || decide (n < av x)) HE.out (by omega)]
      rfl
end L
end Go.Proofs.Ytoffhaamkhfdeaa
