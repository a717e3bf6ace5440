/- Contract of lit.Holds. -/
import Derived.Test.YtoffhaamkhfdeaaD
namespace Go.Proofs.Ytoffhaamkhfdeaa
open Go.RowKit
namespace L
open K

/-- Whether a literal holds in a model. -/
def litB (m : List Bool) (x : Int) : Bool := decide (0 < av x) && (decide (av x ≤ m.length) && (m.getD (av x - 1).toNat false == decide (0 < x)))
def holdsB (m : List Bool) (c : List Int) : Bool := c.any (litB m)

set_option maxHeartbeats 1000000 in
theorem holds_any (vm v : Value) (m : List Bool) (l : List Int) (w : World) (hl : ∀ x ∈ l, I64 x) (hM : Bools w vm m) (h : Ints w v l) :
    Calls Try.prog 35 #[vm, v] w fun e w' => e = .returned (.bool (holdsB m l)) ∧ w = w' := by
  obtain ⟨p, c, rfl, hg, hm, hc⟩ := h
  obtain ⟨pm, cm, rfl, hgm, hmm, hcm⟩ := hM
  have hwm : IntKind.u64.wrap (m.length : Int) = m.length := by simp only [IntKind.wrap_u64]; omega
  have HW := Lib.hid hwm
  clear hwm
  go_enter Try.func35, Try.ntmps35
  go_wp2
  go_loop [10] (fun i => ∃ k : Nat, k ≤ l.length ∧ i = .int .i64 k ∧ (∀ j, j < k → litB m (l.getD j 0) = false)) (fun i => l.length - (intOf i).toNat)
  case atStart => exact ⟨0, Nat.zero_le _, rfl, fun j hj => absurd hj (Nat.not_lt_zero _)⟩
  case round =>
    obtain ⟨k, hk, rfl, hno⟩ := hrel
    have HE := Lib.hid hno
    clear hno
    by_cases hlt : k < l.length
    · obtain ⟨b1, o1, rfl, e1⟩ := hc (by omega)
      have d1 := e1 k hlt
      have hx64 := hl _ (mem_getD hlt)
      have HA := Lib.hid (fun h => any_at (p := litB m) hlt h)
      clear hc e1 hl
      generalize hx1 : l.getD k 0 = x at d1 hx64 HA
      have HX1 := Lib.hid hx1
      clear hx1
      have hav := hx64.av
      have hav2 : av x ≤ 9223372036854775808 := by unfold I64 at hx64; unfold av; split <;> omega
      have HAV := Lib.hid hav2
      clear hav2
      generalize hv1 : av x = vx at hav HAV
      have HV1 := Lib.hid hv1
      clear hv1
      have rel : litB m x = false → (∀ j, j < k + 1 → litB m (l.getD j 0) = false) := fun hn j hj => by
        by_cases hjk : j = k
        · subst hjk; rw [HX1.out]; exact hn
        · exact HE.out j (by omega)
      have REL := Lib.hid rel
      clear rel
      by_cases hx0 : 0 < vx
      · by_cases hx2 : vx ≤ m.length
        · obtain ⟨bm, om, rfl, em⟩ := hcm (by omega)
          have dm := em (vx.toNat - 1) (by omega)
          clear em hcm
          generalize hym : m.getD (vx.toNat - 1) false = y at dm
          have e1 : (vx - 1).toNat = vx.toNat - 1 := by omega
          have HL : Hid (litB m x = (y == decide (0 < x))) := by simp [Hid, litB, HV1.out, e1, ← hym, hx0, hx2]
          clear hym e1
          cases hy : (y == decide (0 < x)) with
          | true =>
            have HF : Hid (litB m x = true) := by rw [Hid, HL.out, hy]
            go_wp2_with (go_at_call 43; refine (variable_any _ (by assumption) _).mono ?_; rintro e w' ⟨rfl, rfl⟩; rw [HV1.out])
            go_ret
            exact ⟨ret_bool (HA.out HF.out).symm, rfl⟩
          | false =>
            have HF : Hid (litB m x = false) := by rw [Hid, HL.out, hy]
            go_wp2_with (go_at_call 43; refine (variable_any _ (by assumption) _).mono ?_; rintro e w' ⟨rfl, rfl⟩; rw [HV1.out])
            go_round
            case rel => exact ⟨k + 1, by omega, by go_num, REL.out HF.out⟩
            case measure => simp [intOf]; omega
        · have HF : Hid (litB m x = false) := by simp [Hid, litB, HV1.out, hx2]
          go_wp2_with (go_at_call 43; refine (variable_any _ (by assumption) _).mono ?_; rintro e w' ⟨rfl, rfl⟩; rw [HV1.out])
          go_round
          case rel => exact ⟨k + 1, by omega, by go_num, REL.out HF.out⟩
          case measure => simp [intOf]; omega
      · have HF : Hid (litB m x = false) := by simp [Hid, litB, HV1.out, hx0]
        go_wp2_with (go_at_call 43; refine (variable_any _ (by assumption) _).mono ?_; rintro e w' ⟨rfl, rfl⟩; rw [HV1.out])
        go_round
        case rel => exact ⟨k + 1, by omega, by go_num, REL.out HF.out⟩
        case measure => simp [intOf]; omega
    · go_wp2
      go_ret
      exact ⟨ret_bool (any_upto HE.out (by omega)).symm, rfl⟩
end L
end Go.Proofs.Ytoffhaamkhfdeaa
