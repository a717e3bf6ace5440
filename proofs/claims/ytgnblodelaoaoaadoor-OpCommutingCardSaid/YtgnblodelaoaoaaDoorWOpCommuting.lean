/- OpCommuting: the walk. -/
import Derived.Test.YtgnblodelaoaoaaDoorWOpMatches
namespace Go.Proofs.YtgnblodelaoaoaaDoor
open Go.RowKit
namespace L
set_option maxRecDepth 100000

def cntC (i : Nat) : Nat := ((List.range i).filter cmB).length
theorem cntC_step (i : Nat) : cntC (i + 1) = if cmB i then cntC i + 1 else cntC i := by
  unfold cntC
  rw [List.range_succ, List.filter_append, List.length_append]
  by_cases h : cmB i <;> simp [h]
theorem cntC_le (i : Nat) : cntC i ≤ i := by
  unfold cntC
  exact Nat.le_trans (List.length_filter_le _ _) (by simp)
theorem cntC_end : cntC 256 = 7 := by decide +kernel
theorem cm_two (k : Nat) (h : cmB k = true) : arA k = 2 ∧ arE k = 0 := by
  have hk : k < 17 := by
    simp [cmB] at h; omega
  have : ∀ k : Fin 17, cmB k.val = true → arA k.val = 2 ∧ arE k.val = 0 := by decide +kernel
  exact this ⟨k, hk⟩ h

set_option maxHeartbeats 2000000 in
theorem commuting8_walk (a : Int) (w : World) (hT : OpTab w) (ha : (Lit.int .u8 a).wf = true) :
    Calls Tryd.prog 8 #[.int .u8 a] w fun e w' => e = .returned (.bool true) ∧ Below w.heap.size w w' := by
  obtain ⟨k, rfl, hk⟩ := u8_nat ha
  clear ha
  have HT := Lib.hid hT
  have C1 := Lib.hid (arity_any k w hk hT)
  have C2 := Lib.hid (commutes_any k w)
  have hc := cm_two k
  clear hT
  obtain ⟨q1, h1⟩ : ∃ q, q = arA k := ⟨_, rfl⟩
  obtain ⟨q2, h2⟩ : ∃ q, q = arE k := ⟨_, rfl⟩
  obtain ⟨b, hb⟩ : ∃ b, b = cmB k := ⟨_, rfl⟩
  rw [← h1, ← h2] at C1
  rw [← hb] at C2
  rw [← h1, ← h2, ← hb] at hc
  clear h1 h2 hb
  have hloop : Hid (∀ W : World, W = w → (b = true → q1 = 2 ∧ q2 = 0)) := Lib.hid fun _ _ => hc
  clear hc
  have hmain : ∀ (b : Bool), (b = true → q1 = 2 ∧ q2 = 0) → Hid (Calls Tryd.prog 14 #[.int .u8 (k : Int)] w fun e w' => e = .returned (.bool b) ∧ w = w') →
      Calls Tryd.prog 8 #[.int .u8 (k : Int)] w fun e w' => e = .returned (.bool true) ∧ Below w.heap.size w w' := by
    intro b hq C2
    cases b
    case' true => obtain ⟨rfl, rfl⟩ := hq rfl
    all_goals
      clear hq hloop
      go_enter Tryd.func8, Tryd.ntmps8
      go_wp2_with (first | (go_at_call 10; refine (C1.out).mono ?_; rintro e w' ⟨rfl, rfl⟩) | (go_at_call 14; refine (C2.out).mono ?_; rintro e w' ⟨rfl, rfl⟩))
      go_loop [5, 6] (fun cv iv => ∃ i : Nat, iv = .int .i64 (i : Int) ∧ i ≤ 256 ∧ cv = .int .i64 (cntC i : Int)) (fun _ iv => 256 - (intOf iv).toNat)
      case atStart => exact ⟨0, rfl, by omega, rfl⟩
      case round =>
        obtain ⟨i, rfl, hi, rfl⟩ := hrel
        by_cases hlt : i < 256
        · have h1 : (i : Int) < 256 := by omega
          have h2 : (i : Int) % 256 = (i : Int) := by omega
          have hst := cntC_step i
          have hle := cntC_le i
          have C3 := Lib.hid (commutes_any i w)
          generalize cmB i = bi at *
          cases bi
          case' true => replace hst : cntC (i + 1) = cntC i + 1 := by simpa using hst
          case' false => replace hst : cntC (i + 1) = cntC i := by simpa using hst
          all_goals
            have HS := Lib.hid hst
            clear hst
            go_wp2_with (go_at_call 14; refine (C3.out).mono ?_; rintro e w' ⟨rfl, rfl⟩)
            go_round
            case rel => exact ⟨i + 1, by simp, by omega, by simp [HS.out]⟩
            case measure => simp [intOf]; omega
        · obtain rfl : i = 256 := by omega
          have he : (cntC 256 : Int) = 7 := by rw [cntC_end]; rfl
          go_wp2_with (go_at_call 16; refine (known8_any _ HT.out).mono ?_; rintro e w2 ⟨rfl, hb2⟩; have HB2 := Lib.hid hb2; clear hb2)
          go_ret
          exact ⟨rfl, HB2.out⟩
  exact hmain b (hloop.out w rfl) C2
end L
end Go.Proofs.YtgnblodelaoaoaaDoor
