/- The reference's shifts, results, Apply. -/
import Derived.Test.YtmplmpiljjilnaaDoorQG
namespace Go.Proofs.YtmplmpiljjilnaaDoor
open Go.RowKit
open L
namespace W9
set_option maxRecDepth 100000

theorem inc64 (i : Nat) (h : i < 1000000) : IntKind.u64.wrap ((i : Int) + 1) = ((i + 1 : Nat) : Int) := by rw [wr]; omega
theorem wid64 (W : Nat) (h : W ≤ 64) : IntKind.u64.wrap (W : Int) = (W : Int) := by rw [wr]; omega
theorem half64 (x : Nat) (h : x < 18446744073709551616) : IntKind.u64.wrap ((x : Int) / 2) = ((x / 2 : Nat) : Int) := by rw [wr]; omega
theorem start12 {W a : Nat} (ha : a < 2 ^ W) : ap W W 12 a 0 0 = a := by show a * 2 ^ 0 % 2 ^ W = a; rw [Nat.pow_zero, Nat.mul_one, Nat.mod_eq_of_lt ha]
theorem start13 {W a : Nat} : ap W W 13 a 0 0 = a := by show a / 2 ^ 0 = a; rw [Nat.pow_zero, Nat.div_one]
theorem start14 {W a : Nat} (ha : a < 2 ^ W) : ap W W 14 a 0 0 = a := by
  show ((sg W a / 2 ^ 0) % 2 ^ W).toNat = a
  rw [Int.pow_zero, Int.ediv_one, sg_mod ha]; rfl

set_option maxHeartbeats 1000000 in
theorem shifted12 (W a b : Nat) (h1 : 1 ≤ W) (h2 : W ≤ 64) (ha : a < 2 ^ W) (w : World) :
    Calls Tryd.prog 56 #[.int .u8 12, .int .i64 (W : Int), .int .u64 (a : Int), .int .u64 (b : Int)] w fun e w' => e = .returned (.int .u64 ((ap W W 12 a b 0 : Nat) : Int)) ∧ w = w' := by
  rw [← sh_min h1 ha (.inl rfl)]
  obtain ⟨m, hm⟩ : ∃ m, m = min b W := ⟨_, rfl⟩
  rw [← hm]
  have HM := Lib.hid hm
  clear hm
  have hW := wid64 W h2
  go_enter Tryd.func56, Tryd.ntmps56
  go_wp2
  go_loop [2, 10] (fun av iv => ∃ i : Nat, iv = .int .u64 (i : Int) ∧ i ≤ m ∧ av = .int .u64 ((ap W W 12 a i 0 : Nat) : Int)) (fun _ iv => 1000 - (intOf iv).toNat)
  case atStart => exact ⟨0, rfl, Nat.zero_le _, by rw [start12 ha]⟩
  case round =>
    obtain ⟨i, rfl, hi, rfl⟩ := hrel
    by_cases hlt : i < m
    · have hm := HM.out
      have g1 : (i : Int) < (b : Int) := by omega
      have g2 : (i : Int) < (W : Int) := by omega
      have g1' : i < b := by omega
      have g2' : i < W := by omega
      have e1 := inc64 i (by omega)
      clear hm
      have e2 : ap W W 12 a (i + 1) 0 = (2 * ap W W 12 a i 0) % 18446744073709551616 % 2 ^ W := (sh12 h2).symm
      have C := fun w => rtrim_any W ((2 * ap W W 12 a i 0) % 18446744073709551616) h1 h2 (Nat.mod_lt _ (by decide)) w
      rw [← e2] at C
      have e4 : IntKind.u64.wrap (2 * ((ap W W 12 a i 0 : Nat) : Int)) = (((2 * ap W W 12 a i 0) % 18446744073709551616 : Nat) : Int) := by rw [wr]; omega
      have HC := Lib.hid C
      clear C e2
      generalize hy : ap W W 12 a (i + 1) 0 = y at *
      generalize ap W W 12 a i 0 = x at *
      generalize 2 * x % 18446744073709551616 = z at *
      have HY := Lib.hid hy
      clear hy
      go_wp2_with (go_at_call 32; refine (HC.out _).mono ?_; rintro e w' ⟨rfl, rfl⟩)
      go_round
      case rel => exact ⟨i + 1, rfl, by omega, by rw [HY.out]⟩
      case measure => simp [intOf]; omega
    · obtain rfl : i = m := by omega
      have hm := HM.out
      by_cases hb : b ≤ W
      · have g1 : ¬ (i : Int) < (b : Int) := by omega
        have g1' : ¬ i < b := by omega
        clear hlt hi hm hb
        go_wp2
        go_ret
        exact ⟨rfl, rfl⟩
      · have g1 : (i : Int) < (b : Int) := by omega
        have g1' : i < b := by omega
        have g2 : ¬ (i : Int) < (W : Int) := by omega
        have g2' : ¬ i < W := by omega
        clear hlt hi hb hm
        go_wp2
        go_ret
        exact ⟨rfl, rfl⟩

set_option maxHeartbeats 1000000 in
theorem shifted13 (W a b : Nat) (h1 : 1 ≤ W) (h2 : W ≤ 64) (ha : a < 2 ^ W) (w : World) :
    Calls Tryd.prog 56 #[.int .u8 13, .int .i64 (W : Int), .int .u64 (a : Int), .int .u64 (b : Int)] w fun e w' => e = .returned (.int .u64 ((ap W W 13 a b 0 : Nat) : Int)) ∧ w = w' := by
  rw [← sh_min h1 ha (.inr (.inl rfl))]
  obtain ⟨m, hm⟩ : ∃ m, m = min b W := ⟨_, rfl⟩
  rw [← hm]
  have HM := Lib.hid hm
  clear hm
  have hW := wid64 W h2
  go_enter Tryd.func56, Tryd.ntmps56
  go_wp2
  go_loop [2, 10] (fun av iv => ∃ i : Nat, iv = .int .u64 (i : Int) ∧ i ≤ m ∧ av = .int .u64 ((ap W W 13 a i 0 : Nat) : Int)) (fun _ iv => 1000 - (intOf iv).toNat)
  case atStart => exact ⟨0, rfl, Nat.zero_le _, by rw [start13]⟩
  case round =>
    obtain ⟨i, rfl, hi, rfl⟩ := hrel
    by_cases hlt : i < m
    · have hm := HM.out
      have g1 : (i : Int) < (b : Int) := by omega
      have g2 : (i : Int) < (W : Int) := by omega
      have g1' : i < b := by omega
      have g2' : i < W := by omega
      have e1 := inc64 i (by omega)
      clear hm
      have hx : ap W W 13 a i 0 < 18446744073709551616 := lt64 h2 (Nat.lt_of_le_of_lt (Nat.div_le_self _ _) ha)
      have e4 := half64 _ hx
      have e2 : ap W W 13 a (i + 1) 0 = ap W W 13 a i 0 / 2 := sh13.symm
      have HY := Lib.hid e2
      clear e2 hx
      generalize ap W W 13 a i 0 = x at *
      go_wp2
      go_round
      case rel => exact ⟨i + 1, rfl, by omega, congrArg (Value.int .u64) (by rw [HY.out]; rfl)⟩
      case measure => simp [intOf]; omega
    · obtain rfl : i = m := by omega
      have hm := HM.out
      by_cases hb : b ≤ W
      · have g1 : ¬ (i : Int) < (b : Int) := by omega
        have g1' : ¬ i < b := by omega
        clear hlt hi hm hb
        go_wp2
        go_ret
        exact ⟨rfl, rfl⟩
      · have g1 : (i : Int) < (b : Int) := by omega
        have g1' : i < b := by omega
        have g2 : ¬ (i : Int) < (W : Int) := by omega
        have g2' : ¬ i < W := by omega
        clear hlt hi hb hm
        go_wp2
        go_ret
        exact ⟨rfl, rfl⟩

set_option maxHeartbeats 1000000 in
theorem shifted14t (W a b : Nat) (h1 : 1 ≤ W) (h2 : W ≤ 64) (ha : a < 2 ^ W) (ht : 2 ^ (W - 1) ≤ a) (w : World) :
    Calls Tryd.prog 56 #[.int .u8 14, .int .i64 (W : Int), .int .u64 (a : Int), .int .u64 (b : Int)] w fun e w' => e = .returned (.int .u64 ((ap W W 14 a b 0 : Nat) : Int)) ∧ w = w' := by
  rw [← sh_min h1 ha (.inr (.inr rfl))]
  obtain ⟨m, hm⟩ : ∃ m, m = min b W := ⟨_, rfl⟩
  rw [← hm]
  have HM := Lib.hid hm
  clear hm
  have hW := wid64 W h2
  have T := top_any W a h1 h2 ha w
  have HT := Lib.hid ht
  rw [decide_eq_true ht] at T
  have HTT := Lib.hid T
  clear T ht
  go_enter Tryd.func56, Tryd.ntmps56
  go_wp2_with (go_at_call 35; with_reducible refine (HTT.out).mono ?_; rintro e w' ⟨rfl, rfl⟩)
  go_loop [2, 10] (fun av iv => ∃ i : Nat, iv = .int .u64 (i : Int) ∧ i ≤ m ∧ av = .int .u64 ((ap W W 14 a i 0 : Nat) : Int)) (fun _ iv => 1000 - (intOf iv).toNat)
  case atStart => exact ⟨0, rfl, Nat.zero_le _, by rw [start14 ha]⟩
  case round =>
    obtain ⟨i, rfl, hi, rfl⟩ := hrel
    by_cases hlt : i < m
    · have hm := HM.out
      have g1 : (i : Int) < (b : Int) := by omega
      have g2 : (i : Int) < (W : Int) := by omega
      have g1' : i < b := by omega
      have g2' : i < W := by omega
      have e1 := inc64 i (by omega)
      clear hm
      have hx : ap W W 14 a i 0 < 18446744073709551616 := lt64 h2 (sar_lt _)
      have e4 := half64 _ hx
      have e2 : ap W W 14 a i 0 / 2 + (if 2 ^ (W - 1) ≤ a then 2 ^ (W - 1) else 0) = ap W W 14 a (i + 1) 0 := sh14 h1 ha
      have hy := lt64 h2 (show ap W W 14 a (i + 1) 0 < 2 ^ W from sar_lt _)
      rw [if_pos HT.out] at e2
      obtain ⟨k, hk⟩ : ∃ k, W = k + 1 := ⟨W - 1, by omega⟩
      have c1 : (W : Int) - 1 = (k : Int) := by omega
      have c2 : IntKind.u64.wrap (k : Int) = (k : Int) := wid64 k (by omega)
      have c3 : IntKind.u64.wrap (2 ^ k) = ((2 ^ k : Nat) : Int) := wrap_pow (by omega)
      have c3' : ((2 : Int) ^ k) % 18446744073709551616 = ((2 ^ k : Nat) : Int) := by rw [← wr]; exact c3
      have c4 : IntKind.u64.wrap (((ap W W 14 a i 0 / 2 : Nat) : Int) + ((2 ^ k : Nat) : Int)) = ((ap W W 14 a (i + 1) 0 : Nat) : Int) := by
        rw [show W - 1 = k by omega] at e2
        rw [← Int.natCast_add, e2, wr_nat, pow64, Nat.mod_eq_of_lt hy]
      have HK := Lib.hid hk
      clear hk
      have HY := Lib.hid e2
      clear e2 hx hy
      generalize hy : ap W W 14 a (i + 1) 0 = y at *
      have HYY := Lib.hid hy
      clear hy
      generalize ap W W 14 a i 0 = x at *
      generalize (2 ^ k : Nat) = q at *
      go_wp2
      go_round
      case rel => exact ⟨i + 1, rfl, by omega, by rw [HYY.out]; exact congrArg (Value.int .u64) c4⟩
      case measure => simp [intOf]; omega
    · obtain rfl : i = m := by omega
      have hm := HM.out
      by_cases hb : b ≤ W
      · have g1 : ¬ (i : Int) < (b : Int) := by omega
        have g1' : ¬ i < b := by omega
        clear hlt hi hm hb
        go_wp2
        go_ret
        exact ⟨rfl, rfl⟩
      · have g1 : (i : Int) < (b : Int) := by omega
        have g1' : i < b := by omega
        have g2 : ¬ (i : Int) < (W : Int) := by omega
        have g2' : ¬ i < W := by omega
        clear hlt hi hb hm
        go_wp2
        go_ret
        exact ⟨rfl, rfl⟩

set_option maxHeartbeats 1000000 in
theorem shifted14f (W a b : Nat) (h1 : 1 ≤ W) (h2 : W ≤ 64) (ha : a < 2 ^ W) (ht : ¬ 2 ^ (W - 1) ≤ a) (w : World) :
    Calls Tryd.prog 56 #[.int .u8 14, .int .i64 (W : Int), .int .u64 (a : Int), .int .u64 (b : Int)] w fun e w' => e = .returned (.int .u64 ((ap W W 14 a b 0 : Nat) : Int)) ∧ w = w' := by
  rw [← sh_min h1 ha (.inr (.inr rfl))]
  obtain ⟨m, hm⟩ : ∃ m, m = min b W := ⟨_, rfl⟩
  rw [← hm]
  have HM := Lib.hid hm
  clear hm
  have hW := wid64 W h2
  have T := top_any W a h1 h2 ha w
  have HT := Lib.hid ht
  rw [decide_eq_false ht] at T
  have HTT := Lib.hid T
  clear T ht
  go_enter Tryd.func56, Tryd.ntmps56
  go_wp2_with (go_at_call 35; with_reducible refine (HTT.out).mono ?_; rintro e w' ⟨rfl, rfl⟩)
  go_loop [2, 10] (fun av iv => ∃ i : Nat, iv = .int .u64 (i : Int) ∧ i ≤ m ∧ av = .int .u64 ((ap W W 14 a i 0 : Nat) : Int)) (fun _ iv => 1000 - (intOf iv).toNat)
  case atStart => exact ⟨0, rfl, Nat.zero_le _, by rw [start14 ha]⟩
  case round =>
    obtain ⟨i, rfl, hi, rfl⟩ := hrel
    by_cases hlt : i < m
    · have hm := HM.out
      have g1 : (i : Int) < (b : Int) := by omega
      have g2 : (i : Int) < (W : Int) := by omega
      have g1' : i < b := by omega
      have g2' : i < W := by omega
      have e1 := inc64 i (by omega)
      clear hm
      have hx : ap W W 14 a i 0 < 18446744073709551616 := lt64 h2 (sar_lt _)
      have e4 := half64 _ hx
      have e2 : ap W W 14 a i 0 / 2 + (if 2 ^ (W - 1) ≤ a then 2 ^ (W - 1) else 0) = ap W W 14 a (i + 1) 0 := sh14 h1 ha
      have hy := lt64 h2 (show ap W W 14 a (i + 1) 0 < 2 ^ W from sar_lt _)
      rw [if_neg HT.out, Nat.add_zero] at e2
      have HY := Lib.hid e2
      clear e2 hx hy
      generalize ap W W 14 a i 0 = x at *
      go_wp2
      go_round
      case rel => exact ⟨i + 1, rfl, by omega, congrArg (Value.int .u64) (by rw [← HY.out]; rfl)⟩
      case measure => simp [intOf]; omega
    · obtain rfl : i = m := by omega
      have hm := HM.out
      by_cases hb : b ≤ W
      · have g1 : ¬ (i : Int) < (b : Int) := by omega
        have g1' : ¬ i < b := by omega
        clear hlt hi hm hb
        go_wp2
        go_ret
        exact ⟨rfl, rfl⟩
      · have g1 : (i : Int) < (b : Int) := by omega
        have g1' : i < b := by omega
        have g2 : ¬ (i : Int) < (W : Int) := by omega
        have g2' : ¬ i < W := by omega
        clear hlt hi hb hm
        go_wp2
        go_ret
        exact ⟨rfl, rfl⟩

end W9
end Go.Proofs.YtmplmpiljjilnaaDoor
