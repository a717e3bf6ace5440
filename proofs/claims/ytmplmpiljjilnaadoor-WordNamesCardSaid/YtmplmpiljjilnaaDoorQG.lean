/- The reference's words. -/
import Derived.Test.YtmplmpiljjilnaaDoorQB
import Derived.Test.YtmplmpiljjilnaaDoorOR
namespace Go.Proofs.YtmplmpiljjilnaaDoor
open Go.RowKit
open L
namespace W9
set_option maxRecDepth 100000

theorem rtrim_any (W v : Nat) (h1 : 1 ≤ W) (h2 : W ≤ 64) (hv : v < 18446744073709551616) (w : World) :
    Calls Tryd.prog 32 #[.int .i64 (W : Int), .int .u64 (v : Int)] w fun e w' => e = .returned (.int .u64 ((v % 2 ^ W : Nat) : Int)) ∧ w = w' := by
  by_cases h : W = 64
  · subst h
    rw [show v % 2 ^ 64 = v by rw [pow64]; exact Nat.mod_eq_of_lt hv]
    go_enter Tryd.func32, Tryd.ntmps32
    go_wp2
    go_ret
    exact ⟨rfl, rfl⟩
  · have hz : ((W : Int) == 64) = false := beq_eq_false_iff_ne.2 (by omega)
    have hp := wrap_pow (W := W) (by omega)
    have hq := pow_pos W
    have e := rem_eq (W := W) (v := v) (by omega)
    have hn : ¬ IntKind.u64.wrap (2 ^ W) = 0 := by rw [hp]; omega
    clear hp hq h
    go_enter Tryd.func32, Tryd.ntmps32
    go_wp2
    go_ret
    exact ⟨K.ret_int (by first | exact e | rfl), rfl⟩
theorem top_eq {W v : Nat} (h1 : 1 ≤ W) (hv : v < 2 ^ W) : v / 2 ^ (W - 1) = if 2 ^ (W - 1) ≤ v then 1 else 0 := by
  have := pow_half h1
  have hp := pow_pos (W - 1)
  split
  · next h => exact Nat.div_eq_of_lt_le (by omega) (by omega)
  · next h => exact Nat.div_eq_of_lt (by omega)
theorem top_any (W v : Nat) (h1 : 1 ≤ W) (h2 : W ≤ 64) (hv : v < 2 ^ W) (w : World) :
    Calls Tryd.prog 35 #[.int .i64 (W : Int), .int .u64 (v : Int)] w fun e w' => e = .returned (.bool (decide (2 ^ (W - 1) ≤ v))) ∧ w = w' := by
  obtain ⟨k, rfl⟩ : ∃ k, W = k + 1 := ⟨W - 1, by omega⟩
  have e0 : (((k + 1 : Nat) : Int) - 1) = (k : Int) := by omega
  have e1 : IntKind.u64.wrap (k : Int) = (k : Int) := by rw [wr]; omega
  have e2 : ((k : Int)).toNat = k := by omega
  have ht := top_eq h1 hv
  simp only [Nat.add_sub_cancel] at ht ⊢
  have e3 : (v : Int) / 2 ^ k = ((v / 2 ^ k : Nat) : Int) := by rw [← cast_pow]; rfl
  have e4 : (v : Int) / 2 ^ min k 64 = ((v / 2 ^ k : Nat) : Int) := by rw [Nat.min_eq_left (by omega)]; exact e3
  by_cases h : 2 ^ k ≤ v
  · rw [if_pos h] at ht
    rw [ht] at e3 e4
    rw [decide_eq_true h]
    clear ht h hv
    go_enter Tryd.func35, Tryd.ntmps35
    go_wp2
    go_ret
    exact ⟨K.ret_bool (by first | rfl | simp), rfl⟩
  · rw [if_neg h] at ht
    rw [ht] at e3 e4
    rw [decide_eq_false h]
    clear ht h hv
    go_enter Tryd.func35, Tryd.ntmps35
    go_wp2
    go_ret
    exact ⟨K.ret_bool (by first | rfl | simp), rfl⟩
theorem bit_any (q : Bool) (w : World) :
    Calls Tryd.prog 59 #[.bool q] w fun e w' => e = .returned (.int .u64 ((bn q : Nat) : Int)) ∧ w = w' := by
  cases q <;> (go_enter Tryd.func59, Tryd.ntmps59; go_wp2; go_ret; exact ⟨K.ret_int rfl, rfl⟩)
theorem less_eq {W a b : Nat} (h1 : 1 ≤ W) (ha : a < 2 ^ W) (hb : b < 2 ^ W) : decide (sg W a < sg W b) = if decide (2 ^ (W - 1) ≤ a) = decide (2 ^ (W - 1) ≤ b) then decide (a < b) else decide (2 ^ (W - 1) ≤ a) := by
  have := pow_half h1
  have eW := cast_pow W
  unfold sg
  by_cases h : 2 ^ (W - 1) ≤ a <;> by_cases h' : 2 ^ (W - 1) ≤ b
  · rw [if_neg (by omega), if_neg (by omega), if_pos (by simp [h, h'])]; rw [Bool.eq_iff_iff]; simp
  · rw [if_neg (by omega), if_pos (by omega), if_neg (by simp [h, h'])]; rw [Bool.eq_iff_iff]; simp; omega
  · rw [if_pos (by omega), if_neg (by omega), if_neg (by simp [h, h'])]; rw [Bool.eq_iff_iff]; simp; omega
  · rw [if_pos (by omega), if_pos (by omega), if_pos (by simp [h, h'])]; rw [Bool.eq_iff_iff]; simp
theorem rless9_any (W a b : Nat) (h1 : 1 ≤ W) (h2 : W ≤ 64) (ha : a < 2 ^ W) (hb : b < 2 ^ W) (w : World) :
    Calls Tryd.prog 60 #[.int .i64 (W : Int), .int .u64 (a : Int), .int .u64 (b : Int)] w fun e w' => e = .returned (.bool (decide (sg W a < sg W b))) ∧ w = w' := by
  have C1 := top_any W a h1 h2 ha w
  have C2 := top_any W b h1 h2 hb w
  rw [less_eq h1 ha hb]
  generalize decide (2 ^ (W - 1) ≤ a) = p at *
  generalize decide (2 ^ (W - 1) ≤ b) = q at *
  have HC1 := Lib.hid C1
  have HC2 := Lib.hid C2
  clear C1 C2 ha hb
  cases p <;> cases q <;> (
    go_enter Tryd.func60, Tryd.ntmps60
    go_wp2_with (go_at_call 35; first | (with_reducible refine (HC1.out).mono ?_; rintro e w' ⟨rfl, rfl⟩) | (with_reducible refine (HC2.out).mono ?_; rintro e w' ⟨rfl, rfl⟩))
    go_ret
    exact ⟨K.ret_bool (by simp), rfl⟩)

/-! Shifts, bit by bit. -/
theorem sh12 {W a i : Nat} (h2 : W ≤ 64) : (2 * (a * 2 ^ i % 2 ^ W)) % 18446744073709551616 % 2 ^ W = a * 2 ^ (i + 1) % 2 ^ W := by
  have hd : 2 ^ W ∣ 18446744073709551616 := by rw [← pow64]; exact pow_dvd h2
  rw [Nat.mod_mod_of_dvd _ hd, Nat.mul_mod, Nat.mod_mod, ← Nat.mul_mod, Nat.pow_succ]
  congr 1
  rw [Nat.mul_comm 2, Nat.mul_assoc]
theorem sh13 {a i : Nat} : a / 2 ^ i / 2 = a / 2 ^ (i + 1) := by
  rw [Nat.div_div_eq_div_mul, Nat.pow_succ]
theorem sgd {W a i : Nat} (h1 : 1 ≤ W) (ha : a < 2 ^ W) : -((2 ^ (W - 1) : Nat) : Int) ≤ sg W a / 2 ^ i ∧ sg W a / 2 ^ i < (2 ^ (W - 1) : Nat) ∧ (sg W a < 0 → sg W a / 2 ^ i < 0) ∧ (0 ≤ sg W a → 0 ≤ sg W a / 2 ^ i) := by
  have hlo := sg_ge (W := W) (r := a) h1
  have hhi := sg_lt h1 ha
  rw [← cast_pow i]
  have hp := pow_pos i
  generalize sg W a = x at *
  generalize 2 ^ i = q at *
  have hq : (0 : Int) < (q : Int) := by omega
  have h3 : (0 : Int) < ((2 ^ (W - 1) : Nat) : Int) := by have := pow_pos (W - 1); omega
  generalize ((2 ^ (W - 1) : Nat) : Int) = m at *
  by_cases h0 : 0 ≤ x
  · have k1 := Int.ediv_nonneg h0 (Int.le_of_lt hq)
    have k2 := Int.ediv_le_self (q : Int) h0
    refine ⟨by omega, by omega, by omega, fun _ => k1⟩
  · have k1 : x / (q : Int) < 0 := Int.ediv_neg_of_neg_of_pos (by omega) hq
    have k2 : -m ≤ x / (q : Int) := by
      rw [Int.le_ediv_iff_mul_le hq]
      have : m * 1 ≤ m * (q : Int) := Int.mul_le_mul_of_nonneg_left (by omega) (by omega)
      rw [Int.neg_mul]; omega
    refine ⟨k2, by omega, fun _ => k1, by omega⟩
theorem sh14 {W a i : Nat} (h1 : 1 ≤ W) (ha : a < 2 ^ W) : ((sg W a / 2 ^ i) % 2 ^ W).toNat / 2 + (if 2 ^ (W - 1) ≤ a then 2 ^ (W - 1) else 0) = ((sg W a / 2 ^ (i + 1)) % 2 ^ W).toNat := by
  obtain ⟨k1, k2, k3, k4⟩ := sgd (i := i) h1 ha
  have eW := cast_pow W
  have hh := pow_half h1
  have e1 : sg W a / 2 ^ (i + 1) = sg W a / 2 ^ i / 2 := by
    rw [Int.pow_succ, Int.ediv_ediv_of_nonneg (Int.le_of_lt (Int.pow_pos (by decide)))]
  rw [e1, ← eW]
  have hs : (sg W a < 0) = (2 ^ (W - 1) ≤ a) := by
    unfold sg; apply propext; split <;> omega
  have hs2 : (0 ≤ sg W a) = ¬ (2 ^ (W - 1) ≤ a) := by rw [← hs]; apply propext; omega
  rw [hs] at k3
  rw [hs2] at k4
  generalize sg W a / 2 ^ i = x at *
  by_cases h : 2 ^ (W - 1) ≤ a
  · rw [if_pos h]
    have k5 := k3 h
    have e2 : x % ((2 ^ W : Nat) : Int) = x + ((2 ^ W : Nat) : Int) := by
      rw [← Int.add_emod_right]; exact Int.emod_eq_of_lt (by omega) (by omega)
    have e3 : x / 2 % ((2 ^ W : Nat) : Int) = x / 2 + ((2 ^ W : Nat) : Int) := by
      rw [← Int.add_emod_right]; exact Int.emod_eq_of_lt (by omega) (by omega)
    rw [e2, e3]; omega
  · rw [if_neg h]
    have k5 := k4 h
    have e2 : x % ((2 ^ W : Nat) : Int) = x := Int.emod_eq_of_lt (by omega) (by omega)
    have e3 : x / 2 % ((2 ^ W : Nat) : Int) = x / 2 := Int.emod_eq_of_lt (by omega) (by omega)
    rw [e2, e3]; omega
theorem sh14_half {W a i : Nat} (_h1 : 1 ≤ W) (_ha : a < 2 ^ W) : ((sg W a / 2 ^ i) % 2 ^ W).toNat < 2 ^ W := sar_lt _
/-- Shifts by the width and more are shifts by the width. -/
theorem sh_min {W o a b : Nat} (h1 : 1 ≤ W) (ha : a < 2 ^ W) (ho : o = 12 ∨ o = 13 ∨ o = 14) : ap W W o a (min b W) 0 = ap W W o a b 0 := by
  by_cases h : b ≤ W
  · rw [Nat.min_eq_left h]
  · rw [Nat.min_eq_right (by omega)]
    have hle := pow_le (show W ≤ b by omega)
    rcases ho with rfl | rfl | rfl
    · show a * 2 ^ W % 2 ^ W = a * 2 ^ b % 2 ^ W
      rw [Nat.mul_mod_left, Nat.mod_eq_zero_of_dvd (Nat.dvd_trans (pow_dvd (show W ≤ b by omega)) (Nat.dvd_mul_left _ _))]
    · show a / 2 ^ W = a / 2 ^ b
      rw [Nat.div_eq_of_lt ha, Nat.div_eq_of_lt (by omega)]
    · show ((sg W a / 2 ^ W) % 2 ^ W).toNat = ((sg W a / 2 ^ b) % 2 ^ W).toNat
      have hlo := sg_ge (W := W) (r := a) h1
      have hhi := sg_lt h1 ha
      have hh := pow_half h1
      have key : sg W a / 2 ^ W = sg W a / 2 ^ b := by
        rw [← cast_pow W, ← cast_pow b]
        generalize 2 ^ b = q at *
        generalize sg W a = x at *
        by_cases h0 : 0 ≤ x
        · rw [Int.ediv_eq_zero_of_lt h0 (by omega), Int.ediv_eq_zero_of_lt h0 (by omega)]
        · rw [Int.ediv_eq_neg_one_of_neg_of_le (by omega) (by omega), Int.ediv_eq_neg_one_of_neg_of_le (by omega) (by omega)]
      rw [key]
end W9
end Go.Proofs.YtmplmpiljjilnaaDoor
