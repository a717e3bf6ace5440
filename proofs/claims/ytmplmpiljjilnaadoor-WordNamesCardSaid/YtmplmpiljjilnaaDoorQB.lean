/- The walk's spellings of words. -/
import Derived.Test.YtmplmpiljjilnaaDoorQA
import Derived.Test.YtmplmpiljjilnaaDoorO
namespace Go.Proofs.YtmplmpiljjilnaaDoor
open Go.RowKit
open L
namespace W9

theorem wr (n : Int) : IntKind.u64.wrap n = n % 18446744073709551616 := IntKind.wrap_u64 n
theorem wr_nat (n : Nat) : IntKind.u64.wrap (n : Int) = ((n % 2 ^ 64 : Nat) : Int) := by rw [wr, pow64]; omega
theorem lt64 {W v : Nat} (h : W ≤ 64) (hv : v < 2 ^ W) : v < 18446744073709551616 := by
  have := pow_le h; rw [pow64] at this; omega
theorem mask_eq {W : Nat} (h2 : W ≤ 64) : IntKind.u64.wrap (IntKind.u64.wrap (2 ^ W) - 1) = ((2 ^ W - 1 : Nat) : Int) := by
  have hp := pow_pos W
  have e := cast_pow W
  rw [← e, wr_nat]
  by_cases h : W = 64
  · subst h; decide
  · have h3 : 2 ^ W < 2 ^ 64 := Nat.pow_lt_pow_right (by decide) (by omega)
    rw [Nat.mod_eq_of_lt h3, show ((2 ^ W : Nat) : Int) - 1 = ((2 ^ W - 1 : Nat) : Int) by omega, wr_nat, Nat.mod_eq_of_lt (by omega)]
theorem trim_eq {W v : Nat} (h2 : W ≤ 64) (hv : v < 18446744073709551616) :
    bits .and .u64 (v : Int) (IntKind.u64.wrap (IntKind.u64.wrap (2 ^ W) - 1)) = ((v % 2 ^ W : Nat) : Int) := by
  have hp := pow_pos W
  have hl := pow_le h2
  rw [pow64] at hl
  rw [mask_eq h2, u64_and_nat _ _ hv (by omega), Nat.and_two_pow_sub_one_eq_mod]
theorem rem_eq {W v : Nat} (h2 : W < 64) : (v : Int) % IntKind.u64.wrap (2 ^ W) = ((v % 2 ^ W : Nat) : Int) := by
  have e := cast_pow W
  have h3 : 2 ^ W < 2 ^ 64 := Nat.pow_lt_pow_right (by decide) (by omega)
  rw [← e, wr_nat, Nat.mod_eq_of_lt h3]; omega
theorem wrap_pow {W : Nat} (h2 : W < 64) : IntKind.u64.wrap (2 ^ W) = ((2 ^ W : Nat) : Int) := by
  have e := cast_pow W
  have h3 : 2 ^ W < 2 ^ 64 := Nat.pow_lt_pow_right (by decide) (by omega)
  rw [← e, wr_nat, Nat.mod_eq_of_lt h3]
theorem signed_eq {W v : Nat} (h1 : 1 ≤ W) (h2 : W ≤ 64) : wrap64 (IntKind.u64.wrap ((v : Int) * 2 ^ (64 - W))) / 2 ^ (64 - W) = sg W (v % 2 ^ W) := by
  obtain ⟨k, hk⟩ : ∃ k, k = 64 - W := ⟨_, rfl⟩
  rw [← hk]
  have hpk := pow_pos k
  have e1 : 2 ^ W * 2 ^ k = 18446744073709551616 := by rw [← Nat.pow_add, ← pow64]; congr 1; omega
  have e2 : 2 ^ (W - 1) * 2 ^ k = 9223372036854775808 := by
    rw [← Nat.pow_add, show W - 1 + k = 63 by omega]
  have ek := cast_pow k
  have eW := cast_pow W
  have hm : IntKind.u64.wrap ((v : Int) * 2 ^ k) = ((v % 2 ^ W * 2 ^ k : Nat) : Int) := by
    rw [← ek, ← Int.natCast_mul, wr_nat, pow64, ← e1, Nat.mul_mod_mul_right]
  rw [hm]
  have hr : v % 2 ^ W < 2 ^ W := Nat.mod_lt _ (pow_pos W)
  generalize v % 2 ^ W = r at *
  unfold sg
  rw [← ek]
  have hb : r * 2 ^ k < 18446744073709551616 := by rw [← e1]; exact Nat.mul_lt_mul_of_pos_right hr hpk
  by_cases hlt : r < 2 ^ (W - 1)
  · rw [if_pos hlt]
    have h3 : r * 2 ^ k < 9223372036854775808 := by rw [← e2]; exact Nat.mul_lt_mul_of_pos_right hlt hpk
    have h4 : wrap64 ((r * 2 ^ k : Nat) : Int) = ((r * 2 ^ k : Nat) : Int) := by unfold wrap64; omega
    rw [h4, ← Int.natCast_ediv, Nat.mul_div_cancel _ hpk]
  · rw [if_neg hlt]
    have h3 : 9223372036854775808 ≤ r * 2 ^ k := by rw [← e2]; exact Nat.mul_le_mul_right _ (by omega)
    have h4 : wrap64 ((r * 2 ^ k : Nat) : Int) = ((r : Int) - 2 ^ W) * ((2 ^ k : Nat) : Int) := by
      have e3 : ((r : Int) - 2 ^ W) * ((2 ^ k : Nat) : Int) = ((r * 2 ^ k : Nat) : Int) - 18446744073709551616 := by
        rw [Int.sub_mul, ← eW, ← Int.natCast_mul, ← Int.natCast_mul, e1]; rfl
      rw [e3]; unfold wrap64; omega
    rw [h4, Int.mul_ediv_cancel _ (by omega)]

/-! The operators as the walk spells them. -/
variable {W a b c : Nat}
theorem x2 (ha : a < 18446744073709551616) : bits .xor .u64 IntKind.u64.max (a : Int) = ((ap W 64 2 a b c : Nat) : Int) := by
  have h := u64_xor_nat 18446744073709551615 a (by decide) ha
  rw [show IntKind.u64.max = ((18446744073709551615 : Nat) : Int) from rfl, h]
  have e : 18446744073709551615 ^^^ a = 2 ^ 64 - 1 - a := by
    have hx := BitVec.toNat_not (x := BitVec.ofNat 64 a)
    rw [← BitVec.allOnes_xor, BitVec.toNat_xor] at hx
    simp only [BitVec.toNat_allOnes, BitVec.toNat_ofNat] at hx
    rw [Nat.mod_eq_of_lt (by rw [pow64]; exact ha)] at hx
    exact hx
  rw [e]; rfl
theorem x3 (ha : a < 18446744073709551616) : IntKind.u64.wrap (-(a : Int)) = ((ap W 64 3 a b c : Nat) : Int) := by
  rw [wr]; show _ = (((2 ^ 64 - a) % 2 ^ 64 : Nat) : Int); rw [pow64]; omega
theorem x4 : IntKind.u64.wrap ((a : Int) + b) = ((ap W 64 4 a b c : Nat) : Int) := by
  rw [← Int.natCast_add, wr_nat]; rfl
theorem x5 (ha : a < 18446744073709551616) (hb : b < 18446744073709551616) : IntKind.u64.wrap ((a : Int) - b) = ((ap W 64 5 a b c : Nat) : Int) := by
  rw [wr]; show _ = (((2 ^ 64 + a - b) % 2 ^ 64 : Nat) : Int); rw [pow64]; omega
theorem x6 : IntKind.u64.wrap ((a : Int) * b) = ((ap W 64 6 a b c : Nat) : Int) := by
  rw [← Int.natCast_mul, wr_nat]; rfl
theorem x7 (ha : a < 18446744073709551616) (h : b ≠ 0) : IntKind.u64.wrap ((a : Int) / b) = ((ap W 64 7 a b c : Nat) : Int) := by
  have : a / b < 18446744073709551616 := Nat.lt_of_le_of_lt (Nat.div_le_self _ _) ha
  rw [← Int.natCast_ediv, wr_nat, pow64, Nat.mod_eq_of_lt this]
  show _ = ((if b = 0 then _ else a / b : Nat) : Int)
  rw [if_neg h]
theorem x8 (h : b ≠ 0) : (a : Int) % b = ((ap W 64 8 a b c : Nat) : Int) := by
  show _ = ((if b = 0 then a else a % b : Nat) : Int)
  rw [if_neg h]; rfl
theorem x9 (ha : a < 18446744073709551616) (hb : b < 18446744073709551616) : bits .and .u64 (a : Int) b = ((ap W 64 9 a b c : Nat) : Int) := u64_and_nat a b ha hb
theorem x10 (ha : a < 18446744073709551616) (hb : b < 18446744073709551616) : bits .or .u64 (a : Int) b = ((ap W 64 10 a b c : Nat) : Int) := u64_or_nat a b ha hb
theorem x11 (ha : a < 18446744073709551616) (hb : b < 18446744073709551616) : bits .xor .u64 (a : Int) b = ((ap W 64 11 a b c : Nat) : Int) := u64_xor_nat a b ha hb
theorem x12 : IntKind.u64.wrap ((a : Int) * 2 ^ min b 64) = ((ap W 64 12 a b c : Nat) : Int) := by
  rw [← cast_pow, ← Int.natCast_mul, wr_nat]
  show _ = ((a * 2 ^ b % 2 ^ 64 : Nat) : Int)
  by_cases h : b ≤ 64
  · rw [Nat.min_eq_left h]
  · have e : a * 2 ^ b % 2 ^ 64 = 0 := Nat.mod_eq_zero_of_dvd (Nat.dvd_trans (pow_dvd (show 64 ≤ b by omega)) (Nat.dvd_mul_left _ _))
    rw [Nat.min_eq_right (by omega), e, Nat.mul_mod_left]
theorem x13 (ha : a < 18446744073709551616) : (a : Int) / 2 ^ min b 64 = ((ap W 64 13 a b c : Nat) : Int) := by
  rw [← cast_pow, ← Int.natCast_ediv]
  show _ = ((a / 2 ^ b : Nat) : Int)
  by_cases h : b ≤ 64
  · rw [Nat.min_eq_left h]
  · have := pow_le (show 64 ≤ b by omega)
    rw [pow64] at this
    rw [Nat.min_eq_right (by omega), Nat.div_eq_of_lt (by rw [pow64]; exact ha), Nat.div_eq_of_lt (by omega)]
theorem x14 (h1 : 1 ≤ W) (h2 : W ≤ 64) (ha : a < 2 ^ W) : IntKind.u64.wrap (sg W a / 2 ^ min b 64) = ((ap W 64 14 a b c : Nat) : Int) := by
  have hlo := sg_ge (W := W) (r := a) h1
  have hhi := sg_lt h1 ha
  have hle := pow_le (show W - 1 ≤ 63 by omega)
  rw [show 2 ^ 63 = 9223372036854775808 by decide] at hle
  have key : sg W a / 2 ^ min b 64 = sg W a / 2 ^ b := by
    by_cases h : b ≤ 64
    · rw [Nat.min_eq_left h]
    · rw [Nat.min_eq_right (by omega), ← cast_pow b]
      have h3 := pow_le (show 64 ≤ b by omega)
      rw [pow64] at h3
      generalize 2 ^ b = q at *
      generalize sg W a = x at *
      by_cases h0 : 0 ≤ x
      · rw [Int.ediv_eq_zero_of_lt h0 (by omega), Int.ediv_eq_zero_of_lt h0 (by omega)]
      · rw [Int.ediv_eq_neg_one_of_neg_of_le (by omega) (by omega), Int.ediv_eq_neg_one_of_neg_of_le (by omega) (by omega)]
  rw [key, wr]
  show _ = ((((sg W a / 2 ^ b) % 2 ^ 64).toNat : Nat) : Int)
  rw [Int.toNat_of_nonneg (Int.emod_nonneg _ (by decide))]
  rfl
end W9
end Go.Proofs.YtmplmpiljjilnaaDoor
