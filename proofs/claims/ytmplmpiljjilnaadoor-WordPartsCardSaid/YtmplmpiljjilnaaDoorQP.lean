/- Shifts, plain. -/
import Derived.Test.YtmplmpiljjilnaaDoorQO
namespace Go.Proofs.YtmplmpiljjilnaaDoor
open Go.RowKit
open L
namespace W9
variable {W x y z : Nat}

theorem wd12 : wd W 12 x y z = x % 2 ^ W * 2 ^ (y % 2 ^ W) % 2 ^ W := rfl
theorem wd13 : wd W 13 x y z = x % 2 ^ W / 2 ^ (y % 2 ^ W) := rfl
theorem wd14 : wd W 14 x y z = ((sg W (x % 2 ^ W) / 2 ^ (y % 2 ^ W)) % 2 ^ W).toNat := rfl
theorem sg_neg {W r : Nat} (h : 1 ≤ W) (hr : r < 2 ^ W) : sg W r < 0 ↔ 2 ^ (W - 1) ≤ r := by
  have := pow_half h
  have e := cast_pow W
  unfold sg; split <;> omega
/-- The sign of a word, as the operator slt tells it. -/
theorem sign_eq (h : 1 ≤ W) : wd W 19 x 0 0 = bn (decide (2 ^ (W - 1) ≤ x % 2 ^ W)) := by
  rw [wd19]
  have e0 : sg W (0 % 2 ^ W) = 0 := by rw [Nat.zero_mod]; unfold sg; rw [if_pos (pow_pos _)]; rfl
  rw [e0]; congr 1; rw [decide_eq_decide]; exact sg_neg h (Nat.mod_lt _ (pow_pos W))
theorem shl_big (h : W ≤ y % 2 ^ W) : wd W 12 x y 0 = 0 := by
  rw [wd12]; exact Nat.mod_eq_zero_of_dvd (Nat.dvd_trans (pow_dvd h) (Nat.dvd_mul_left _ _))
theorem shr_big (h : W ≤ y % 2 ^ W) : wd W 13 x y 0 = 0 := by
  rw [wd13]
  have := pow_le h
  have hx : x % 2 ^ W < 2 ^ W := Nat.mod_lt _ (pow_pos W)
  exact Nat.div_eq_of_lt (by omega)
theorem sar_big (h1 : 1 ≤ W) (h : W ≤ y % 2 ^ W) : wd W 14 x y 0 = if 2 ^ (W - 1) ≤ x % 2 ^ W then 2 ^ W - 1 else 0 := by
  rw [wd14]
  have hle := pow_le h
  have hx : x % 2 ^ W < 2 ^ W := Nat.mod_lt _ (pow_pos W)
  have hs := sg_neg h1 hx
  have hlo := sg_ge (W := W) (r := x % 2 ^ W) h1
  have hhi := sg_lt h1 hx
  have hh := pow_half h1
  have eW := cast_pow W
  rw [← cast_pow (y % 2 ^ W), ← eW]
  generalize 2 ^ (y % 2 ^ W) = q at *
  generalize sg W (x % 2 ^ W) = s at *
  by_cases hn : 2 ^ (W - 1) ≤ x % 2 ^ W
  · rw [if_pos hn]
    have := hs.2 hn
    rw [Int.ediv_eq_neg_one_of_neg_of_le this (by omega)]
    have e : (-1 : Int) % ((2 ^ W : Nat) : Int) = ((2 ^ W - 1 : Nat) : Int) := by
      rw [← Int.add_emod_right, Int.emod_eq_of_lt (by omega) (by omega)]; omega
    rw [e]; rfl
  · rw [if_neg hn]
    have h0 : ¬ s < 0 := fun h => hn (hs.1 h)
    rw [Int.ediv_eq_zero_of_lt (by omega) (by omega)]; rfl
theorem pow_small (_h1 : 1 ≤ W) (h : y % 2 ^ W < W) : 2 ^ (y % 2 ^ W) % 2 ^ W = 2 ^ (y % 2 ^ W) := Nat.mod_eq_of_lt (Nat.pow_lt_pow_right (by decide) h)
theorem shl_mul (h1 : 1 ≤ W) (h : y % 2 ^ W < W) : wd W 6 x (2 ^ (y % 2 ^ W)) 0 = wd W 12 x y 0 := by rw [wd6, wd12, pow_small h1 h]
theorem shr_div (h1 : 1 ≤ W) (h : y % 2 ^ W < W) : wd W 7 x (2 ^ (y % 2 ^ W)) 0 = wd W 13 x y 0 := by
  rw [wd7, wd13, pow_small h1 h, if_neg (by have := pow_pos (y % 2 ^ W); omega)]
theorem sar_pos (_h1 : 1 ≤ W) (hn : ¬ 2 ^ (W - 1) ≤ x % 2 ^ W) : wd W 14 x y 0 = wd W 13 x y 0 := by
  rw [wd14, wd13]
  have hx : x % 2 ^ W < 2 ^ W := Nat.mod_lt _ (pow_pos W)
  have e : sg W (x % 2 ^ W) = ((x % 2 ^ W : Nat) : Int) := if_pos (by omega)
  rw [e, ← cast_pow, ← cast_pow, ← Int.natCast_ediv]
  have : x % 2 ^ W / 2 ^ (y % 2 ^ W) < 2 ^ W := Nat.lt_of_le_of_lt (Nat.div_le_self _ _) hx
  rw [Int.emod_eq_of_lt (Int.natCast_nonneg _) (Int.ofNat_lt.2 this)]; rfl
theorem neg_div {n q : Nat} (hq : 0 < q) : (-((n : Int) + 1)) / (q : Int) = -((n / q : Nat) : Int) - 1 := by
  have hr := Nat.mod_lt n hq
  have he := Nat.div_add_mod n q
  have e : -((n : Int) + 1) = ((q - 1 - n % q : Nat) : Int) + (q : Int) * (-((n / q : Nat) : Int) - 1) := by
    have : ((q * (n / q) : Nat) : Int) + ((n % q : Nat) : Int) = (n : Int) := by rw [← Int.natCast_add, he]
    rw [Int.mul_sub, Int.mul_neg, ← Int.natCast_mul]; omega
  rw [e, Int.add_mul_ediv_left _ _ (by omega), Int.ediv_eq_zero_of_lt (by omega) (by omega)]; omega
theorem sar_neg (h1 : 1 ≤ W) (hn : 2 ^ (W - 1) ≤ x % 2 ^ W) : wd W 2 (wd W 13 (wd W 2 x 0 0) y 0) 0 0 = wd W 14 x y 0 := by
  rw [wd2, wd_mod h1, wd13, wd_mod h1, wd2, wd14]
  have hx : x % 2 ^ W < 2 ^ W := Nat.mod_lt _ (pow_pos W)
  have eW := cast_pow W
  have e : sg W (x % 2 ^ W) = -(((2 ^ W - 1 - x % 2 ^ W : Nat) : Int) + 1) := by
    unfold sg; rw [if_neg (by omega)]; omega
  rw [e, ← cast_pow (y % 2 ^ W), neg_div (pow_pos _), ← eW]
  have hl : (2 ^ W - 1 - x % 2 ^ W) / 2 ^ (y % 2 ^ W) ≤ 2 ^ W - 1 - x % 2 ^ W := Nat.div_le_self _ _
  generalize (2 ^ W - 1 - x % 2 ^ W) / 2 ^ (y % 2 ^ W) = d at *
  have e2 : (-(d : Int) - 1) % ((2 ^ W : Nat) : Int) = ((2 ^ W - 1 - d : Nat) : Int) := by
    rw [← Int.add_emod_right, Int.emod_eq_of_lt (by omega) (by omega)]; omega
  rw [e2]; rfl
end W9
end Go.Proofs.YtmplmpiljjilnaaDoor
