/- What the operators do to one another, plain. -/
import Derived.Test.YtmplmpiljjilnaaDoorQM
namespace Go.Proofs.YtmplmpiljjilnaaDoor
open Go.RowKit
open L
namespace W9
variable {W x y z : Nat}

theorem wd_mod (h : 1 ≤ W) {o x y z : Nat} : wd W o x y z % 2 ^ W = wd W o x y z := Nat.mod_eq_of_lt (wd_lt h)
theorem wd2 : wd W 2 x y z = 2 ^ W - 1 - x % 2 ^ W := rfl
theorem wd3 : wd W 3 x y z = (2 ^ W - x % 2 ^ W) % 2 ^ W := rfl
theorem wd4 : wd W 4 x y z = (x % 2 ^ W + y % 2 ^ W) % 2 ^ W := rfl
theorem wd5 : wd W 5 x y z = (2 ^ W + x % 2 ^ W - y % 2 ^ W) % 2 ^ W := rfl
theorem wd6 : wd W 6 x y z = x % 2 ^ W * (y % 2 ^ W) % 2 ^ W := rfl
theorem wd7 : wd W 7 x y z = if y % 2 ^ W = 0 then 2 ^ W - 1 else x % 2 ^ W / (y % 2 ^ W) := rfl
theorem wd8 : wd W 8 x y z = if y % 2 ^ W = 0 then x % 2 ^ W else x % 2 ^ W % (y % 2 ^ W) := rfl
theorem one_mod (h : 1 ≤ W) : 1 % 2 ^ W = 1 := Nat.mod_eq_of_lt (by have := pow_le h; omega)

theorem add_one_mod {m r : Nat} : (m % r + 1) % r = (m + 1) % r := by rw [Nat.add_mod, Nat.mod_mod, ← Nat.add_mod]
theorem neg_eq (h : 1 ≤ W) : wd W 4 (wd W 2 x 0 0) 1 0 = wd W 3 x 0 0 := by
  rw [wd4, wd_mod h, wd2, wd3, one_mod h]
  have hx : x % 2 ^ W < 2 ^ W := Nat.mod_lt _ (pow_pos W)
  congr 1; omega
theorem sub_eq (h : 1 ≤ W) : wd W 4 x (wd W 3 y 0 0) 0 = wd W 5 x y 0 := by
  rw [wd4, wd_mod h, wd3, wd5]
  have hy : y % 2 ^ W < 2 ^ W := Nat.mod_lt _ (pow_pos W)
  rw [show 2 ^ W + x % 2 ^ W - y % 2 ^ W = x % 2 ^ W + (2 ^ W - y % 2 ^ W) by omega]
  rw [Nat.add_mod_mod]
theorem ones (h : W ≤ 64) : 18446744073709551615 % 2 ^ W = 2 ^ W - 1 := by
  have hp := pow_pos W
  have hl := pow_le h
  rw [pow64] at hl
  obtain ⟨q, hq⟩ := pow_dvd h
  have hq1 : 1 ≤ q := by
    rcases Nat.eq_zero_or_pos q with rfl | h'
    · simp at hq
    · exact h'
  rw [pow64] at hq
  have e : 18446744073709551615 = 2 ^ W - 1 + 2 ^ W * (q - 1) := by rw [Nat.mul_sub, ← hq]; omega
  rw [e, Nat.add_mul_mod_self_left, Nat.mod_eq_of_lt (by omega)]
theorem div0 (h2 : W ≤ 64) (hy : y % 2 ^ W = 0) : wd W 7 x y 0 = 18446744073709551615 % 2 ^ W ∧ wd W 8 x y 0 = x % 2 ^ W := by
  rw [wd7, wd8, if_pos hy, if_pos hy, ones h2]; exact ⟨rfl, rfl⟩
theorem divrem (h : 1 ≤ W) (hy : y % 2 ^ W ≠ 0) : wd W 4 (wd W 6 (wd W 7 x y 0) y 0) (wd W 8 x y 0) 0 = x % 2 ^ W ∧ wd W 8 x y 0 < y % 2 ^ W ∧ wd W 7 x y 0 ≤ x % 2 ^ W := by
  have e7 : wd W 7 x y 0 = x % 2 ^ W / (y % 2 ^ W) := by rw [wd7, if_neg hy]
  have e8 : wd W 8 x y 0 = x % 2 ^ W % (y % 2 ^ W) := by rw [wd8, if_neg hy]
  rw [wd4, wd_mod h, wd_mod h, wd6, wd_mod h]
  rw [e7, e8]
  have hx : x % 2 ^ W < 2 ^ W := Nat.mod_lt _ (pow_pos W)
  generalize x % 2 ^ W = X at *
  generalize y % 2 ^ W = Y at *
  refine ⟨?_, Nat.mod_lt _ (by omega), Nat.div_le_self _ _⟩
  rw [Nat.mod_add_mod, Nat.mul_comm, Nat.div_add_mod, Nat.mod_eq_of_lt hx]
end W9
end Go.Proofs.YtmplmpiljjilnaaDoor
