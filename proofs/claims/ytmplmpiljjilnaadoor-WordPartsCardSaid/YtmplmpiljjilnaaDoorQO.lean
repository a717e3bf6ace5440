/- Comparisons, shifts, parts: plain. -/
import Derived.Test.YtmplmpiljjilnaaDoorQN
namespace Go.Proofs.YtmplmpiljjilnaaDoor
open Go.RowKit
open L
namespace W9
variable {W x y z : Nat}

/-! The highest bit turned. -/
theorem xor_top {m X : Nat} (h : X < 2 ^ m) : X ^^^ 2 ^ m = X + 2 ^ m := by
  apply Nat.eq_of_testBit_eq
  intro j
  rw [Nat.add_comm, Nat.testBit_xor]
  rcases Nat.lt_trichotomy j m with hj | rfl | hj
  · rw [Nat.testBit_two_pow_add_gt hj, Nat.testBit_two_pow, decide_eq_false (show ¬ m = j by omega), Bool.xor_false]
  · rw [Nat.testBit_two_pow_add_eq, Nat.testBit_two_pow_self, Nat.testBit_lt_two_pow h]; rfl
  · have h3 := pow_le hj
    rw [Nat.pow_succ] at h3
    rw [Nat.testBit_lt_two_pow (show 2 ^ m + X < 2 ^ j by omega), Nat.testBit_lt_two_pow (show X < 2 ^ j by omega), Nat.testBit_two_pow, decide_eq_false (show ¬ m = j by omega)]; rfl
theorem flip_mod {m : Nat} : (x ^^^ 2 ^ m) % 2 ^ (m + 1) = if x % 2 ^ (m + 1) < 2 ^ m then x % 2 ^ (m + 1) + 2 ^ m else x % 2 ^ (m + 1) - 2 ^ m := by
  have hp := pow_pos m
  rw [Nat.xor_mod_two_pow, Nat.mod_eq_of_lt (show 2 ^ m < 2 ^ (m + 1) by rw [Nat.pow_succ]; omega)]
  have hX : x % 2 ^ (m + 1) < 2 ^ (m + 1) := Nat.mod_lt _ (pow_pos _)
  generalize x % 2 ^ (m + 1) = X at *
  split
  · next h => exact xor_top h
  · next h =>
    have hz : X - 2 ^ m < 2 ^ m := by rw [Nat.pow_succ] at hX; omega
    have e := xor_top hz
    rw [show X - 2 ^ m + 2 ^ m = X by omega] at e
    have e2 : X ^^^ 2 ^ m = (X - 2 ^ m ^^^ 2 ^ m) ^^^ 2 ^ m := by rw [e]
    rw [e2, Nat.xor_assoc, Nat.xor_self, Nat.xor_zero]
theorem flip_sg {m : Nat} : (((x ^^^ 2 ^ m) % 2 ^ (m + 1) : Nat) : Int) = sg (m + 1) (x % 2 ^ (m + 1)) + ((2 ^ m : Nat) : Int) := by
  rw [flip_mod]
  have hX : x % 2 ^ (m + 1) < 2 ^ (m + 1) := Nat.mod_lt _ (pow_pos _)
  have hc := cast_pow (m + 1)
  have hs : 2 ^ (m + 1) = 2 * 2 ^ m := by rw [Nat.pow_succ, Nat.mul_comm]
  generalize x % 2 ^ (m + 1) = X at *
  unfold sg
  rw [Nat.add_sub_cancel]
  split <;> omega

theorem wd15 : wd W 15 x y z = bn (x % 2 ^ W == y % 2 ^ W) := rfl
theorem wd16 : wd W 16 x y z = bn (x % 2 ^ W != y % 2 ^ W) := rfl
theorem wd17 : wd W 17 x y z = bn (decide (x % 2 ^ W < y % 2 ^ W)) := rfl
theorem wd18 : wd W 18 x y z = bn (decide (x % 2 ^ W ≤ y % 2 ^ W)) := rfl
theorem wd19 : wd W 19 x y z = bn (decide (sg W (x % 2 ^ W) < sg W (y % 2 ^ W))) := rfl
theorem wd20 : wd W 20 x y z = bn (decide (sg W (x % 2 ^ W) ≤ sg W (y % 2 ^ W))) := rfl
theorem slt_flip {m : Nat} : wd (m + 1) 17 (x ^^^ 2 ^ m) (y ^^^ 2 ^ m) 0 = wd (m + 1) 19 x y 0 ∧ wd (m + 1) 18 (x ^^^ 2 ^ m) (y ^^^ 2 ^ m) 0 = wd (m + 1) 20 x y 0 := by
  rw [wd17, wd18, wd19, wd20]
  have e1 := flip_sg (x := x) (m := m)
  have e2 := flip_sg (x := y) (m := m)
  constructor
  · congr 1; rw [decide_eq_decide]; omega
  · congr 1; rw [decide_eq_decide]; omega
theorem sg_inj {a b : Nat} (ha : a < 2 ^ W) (hb : b < 2 ^ W) (h : sg W a = sg W b) : a = b := by
  have h1 := sg_mod ha
  have h2 := sg_mod hb
  rw [h, h2] at h1
  omega
/-- Two words, compared in all ways: lt, eq, gt, le, ne, slt, sle, and as signed numbers. -/
theorem compare_all (W x y : Nat) :
    let A := sg W (x % 2 ^ W); let B := sg W (y % 2 ^ W)
    (wd W 17 x y 0 = 0 ∧ wd W 15 x y 0 = 1 ∧ wd W 17 y x 0 = 0 ∧ wd W 18 x y 0 = 1 ∧ wd W 16 x y 0 = 0 ∧ wd W 19 x y 0 = 0 ∧ wd W 20 x y 0 = 1 ∧ ¬ A < B ∧ A ≤ B) ∨
    (((wd W 17 x y 0 = 1 ∧ wd W 15 x y 0 = 0 ∧ wd W 17 y x 0 = 0 ∧ wd W 18 x y 0 = 1 ∧ wd W 16 x y 0 = 1) ∨ (wd W 17 x y 0 = 0 ∧ wd W 15 x y 0 = 0 ∧ wd W 17 y x 0 = 1 ∧ wd W 18 x y 0 = 0 ∧ wd W 16 x y 0 = 1)) ∧
      ((wd W 19 x y 0 = 1 ∧ wd W 20 x y 0 = 1 ∧ A < B ∧ A ≤ B) ∨ (wd W 19 x y 0 = 0 ∧ wd W 20 x y 0 = 0 ∧ ¬ A < B ∧ ¬ A ≤ B))) := by
  simp only [wd15, wd16, wd17, wd18, wd19, wd20]
  have hx : x % 2 ^ W < 2 ^ W := Nat.mod_lt _ (pow_pos W)
  have hy : y % 2 ^ W < 2 ^ W := Nat.mod_lt _ (pow_pos W)
  have hi := sg_inj hx hy
  generalize x % 2 ^ W = X at *
  generalize y % 2 ^ W = Y at *
  by_cases h : X = Y
  · subst h
    left; simp [bn]
  · right
    have hne : sg W X ≠ sg W Y := fun e => h (hi e)
    constructor
    · by_cases hlt : X < Y
      · left; simp [bn, h, hlt]; omega
      · right; simp [bn, h, hlt]; omega
    · by_cases hlt : sg W X < sg W Y
      · left; simp [bn, hlt]; omega
      · right; simp [bn, hlt]; omega
end W9
end Go.Proofs.YtmplmpiljjilnaaDoor
