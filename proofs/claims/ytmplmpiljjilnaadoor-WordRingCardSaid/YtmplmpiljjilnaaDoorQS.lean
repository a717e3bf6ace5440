/- Ring laws of words, plain. -/
import Derived.Test.YtmplmpiljjilnaaDoorQR
namespace Go.Proofs.YtmplmpiljjilnaaDoor
open Go.RowKit
open L
namespace W9
variable {W x y z : Nat}
theorem wd9 : wd W 9 x y z = x % 2 ^ W &&& y % 2 ^ W := rfl
theorem wd10 : wd W 10 x y z = x % 2 ^ W ||| y % 2 ^ W := rfl
theorem wd11 : wd W 11 x y z = x % 2 ^ W ^^^ y % 2 ^ W := rfl
theorem cm_cases {o : Nat} (h : cmB o = true) : o = 4 ∨ o = 6 ∨ o = 9 ∨ o = 10 ∨ o = 11 ∨ o = 15 ∨ o = 16 := by
  simpa [cmB, or_assoc] using h
theorem wd_comm {o : Nat} (h : cmB o = true) : wd W o x y 0 = wd W o y x 0 := by
  rcases cm_cases h with rfl | rfl | rfl | rfl | rfl | rfl | rfl
  · rw [wd4, wd4, Nat.add_comm]
  · rw [wd6, wd6, Nat.mul_comm]
  · rw [wd9, wd9, Nat.and_comm]
  · rw [wd10, wd10, Nat.or_comm]
  · rw [wd11, wd11, Nat.xor_comm]
  · rw [wd15, wd15]; congr 1; rw [Bool.eq_iff_iff]; simp; omega
  · rw [wd16, wd16]; congr 1; rw [Bool.eq_iff_iff]; simp; omega
theorem wd_l (h1 : 1 ≤ W) {o p a b c : Nat} : wd W o (wd W p a b 0) c 0 = ap W W o (wd W p a b 0) (c % 2 ^ W) (0 % 2 ^ W) := by
  unfold wd; rw [show ap W W p (a % 2 ^ W) (b % 2 ^ W) (0 % 2 ^ W) % 2 ^ W = ap W W p (a % 2 ^ W) (b % 2 ^ W) (0 % 2 ^ W) from wd_mod h1 (o := p) (x := a) (y := b) (z := 0)]
theorem wd_r (h1 : 1 ≤ W) {o p a b c : Nat} : wd W o c (wd W p a b 0) 0 = ap W W o (c % 2 ^ W) (wd W p a b 0) (0 % 2 ^ W) := by
  unfold wd; rw [show ap W W p (a % 2 ^ W) (b % 2 ^ W) (0 % 2 ^ W) % 2 ^ W = ap W W p (a % 2 ^ W) (b % 2 ^ W) (0 % 2 ^ W) from wd_mod h1 (o := p) (x := a) (y := b) (z := 0)]
theorem wd_lr (h1 : 1 ≤ W) {o p q a b c d : Nat} : wd W o (wd W p a b 0) (wd W q c d 0) 0 = ap W W o (wd W p a b 0) (wd W q c d 0) (0 % 2 ^ W) := by
  rw [wd_l h1, wd_mod h1]
theorem wd_assoc (h1 : 1 ≤ W) {o : Nat} (h : o = 4 ∨ o = 6 ∨ o = 9 ∨ o = 10 ∨ o = 11) : wd W o (wd W o x y 0) z 0 = wd W o x (wd W o y z 0) 0 := by
  rw [wd_l h1, wd_r h1]
  unfold wd
  generalize x % 2 ^ W = X
  generalize y % 2 ^ W = Y
  generalize z % 2 ^ W = Z
  rcases h with rfl | rfl | rfl | rfl | rfl
  · show ((X + Y) % 2 ^ W + Z) % 2 ^ W = (X + (Y + Z) % 2 ^ W) % 2 ^ W
    rw [Nat.mod_add_mod, Nat.add_mod_mod, Nat.add_assoc]
  · show (X * Y % 2 ^ W * Z) % 2 ^ W = (X * (Y * Z % 2 ^ W)) % 2 ^ W
    rw [Nat.mod_mul_mod, Nat.mul_mod_mod, Nat.mul_assoc]
  · exact Nat.and_assoc X Y Z
  · exact Nat.or_assoc X Y Z
  · exact Nat.xor_assoc X Y Z
theorem wd_over (h1 : 1 ≤ W) {o p : Nat} (h : (o = 6 ∧ p = 4) ∨ (o = 9 ∧ p = 10) ∨ (o = 9 ∧ p = 11) ∨ (o = 10 ∧ p = 9)) : wd W p (wd W o x y 0) (wd W o x z 0) 0 = wd W o x (wd W p y z 0) 0 := by
  rw [wd_lr h1, wd_r h1]
  unfold wd
  generalize x % 2 ^ W = X
  generalize y % 2 ^ W = Y
  generalize z % 2 ^ W = Z
  rcases h with ⟨rfl, rfl⟩ | ⟨rfl, rfl⟩ | ⟨rfl, rfl⟩ | ⟨rfl, rfl⟩
  · show (X * Y % 2 ^ W + X * Z % 2 ^ W) % 2 ^ W = X * ((Y + Z) % 2 ^ W) % 2 ^ W
    rw [← Nat.add_mod, Nat.mul_mod_mod, Nat.mul_add]
  · exact (Nat.and_or_distrib_left X Y Z).symm
  · exact Nat.and_xor_distrib_left.symm
  · exact (Nat.or_and_distrib_left X Y Z).symm
theorem add_zero9 (_h1 : 1 ≤ W) : wd W 4 x 0 0 = x % 2 ^ W := by rw [wd4, Nat.zero_mod, Nat.add_zero, Nat.mod_mod]
theorem mul_one9 (h1 : 1 ≤ W) : wd W 6 x 1 0 = x % 2 ^ W := by rw [wd6, one_mod h1, Nat.mul_one, Nat.mod_mod]
theorem xor_self9 : wd W 11 x x 0 = 0 := by rw [wd11, Nat.xor_self]
theorem or_zero9 : wd W 10 x 0 0 = x % 2 ^ W := by rw [wd10, Nat.zero_mod, Nat.or_zero]
end W9
end Go.Proofs.YtmplmpiljjilnaaDoor
