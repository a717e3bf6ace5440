/- Words of a width, plain. -/
import Derived.Test.YtmplmpiljjilnaaDoorOA
import Derived.Laws.BitsAllLaws
namespace Go.Proofs.YtmplmpiljjilnaaDoor
open L
namespace W9

theorem pow64 : (2 : Nat) ^ 64 = 18446744073709551616 := by decide
/-- A word as a signed number. -/
def sg (W r : Nat) : Int := if r < 2 ^ (W - 1) then (r : Int) else (r : Int) - 2 ^ W
def bn (b : Bool) : Nat := if b then 1 else 0
/-- The result of an operator for words of width W, modulo 2^M. -/
def ap (W M o a b c : Nat) : Nat :=
  match o with
  | 2 => 2 ^ M - 1 - a
  | 3 => (2 ^ M - a) % 2 ^ M
  | 4 => (a + b) % 2 ^ M
  | 5 => (2 ^ M + a - b) % 2 ^ M
  | 6 => a * b % 2 ^ M
  | 7 => if b = 0 then 2 ^ M - 1 else a / b
  | 8 => if b = 0 then a else a % b
  | 9 => a &&& b
  | 10 => a ||| b
  | 11 => a ^^^ b
  | 12 => a * 2 ^ b % 2 ^ M
  | 13 => a / 2 ^ b
  | 14 => ((sg W a / 2 ^ b) % 2 ^ M).toNat
  | 15 => bn (a == b)
  | 16 => bn (a != b)
  | 17 => bn (decide (a < b))
  | 18 => bn (decide (a ≤ b))
  | 19 => bn (decide (sg W a < sg W b))
  | 20 => bn (decide (sg W a ≤ sg W b))
  | 21 => if a = 0 then c else b
  | _ => 0

theorem pow_pos (n : Nat) : 0 < 2 ^ n := Nat.two_pow_pos n
theorem pow_le {a b : Nat} (h : a ≤ b) : 2 ^ a ≤ 2 ^ b := Nat.pow_le_pow_right (by decide) h
theorem pow_dvd {a b : Nat} (h : a ≤ b) : 2 ^ a ∣ 2 ^ b := Nat.pow_dvd_pow 2 h
theorem pow_half {W : Nat} (h : 1 ≤ W) : 2 ^ W = 2 * 2 ^ (W - 1) := by
  obtain ⟨n, rfl⟩ : ∃ n, W = n + 1 := ⟨W - 1, by omega⟩
  simp [Nat.pow_succ, Nat.mul_comm]
theorem cast_pow (n : Nat) : ((2 ^ n : Nat) : Int) = 2 ^ n := by simp

theorem sg_lt {W r : Nat} (h : 1 ≤ W) (hr : r < 2 ^ W) : sg W r < (2 ^ (W - 1) : Nat) := by
  have := pow_half h
  unfold sg
  have e := cast_pow W
  split <;> omega
theorem sg_ge {W r : Nat} (h : 1 ≤ W) : -((2 ^ (W - 1) : Nat) : Int) ≤ sg W r := by
  have := pow_half h
  have e := cast_pow W
  unfold sg
  split <;> omega
/-- Modulo 2^W a word's signed number is the word. -/
theorem sg_mod {W r : Nat} (hr : r < 2 ^ W) : sg W r % 2 ^ W = r := by
  unfold sg
  have e := cast_pow W
  split
  · exact Int.emod_eq_of_lt (by omega) (by omega)
  · rw [Int.sub_emod_right]; exact Int.emod_eq_of_lt (by omega) (by omega)
theorem bn_lt (b : Bool) : bn b < 2 := by cases b <;> decide
theorem bn_mod {W : Nat} (h : 1 ≤ W) (b : Bool) : bn b % 2 ^ W = bn b := by
  have := bn_lt b
  have := pow_le h
  exact Nat.mod_eq_of_lt (by omega)
theorem and_lt {M a b : Nat} (ha : a < 2 ^ M) : a &&& b < 2 ^ M := Nat.lt_of_le_of_lt Nat.and_le_left ha
theorem or_lt {M a b : Nat} (ha : a < 2 ^ M) (hb : b < 2 ^ M) : a ||| b < 2 ^ M := Nat.or_lt_two_pow ha hb
theorem xor_lt {M a b : Nat} (ha : a < 2 ^ M) (hb : b < 2 ^ M) : a ^^^ b < 2 ^ M := Nat.xor_lt_two_pow ha hb
theorem sar_lt {M : Nat} (x : Int) : (x % 2 ^ M).toNat < 2 ^ M := by
  have e := cast_pow M
  have h := Int.emod_lt_of_pos x (show (0 : Int) < 2 ^ M by rw [← e]; have := pow_pos M; omega)
  have := pow_pos M
  omega

/-- Every result is a word. -/
theorem ap_lt {W M o a b c : Nat} (hM : 1 ≤ M) (ha : a < 2 ^ M) (hb : b < 2 ^ M) (hc : c < 2 ^ M) : ap W M o a b c < 2 ^ M := by
  have hp := pow_pos M
  have h2 : ∀ q, bn q < 2 ^ M := fun q => by have := bn_lt q; have := pow_le hM; omega
  unfold ap
  split
  any_goals omega
  any_goals exact h2 _
  · split
    · omega
    · exact Nat.lt_of_le_of_lt (Nat.div_le_self _ _) ha
  · split
    · exact ha
    · exact Nat.lt_of_le_of_lt (Nat.mod_le _ _) ha
  · exact and_lt ha
  · exact or_lt ha hb
  · exact xor_lt ha hb
  · exact Nat.lt_of_le_of_lt (Nat.div_le_self _ _) ha
  · exact sar_lt _
  · split <;> assumption

/-- The lowest W bits of a result modulo 2^M are the result modulo 2^W. -/
theorem ap_low {W M o a b c : Nat} (h : 1 ≤ W) (hM : W ≤ M) (ha : a < 2 ^ W) (hb : b < 2 ^ W) (hc : c < 2 ^ W) : ap W M o a b c % 2 ^ W = ap W W o a b c := by
  have hp := pow_pos W
  obtain ⟨q, hq⟩ := pow_dvd hM
  have hd : 2 ^ W ∣ 2 ^ M := ⟨q, hq⟩
  have hle := pow_le hM
  have hq1 : 1 ≤ q := by
    rcases Nat.eq_zero_or_pos q with rfl | h'
    · simp at hq
    · exact h'
  unfold ap
  split
  any_goals exact Nat.mod_mod_of_dvd _ hd
  any_goals exact bn_mod h _
  · have e : 2 ^ M - 1 - a = 2 ^ W - 1 - a + 2 ^ W * (q - 1) := by
      rw [Nat.mul_sub, ← hq]; omega
    rw [e, Nat.add_mul_mod_self_left, Nat.mod_eq_of_lt (by omega)]
  · rw [Nat.mod_mod_of_dvd _ hd]
    have e : 2 ^ M - a = 2 ^ W - a + 2 ^ W * (q - 1) := by rw [Nat.mul_sub, ← hq]; omega
    rw [e, Nat.add_mul_mod_self_left]
  · rw [Nat.mod_mod_of_dvd _ hd]
    have e : 2 ^ M + a - b = 2 ^ W + a - b + 2 ^ W * (q - 1) := by rw [Nat.mul_sub, ← hq]; omega
    rw [e, Nat.add_mul_mod_self_left]
  · split
    · have e : 2 ^ M - 1 = 2 ^ W - 1 + 2 ^ W * (q - 1) := by rw [Nat.mul_sub, ← hq]; omega
      rw [e, Nat.add_mul_mod_self_left, Nat.mod_eq_of_lt (by omega)]
    · exact Nat.mod_eq_of_lt (Nat.lt_of_le_of_lt (Nat.div_le_self _ _) ha)
  · split
    · exact Nat.mod_eq_of_lt ha
    · exact Nat.mod_eq_of_lt (Nat.lt_of_le_of_lt (Nat.mod_le _ _) ha)
  · exact Nat.mod_eq_of_lt (and_lt ha)
  · exact Nat.mod_eq_of_lt (or_lt ha hb)
  · exact Nat.mod_eq_of_lt (xor_lt ha hb)
  · exact Nat.mod_eq_of_lt (Nat.lt_of_le_of_lt (Nat.div_le_self _ _) ha)
  · have e1 := cast_pow W
    have e2 := cast_pow M
    generalize sg W a / 2 ^ b = x
    have h1 : (0 : Int) ≤ x % 2 ^ M := Int.emod_nonneg _ (by rw [← e2]; have := pow_pos M; omega)
    have h2 : (0 : Int) ≤ x % 2 ^ W := Int.emod_nonneg _ (by rw [← e1]; omega)
    have h3 : x % 2 ^ M % 2 ^ W = x % 2 ^ W := Int.emod_emod_of_dvd x (by rw [← e1, ← e2]; exact Int.natCast_dvd_natCast.2 hd)
    have h4 : (((x % 2 ^ M).toNat % 2 ^ W : Nat) : Int) = (((x % 2 ^ W).toNat : Nat) : Int) := by
      rw [Int.natCast_emod, cast_pow, Int.toNat_of_nonneg h1, Int.toNat_of_nonneg h2, h3]
    exact Int.ofNat.inj h4
  · split <;> exact Nat.mod_eq_of_lt (by assumption)
  · exact Nat.zero_mod _

/-! What Apply answers. -/
def args (W : Nat) (l : List Nat) (i : Nat) : Nat := l.getD i 0 % 2 ^ W
def chkE (W : Int) : Int := if W < 1 ∨ 64 < W then 3 else 0
def tkE (o n : Nat) : Int := if o < 2 ∨ 21 < o then 3 else if (n : Int) = arA o then 0 else 2
def apE (o : Nat) (W : Int) (l : List Nat) : Int := if chkE W = 0 then tkE o l.length else chkE W
def apV (o : Nat) (W : Int) (l : List Nat) : Nat := if apE o W l = 0 then ap W.toNat W.toNat o (args W.toNat l 0) (args W.toNat l 1) (args W.toNat l 2) else 0
end W9
end Go.Proofs.YtmplmpiljjilnaaDoor
