/- Trim, Signed on both sides. -/
import Derived.Test.YtmplmpiljjilnaaDoorQJ
namespace Go.Proofs.YtmplmpiljjilnaaDoor
open Go.RowKit
open L
namespace W9
set_option maxRecDepth 100000

def tmV (W : Int) (v : Nat) : Nat := if chkE W = 0 then v % 2 ^ W.toNat else 0
def sgV (W : Int) (v : Nat) : Int := if chkE W = 0 then sg W.toNat (v % 2 ^ W.toNat) else 0

theorem sub_wrap {W r : Nat} (h : W < 64) (hr : r < 2 ^ W) (hr2 : 2 ^ (W - 1) ≤ r) (h1 : 1 ≤ W) : wrap64 (wrap64 (r : Int) - wrap64 (2 ^ W)) = (r : Int) - 2 ^ W := by
  have hle := pow_le (show W ≤ 63 by omega)
  rw [show 2 ^ 63 = 9223372036854775808 by decide] at hle
  rw [← cast_pow W]
  have e : wrap64 (r : Int) = r := by unfold wrap64; omega
  have hh := pow_half h1
  rw [e]
  unfold wrap64; omega

set_option maxHeartbeats 1000000 in
theorem trimW_any (W : Int) (v : Nat) (hv : v < 18446744073709551616) (w : World) :
    Calls Tryd.prog 16 #[.int .i64 W, .int .u64 (v : Int)] w fun e w' => e = .returned (.tuple #[.int .u64 ((tmV W v : Nat) : Int), .int .i64 (chkE W)]) ∧ w = w' := by
  have C1 := checkW_any W w
  rcases chk_cases W with h | ⟨h, h1, h2⟩
  · rw [show tmV W v = 0 from if_neg (by rw [h]; decide), h]
    rw [h] at C1
    have HC1 := Lib.hid C1
    clear C1 h
    go_enter Tryd.func16, Tryd.ntmps16
    go_wp2_with (go_at_call 20; refine (HC1.out).mono ?_; rintro e w' ⟨rfl, rfl⟩)
    go_ret2
    exact ⟨rfl, rfl⟩
  · rw [show tmV W v = v % 2 ^ W.toNat from if_pos h, h]
    rw [h] at C1
    obtain ⟨n, rfl⟩ : ∃ n : Nat, W = (n : Int) := ⟨W.toNat, by omega⟩
    have HC1 := Lib.hid C1
    have HC2 := Lib.hid (trimmed_any n v (by omega) hv w)
    clear C1 h
    go_enter Tryd.func16, Tryd.ntmps16
    go_wp2_with (first | (go_at_call 20; refine (HC1.out).mono ?_; rintro e w' ⟨rfl, rfl⟩) | (go_at_call 29; refine (HC2.out).mono ?_; rintro e w' ⟨rfl, rfl⟩))
    go_ret2
    exact ⟨rfl, rfl⟩
set_option maxHeartbeats 1000000 in
theorem rtrimW_any (W : Int) (v : Nat) (hv : v < 18446744073709551616) (w : World) :
    Calls Tryd.prog 17 #[.int .i64 W, .int .u64 (v : Int)] w fun e w' => e = .returned (.tuple #[.int .u64 ((tmV W v : Nat) : Int), .int .i64 (chkE W)]) ∧ w = w' := by
  have C1 := rcheckW_any W w
  rcases chk_cases W with h | ⟨h, h1, h2⟩
  · rw [show tmV W v = 0 from if_neg (by rw [h]; decide), h]
    rw [h] at C1
    have HC1 := Lib.hid C1
    clear C1 h
    go_enter Tryd.func17, Tryd.ntmps17
    go_wp2_with (go_at_call 21; refine (HC1.out).mono ?_; rintro e w' ⟨rfl, rfl⟩)
    go_ret2
    exact ⟨rfl, rfl⟩
  · rw [show tmV W v = v % 2 ^ W.toNat from if_pos h, h]
    rw [h] at C1
    obtain ⟨n, rfl⟩ : ∃ n : Nat, W = (n : Int) := ⟨W.toNat, by omega⟩
    have HC1 := Lib.hid C1
    have HC2 := Lib.hid (rtrim_any n v (by omega) (by omega) hv w)
    clear C1 h
    go_enter Tryd.func17, Tryd.ntmps17
    go_wp2_with (first | (go_at_call 21; refine (HC1.out).mono ?_; rintro e w' ⟨rfl, rfl⟩) | (go_at_call 32; refine (HC2.out).mono ?_; rintro e w' ⟨rfl, rfl⟩))
    go_ret2
    exact ⟨rfl, rfl⟩
set_option maxHeartbeats 1000000 in
theorem signedW_any (W : Int) (v : Nat) (w : World) :
    Calls Tryd.prog 18 #[.int .i64 W, .int .u64 (v : Int)] w fun e w' => e = .returned (.tuple #[.int .i64 (sgV W v), .int .i64 (chkE W)]) ∧ w = w' := by
  have C1 := checkW_any W w
  rcases chk_cases W with h | ⟨h, h1, h2⟩
  · rw [show sgV W v = 0 from if_neg (by rw [h]; decide), h]
    rw [h] at C1
    have HC1 := Lib.hid C1
    clear C1 h
    go_enter Tryd.func18, Tryd.ntmps18
    go_wp2_with (go_at_call 20; refine (HC1.out).mono ?_; rintro e w' ⟨rfl, rfl⟩)
    go_ret2
    exact ⟨rfl, rfl⟩
  · rw [show sgV W v = sg W.toNat (v % 2 ^ W.toNat) from if_pos h, h]
    rw [h] at C1
    obtain ⟨n, rfl⟩ : ∃ n : Nat, W = (n : Int) := ⟨W.toNat, by omega⟩
    have HC1 := Lib.hid C1
    have HC2 := Lib.hid (signed_any n v (by omega) (by omega) w)
    clear C1 h
    go_enter Tryd.func18, Tryd.ntmps18
    go_wp2_with (first | (go_at_call 20; refine (HC1.out).mono ?_; rintro e w' ⟨rfl, rfl⟩) | (go_at_call 34; refine (HC2.out).mono ?_; rintro e w' ⟨rfl, rfl⟩))
    go_ret2
    exact ⟨rfl, rfl⟩
set_option maxHeartbeats 1000000 in
theorem rsignedW_any (W : Int) (v : Nat) (hv : v < 18446744073709551616) (w : World) :
    Calls Tryd.prog 19 #[.int .i64 W, .int .u64 (v : Int)] w fun e w' => e = .returned (.tuple #[.int .i64 (sgV W v), .int .i64 (chkE W)]) ∧ w = w' := by
  have C1 := rcheckW_any W w
  rcases chk_cases W with h | ⟨h, h1, h2⟩
  · rw [show sgV W v = 0 from if_neg (by rw [h]; decide), h]
    rw [h] at C1
    have HC1 := Lib.hid C1
    clear C1 h
    go_enter Tryd.func19, Tryd.ntmps19
    go_wp2_with (go_at_call 21; refine (HC1.out).mono ?_; rintro e w' ⟨rfl, rfl⟩)
    go_ret2
    exact ⟨rfl, rfl⟩
  · rw [show sgV W v = sg W.toNat (v % 2 ^ W.toNat) from if_pos h, h]
    rw [h] at C1
    obtain ⟨n, rfl⟩ : ∃ n : Nat, W = (n : Int) := ⟨W.toNat, by omega⟩
    simp only [Int.toNat_natCast]
    have hn1 : 1 ≤ n := by omega
    have hn2 : n ≤ 64 := by omega
    have HC1 := Lib.hid C1
    have HC2 := Lib.hid (rtrim_any n v hn1 hn2 hv w)
    have hr : v % 2 ^ n < 2 ^ n := Nat.mod_lt _ (pow_pos n)
    have C3 := top_any n (v % 2 ^ n) hn1 hn2 hr w
    clear C1 h h1 h2
    by_cases ht : 2 ^ (n - 1) ≤ v % 2 ^ n
    · rw [decide_eq_true ht] at C3
      have hs : sg n (v % 2 ^ n) = ((v % 2 ^ n : Nat) : Int) - 2 ^ n := if_neg (by omega)
      by_cases h64 : n < 64
      · have e1 := sub_wrap h64 hr ht hn1
        rw [hs, ← e1]
        have g1 : (n : Int) < 64 := by omega
        have g2 : IntKind.u64.wrap (n : Int) = (n : Int) := by rw [wr]; omega
        have HC3 := Lib.hid C3
        clear C3 hs ht hr e1
        generalize v % 2 ^ n = r at *
        go_enter Tryd.func19, Tryd.ntmps19
        go_wp2_with (first | (go_at_call 21; refine (HC1.out).mono ?_; rintro e w' ⟨rfl, rfl⟩) | (go_at_call 32; refine (HC2.out).mono ?_; rintro e w' ⟨rfl, rfl⟩) | (go_at_call 35; refine (HC3.out).mono ?_; rintro e w' ⟨rfl, rfl⟩))
        go_ret2
        exact ⟨rfl, rfl⟩
      · obtain rfl : n = 64 := by omega
        have e1 : wrap64 ((v % 2 ^ 64 : Nat) : Int) = ((v % 2 ^ 64 : Nat) : Int) - 2 ^ 64 := by
          rw [show (2 : Nat) ^ (64 - 1) = 9223372036854775808 by decide] at ht
          rw [pow64] at *
          unfold wrap64
          rw [show (2 : Int) ^ 64 = 18446744073709551616 by decide]
          omega
        rw [hs, ← e1]
        have HC3 := Lib.hid C3
        clear C3 hs ht hr e1
        generalize v % 2 ^ 64 = r at *
        go_enter Tryd.func19, Tryd.ntmps19
        go_wp2_with (first | (go_at_call 21; refine (HC1.out).mono ?_; rintro e w' ⟨rfl, rfl⟩) | (go_at_call 32; refine (HC2.out).mono ?_; rintro e w' ⟨rfl, rfl⟩) | (go_at_call 35; refine (HC3.out).mono ?_; rintro e w' ⟨rfl, rfl⟩))
        go_ret2
        exact ⟨rfl, rfl⟩
    · rw [decide_eq_false ht] at C3
      have hs : sg n (v % 2 ^ n) = ((v % 2 ^ n : Nat) : Int) := if_pos (by omega)
      have hle := pow_le (show n - 1 ≤ 63 by omega)
      rw [show 2 ^ 63 = 9223372036854775808 by decide] at hle
      have e1 : wrap64 ((v % 2 ^ n : Nat) : Int) = ((v % 2 ^ n : Nat) : Int) := by unfold wrap64; omega
      rw [hs, ← e1]
      have HC3 := Lib.hid C3
      clear C3 hs ht hr hle e1
      generalize v % 2 ^ n = r at *
      go_enter Tryd.func19, Tryd.ntmps19
      go_wp2_with (first | (go_at_call 21; refine (HC1.out).mono ?_; rintro e w' ⟨rfl, rfl⟩) | (go_at_call 32; refine (HC2.out).mono ?_; rintro e w' ⟨rfl, rfl⟩) | (go_at_call 35; refine (HC3.out).mono ?_; rintro e w' ⟨rfl, rfl⟩))
      go_ret2
      exact ⟨rfl, rfl⟩
end W9
end Go.Proofs.YtmplmpiljjilnaaDoor
