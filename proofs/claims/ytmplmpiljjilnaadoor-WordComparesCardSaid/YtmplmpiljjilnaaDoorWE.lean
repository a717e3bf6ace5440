/- WordCompares: the walk. -/
import Derived.Test.YtmplmpiljjilnaaDoorQO
import Derived.Test.YtmplmpiljjilnaaDoorWA
namespace Go.Proofs.YtmplmpiljjilnaaDoor
open Go.RowKit
open L
namespace W9
set_option maxRecDepth 100000

set_option maxHeartbeats 8000000 in
theorem compares9_walk (k x y : Int) (w : World) (hT : OpTab w) (hk : (Lit.int .u8 k).wf = true) (hx : (Lit.int .u64 x).wf = true) (hy : (Lit.int .u64 y).wf = true) :
    Calls Tryd.prog 9 #[.int .u8 k, .int .u64 x, .int .u64 y] w fun e w' => e = .returned (.bool true) ∧ Below w.heap.size w w' := by
  obtain ⟨k, rfl, lk⟩ := u8_nat9 hk
  clear hk
  obtain ⟨x, rfl, lx⟩ := u64_nat9 hx
  clear hx
  obtain ⟨y, rfl, ly⟩ := u64_nat9 hy
  clear hy
  have CW := Lib.hid (with_any k w lk hT)
  clear hT
  obtain ⟨W, hW⟩ : ∃ W, W = 1 + k % 64 := ⟨_, rfl⟩
  have h1 : 1 ≤ W := by omega
  have h2 : W ≤ 64 := by omega
  rw [← hW] at CW
  have HW := Lib.hid hW
  clear hW
  go_enter Tryd.func9, Tryd.ntmps9
  go_wp2_with (go_at_call 23; refine (CW.out).mono ?_; rintro e w1 ⟨b, rfl, hs⟩; refine Hid.out ?_)
  have hc0 := hs.cell0
  have hc1 := hs.cell1
  have hc0 := hs.cell0
  have A1 : Of2C w b W 17 (uv x) (uv y) (wd W 17 x y 0) := of2c 17 x y h1 h2 (by decide) lx ly
  have A2 : Of2C w b W 15 (uv x) (uv y) (wd W 15 x y 0) := of2c 15 x y h1 h2 (by decide) lx ly
  have A3 : Of2C w b W 17 (uv y) (uv x) (wd W 17 y x 0) := of2c 17 y x h1 h2 (by decide) ly lx
  have A4 : Of2C w b W 18 (uv x) (uv y) (wd W 18 x y 0) := of2c 18 x y h1 h2 (by decide) lx ly
  have A5 : Of2C w b W 16 (uv x) (uv y) (wd W 16 x y 0) := of2c 16 x y h1 h2 (by decide) lx ly
  have A6 : Of2C w b W 19 (uv x) (uv y) (wd W 19 x y 0) := of2c 19 x y h1 h2 (by decide) lx ly
  have A8 : Of2C w b W 20 (uv x) (uv y) (wd W 20 x y 0) := of2c 20 x y h1 h2 (by decide) lx ly
  obtain ⟨m, hm⟩ : ∃ m, W = m + 1 := ⟨W - 1, by omega⟩
  have hT : 2 ^ m < 18446744073709551616 := by have := pow_le (show m ≤ 63 by omega); rw [show 2 ^ 63 = 9223372036854775808 by decide] at this; omega
  have lxt : x ^^^ 2 ^ m < 18446744073709551616 := by rw [← pow64] at *; exact xor_lt lx hT
  have lyt : y ^^^ 2 ^ m < 18446744073709551616 := by rw [← pow64] at *; exact xor_lt ly hT
  have A7 : Of2C w b W 17 (uv (x ^^^ 2 ^ m)) (uv (y ^^^ 2 ^ m)) (wd W 17 (x ^^^ 2 ^ m) (y ^^^ 2 ^ m) 0) := of2c 17 _ _ h1 h2 (by decide) lxt lyt
  have A9 : Of2C w b W 18 (uv (x ^^^ 2 ^ m)) (uv (y ^^^ 2 ^ m)) (wd W 18 (x ^^^ 2 ^ m) (y ^^^ 2 ^ m) 0) := of2c 18 _ _ h1 h2 (by decide) lxt lyt
  have F := slt_flip (x := x) (y := y) (m := m)
  rw [← hm] at F
  rw [F.1] at A7
  rw [F.2] at A9
  have ck : chkE (W : Int) = 0 := if_neg (by omega)
  have S1 := signedW_any W x
  have S2 := signedW_any W y
  rw [ck, show sgV W x = sg W (x % 2 ^ W) from if_pos ck] at S1
  rw [ck, show sgV W y = sg W (y % 2 ^ W) from if_pos ck] at S2
  have e0 : (W : Int) - 1 = (m : Int) := by omega
  have e1 : IntKind.u64.wrap (m : Int) = (m : Int) := by rw [wr]; omega
  have e6 : min m 64 = m := Nat.min_eq_left (by omega)
  have c3 : IntKind.u64.wrap (2 ^ m) = ((2 ^ m : Nat) : Int) := wrap_pow (by omega)
  have b1 : bits .xor .u64 (x : Int) ((2 ^ m : Nat) : Int) = ((x ^^^ 2 ^ m : Nat) : Int) := u64_xor_nat _ _ lx hT
  have b2 : bits .xor .u64 (y : Int) ((2 ^ m : Nat) : Int) = ((y ^^^ 2 ^ m : Nat) : Int) := u64_xor_nat _ _ ly hT
  have D := compare_all W x y
  simp only at D
  clear F ck hm
  generalize x ^^^ 2 ^ m = xt at *
  generalize y ^^^ 2 ^ m = yt at *
  generalize (2 : Nat) ^ m = T at *
  generalize wd W 17 x y 0 = v1 at *
  generalize wd W 15 x y 0 = v2 at *
  generalize wd W 17 y x 0 = v3 at *
  generalize wd W 18 x y 0 = v4 at *
  generalize wd W 16 x y 0 = v5 at *
  generalize wd W 19 x y 0 = v6 at *
  generalize wd W 20 x y 0 = v8 at *
  generalize sg W (x % 2 ^ W) = A at *
  generalize sg W (y % 2 ^ W) = B at *
  have HA1 := Lib.hid A1
  have HA2 := Lib.hid A2
  have HA3 := Lib.hid A3
  have HA4 := Lib.hid A4
  have HA5 := Lib.hid A5
  have HA6 := Lib.hid A6
  have HA7 := Lib.hid A7
  have HA8 := Lib.hid A8
  have HA9 := Lib.hid A9
  have HS1 := Lib.hid S1
  have HS2 := Lib.hid S2
  clear A1 A2 A3 A4 A5 A6 A7 A8 A9 S1 S2 lx ly lxt lyt hT h1 h2
  refine Lib.hid ?_
  rcases D with ⟨rfl, rfl, rfl, rfl, rfl, rfl, rfl, d1, d2⟩ | ⟨⟨rfl, rfl, rfl, rfl, rfl⟩ | ⟨rfl, rfl, rfl, rfl, rfl⟩, ⟨rfl, rfl, d1, d2⟩ | ⟨rfl, rfl, d1, d2⟩⟩
  all_goals
    go_wp2_with (first
      | (go_at_call 25; with_reducible refine (HA1.out _ (by assumption)).mono ?_; rintro e w2 ⟨rfl, hs⟩; have hc1 := hs.cell1; have hc0 := hs.cell0)
      | (go_at_call 25; with_reducible refine (HA2.out _ (by assumption)).mono ?_; rintro e w2 ⟨rfl, hs⟩; have hc1 := hs.cell1; have hc0 := hs.cell0)
      | (go_at_call 25; with_reducible refine (HA3.out _ (by assumption)).mono ?_; rintro e w2 ⟨rfl, hs⟩; have hc1 := hs.cell1; have hc0 := hs.cell0)
      | (go_at_call 25; with_reducible refine (HA4.out _ (by assumption)).mono ?_; rintro e w2 ⟨rfl, hs⟩; have hc1 := hs.cell1; have hc0 := hs.cell0)
      | (go_at_call 25; with_reducible refine (HA5.out _ (by assumption)).mono ?_; rintro e w2 ⟨rfl, hs⟩; have hc1 := hs.cell1; have hc0 := hs.cell0)
      | (go_at_call 25; with_reducible refine (HA6.out _ (by assumption)).mono ?_; rintro e w2 ⟨rfl, hs⟩; have hc1 := hs.cell1; have hc0 := hs.cell0)
      | (go_at_call 25; with_reducible refine (HA7.out _ (by assumption)).mono ?_; rintro e w2 ⟨rfl, hs⟩; have hc1 := hs.cell1; have hc0 := hs.cell0)
      | (go_at_call 25; with_reducible refine (HA8.out _ (by assumption)).mono ?_; rintro e w2 ⟨rfl, hs⟩; have hc1 := hs.cell1; have hc0 := hs.cell0)
      | (go_at_call 25; with_reducible refine (HA9.out _ (by assumption)).mono ?_; rintro e w2 ⟨rfl, hs⟩; have hc1 := hs.cell1; have hc0 := hs.cell0)
      | (go_at_call 18; first | (with_reducible refine (HS1.out _).mono ?_; rintro e w2 ⟨rfl, rfl⟩) | (with_reducible refine (HS2.out _).mono ?_; rintro e w2 ⟨rfl, rfl⟩))
      | (go_at_call 12; refine (St.known (by assumption)).mono ?_; rintro e w2 ⟨rfl, hs⟩))
    go_ret
    refine ⟨K.ret_bool ?_, hs.below⟩
    first
      | rfl
      | (simp; omega)
end W9
end Go.Proofs.YtmplmpiljjilnaaDoor
