/- WordShifts: the walk. -/
import Derived.Test.YtmplmpiljjilnaaDoorQP
import Derived.Test.YtmplmpiljjilnaaDoorWA
namespace Go.Proofs.YtmplmpiljjilnaaDoor
open Go.RowKit
open L
namespace W9
set_option maxRecDepth 100000

set_option maxHeartbeats 8000000 in
theorem shifts9_walk (k x y : Int) (w : World) (hT : OpTab w) (hk : (Lit.int .u8 k).wf = true) (hx : (Lit.int .u64 x).wf = true) (hy : (Lit.int .u64 y).wf = true) :
    Calls Tryd.prog 10 #[.int .u8 k, .int .u64 x, .int .u64 y] w fun e w' => e = .returned (.bool true) ∧ Below w.heap.size w w' := by
  obtain ⟨k, rfl, lk⟩ := u8_nat9 hk
  clear hk
  obtain ⟨x, rfl, lx⟩ := u64_nat9 hx
  clear hx
  obtain ⟨y, rfl, ly⟩ := u64_nat9 hy
  clear hy
  have CW := Lib.hid (with_any k w lk hT)
  clear hT
  obtain ⟨W, hW⟩ : ∃ W, W = 1 + k % 64 := ⟨_, rfl⟩
  have h1 : 1 ≤ W := by omega
  have h2 : W ≤ 64 := by omega
  rw [← hW] at CW
  have HW := Lib.hid hW
  clear hW
  go_enter Tryd.func10, Tryd.ntmps10
  go_wp2_with (go_at_call 23; refine (CW.out).mono ?_; rintro e w1 ⟨b, rfl, hs⟩; refine Hid.out ?_)
  have hc0 := hs.cell0
  have hc1 := hs.cell1
  have hc0 := hs.cell0
  have T1 : TrC w b W (uv y) (y % 2 ^ W) := trc y h1 h2 ly
  have T2 : TrC w b W (.int .u64 18446744073709551615) (18446744073709551615 % 2 ^ W) := trc 18446744073709551615 h1 h2 (by decide)
  rw [ones h2] at T2
  have A1 : Of2C w b W 19 (uv x) (.int .u64 0) (wd W 19 x 0 0) := of2c 19 x 0 h1 h2 (by decide) lx (by decide)
  rw [sign_eq h1] at A1
  have A2 : Of2C w b W 12 (uv x) (uv y) (wd W 12 x y 0) := of2c 12 x y h1 h2 (by decide) lx ly
  have A3 : Of2C w b W 13 (uv x) (uv y) (wd W 13 x y 0) := of2c 13 x y h1 h2 (by decide) lx ly
  have A4 : Of2C w b W 14 (uv x) (uv y) (wd W 14 x y 0) := of2c 14 x y h1 h2 (by decide) lx ly
  have eW : IntKind.u64.wrap (W : Int) = (W : Int) := wid64 W h2
  by_cases hB : W ≤ y % 2 ^ W
  · have hge : (y % 2 ^ W : Nat) ≥ W := hB
    rw [shl_big hB] at A2
    rw [shr_big hB] at A3
    rw [sar_big h1 hB] at A4
    by_cases hn : 2 ^ (W - 1) ≤ x % 2 ^ W
    · rw [if_pos hn] at A4
      rw [decide_eq_true hn] at A1
      generalize y % 2 ^ W = B at *
      generalize 2 ^ W - 1 = O at *
      have HA1 := Lib.hid A1
      have HA2 := Lib.hid A2
      have HA3 := Lib.hid A3
      have HA4 := Lib.hid A4
      have HT1 := Lib.hid T1
      have HT2 := Lib.hid T2
      clear A1 A2 A3 A4 T1 T2
      clear lx ly h1 h2 hn
      refine Lib.hid ?_
      go_wp2_with (first
        | (go_at_call 25; with_reducible refine (HA1.out _ (by assumption)).mono ?_; rintro e w2 ⟨rfl, hs⟩; have hc1 := hs.cell1; have hc0 := hs.cell0)
        | (go_at_call 25; with_reducible refine (HA2.out _ (by assumption)).mono ?_; rintro e w2 ⟨rfl, hs⟩; have hc1 := hs.cell1; have hc0 := hs.cell0)
        | (go_at_call 25; with_reducible refine (HA3.out _ (by assumption)).mono ?_; rintro e w2 ⟨rfl, hs⟩; have hc1 := hs.cell1; have hc0 := hs.cell0)
        | (go_at_call 25; with_reducible refine (HA4.out _ (by assumption)).mono ?_; rintro e w2 ⟨rfl, hs⟩; have hc1 := hs.cell1; have hc0 := hs.cell0)
        | (go_at_call 26; with_reducible refine (HT1.out _ (by assumption)).mono ?_; rintro e w2 ⟨rfl, hs⟩; have hc1 := hs.cell1; have hc0 := hs.cell0)
        | (go_at_call 26; with_reducible refine (HT2.out _ (by assumption)).mono ?_; rintro e w2 ⟨rfl, hs⟩; have hc1 := hs.cell1; have hc0 := hs.cell0)
        | (go_at_call 12; refine (St.known (by assumption)).mono ?_; rintro e w2 ⟨rfl, hs⟩))
      go_ret
      exact ⟨rfl, hs.below⟩
    · rw [if_neg hn] at A4
      rw [decide_eq_false hn] at A1
      generalize y % 2 ^ W = B at *
      generalize 2 ^ W - 1 = O at *
      have HA1 := Lib.hid A1
      have HA2 := Lib.hid A2
      have HA3 := Lib.hid A3
      have HA4 := Lib.hid A4
      have HT1 := Lib.hid T1
      have HT2 := Lib.hid T2
      clear A1 A2 A3 A4 T1 T2
      clear lx ly h1 h2 hn
      refine Lib.hid ?_
      go_wp2_with (first
        | (go_at_call 25; with_reducible refine (HA1.out _ (by assumption)).mono ?_; rintro e w2 ⟨rfl, hs⟩; have hc1 := hs.cell1; have hc0 := hs.cell0)
        | (go_at_call 25; with_reducible refine (HA2.out _ (by assumption)).mono ?_; rintro e w2 ⟨rfl, hs⟩; have hc1 := hs.cell1; have hc0 := hs.cell0)
        | (go_at_call 25; with_reducible refine (HA3.out _ (by assumption)).mono ?_; rintro e w2 ⟨rfl, hs⟩; have hc1 := hs.cell1; have hc0 := hs.cell0)
        | (go_at_call 25; with_reducible refine (HA4.out _ (by assumption)).mono ?_; rintro e w2 ⟨rfl, hs⟩; have hc1 := hs.cell1; have hc0 := hs.cell0)
        | (go_at_call 26; with_reducible refine (HT1.out _ (by assumption)).mono ?_; rintro e w2 ⟨rfl, hs⟩; have hc1 := hs.cell1; have hc0 := hs.cell0)
        | (go_at_call 26; with_reducible refine (HT2.out _ (by assumption)).mono ?_; rintro e w2 ⟨rfl, hs⟩; have hc1 := hs.cell1; have hc0 := hs.cell0)
        | (go_at_call 12; refine (St.known (by assumption)).mono ?_; rintro e w2 ⟨rfl, hs⟩))
      go_ret
      exact ⟨rfl, hs.below⟩
  · have hlt : y % 2 ^ W < W := by omega
    have c3 : IntKind.u64.wrap (2 ^ (y % 2 ^ W)) = ((2 ^ (y % 2 ^ W) : Nat) : Int) := wrap_pow (by omega)
    have e6 : min (y % 2 ^ W) 64 = y % 2 ^ W := Nat.min_eq_left (by omega)
    have lp : 2 ^ (y % 2 ^ W) < 18446744073709551616 := by
      have := pow_le (show y % 2 ^ W ≤ 63 by omega)
      rw [show 2 ^ 63 = 9223372036854775808 by decide] at this; omega
    have A5 : Of2C w b W 6 (uv x) (uv (2 ^ (y % 2 ^ W))) (wd W 6 x (2 ^ (y % 2 ^ W)) 0) := of2c 6 x _ h1 h2 (by decide) lx lp
    have A6 : Of2C w b W 7 (uv x) (uv (2 ^ (y % 2 ^ W))) (wd W 7 x (2 ^ (y % 2 ^ W)) 0) := of2c 7 x _ h1 h2 (by decide) lx lp
    rw [shl_mul h1 hlt] at A5
    rw [shr_div h1 hlt] at A6
    have A7 : Of1C w b W 2 x (wd W 2 x 0 0) := of1c 2 x h1 h2 (by decide) lx
    have A8 : Of2C w b W 13 (uv (wd W 2 x 0 0)) (uv y) (wd W 13 (wd W 2 x 0 0) y 0) := of2c 13 _ y h1 h2 (by decide) (wd64 h1 h2) ly
    have A9 : Of1C w b W 2 (wd W 13 (wd W 2 x 0 0) y 0) (wd W 2 (wd W 13 (wd W 2 x 0 0) y 0) 0 0) := of1c 2 _ h1 h2 (by decide) (wd64 h1 h2)
    by_cases hn : 2 ^ (W - 1) ≤ x % 2 ^ W
    · rw [decide_eq_true hn] at A1
      rw [sar_neg h1 hn] at A9
      generalize wd W 12 x y 0 = v12 at *
      generalize wd W 13 (wd W 2 x 0 0) y 0 = n2 at *
      generalize wd W 13 x y 0 = v13 at *
      generalize wd W 14 x y 0 = v14 at *
      generalize wd W 2 x 0 0 = n1 at *
      generalize hp : (2 : Nat) ^ (y % 2 ^ W) = p at *
      generalize y % 2 ^ W = B at *
      generalize 2 ^ W - 1 = O at *
      clear hp
      have HA1 := Lib.hid A1
      have HA2 := Lib.hid A2
      have HA3 := Lib.hid A3
      have HA4 := Lib.hid A4
      have HA5 := Lib.hid A5
      have HA6 := Lib.hid A6
      have HA7 := Lib.hid A7
      have HA8 := Lib.hid A8
      have HA9 := Lib.hid A9
      have HT1 := Lib.hid T1
      have HT2 := Lib.hid T2
      clear A1 A2 A3 A4 A5 A6 A7 A8 A9 T1 T2
      clear lx ly lp h1 h2 hn
      refine Lib.hid ?_
      go_wp2_with (first
        | (go_at_call 25; with_reducible refine (HA1.out _ (by assumption)).mono ?_; rintro e w2 ⟨rfl, hs⟩; have hc1 := hs.cell1; have hc0 := hs.cell0)
        | (go_at_call 25; with_reducible refine (HA2.out _ (by assumption)).mono ?_; rintro e w2 ⟨rfl, hs⟩; have hc1 := hs.cell1; have hc0 := hs.cell0)
        | (go_at_call 25; with_reducible refine (HA3.out _ (by assumption)).mono ?_; rintro e w2 ⟨rfl, hs⟩; have hc1 := hs.cell1; have hc0 := hs.cell0)
        | (go_at_call 25; with_reducible refine (HA4.out _ (by assumption)).mono ?_; rintro e w2 ⟨rfl, hs⟩; have hc1 := hs.cell1; have hc0 := hs.cell0)
        | (go_at_call 25; with_reducible refine (HA5.out _ (by assumption)).mono ?_; rintro e w2 ⟨rfl, hs⟩; have hc1 := hs.cell1; have hc0 := hs.cell0)
        | (go_at_call 25; with_reducible refine (HA6.out _ (by assumption)).mono ?_; rintro e w2 ⟨rfl, hs⟩; have hc1 := hs.cell1; have hc0 := hs.cell0)
        | (go_at_call 25; with_reducible refine (HA7.out _ (by assumption)).mono ?_; rintro e w2 ⟨rfl, hs⟩; have hc1 := hs.cell1; have hc0 := hs.cell0)
        | (go_at_call 25; with_reducible refine (HA8.out _ (by assumption)).mono ?_; rintro e w2 ⟨rfl, hs⟩; have hc1 := hs.cell1; have hc0 := hs.cell0)
        | (go_at_call 25; with_reducible refine (HA9.out _ (by assumption)).mono ?_; rintro e w2 ⟨rfl, hs⟩; have hc1 := hs.cell1; have hc0 := hs.cell0)
        | (go_at_call 26; with_reducible refine (HT1.out _ (by assumption)).mono ?_; rintro e w2 ⟨rfl, hs⟩; have hc1 := hs.cell1; have hc0 := hs.cell0)
        | (go_at_call 26; with_reducible refine (HT2.out _ (by assumption)).mono ?_; rintro e w2 ⟨rfl, hs⟩; have hc1 := hs.cell1; have hc0 := hs.cell0)
        | (go_at_call 12; refine (St.known (by assumption)).mono ?_; rintro e w2 ⟨rfl, hs⟩))
      go_ret
      exact ⟨rfl, hs.below⟩
    · rw [decide_eq_false hn] at A1
      rw [sar_pos h1 hn] at A4
      generalize wd W 12 x y 0 = v12 at *
      generalize wd W 13 (wd W 2 x 0 0) y 0 = n2 at *
      generalize wd W 13 x y 0 = v13 at *
      generalize wd W 14 x y 0 = v14 at *
      generalize wd W 2 x 0 0 = n1 at *
      generalize hp : (2 : Nat) ^ (y % 2 ^ W) = p at *
      generalize y % 2 ^ W = B at *
      generalize 2 ^ W - 1 = O at *
      clear hp
      have HA1 := Lib.hid A1
      have HA2 := Lib.hid A2
      have HA3 := Lib.hid A3
      have HA4 := Lib.hid A4
      have HA5 := Lib.hid A5
      have HA6 := Lib.hid A6
      have HA7 := Lib.hid A7
      have HA8 := Lib.hid A8
      have HA9 := Lib.hid A9
      have HT1 := Lib.hid T1
      have HT2 := Lib.hid T2
      clear A1 A2 A3 A4 A5 A6 A7 A8 A9 T1 T2
      clear lx ly lp h1 h2 hn
      refine Lib.hid ?_
      go_wp2_with (first
        | (go_at_call 25; with_reducible refine (HA1.out _ (by assumption)).mono ?_; rintro e w2 ⟨rfl, hs⟩; have hc1 := hs.cell1; have hc0 := hs.cell0)
        | (go_at_call 25; with_reducible refine (HA2.out _ (by assumption)).mono ?_; rintro e w2 ⟨rfl, hs⟩; have hc1 := hs.cell1; have hc0 := hs.cell0)
        | (go_at_call 25; with_reducible refine (HA3.out _ (by assumption)).mono ?_; rintro e w2 ⟨rfl, hs⟩; have hc1 := hs.cell1; have hc0 := hs.cell0)
        | (go_at_call 25; with_reducible refine (HA4.out _ (by assumption)).mono ?_; rintro e w2 ⟨rfl, hs⟩; have hc1 := hs.cell1; have hc0 := hs.cell0)
        | (go_at_call 25; with_reducible refine (HA5.out _ (by assumption)).mono ?_; rintro e w2 ⟨rfl, hs⟩; have hc1 := hs.cell1; have hc0 := hs.cell0)
        | (go_at_call 25; with_reducible refine (HA6.out _ (by assumption)).mono ?_; rintro e w2 ⟨rfl, hs⟩; have hc1 := hs.cell1; have hc0 := hs.cell0)
        | (go_at_call 25; with_reducible refine (HA7.out _ (by assumption)).mono ?_; rintro e w2 ⟨rfl, hs⟩; have hc1 := hs.cell1; have hc0 := hs.cell0)
        | (go_at_call 25; with_reducible refine (HA8.out _ (by assumption)).mono ?_; rintro e w2 ⟨rfl, hs⟩; have hc1 := hs.cell1; have hc0 := hs.cell0)
        | (go_at_call 25; with_reducible refine (HA9.out _ (by assumption)).mono ?_; rintro e w2 ⟨rfl, hs⟩; have hc1 := hs.cell1; have hc0 := hs.cell0)
        | (go_at_call 26; with_reducible refine (HT1.out _ (by assumption)).mono ?_; rintro e w2 ⟨rfl, hs⟩; have hc1 := hs.cell1; have hc0 := hs.cell0)
        | (go_at_call 26; with_reducible refine (HT2.out _ (by assumption)).mono ?_; rintro e w2 ⟨rfl, hs⟩; have hc1 := hs.cell1; have hc0 := hs.cell0)
        | (go_at_call 12; refine (St.known (by assumption)).mono ?_; rintro e w2 ⟨rfl, hs⟩))
      go_ret
      exact ⟨rfl, hs.below⟩
end W9
end Go.Proofs.YtmplmpiljjilnaaDoor
