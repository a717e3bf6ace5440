/- WordNegs: the walk. -/
import Derived.Test.YtmplmpiljjilnaaDoorQN
import Derived.Test.YtmplmpiljjilnaaDoorWA
namespace Go.Proofs.YtmplmpiljjilnaaDoor
open Go.RowKit
open L
namespace W9
set_option maxRecDepth 100000

set_option maxHeartbeats 8000000 in
theorem negs9_walk (k x y : Int) (w : World) (hT : OpTab w) (hk : (Lit.int .u8 k).wf = true) (hx : (Lit.int .u64 x).wf = true) (hy : (Lit.int .u64 y).wf = true) :
    Calls Tryd.prog 8 #[.int .u8 k, .int .u64 x, .int .u64 y] w fun e w' => e = .returned (.bool true) ∧ Below w.heap.size w w' := by
  obtain ⟨k, rfl, lk⟩ := u8_nat9 hk
  clear hk
  obtain ⟨x, rfl, lx⟩ := u64_nat9 hx
  clear hx
  obtain ⟨y, rfl, ly⟩ := u64_nat9 hy
  clear hy
  have CW := Lib.hid (with_any k w lk hT)
  clear hT
  obtain ⟨W, hW⟩ : ∃ W, W = 1 + k % 64 := ⟨_, rfl⟩
  have h1 : 1 ≤ W := by omega
  have h2 : W ≤ 64 := by omega
  rw [← hW] at CW
  have HW := Lib.hid hW
  clear hW
  go_enter Tryd.func8, Tryd.ntmps8
  go_wp2_with (go_at_call 23; refine (CW.out).mono ?_; rintro e w1 ⟨b, rfl, hs⟩; refine Hid.out ?_)
  have hc0 := hs.cell0
  have hc1 := hs.cell1
  have l1 : (1 : Nat) < 18446744073709551616 := by decide
  have A1 : Of1C w b W 3 x (wd W 3 x 0 0) := of1c 3 x h1 h2 (by decide) lx
  have A2 : Of1C w b W 2 x (wd W 2 x 0 0) := of1c 2 x h1 h2 (by decide) lx
  have A3 : Of2C w b W 4 (uv (wd W 2 x 0 0)) (.int .u64 1) (wd W 4 (wd W 2 x 0 0) 1 0) := of2c 4 _ 1 h1 h2 (by decide) (wd64 h1 h2) l1
  have A4 : Of2C w b W 5 (uv x) (uv y) (wd W 5 x y 0) := of2c 5 x y h1 h2 (by decide) lx ly
  have A5 : Of1C w b W 3 y (wd W 3 y 0 0) := of1c 3 y h1 h2 (by decide) ly
  have A6 : Of2C w b W 4 (uv x) (uv (wd W 3 y 0 0)) (wd W 4 x (wd W 3 y 0 0) 0) := of2c 4 x _ h1 h2 (by decide) lx (wd64 h1 h2)
  have A7 : Of2C w b W 7 (uv x) (uv y) (wd W 7 x y 0) := of2c 7 x y h1 h2 (by decide) lx ly
  have A8 : Of2C w b W 8 (uv x) (uv y) (wd W 8 x y 0) := of2c 8 x y h1 h2 (by decide) lx ly
  have A9 : Of2C w b W 6 (uv (wd W 7 x y 0)) (uv y) (wd W 6 (wd W 7 x y 0) y 0) := of2c 6 _ y h1 h2 (by decide) (wd64 h1 h2) ly
  have A10 : Of2C w b W 4 (uv (wd W 6 (wd W 7 x y 0) y 0)) (uv (wd W 8 x y 0)) (wd W 4 (wd W 6 (wd W 7 x y 0) y 0) (wd W 8 x y 0) 0) := of2c 4 _ _ h1 h2 (by decide) (wd64 h1 h2) (wd64 h1 h2)
  have T1 : TrC w b W (uv x) (x % 2 ^ W) := trc x h1 h2 lx
  have T2 : TrC w b W (uv y) (y % 2 ^ W) := trc y h1 h2 ly
  have T3 : TrC w b W (.int .u64 18446744073709551615) (18446744073709551615 % 2 ^ W) := trc 18446744073709551615 h1 h2 (by decide)
  rw [neg_eq h1] at A3
  rw [sub_eq h1] at A6
  have D0 := fun h => div0 (x := x) (y := y) h2 h
  have D1 := fun h => divrem (x := x) (y := y) h1 h
  generalize wd W 4 (wd W 6 (wd W 7 x y 0) y 0) (wd W 8 x y 0) 0 = v10 at *
  generalize wd W 6 (wd W 7 x y 0) y 0 = v9 at *
  generalize wd W 7 x y 0 = v7 at *
  generalize wd W 8 x y 0 = v8 at *
  generalize wd W 3 x 0 0 = v1 at *
  generalize wd W 2 x 0 0 = v2 at *
  generalize wd W 3 y 0 0 = v3 at *
  generalize wd W 5 x y 0 = v5 at *
  generalize x % 2 ^ W = X at *
  generalize y % 2 ^ W = Y at *
  generalize 18446744073709551615 % 2 ^ W = O at *
  have HA1 := Lib.hid A1
  have HA2 := Lib.hid A2
  have HA3 := Lib.hid A3
  have HA4 := Lib.hid A4
  have HA5 := Lib.hid A5
  have HA6 := Lib.hid A6
  have HA7 := Lib.hid A7
  have HA8 := Lib.hid A8
  have HA9 := Lib.hid A9
  have HA10 := Lib.hid A10
  have HT1 := Lib.hid T1
  have HT2 := Lib.hid T2
  have HT3 := Lib.hid T3
  have HD0 := Lib.hid D0
  have HD1 := Lib.hid D1
  clear A1 A2 A3 A4 A5 A6 A7 A8 A9 A10 T1 T2 T3 D0 D1 lx ly l1 h1 h2
  refine Lib.hid ?_
  by_cases hY : Y = 0
  · obtain ⟨rfl, rfl⟩ := HD0.out hY
    subst hY
    go_wp2_with (first
      | (go_at_call 25; with_reducible refine (HA1.out _ (by assumption)).mono ?_; rintro e w2 ⟨rfl, hs⟩; have hc1 := hs.cell1)
      | (go_at_call 25; with_reducible refine (HA2.out _ (by assumption)).mono ?_; rintro e w2 ⟨rfl, hs⟩; have hc1 := hs.cell1)
      | (go_at_call 25; with_reducible refine (HA3.out _ (by assumption)).mono ?_; rintro e w2 ⟨rfl, hs⟩; have hc1 := hs.cell1)
      | (go_at_call 25; with_reducible refine (HA4.out _ (by assumption)).mono ?_; rintro e w2 ⟨rfl, hs⟩; have hc1 := hs.cell1)
      | (go_at_call 25; with_reducible refine (HA5.out _ (by assumption)).mono ?_; rintro e w2 ⟨rfl, hs⟩; have hc1 := hs.cell1)
      | (go_at_call 25; with_reducible refine (HA6.out _ (by assumption)).mono ?_; rintro e w2 ⟨rfl, hs⟩; have hc1 := hs.cell1)
      | (go_at_call 25; with_reducible refine (HA7.out _ (by assumption)).mono ?_; rintro e w2 ⟨rfl, hs⟩; have hc1 := hs.cell1)
      | (go_at_call 25; with_reducible refine (HA8.out _ (by assumption)).mono ?_; rintro e w2 ⟨rfl, hs⟩; have hc1 := hs.cell1)
      | (go_at_call 26; with_reducible refine (HT1.out _ (by assumption)).mono ?_; rintro e w2 ⟨rfl, hs⟩; have hc1 := hs.cell1)
      | (go_at_call 26; with_reducible refine (HT2.out _ (by assumption)).mono ?_; rintro e w2 ⟨rfl, hs⟩; have hc1 := hs.cell1)
      | (go_at_call 26; with_reducible refine (HT3.out _ (by assumption)).mono ?_; rintro e w2 ⟨rfl, hs⟩; have hc1 := hs.cell1)
      | (go_at_call 12; refine (St.known (by assumption)).mono ?_; rintro e w2 ⟨rfl, hs⟩))
    go_ret
    exact ⟨rfl, hs.below⟩
  · obtain ⟨d1, d2, d3⟩ := HD1.out hY
    subst d1
    have hz : ((Y : Int) == 0) = false := beq_eq_false_iff_ne.2 (by omega)
    have d2' : (v8 : Int) < (Y : Int) := by omega
    have d3' : (v7 : Int) ≤ (v10 : Int) := by omega
    clear hY
    go_wp2_with (first
      | (go_at_call 25; with_reducible refine (HA1.out _ (by assumption)).mono ?_; rintro e w2 ⟨rfl, hs⟩; have hc1 := hs.cell1)
      | (go_at_call 25; with_reducible refine (HA2.out _ (by assumption)).mono ?_; rintro e w2 ⟨rfl, hs⟩; have hc1 := hs.cell1)
      | (go_at_call 25; with_reducible refine (HA3.out _ (by assumption)).mono ?_; rintro e w2 ⟨rfl, hs⟩; have hc1 := hs.cell1)
      | (go_at_call 25; with_reducible refine (HA4.out _ (by assumption)).mono ?_; rintro e w2 ⟨rfl, hs⟩; have hc1 := hs.cell1)
      | (go_at_call 25; with_reducible refine (HA5.out _ (by assumption)).mono ?_; rintro e w2 ⟨rfl, hs⟩; have hc1 := hs.cell1)
      | (go_at_call 25; with_reducible refine (HA6.out _ (by assumption)).mono ?_; rintro e w2 ⟨rfl, hs⟩; have hc1 := hs.cell1)
      | (go_at_call 25; with_reducible refine (HA7.out _ (by assumption)).mono ?_; rintro e w2 ⟨rfl, hs⟩; have hc1 := hs.cell1)
      | (go_at_call 25; with_reducible refine (HA8.out _ (by assumption)).mono ?_; rintro e w2 ⟨rfl, hs⟩; have hc1 := hs.cell1)
      | (go_at_call 25; with_reducible refine (HA9.out _ (by assumption)).mono ?_; rintro e w2 ⟨rfl, hs⟩; have hc1 := hs.cell1)
      | (go_at_call 25; with_reducible refine (HA10.out _ (by assumption)).mono ?_; rintro e w2 ⟨rfl, hs⟩; have hc1 := hs.cell1)
      | (go_at_call 26; with_reducible refine (HT1.out _ (by assumption)).mono ?_; rintro e w2 ⟨rfl, hs⟩; have hc1 := hs.cell1)
      | (go_at_call 26; with_reducible refine (HT2.out _ (by assumption)).mono ?_; rintro e w2 ⟨rfl, hs⟩; have hc1 := hs.cell1)
      | (go_at_call 26; with_reducible refine (HT3.out _ (by assumption)).mono ?_; rintro e w2 ⟨rfl, hs⟩; have hc1 := hs.cell1)
      | (go_at_call 12; refine (St.known (by assumption)).mono ?_; rintro e w2 ⟨rfl, hs⟩))
    go_ret
    exact ⟨rfl, hs.below⟩
end W9
end Go.Proofs.YtmplmpiljjilnaaDoor
