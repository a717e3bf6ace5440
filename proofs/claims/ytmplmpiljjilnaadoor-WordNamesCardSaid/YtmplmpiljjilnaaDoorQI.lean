/- The reference's results and Apply. -/
import Derived.Test.YtmplmpiljjilnaaDoorQH
import Derived.Test.YtmplmpiljjilnaaDoorQE
namespace Go.Proofs.YtmplmpiljjilnaaDoor
open Go.RowKit
open L
namespace W9
set_option maxRecDepth 100000

/-- What the reference's result is: shifts are words already. -/
def rr (W o a b c : Nat) : Nat := if o = 12 ∨ o = 14 then ap W W o a b 0 else ap W 64 o a b c
theorem rr_low {W o a b c : Nat} (h : 1 ≤ W) (hM : W ≤ 64) (ha : a < 2 ^ W) (hb : b < 2 ^ W) (hc : c < 2 ^ W) : rr W o a b c % 2 ^ W = ap W W o a b c := by
  unfold rr
  split
  · next h' =>
    rcases h' with rfl | rfl
    · exact Nat.mod_mod _ _
    · exact Nat.mod_eq_of_lt (sar_lt _)
  · exact ap_low h hM ha hb hc
theorem rr_lt {W o a b c : Nat} (hM : W ≤ 64) (ha : a < 2 ^ W) (hb : b < 2 ^ W) (hc : c < 2 ^ W) : rr W o a b c < 18446744073709551616 := by
  unfold rr
  split
  · next h' =>
    rcases h' with rfl | rfl
    · exact lt64 hM (Nat.mod_lt _ (pow_pos W))
    · exact lt64 hM (sar_lt _)
  · rw [← pow64]; exact ap_lt (by decide) (by rw [pow64]; exact lt64 hM ha) (by rw [pow64]; exact lt64 hM hb) (by rw [pow64]; exact lt64 hM hc)
theorem sle_eq {W a b : Nat} : bn (decide (sg W a ≤ sg W b)) = bn (! decide (sg W b < sg W a)) := by
  congr 1; rw [Bool.eq_iff_iff]; simp

set_option maxHeartbeats 1000000 in
theorem rest7 (W a b : Nat) (_h1 : 1 ≤ W) (h2 : W ≤ 64) (haw : a < 2 ^ W) (hbw : b < 2 ^ W) (w : World) :
    Calls Tryd.prog 57 #[.int .u8 7, .int .i64 (W : Int), .int .u64 (a : Int), .int .u64 (b : Int)] w fun e w' => e = .returned (.int .u64 ((ap W 64 7 a b 0 : Nat) : Int)) ∧ w = w' := by
  have ha := lt64 h2 haw
  by_cases h : b = 0
  · subst h
    have e : ap W 64 7 a 0 0 = 18446744073709551615 := rfl
    rw [e]; clear e haw hbw ha
    go_enter Tryd.func57, Tryd.ntmps57
    go_wp2
    go_ret
    exact ⟨K.ret_int rfl, rfl⟩
  · have hx := x7 (W := W) (a := a) (b := b) (c := 0) ha h
    have hz : ((b : Int) == 0) = false := beq_eq_false_iff_ne.2 (by omega)
    have hn : ¬ (b : Int) = 0 := by omega
    clear ha haw hbw
    generalize ap W 64 7 a b 0 = r at *
    go_enter Tryd.func57, Tryd.ntmps57
    go_wp2
    go_ret
    exact ⟨K.ret_int (by first | exact hx | rfl), rfl⟩

set_option maxHeartbeats 1000000 in
theorem rest8 (W a b : Nat) (_h1 : 1 ≤ W) (h2 : W ≤ 64) (haw : a < 2 ^ W) (hbw : b < 2 ^ W) (w : World) :
    Calls Tryd.prog 57 #[.int .u8 8, .int .i64 (W : Int), .int .u64 (a : Int), .int .u64 (b : Int)] w fun e w' => e = .returned (.int .u64 ((ap W 64 8 a b 0 : Nat) : Int)) ∧ w = w' := by
  have ha := lt64 h2 haw
  by_cases h : b = 0
  · subst h
    have e : ap W 64 8 a 0 0 = a := rfl
    rw [e]; clear e haw hbw ha
    go_enter Tryd.func57, Tryd.ntmps57
    go_wp2
    go_ret
    exact ⟨K.ret_int rfl, rfl⟩
  · have hx := x8 (W := W) (a := a) (b := b) (c := 0) h
    have hz : ((b : Int) == 0) = false := beq_eq_false_iff_ne.2 (by omega)
    have hn : ¬ (b : Int) = 0 := by omega
    clear ha haw hbw
    generalize ap W 64 8 a b 0 = r at *
    go_enter Tryd.func57, Tryd.ntmps57
    go_wp2
    go_ret
    exact ⟨K.ret_int (by first | exact hx | rfl), rfl⟩

set_option maxHeartbeats 1000000 in
theorem rest15 (W a b : Nat) (_h1 : 1 ≤ W) (h2 : W ≤ 64) (haw : a < 2 ^ W) (_hbw : b < 2 ^ W) (w : World) :
    Calls Tryd.prog 57 #[.int .u8 15, .int .i64 (W : Int), .int .u64 (a : Int), .int .u64 (b : Int)] w fun e w' => e = .returned (.int .u64 ((ap W 64 15 a b 0 : Nat) : Int)) ∧ w = w' := by
  have ha := lt64 h2 haw
  have hq := bit_any (a == b)
  have HQ := Lib.hid hq
  clear hq
  have hi : ((a : Int) == b) = (a == b) := by rw [Bool.eq_iff_iff]; simp <;> omega
  clear ha haw _hbw
  show Calls Tryd.prog _ _ w fun e w' => e = .returned (.int .u64 ((bn (a == b) : Nat) : Int)) ∧ _
  generalize (a == b) = q at *
  go_enter Tryd.func57, Tryd.ntmps57
  go_wp2_with (go_at_call 59; refine (HQ.out _).mono ?_; rintro e w2 ⟨rfl, rfl⟩)
  go_ret
  exact ⟨rfl, rfl⟩

set_option maxHeartbeats 1000000 in
theorem rest16 (W a b : Nat) (_h1 : 1 ≤ W) (h2 : W ≤ 64) (haw : a < 2 ^ W) (_hbw : b < 2 ^ W) (w : World) :
    Calls Tryd.prog 57 #[.int .u8 16, .int .i64 (W : Int), .int .u64 (a : Int), .int .u64 (b : Int)] w fun e w' => e = .returned (.int .u64 ((ap W 64 16 a b 0 : Nat) : Int)) ∧ w = w' := by
  have ha := lt64 h2 haw
  have hq := bit_any (a != b)
  have HQ := Lib.hid hq
  clear hq
  have hi : ((a : Int) != b) = (a != b) := by rw [Bool.eq_iff_iff]; simp <;> omega
  clear ha haw _hbw
  show Calls Tryd.prog _ _ w fun e w' => e = .returned (.int .u64 ((bn (a != b) : Nat) : Int)) ∧ _
  generalize (a != b) = q at *
  go_enter Tryd.func57, Tryd.ntmps57
  go_wp2_with (go_at_call 59; refine (HQ.out _).mono ?_; rintro e w2 ⟨rfl, rfl⟩)
  go_ret
  exact ⟨rfl, rfl⟩

set_option maxHeartbeats 1000000 in
theorem rest17 (W a b : Nat) (_h1 : 1 ≤ W) (h2 : W ≤ 64) (haw : a < 2 ^ W) (_hbw : b < 2 ^ W) (w : World) :
    Calls Tryd.prog 57 #[.int .u8 17, .int .i64 (W : Int), .int .u64 (a : Int), .int .u64 (b : Int)] w fun e w' => e = .returned (.int .u64 ((ap W 64 17 a b 0 : Nat) : Int)) ∧ w = w' := by
  have ha := lt64 h2 haw
  have hq := bit_any (decide (a < b))
  have HQ := Lib.hid hq
  clear hq
  clear ha haw _hbw
  show Calls Tryd.prog _ _ w fun e w' => e = .returned (.int .u64 ((bn (decide (a < b)) : Nat) : Int)) ∧ _
  go_enter Tryd.func57, Tryd.ntmps57
  go_wp2_with (go_at_call 59; refine (HQ.out _).mono ?_; rintro e w2 ⟨rfl, rfl⟩)
  go_ret
  exact ⟨rfl, rfl⟩

set_option maxHeartbeats 1000000 in
theorem rest18 (W a b : Nat) (_h1 : 1 ≤ W) (h2 : W ≤ 64) (haw : a < 2 ^ W) (_hbw : b < 2 ^ W) (w : World) :
    Calls Tryd.prog 57 #[.int .u8 18, .int .i64 (W : Int), .int .u64 (a : Int), .int .u64 (b : Int)] w fun e w' => e = .returned (.int .u64 ((ap W 64 18 a b 0 : Nat) : Int)) ∧ w = w' := by
  have ha := lt64 h2 haw
  have hq := bit_any (decide (a ≤ b))
  have HQ := Lib.hid hq
  clear hq
  clear ha haw _hbw
  show Calls Tryd.prog _ _ w fun e w' => e = .returned (.int .u64 ((bn (decide (a ≤ b)) : Nat) : Int)) ∧ _
  go_enter Tryd.func57, Tryd.ntmps57
  go_wp2_with (go_at_call 59; refine (HQ.out _).mono ?_; rintro e w2 ⟨rfl, rfl⟩)
  go_ret
  exact ⟨rfl, rfl⟩

set_option maxHeartbeats 1000000 in
theorem rest19 (W a b : Nat) (h1 : 1 ≤ W) (h2 : W ≤ 64) (haw : a < 2 ^ W) (hbw : b < 2 ^ W) (w : World) :
    Calls Tryd.prog 57 #[.int .u8 19, .int .i64 (W : Int), .int .u64 (a : Int), .int .u64 (b : Int)] w fun e w' => e = .returned (.int .u64 ((ap W 64 19 a b 0 : Nat) : Int)) ∧ w = w' := by
  have ha := lt64 h2 haw
  have hl := rless9_any W a b h1 h2 haw hbw w
  have hq := bit_any (decide (sg W a < sg W b))
  show Calls Tryd.prog _ _ w fun e w' => e = .returned (.int .u64 ((bn (decide (sg W a < sg W b)) : Nat) : Int)) ∧ _
  have HL := Lib.hid hl
  have HQ := Lib.hid hq
  clear hl hq ha haw hbw
  generalize decide (sg W a < sg W b) = q at *
  go_enter Tryd.func57, Tryd.ntmps57
  go_wp2_with (first | (go_at_call 60; refine (HL.out).mono ?_; rintro e w2 ⟨rfl, rfl⟩) | (go_at_call 59; refine (HQ.out _).mono ?_; rintro e w2 ⟨rfl, rfl⟩))
  go_ret
  exact ⟨rfl, rfl⟩

set_option maxHeartbeats 1000000 in
theorem rest20 (W a b : Nat) (h1 : 1 ≤ W) (h2 : W ≤ 64) (haw : a < 2 ^ W) (hbw : b < 2 ^ W) (w : World) :
    Calls Tryd.prog 57 #[.int .u8 20, .int .i64 (W : Int), .int .u64 (a : Int), .int .u64 (b : Int)] w fun e w' => e = .returned (.int .u64 ((ap W 64 20 a b 0 : Nat) : Int)) ∧ w = w' := by
  have ha := lt64 h2 haw
  have hl := rless9_any W b a h1 h2 hbw haw w
  have hq := bit_any (! decide (sg W b < sg W a))
  show Calls Tryd.prog _ _ w fun e w' => e = .returned (.int .u64 ((bn (decide (sg W a ≤ sg W b)) : Nat) : Int)) ∧ _
  rw [sle_eq]
  have HL := Lib.hid hl
  have HQ := Lib.hid hq
  clear hl hq ha haw hbw
  generalize decide (sg W b < sg W a) = q at *
  go_enter Tryd.func57, Tryd.ntmps57
  go_wp2_with (first | (go_at_call 60; refine (HL.out).mono ?_; rintro e w2 ⟨rfl, rfl⟩) | (go_at_call 59; refine (HQ.out _).mono ?_; rintro e w2 ⟨rfl, rfl⟩))
  go_ret
  exact ⟨rfl, rfl⟩

set_option maxHeartbeats 1000000 in
theorem res2 (W a b c : Nat) (_h1 : 1 ≤ W) (h2 : W ≤ 64) (haw : a < 2 ^ W) (hbw : b < 2 ^ W) (w : World) :
    Calls Tryd.prog 33 #[.int .u8 2, .int .i64 (W : Int), .int .u64 (a : Int), .int .u64 (b : Int), .int .u64 (c : Int)] w fun e w' => e = .returned (.int .u64 ((rr W 2 a b c : Nat) : Int)) ∧ w = w' := by
  have ha := lt64 h2 haw
  have hb := lt64 h2 hbw
  have e : rr W 2 a b c = ap W 64 2 a b c := rfl
  rw [e]; clear e
  have hx := x2 (W := W) (a := a) (b := b) (c := c) ha
  clear ha hb haw hbw
  generalize ap W 64 2 a b c = r at *
  go_enter Tryd.func33, Tryd.ntmps33
  go_wp2
  go_ret
  exact ⟨K.ret_int (by first | exact hx | rfl), rfl⟩

set_option maxHeartbeats 1000000 in
theorem res3 (W a b c : Nat) (_h1 : 1 ≤ W) (h2 : W ≤ 64) (haw : a < 2 ^ W) (hbw : b < 2 ^ W) (w : World) :
    Calls Tryd.prog 33 #[.int .u8 3, .int .i64 (W : Int), .int .u64 (a : Int), .int .u64 (b : Int), .int .u64 (c : Int)] w fun e w' => e = .returned (.int .u64 ((rr W 3 a b c : Nat) : Int)) ∧ w = w' := by
  have ha := lt64 h2 haw
  have hb := lt64 h2 hbw
  have e : rr W 3 a b c = ap W 64 3 a b c := rfl
  rw [e]; clear e
  have hx := x3 (W := W) (a := a) (b := b) (c := c) ha
  clear ha hb haw hbw
  generalize ap W 64 3 a b c = r at *
  go_enter Tryd.func33, Tryd.ntmps33
  go_wp2
  go_ret
  exact ⟨K.ret_int (by first | exact hx | rfl), rfl⟩

set_option maxHeartbeats 1000000 in
theorem res4 (W a b c : Nat) (_h1 : 1 ≤ W) (h2 : W ≤ 64) (haw : a < 2 ^ W) (hbw : b < 2 ^ W) (w : World) :
    Calls Tryd.prog 33 #[.int .u8 4, .int .i64 (W : Int), .int .u64 (a : Int), .int .u64 (b : Int), .int .u64 (c : Int)] w fun e w' => e = .returned (.int .u64 ((rr W 4 a b c : Nat) : Int)) ∧ w = w' := by
  have ha := lt64 h2 haw
  have hb := lt64 h2 hbw
  have e : rr W 4 a b c = ap W 64 4 a b c := rfl
  rw [e]; clear e
  have hx := x4 (W := W) (a := a) (b := b) (c := c) 
  clear ha hb haw hbw
  generalize ap W 64 4 a b c = r at *
  go_enter Tryd.func33, Tryd.ntmps33
  go_wp2
  go_ret
  exact ⟨K.ret_int (by first | exact hx | rfl), rfl⟩

set_option maxHeartbeats 1000000 in
theorem res5 (W a b c : Nat) (_h1 : 1 ≤ W) (h2 : W ≤ 64) (haw : a < 2 ^ W) (hbw : b < 2 ^ W) (w : World) :
    Calls Tryd.prog 33 #[.int .u8 5, .int .i64 (W : Int), .int .u64 (a : Int), .int .u64 (b : Int), .int .u64 (c : Int)] w fun e w' => e = .returned (.int .u64 ((rr W 5 a b c : Nat) : Int)) ∧ w = w' := by
  have ha := lt64 h2 haw
  have hb := lt64 h2 hbw
  have e : rr W 5 a b c = ap W 64 5 a b c := rfl
  rw [e]; clear e
  have hx := x5 (W := W) (a := a) (b := b) (c := c) ha hb
  clear ha hb haw hbw
  generalize ap W 64 5 a b c = r at *
  go_enter Tryd.func33, Tryd.ntmps33
  go_wp2
  go_ret
  exact ⟨K.ret_int (by first | exact hx | rfl), rfl⟩

set_option maxHeartbeats 1000000 in
theorem res6 (W a b c : Nat) (_h1 : 1 ≤ W) (h2 : W ≤ 64) (haw : a < 2 ^ W) (hbw : b < 2 ^ W) (w : World) :
    Calls Tryd.prog 33 #[.int .u8 6, .int .i64 (W : Int), .int .u64 (a : Int), .int .u64 (b : Int), .int .u64 (c : Int)] w fun e w' => e = .returned (.int .u64 ((rr W 6 a b c : Nat) : Int)) ∧ w = w' := by
  have ha := lt64 h2 haw
  have hb := lt64 h2 hbw
  have e : rr W 6 a b c = ap W 64 6 a b c := rfl
  rw [e]; clear e
  have hx := x6 (W := W) (a := a) (b := b) (c := c) 
  clear ha hb haw hbw
  generalize ap W 64 6 a b c = r at *
  go_enter Tryd.func33, Tryd.ntmps33
  go_wp2
  go_ret
  exact ⟨K.ret_int (by first | exact hx | rfl), rfl⟩

set_option maxHeartbeats 1000000 in
theorem res7 (W a b c : Nat) (h1 : 1 ≤ W) (h2 : W ≤ 64) (haw : a < 2 ^ W) (hbw : b < 2 ^ W) (w : World) :
    Calls Tryd.prog 33 #[.int .u8 7, .int .i64 (W : Int), .int .u64 (a : Int), .int .u64 (b : Int), .int .u64 (c : Int)] w fun e w' => e = .returned (.int .u64 ((rr W 7 a b c : Nat) : Int)) ∧ w = w' := by
  have ha := lt64 h2 haw
  have hb := lt64 h2 hbw
  have e : rr W 7 a b c = ap W 64 7 a b 0 := rfl
  rw [e]; clear e
  have hs := rest7 W a b h1 h2 haw hbw w
  have HS := Lib.hid hs
  clear hs ha hb haw hbw
  generalize ap W 64 7 a b 0 = r at *
  go_enter Tryd.func33, Tryd.ntmps33
  go_wp2_with (go_at_call 57; refine (HS.out).mono ?_; rintro e w2 ⟨rfl, rfl⟩)
  go_ret
  exact ⟨rfl, rfl⟩

set_option maxHeartbeats 1000000 in
theorem res8 (W a b c : Nat) (h1 : 1 ≤ W) (h2 : W ≤ 64) (haw : a < 2 ^ W) (hbw : b < 2 ^ W) (w : World) :
    Calls Tryd.prog 33 #[.int .u8 8, .int .i64 (W : Int), .int .u64 (a : Int), .int .u64 (b : Int), .int .u64 (c : Int)] w fun e w' => e = .returned (.int .u64 ((rr W 8 a b c : Nat) : Int)) ∧ w = w' := by
  have ha := lt64 h2 haw
  have hb := lt64 h2 hbw
  have e : rr W 8 a b c = ap W 64 8 a b 0 := rfl
  rw [e]; clear e
  have hs := rest8 W a b h1 h2 haw hbw w
  have HS := Lib.hid hs
  clear hs ha hb haw hbw
  generalize ap W 64 8 a b 0 = r at *
  go_enter Tryd.func33, Tryd.ntmps33
  go_wp2_with (go_at_call 57; refine (HS.out).mono ?_; rintro e w2 ⟨rfl, rfl⟩)
  go_ret
  exact ⟨rfl, rfl⟩

set_option maxHeartbeats 1000000 in
theorem res9 (W a b c : Nat) (_h1 : 1 ≤ W) (h2 : W ≤ 64) (haw : a < 2 ^ W) (hbw : b < 2 ^ W) (w : World) :
    Calls Tryd.prog 33 #[.int .u8 9, .int .i64 (W : Int), .int .u64 (a : Int), .int .u64 (b : Int), .int .u64 (c : Int)] w fun e w' => e = .returned (.int .u64 ((rr W 9 a b c : Nat) : Int)) ∧ w = w' := by
  have ha := lt64 h2 haw
  have hb := lt64 h2 hbw
  have e : rr W 9 a b c = ap W 64 9 a b c := rfl
  rw [e]; clear e
  have hx := x9 (W := W) (a := a) (b := b) (c := c) ha hb
  clear ha hb haw hbw
  generalize ap W 64 9 a b c = r at *
  go_enter Tryd.func33, Tryd.ntmps33
  go_wp2
  go_ret
  exact ⟨K.ret_int (by first | exact hx | rfl), rfl⟩

set_option maxHeartbeats 1000000 in
theorem res10 (W a b c : Nat) (_h1 : 1 ≤ W) (h2 : W ≤ 64) (haw : a < 2 ^ W) (hbw : b < 2 ^ W) (w : World) :
    Calls Tryd.prog 33 #[.int .u8 10, .int .i64 (W : Int), .int .u64 (a : Int), .int .u64 (b : Int), .int .u64 (c : Int)] w fun e w' => e = .returned (.int .u64 ((rr W 10 a b c : Nat) : Int)) ∧ w = w' := by
  have ha := lt64 h2 haw
  have hb := lt64 h2 hbw
  have e : rr W 10 a b c = ap W 64 10 a b c := rfl
  rw [e]; clear e
  have hx := x10 (W := W) (a := a) (b := b) (c := c) ha hb
  clear ha hb haw hbw
  generalize ap W 64 10 a b c = r at *
  go_enter Tryd.func33, Tryd.ntmps33
  go_wp2
  go_ret
  exact ⟨K.ret_int (by first | exact hx | rfl), rfl⟩

set_option maxHeartbeats 1000000 in
theorem res11 (W a b c : Nat) (_h1 : 1 ≤ W) (h2 : W ≤ 64) (haw : a < 2 ^ W) (hbw : b < 2 ^ W) (w : World) :
    Calls Tryd.prog 33 #[.int .u8 11, .int .i64 (W : Int), .int .u64 (a : Int), .int .u64 (b : Int), .int .u64 (c : Int)] w fun e w' => e = .returned (.int .u64 ((rr W 11 a b c : Nat) : Int)) ∧ w = w' := by
  have ha := lt64 h2 haw
  have hb := lt64 h2 hbw
  have e : rr W 11 a b c = ap W 64 11 a b c := rfl
  rw [e]; clear e
  have hx := x11 (W := W) (a := a) (b := b) (c := c) ha hb
  clear ha hb haw hbw
  generalize ap W 64 11 a b c = r at *
  go_enter Tryd.func33, Tryd.ntmps33
  go_wp2
  go_ret
  exact ⟨K.ret_int (by first | exact hx | rfl), rfl⟩

set_option maxHeartbeats 1000000 in
theorem res12 (W a b c : Nat) (h1 : 1 ≤ W) (h2 : W ≤ 64) (haw : a < 2 ^ W) (hbw : b < 2 ^ W) (w : World) :
    Calls Tryd.prog 33 #[.int .u8 12, .int .i64 (W : Int), .int .u64 (a : Int), .int .u64 (b : Int), .int .u64 (c : Int)] w fun e w' => e = .returned (.int .u64 ((rr W 12 a b c : Nat) : Int)) ∧ w = w' := by
  have ha := lt64 h2 haw
  have hb := lt64 h2 hbw
  have e : rr W 12 a b c = ap W W 12 a b 0 := rfl
  rw [e]; clear e
  have hs := shifted12 W a b h1 h2 haw w
  have HS := Lib.hid hs
  clear hs ha hb haw hbw
  generalize ap W W 12 a b 0 = r at *
  go_enter Tryd.func33, Tryd.ntmps33
  go_wp2_with (go_at_call 56; refine (HS.out).mono ?_; rintro e w2 ⟨rfl, rfl⟩)
  go_ret
  exact ⟨rfl, rfl⟩

set_option maxHeartbeats 1000000 in
theorem res13 (W a b c : Nat) (h1 : 1 ≤ W) (h2 : W ≤ 64) (haw : a < 2 ^ W) (hbw : b < 2 ^ W) (w : World) :
    Calls Tryd.prog 33 #[.int .u8 13, .int .i64 (W : Int), .int .u64 (a : Int), .int .u64 (b : Int), .int .u64 (c : Int)] w fun e w' => e = .returned (.int .u64 ((rr W 13 a b c : Nat) : Int)) ∧ w = w' := by
  have ha := lt64 h2 haw
  have hb := lt64 h2 hbw
  have e : rr W 13 a b c = ap W W 13 a b 0 := rfl
  rw [e]; clear e
  have hs := shifted13 W a b h1 h2 haw w
  have HS := Lib.hid hs
  clear hs ha hb haw hbw
  generalize ap W W 13 a b 0 = r at *
  go_enter Tryd.func33, Tryd.ntmps33
  go_wp2_with (go_at_call 56; refine (HS.out).mono ?_; rintro e w2 ⟨rfl, rfl⟩)
  go_ret
  exact ⟨rfl, rfl⟩

set_option maxHeartbeats 1000000 in
theorem res14 (W a b c : Nat) (h1 : 1 ≤ W) (h2 : W ≤ 64) (haw : a < 2 ^ W) (hbw : b < 2 ^ W) (w : World) :
    Calls Tryd.prog 33 #[.int .u8 14, .int .i64 (W : Int), .int .u64 (a : Int), .int .u64 (b : Int), .int .u64 (c : Int)] w fun e w' => e = .returned (.int .u64 ((rr W 14 a b c : Nat) : Int)) ∧ w = w' := by
  have ha := lt64 h2 haw
  have hb := lt64 h2 hbw
  have e : rr W 14 a b c = ap W W 14 a b 0 := rfl
  rw [e]; clear e
  have hs : Calls Tryd.prog 56 #[.int .u8 14, .int .i64 (W : Int), .int .u64 (a : Int), .int .u64 (b : Int)] w fun e w' => e = .returned (.int .u64 ((ap W W 14 a b 0 : Nat) : Int)) ∧ w = w' := by
    by_cases ht : 2 ^ (W - 1) ≤ a
    · exact shifted14t W a b h1 h2 haw ht w
    · exact shifted14f W a b h1 h2 haw ht w
  have HS := Lib.hid hs
  clear hs ha hb haw hbw
  generalize ap W W 14 a b 0 = r at *
  go_enter Tryd.func33, Tryd.ntmps33
  go_wp2_with (go_at_call 56; refine (HS.out).mono ?_; rintro e w2 ⟨rfl, rfl⟩)
  go_ret
  exact ⟨rfl, rfl⟩

set_option maxHeartbeats 1000000 in
theorem res15 (W a b c : Nat) (h1 : 1 ≤ W) (h2 : W ≤ 64) (haw : a < 2 ^ W) (hbw : b < 2 ^ W) (w : World) :
    Calls Tryd.prog 33 #[.int .u8 15, .int .i64 (W : Int), .int .u64 (a : Int), .int .u64 (b : Int), .int .u64 (c : Int)] w fun e w' => e = .returned (.int .u64 ((rr W 15 a b c : Nat) : Int)) ∧ w = w' := by
  have ha := lt64 h2 haw
  have hb := lt64 h2 hbw
  have e : rr W 15 a b c = ap W 64 15 a b 0 := rfl
  rw [e]; clear e
  have hs := rest15 W a b h1 h2 haw hbw w
  have HS := Lib.hid hs
  clear hs ha hb haw hbw
  generalize ap W 64 15 a b 0 = r at *
  go_enter Tryd.func33, Tryd.ntmps33
  go_wp2_with (go_at_call 57; refine (HS.out).mono ?_; rintro e w2 ⟨rfl, rfl⟩)
  go_ret
  exact ⟨rfl, rfl⟩

set_option maxHeartbeats 1000000 in
theorem res16 (W a b c : Nat) (h1 : 1 ≤ W) (h2 : W ≤ 64) (haw : a < 2 ^ W) (hbw : b < 2 ^ W) (w : World) :
    Calls Tryd.prog 33 #[.int .u8 16, .int .i64 (W : Int), .int .u64 (a : Int), .int .u64 (b : Int), .int .u64 (c : Int)] w fun e w' => e = .returned (.int .u64 ((rr W 16 a b c : Nat) : Int)) ∧ w = w' := by
  have ha := lt64 h2 haw
  have hb := lt64 h2 hbw
  have e : rr W 16 a b c = ap W 64 16 a b 0 := rfl
  rw [e]; clear e
  have hs := rest16 W a b h1 h2 haw hbw w
  have HS := Lib.hid hs
  clear hs ha hb haw hbw
  generalize ap W 64 16 a b 0 = r at *
  go_enter Tryd.func33, Tryd.ntmps33
  go_wp2_with (go_at_call 57; refine (HS.out).mono ?_; rintro e w2 ⟨rfl, rfl⟩)
  go_ret
  exact ⟨rfl, rfl⟩

set_option maxHeartbeats 1000000 in
theorem res17 (W a b c : Nat) (h1 : 1 ≤ W) (h2 : W ≤ 64) (haw : a < 2 ^ W) (hbw : b < 2 ^ W) (w : World) :
    Calls Tryd.prog 33 #[.int .u8 17, .int .i64 (W : Int), .int .u64 (a : Int), .int .u64 (b : Int), .int .u64 (c : Int)] w fun e w' => e = .returned (.int .u64 ((rr W 17 a b c : Nat) : Int)) ∧ w = w' := by
  have ha := lt64 h2 haw
  have hb := lt64 h2 hbw
  have e : rr W 17 a b c = ap W 64 17 a b 0 := rfl
  rw [e]; clear e
  have hs := rest17 W a b h1 h2 haw hbw w
  have HS := Lib.hid hs
  clear hs ha hb haw hbw
  generalize ap W 64 17 a b 0 = r at *
  go_enter Tryd.func33, Tryd.ntmps33
  go_wp2_with (go_at_call 57; refine (HS.out).mono ?_; rintro e w2 ⟨rfl, rfl⟩)
  go_ret
  exact ⟨rfl, rfl⟩

set_option maxHeartbeats 1000000 in
theorem res18 (W a b c : Nat) (h1 : 1 ≤ W) (h2 : W ≤ 64) (haw : a < 2 ^ W) (hbw : b < 2 ^ W) (w : World) :
    Calls Tryd.prog 33 #[.int .u8 18, .int .i64 (W : Int), .int .u64 (a : Int), .int .u64 (b : Int), .int .u64 (c : Int)] w fun e w' => e = .returned (.int .u64 ((rr W 18 a b c : Nat) : Int)) ∧ w = w' := by
  have ha := lt64 h2 haw
  have hb := lt64 h2 hbw
  have e : rr W 18 a b c = ap W 64 18 a b 0 := rfl
  rw [e]; clear e
  have hs := rest18 W a b h1 h2 haw hbw w
  have HS := Lib.hid hs
  clear hs ha hb haw hbw
  generalize ap W 64 18 a b 0 = r at *
  go_enter Tryd.func33, Tryd.ntmps33
  go_wp2_with (go_at_call 57; refine (HS.out).mono ?_; rintro e w2 ⟨rfl, rfl⟩)
  go_ret
  exact ⟨rfl, rfl⟩

set_option maxHeartbeats 1000000 in
theorem res19 (W a b c : Nat) (h1 : 1 ≤ W) (h2 : W ≤ 64) (haw : a < 2 ^ W) (hbw : b < 2 ^ W) (w : World) :
    Calls Tryd.prog 33 #[.int .u8 19, .int .i64 (W : Int), .int .u64 (a : Int), .int .u64 (b : Int), .int .u64 (c : Int)] w fun e w' => e = .returned (.int .u64 ((rr W 19 a b c : Nat) : Int)) ∧ w = w' := by
  have ha := lt64 h2 haw
  have hb := lt64 h2 hbw
  have e : rr W 19 a b c = ap W 64 19 a b 0 := rfl
  rw [e]; clear e
  have hs := rest19 W a b h1 h2 haw hbw w
  have HS := Lib.hid hs
  clear hs ha hb haw hbw
  generalize ap W 64 19 a b 0 = r at *
  go_enter Tryd.func33, Tryd.ntmps33
  go_wp2_with (go_at_call 57; refine (HS.out).mono ?_; rintro e w2 ⟨rfl, rfl⟩)
  go_ret
  exact ⟨rfl, rfl⟩

set_option maxHeartbeats 1000000 in
theorem res20 (W a b c : Nat) (h1 : 1 ≤ W) (h2 : W ≤ 64) (haw : a < 2 ^ W) (hbw : b < 2 ^ W) (w : World) :
    Calls Tryd.prog 33 #[.int .u8 20, .int .i64 (W : Int), .int .u64 (a : Int), .int .u64 (b : Int), .int .u64 (c : Int)] w fun e w' => e = .returned (.int .u64 ((rr W 20 a b c : Nat) : Int)) ∧ w = w' := by
  have ha := lt64 h2 haw
  have hb := lt64 h2 hbw
  have e : rr W 20 a b c = ap W 64 20 a b 0 := rfl
  rw [e]; clear e
  have hs := rest20 W a b h1 h2 haw hbw w
  have HS := Lib.hid hs
  clear hs ha hb haw hbw
  generalize ap W 64 20 a b 0 = r at *
  go_enter Tryd.func33, Tryd.ntmps33
  go_wp2_with (go_at_call 57; refine (HS.out).mono ?_; rintro e w2 ⟨rfl, rfl⟩)
  go_ret
  exact ⟨rfl, rfl⟩

set_option maxHeartbeats 1000000 in
theorem res21 (W a b c : Nat) (_h1 : 1 ≤ W) (h2 : W ≤ 64) (haw : a < 2 ^ W) (hbw : b < 2 ^ W) (w : World) :
    Calls Tryd.prog 33 #[.int .u8 21, .int .i64 (W : Int), .int .u64 (a : Int), .int .u64 (b : Int), .int .u64 (c : Int)] w fun e w' => e = .returned (.int .u64 ((rr W 21 a b c : Nat) : Int)) ∧ w = w' := by
  have ha := lt64 h2 haw
  have hb := lt64 h2 hbw
  have e : rr W 21 a b c = if a = 0 then c else b := rfl
  rw [e]; clear e
  by_cases h : a = 0
  · subst h
    rw [if_pos rfl]
    clear ha hb haw hbw
    go_enter Tryd.func33, Tryd.ntmps33
    go_wp2
    go_ret
    exact ⟨rfl, rfl⟩
  · rw [if_neg h]
    have hz : ((a : Int) == 0) = false := beq_eq_false_iff_ne.2 (by omega)
    clear ha hb haw hbw h
    go_enter Tryd.func33, Tryd.ntmps33
    go_wp2
    go_ret
    exact ⟨rfl, rfl⟩

theorem result_any (o W a b c : Nat) (h1 : 1 ≤ W) (h2 : W ≤ 64) (ha : a < 2 ^ W) (hb : b < 2 ^ W) (o1 : 2 ≤ o) (o2 : o ≤ 21) (w : World) :
    Calls Tryd.prog 33 #[.int .u8 (o : Int), .int .i64 (W : Int), .int .u64 (a : Int), .int .u64 (b : Int), .int .u64 (c : Int)] w fun e w' => e = .returned (.int .u64 ((rr W o a b c : Nat) : Int)) ∧ w = w' :=
  cases20 (p := fun o => Calls Tryd.prog 33 #[.int .u8 (o : Int), .int .i64 (W : Int), .int .u64 (a : Int), .int .u64 (b : Int), .int .u64 (c : Int)] w fun e w' => e = .returned (.int .u64 ((rr W o a b c : Nat) : Int)) ∧ w = w')
    (res2 W a b c h1 h2 ha hb w) (res3 W a b c h1 h2 ha hb w) (res4 W a b c h1 h2 ha hb w) (res5 W a b c h1 h2 ha hb w) (res6 W a b c h1 h2 ha hb w) (res7 W a b c h1 h2 ha hb w) (res8 W a b c h1 h2 ha hb w) (res9 W a b c h1 h2 ha hb w) (res10 W a b c h1 h2 ha hb w) (res11 W a b c h1 h2 ha hb w) (res12 W a b c h1 h2 ha hb w) (res13 W a b c h1 h2 ha hb w) (res14 W a b c h1 h2 ha hb w) (res15 W a b c h1 h2 ha hb w) (res16 W a b c h1 h2 ha hb w) (res17 W a b c h1 h2 ha hb w) (res18 W a b c h1 h2 ha hb w) (res19 W a b c h1 h2 ha hb w) (res20 W a b c h1 h2 ha hb w) (res21 W a b c h1 h2 ha hb w) o o1 o2
end W9
end Go.Proofs.YtmplmpiljjilnaaDoor
