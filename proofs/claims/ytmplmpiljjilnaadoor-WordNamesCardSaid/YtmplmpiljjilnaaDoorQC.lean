/- Contracts of word's operators. -/
import Derived.Test.YtmplmpiljjilnaaDoorQB
import Derived.BigRegion
import Derived.WalkMore
namespace Go.Proofs.YtmplmpiljjilnaaDoor
open Go.RowKit
open L
namespace W9
set_option maxRecDepth 100000

theorem trimmed_any (W v : Nat) (h2 : W ≤ 64) (hv : v < 18446744073709551616) (w : World) :
    Calls Tryd.prog 29 #[.int .i64 (W : Int), .int .u64 (v : Int)] w fun e w' => e = .returned (.int .u64 ((v % 2 ^ W : Nat) : Int)) ∧ w = w' := by
  have e := trim_eq h2 hv
  go_enter Tryd.func29, Tryd.ntmps29
  go_wp2
  go_ret
  exact ⟨K.ret_int rfl, rfl⟩
theorem signed_any (W v : Nat) (h1 : 1 ≤ W) (h2 : W ≤ 64) (w : World) :
    Calls Tryd.prog 34 #[.int .i64 (W : Int), .int .u64 (v : Int)] w fun e w' => e = .returned (.int .i64 (sg W (v % 2 ^ W))) ∧ w = w' := by
  have e := signed_eq (v := v) h1 h2
  go_enter Tryd.func34, Tryd.ntmps34
  go_wp2
  go_ret
  exact ⟨K.ret_int rfl, rfl⟩
theorem truth_any (q : Bool) (w : World) :
    Calls Tryd.prog 58 #[.bool q] w fun e w' => e = .returned (.int .u64 ((bn q : Nat) : Int)) ∧ w = w' := by
  cases q <;> (go_enter Tryd.func58, Tryd.ntmps58; go_wp2; go_ret; exact ⟨K.ret_int rfl, rfl⟩)
theorem checkW_any (W : Int) (w : World) :
    Calls Tryd.prog 20 #[.int .i64 W] w fun e w' => e = .returned (.int .i64 (chkE W)) ∧ w = w' := by
  by_cases h : W < 1 ∨ 64 < W
  · have e : chkE W = 3 := if_pos h
    rw [e]; clear e
    by_cases h' : W < 1
    · clear h
      go_enter Tryd.func20, Tryd.ntmps20
      go_wp2
      go_ret
      exact ⟨rfl, rfl⟩
    · have h3 : W > 64 := by omega
      clear h
      go_enter Tryd.func20, Tryd.ntmps20
      go_wp2
      go_ret
      exact ⟨rfl, rfl⟩
  · have e : chkE W = 0 := if_neg h
    rw [e]; clear e
    have h' : ¬ W < 1 := by omega
    have h3 : ¬ W > 64 := by omega
    clear h
    go_enter Tryd.func20, Tryd.ntmps20
    go_wp2
    go_ret
    exact ⟨rfl, rfl⟩

/-- The operands of an operator. -/
abbrev opnd (W a b c : Nat) : Value := .agg #[.int .i64 (W : Int), .int .u64 (a : Int), .int .u64 (b : Int), .int .u64 (c : Int)]
theorem below_box (w : World) (o : Obj) : Below w.heap.size w (w.alloc o) := (Below.refl _ _).alloc (Nat.le_refl _) _

set_option maxHeartbeats 1000000 in
theorem op2_any (W a b c : Nat) (_h1 : 1 ≤ W) (h2 : W ≤ 64) (haw : a < 2 ^ W) (hbw : b < 2 ^ W) (w : World) :
    Calls Tryd.prog 36 #[opnd W a b c] w fun e w' => e = .returned (.int .u64 ((ap W 64 2 a b c : Nat) : Int)) ∧ Below w.heap.size w w' := by
  have ha := lt64 h2 haw
  have hb := lt64 h2 hbw
  have hx := x2 (W := W) (a := a) (b := b) (c := c) ha
  clear ha hb haw hbw
  generalize ap W 64 2 a b c = r at *
  go_enter Tryd.func36, Tryd.ntmps36
  go_wp2
  go_ret
  exact ⟨K.ret_int (by first | exact hx | rfl), below_box _ _⟩

set_option maxHeartbeats 1000000 in
theorem op3_any (W a b c : Nat) (_h1 : 1 ≤ W) (h2 : W ≤ 64) (haw : a < 2 ^ W) (hbw : b < 2 ^ W) (w : World) :
    Calls Tryd.prog 37 #[opnd W a b c] w fun e w' => e = .returned (.int .u64 ((ap W 64 3 a b c : Nat) : Int)) ∧ Below w.heap.size w w' := by
  have ha := lt64 h2 haw
  have hb := lt64 h2 hbw
  have hx := x3 (W := W) (a := a) (b := b) (c := c) ha
  clear ha hb haw hbw
  generalize ap W 64 3 a b c = r at *
  go_enter Tryd.func37, Tryd.ntmps37
  go_wp2
  go_ret
  exact ⟨K.ret_int (by first | exact hx | rfl), below_box _ _⟩

set_option maxHeartbeats 1000000 in
theorem op4_any (W a b c : Nat) (_h1 : 1 ≤ W) (h2 : W ≤ 64) (haw : a < 2 ^ W) (hbw : b < 2 ^ W) (w : World) :
    Calls Tryd.prog 38 #[opnd W a b c] w fun e w' => e = .returned (.int .u64 ((ap W 64 4 a b c : Nat) : Int)) ∧ Below w.heap.size w w' := by
  have ha := lt64 h2 haw
  have hb := lt64 h2 hbw
  have hx := x4 (W := W) (a := a) (b := b) (c := c)
  clear ha hb haw hbw
  generalize ap W 64 4 a b c = r at *
  go_enter Tryd.func38, Tryd.ntmps38
  go_wp2
  go_ret
  exact ⟨K.ret_int (by first | exact hx | rfl), below_box _ _⟩

set_option maxHeartbeats 1000000 in
theorem op5_any (W a b c : Nat) (_h1 : 1 ≤ W) (h2 : W ≤ 64) (haw : a < 2 ^ W) (hbw : b < 2 ^ W) (w : World) :
    Calls Tryd.prog 39 #[opnd W a b c] w fun e w' => e = .returned (.int .u64 ((ap W 64 5 a b c : Nat) : Int)) ∧ Below w.heap.size w w' := by
  have ha := lt64 h2 haw
  have hb := lt64 h2 hbw
  have hx := x5 (W := W) (a := a) (b := b) (c := c) ha hb
  clear ha hb haw hbw
  generalize ap W 64 5 a b c = r at *
  go_enter Tryd.func39, Tryd.ntmps39
  go_wp2
  go_ret
  exact ⟨K.ret_int (by first | exact hx | rfl), below_box _ _⟩

set_option maxHeartbeats 1000000 in
theorem op6_any (W a b c : Nat) (_h1 : 1 ≤ W) (h2 : W ≤ 64) (haw : a < 2 ^ W) (hbw : b < 2 ^ W) (w : World) :
    Calls Tryd.prog 40 #[opnd W a b c] w fun e w' => e = .returned (.int .u64 ((ap W 64 6 a b c : Nat) : Int)) ∧ Below w.heap.size w w' := by
  have ha := lt64 h2 haw
  have hb := lt64 h2 hbw
  have hx := x6 (W := W) (a := a) (b := b) (c := c)
  clear ha hb haw hbw
  generalize ap W 64 6 a b c = r at *
  go_enter Tryd.func40, Tryd.ntmps40
  go_wp2
  go_ret
  exact ⟨K.ret_int (by first | exact hx | rfl), below_box _ _⟩

set_option maxHeartbeats 1000000 in
theorem op7_any (W a b c : Nat) (_h1 : 1 ≤ W) (h2 : W ≤ 64) (haw : a < 2 ^ W) (hbw : b < 2 ^ W) (w : World) :
    Calls Tryd.prog 41 #[opnd W a b c] w fun e w' => e = .returned (.int .u64 ((ap W 64 7 a b c : Nat) : Int)) ∧ Below w.heap.size w w' := by
  have ha := lt64 h2 haw
  have hb := lt64 h2 hbw
  by_cases h : b = 0
  · subst h
    have e : ap W 64 7 a 0 c = 18446744073709551615 := rfl
    rw [e]; clear e
    clear haw hbw ha hb
    go_enter Tryd.func41, Tryd.ntmps41
    go_wp2
    go_ret
    exact ⟨K.ret_int rfl, below_box _ _⟩
  · have hx := x7 (W := W) (a := a) (b := b) (c := c) ha h
    have hz : ((b : Int) == 0) = false := beq_eq_false_iff_ne.2 (by omega)
    have hn : ¬ (b : Int) = 0 := by omega
    clear ha hb haw hbw
    generalize ap W 64 7 a b c = r at *
    go_enter Tryd.func41, Tryd.ntmps41
    go_wp2
    go_ret
    exact ⟨K.ret_int (by first | exact hx | rfl), below_box _ _⟩

set_option maxHeartbeats 1000000 in
theorem op8_any (W a b c : Nat) (_h1 : 1 ≤ W) (h2 : W ≤ 64) (haw : a < 2 ^ W) (hbw : b < 2 ^ W) (w : World) :
    Calls Tryd.prog 42 #[opnd W a b c] w fun e w' => e = .returned (.int .u64 ((ap W 64 8 a b c : Nat) : Int)) ∧ Below w.heap.size w w' := by
  have ha := lt64 h2 haw
  have hb := lt64 h2 hbw
  by_cases h : b = 0
  · subst h
    have e : ap W 64 8 a 0 c = a := rfl
    rw [e]; clear e
    clear haw hbw ha hb
    go_enter Tryd.func42, Tryd.ntmps42
    go_wp2
    go_ret
    exact ⟨K.ret_int rfl, below_box _ _⟩
  · have hx := x8 (W := W) (a := a) (b := b) (c := c) h
    have hz : ((b : Int) == 0) = false := beq_eq_false_iff_ne.2 (by omega)
    have hn : ¬ (b : Int) = 0 := by omega
    clear ha hb haw hbw
    generalize ap W 64 8 a b c = r at *
    go_enter Tryd.func42, Tryd.ntmps42
    go_wp2
    go_ret
    exact ⟨K.ret_int (by first | exact hx | rfl), below_box _ _⟩

set_option maxHeartbeats 1000000 in
theorem op9_any (W a b c : Nat) (_h1 : 1 ≤ W) (h2 : W ≤ 64) (haw : a < 2 ^ W) (hbw : b < 2 ^ W) (w : World) :
    Calls Tryd.prog 43 #[opnd W a b c] w fun e w' => e = .returned (.int .u64 ((ap W 64 9 a b c : Nat) : Int)) ∧ Below w.heap.size w w' := by
  have ha := lt64 h2 haw
  have hb := lt64 h2 hbw
  have hx := x9 (W := W) (a := a) (b := b) (c := c) ha hb
  clear ha hb haw hbw
  generalize ap W 64 9 a b c = r at *
  go_enter Tryd.func43, Tryd.ntmps43
  go_wp2
  go_ret
  exact ⟨K.ret_int (by first | exact hx | rfl), below_box _ _⟩

set_option maxHeartbeats 1000000 in
theorem op10_any (W a b c : Nat) (_h1 : 1 ≤ W) (h2 : W ≤ 64) (haw : a < 2 ^ W) (hbw : b < 2 ^ W) (w : World) :
    Calls Tryd.prog 44 #[opnd W a b c] w fun e w' => e = .returned (.int .u64 ((ap W 64 10 a b c : Nat) : Int)) ∧ Below w.heap.size w w' := by
  have ha := lt64 h2 haw
  have hb := lt64 h2 hbw
  have hx := x10 (W := W) (a := a) (b := b) (c := c) ha hb
  clear ha hb haw hbw
  generalize ap W 64 10 a b c = r at *
  go_enter Tryd.func44, Tryd.ntmps44
  go_wp2
  go_ret
  exact ⟨K.ret_int (by first | exact hx | rfl), below_box _ _⟩

set_option maxHeartbeats 1000000 in
theorem op11_any (W a b c : Nat) (_h1 : 1 ≤ W) (h2 : W ≤ 64) (haw : a < 2 ^ W) (hbw : b < 2 ^ W) (w : World) :
    Calls Tryd.prog 45 #[opnd W a b c] w fun e w' => e = .returned (.int .u64 ((ap W 64 11 a b c : Nat) : Int)) ∧ Below w.heap.size w w' := by
  have ha := lt64 h2 haw
  have hb := lt64 h2 hbw
  have hx := x11 (W := W) (a := a) (b := b) (c := c) ha hb
  clear ha hb haw hbw
  generalize ap W 64 11 a b c = r at *
  go_enter Tryd.func45, Tryd.ntmps45
  go_wp2
  go_ret
  exact ⟨K.ret_int (by first | exact hx | rfl), below_box _ _⟩

set_option maxHeartbeats 1000000 in
theorem op12_any (W a b c : Nat) (_h1 : 1 ≤ W) (h2 : W ≤ 64) (haw : a < 2 ^ W) (hbw : b < 2 ^ W) (w : World) :
    Calls Tryd.prog 46 #[opnd W a b c] w fun e w' => e = .returned (.int .u64 ((ap W 64 12 a b c : Nat) : Int)) ∧ Below w.heap.size w w' := by
  have ha := lt64 h2 haw
  have hb := lt64 h2 hbw
  have hx := x12 (W := W) (a := a) (b := b) (c := c)
  clear ha hb haw hbw
  generalize ap W 64 12 a b c = r at *
  go_enter Tryd.func46, Tryd.ntmps46
  go_wp2
  go_ret
  exact ⟨K.ret_int (by first | exact hx | rfl), below_box _ _⟩

set_option maxHeartbeats 1000000 in
theorem op13_any (W a b c : Nat) (_h1 : 1 ≤ W) (h2 : W ≤ 64) (haw : a < 2 ^ W) (hbw : b < 2 ^ W) (w : World) :
    Calls Tryd.prog 47 #[opnd W a b c] w fun e w' => e = .returned (.int .u64 ((ap W 64 13 a b c : Nat) : Int)) ∧ Below w.heap.size w w' := by
  have ha := lt64 h2 haw
  have hb := lt64 h2 hbw
  have hx := x13 (W := W) (a := a) (b := b) (c := c) ha
  clear ha hb haw hbw
  generalize ap W 64 13 a b c = r at *
  go_enter Tryd.func47, Tryd.ntmps47
  go_wp2
  go_ret
  exact ⟨K.ret_int (by first | exact hx | rfl), below_box _ _⟩

set_option maxHeartbeats 1000000 in
theorem op14_any (W a b c : Nat) (h1 : 1 ≤ W) (h2 : W ≤ 64) (haw : a < 2 ^ W) (hbw : b < 2 ^ W) (w : World) :
    Calls Tryd.prog 48 #[opnd W a b c] w fun e w' => e = .returned (.int .u64 ((ap W 64 14 a b c : Nat) : Int)) ∧ Below w.heap.size w w' := by
  have ha := lt64 h2 haw
  have hb := lt64 h2 hbw
  have hx := x14 (W := W) (a := a) (b := b) (c := c) h1 h2 haw
  have hs := signed_any W a h1 h2
  rw [Nat.mod_eq_of_lt haw] at hs
  have HS := Lib.hid hs
  clear hs ha hb haw hbw
  generalize ap W 64 14 a b c = r at *
  generalize sg W a = x at *
  go_enter Tryd.func48, Tryd.ntmps48
  go_wp2
  go_quiet ((go_at_call 34; exact Calls.quiet_of_same ((HS.out _).mono fun _ _ h => ⟨h.1, h.2.symm⟩)))
  go_wp2
  go_ret
  exact ⟨K.ret_int (by first | exact hx | rfl), (below_box _ _).trans (below_drewN (Below.refl _ _) _)⟩

set_option maxHeartbeats 1000000 in
theorem op15_any (W a b c : Nat) (_h1 : 1 ≤ W) (h2 : W ≤ 64) (haw : a < 2 ^ W) (hbw : b < 2 ^ W) (w : World) :
    Calls Tryd.prog 49 #[opnd W a b c] w fun e w' => e = .returned (.int .u64 ((ap W 64 15 a b c : Nat) : Int)) ∧ Below w.heap.size w w' := by
  have ha := lt64 h2 haw
  have hb := lt64 h2 hbw
  have hq := truth_any (a == b)
  have HQ := Lib.hid hq
  clear hq
  have hi : ((a : Int) == b) = (a == b) := by rw [Bool.eq_iff_iff]; simp <;> omega
  clear ha hb haw hbw
  show Calls Tryd.prog _ _ w fun e w' => e = .returned (.int .u64 ((bn (a == b) : Nat) : Int)) ∧ _
  generalize (a == b) = q at *
  go_enter Tryd.func49, Tryd.ntmps49
  go_wp2_with (go_at_call 58; refine (HQ.out _).mono ?_; rintro e w2 ⟨rfl, rfl⟩)
  go_ret
  exact ⟨rfl, below_box _ _⟩

set_option maxHeartbeats 1000000 in
theorem op16_any (W a b c : Nat) (_h1 : 1 ≤ W) (h2 : W ≤ 64) (haw : a < 2 ^ W) (hbw : b < 2 ^ W) (w : World) :
    Calls Tryd.prog 50 #[opnd W a b c] w fun e w' => e = .returned (.int .u64 ((ap W 64 16 a b c : Nat) : Int)) ∧ Below w.heap.size w w' := by
  have ha := lt64 h2 haw
  have hb := lt64 h2 hbw
  have hq := truth_any (a != b)
  have HQ := Lib.hid hq
  clear hq
  have hi : ((a : Int) != b) = (a != b) := by rw [Bool.eq_iff_iff]; simp <;> omega
  clear ha hb haw hbw
  show Calls Tryd.prog _ _ w fun e w' => e = .returned (.int .u64 ((bn (a != b) : Nat) : Int)) ∧ _
  generalize (a != b) = q at *
  go_enter Tryd.func50, Tryd.ntmps50
  go_wp2_with (go_at_call 58; refine (HQ.out _).mono ?_; rintro e w2 ⟨rfl, rfl⟩)
  go_ret
  exact ⟨rfl, below_box _ _⟩

set_option maxHeartbeats 1000000 in
theorem op17_any (W a b c : Nat) (_h1 : 1 ≤ W) (h2 : W ≤ 64) (haw : a < 2 ^ W) (hbw : b < 2 ^ W) (w : World) :
    Calls Tryd.prog 51 #[opnd W a b c] w fun e w' => e = .returned (.int .u64 ((ap W 64 17 a b c : Nat) : Int)) ∧ Below w.heap.size w w' := by
  have ha := lt64 h2 haw
  have hb := lt64 h2 hbw
  have hq := truth_any (decide (a < b))
  have HQ := Lib.hid hq
  clear hq
  clear ha hb haw hbw
  show Calls Tryd.prog _ _ w fun e w' => e = .returned (.int .u64 ((bn (decide (a < b)) : Nat) : Int)) ∧ _
  go_enter Tryd.func51, Tryd.ntmps51
  go_wp2_with (go_at_call 58; refine (HQ.out _).mono ?_; rintro e w2 ⟨rfl, rfl⟩)
  go_ret
  exact ⟨rfl, below_box _ _⟩

set_option maxHeartbeats 1000000 in
theorem op18_any (W a b c : Nat) (_h1 : 1 ≤ W) (h2 : W ≤ 64) (haw : a < 2 ^ W) (hbw : b < 2 ^ W) (w : World) :
    Calls Tryd.prog 52 #[opnd W a b c] w fun e w' => e = .returned (.int .u64 ((ap W 64 18 a b c : Nat) : Int)) ∧ Below w.heap.size w w' := by
  have ha := lt64 h2 haw
  have hb := lt64 h2 hbw
  have hq := truth_any (decide (a ≤ b))
  have HQ := Lib.hid hq
  clear hq
  clear ha hb haw hbw
  show Calls Tryd.prog _ _ w fun e w' => e = .returned (.int .u64 ((bn (decide (a ≤ b)) : Nat) : Int)) ∧ _
  go_enter Tryd.func52, Tryd.ntmps52
  go_wp2_with (go_at_call 58; refine (HQ.out _).mono ?_; rintro e w2 ⟨rfl, rfl⟩)
  go_ret
  exact ⟨rfl, below_box _ _⟩

set_option maxHeartbeats 1000000 in
theorem op19_any (W a b c : Nat) (h1 : 1 ≤ W) (h2 : W ≤ 64) (haw : a < 2 ^ W) (hbw : b < 2 ^ W) (w : World) :
    Calls Tryd.prog 53 #[opnd W a b c] w fun e w' => e = .returned (.int .u64 ((ap W 64 19 a b c : Nat) : Int)) ∧ Below w.heap.size w w' := by
  have ha := lt64 h2 haw
  have hb := lt64 h2 hbw
  have hs := signed_any W a h1 h2
  rw [Nat.mod_eq_of_lt haw] at hs
  have ht := signed_any W b h1 h2
  rw [Nat.mod_eq_of_lt hbw] at ht
  have hq := truth_any (decide (sg W a < sg W b))
  show Calls Tryd.prog _ _ w fun e w' => e = .returned (.int .u64 ((bn (decide (sg W a < sg W b)) : Nat) : Int)) ∧ _
  have HS := Lib.hid hs
  have HT := Lib.hid ht
  have HQ := Lib.hid hq
  clear hs ht hq ha hb haw hbw
  generalize sg W a = x at *
  generalize sg W b = y at *
  go_enter Tryd.func53, Tryd.ntmps53
  go_wp2
  go_quiet (first
    | (go_at_call 34; first | with_reducible exact Calls.quiet_of_same ((HS.out _).mono fun _ _ h => ⟨h.1, h.2.symm⟩) | with_reducible exact Calls.quiet_of_same ((HT.out _).mono fun _ _ h => ⟨h.1, h.2.symm⟩))
    | (go_at_call 58; with_reducible exact Calls.quiet_of_same ((HQ.out _).mono fun _ _ h => ⟨h.1, h.2.symm⟩)))
  go_wp2
  go_ret
  exact ⟨rfl, (below_box _ _).trans (below_drewN (Below.refl _ _) _)⟩

set_option maxHeartbeats 1000000 in
theorem op20_any (W a b c : Nat) (h1 : 1 ≤ W) (h2 : W ≤ 64) (haw : a < 2 ^ W) (hbw : b < 2 ^ W) (w : World) :
    Calls Tryd.prog 54 #[opnd W a b c] w fun e w' => e = .returned (.int .u64 ((ap W 64 20 a b c : Nat) : Int)) ∧ Below w.heap.size w w' := by
  have ha := lt64 h2 haw
  have hb := lt64 h2 hbw
  have hs := signed_any W a h1 h2
  rw [Nat.mod_eq_of_lt haw] at hs
  have ht := signed_any W b h1 h2
  rw [Nat.mod_eq_of_lt hbw] at ht
  have hq := truth_any (decide (sg W a ≤ sg W b))
  show Calls Tryd.prog _ _ w fun e w' => e = .returned (.int .u64 ((bn (decide (sg W a ≤ sg W b)) : Nat) : Int)) ∧ _
  have HS := Lib.hid hs
  have HT := Lib.hid ht
  have HQ := Lib.hid hq
  clear hs ht hq ha hb haw hbw
  generalize sg W a = x at *
  generalize sg W b = y at *
  go_enter Tryd.func54, Tryd.ntmps54
  go_wp2
  go_quiet (first
    | (go_at_call 34; first | with_reducible exact Calls.quiet_of_same ((HS.out _).mono fun _ _ h => ⟨h.1, h.2.symm⟩) | with_reducible exact Calls.quiet_of_same ((HT.out _).mono fun _ _ h => ⟨h.1, h.2.symm⟩))
    | (go_at_call 58; with_reducible exact Calls.quiet_of_same ((HQ.out _).mono fun _ _ h => ⟨h.1, h.2.symm⟩)))
  go_wp2
  go_ret
  exact ⟨rfl, (below_box _ _).trans (below_drewN (Below.refl _ _) _)⟩

set_option maxHeartbeats 1000000 in
theorem op21_any (W a b c : Nat) (_h1 : 1 ≤ W) (h2 : W ≤ 64) (haw : a < 2 ^ W) (hbw : b < 2 ^ W) (w : World) :
    Calls Tryd.prog 55 #[opnd W a b c] w fun e w' => e = .returned (.int .u64 ((ap W 64 21 a b c : Nat) : Int)) ∧ Below w.heap.size w w' := by
  have ha := lt64 h2 haw
  have hb := lt64 h2 hbw
  by_cases h : a = 0
  · subst h
    have e : ap W 64 21 0 b c = c := rfl
    rw [e]; clear e haw hbw ha hb
    go_enter Tryd.func55, Tryd.ntmps55
    go_wp2
    go_ret
    exact ⟨rfl, below_box _ _⟩
  · have e : ap W 64 21 a b c = b := if_neg h
    have hz : ((a : Int) == 0) = false := beq_eq_false_iff_ne.2 (by omega)
    rw [e]; clear e haw hbw ha hb
    go_enter Tryd.func55, Tryd.ntmps55
    go_wp2
    go_ret
    exact ⟨rfl, below_box _ _⟩

end W9
end Go.Proofs.YtmplmpiljjilnaaDoor
