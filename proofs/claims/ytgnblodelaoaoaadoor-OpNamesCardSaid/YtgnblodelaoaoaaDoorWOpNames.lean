/- OpNames: the walk. -/
import Derived.Test.YtgnblodelaoaoaaDoorWOpMatches
namespace Go.Proofs.YtgnblodelaoaoaaDoor
open Go.RowKit
namespace L
set_option maxRecDepth 100000

def opsL : List Nat := [1, 3, 12, 21, 0, 2]
def wantL : List Int := [0, 1, 2, 3, 0, 1]
theorem ops_ok (i : Nat) (h : i < 6) : opsL.getD i 0 < 256 ∧ arA (opsL.getD i 0) = wantL.getD i 0 ∧ arE (opsL.getD i 0) = 0 := by
  have : ∀ i : Fin 6, opsL.getD i.val 0 < 256 ∧ arA (opsL.getD i.val 0) = wantL.getD i.val 0 ∧ arE (opsL.getD i.val 0) = 0 := by decide +kernel
  exact this ⟨i, h⟩

set_option maxHeartbeats 4000000 in
theorem names8_walk (w : World) (hT : OpTab w) :
    Calls Tryd.prog 5 #[] w fun e w' => e = .returned (.bool true) ∧ Below w.heap.size w w' := by
  have hb1 : Below w.heap.size w (w.alloc (.cells (opsL.map fun (k : Nat) => Value.int .u8 (k : Int)).toArray 5)) := (Below.refl _ w).alloc (Nat.le_refl _) _
  have hb2 : Below w.heap.size w ((w.alloc (.cells (opsL.map fun (k : Nat) => Value.int .u8 (k : Int)).toArray 5)).alloc (.cells (wantL.map fun k => Value.int .i64 k).toArray 3)) := hb1.alloc (by simp) _
  have c1 : ∀ i, i < 6 → ((w.alloc (.cells (opsL.map fun (k : Nat) => Value.int .u8 (k : Int)).toArray 5)).alloc (.cells (wantL.map fun k => Value.int .i64 k).toArray 3)).cell? ⟨w.heap.size, i, none⟩ = some (.int .u8 ((opsL.getD i 0 : Nat) : Int)) := by
    intro i hi
    have : i = 0 ∨ i = 1 ∨ i = 2 ∨ i = 3 ∨ i = 4 ∨ i = 5 := by omega
    rcases this with rfl | rfl | rfl | rfl | rfl | rfl <;> simp [opsL, wantL]
  have c2 : ∀ i, i < 6 → ((w.alloc (.cells (opsL.map fun (k : Nat) => Value.int .u8 (k : Int)).toArray 5)).alloc (.cells (wantL.map fun k => Value.int .i64 k).toArray 3)).cell? ⟨w.heap.size + 1, i, none⟩ = some (.int .i64 (wantL.getD i 0)) := by
    intro i hi
    have : i = 0 ∨ i = 1 ∨ i = 2 ∨ i = 3 ∨ i = 4 ∨ i = 5 := by omega
    rcases this with rfl | rfl | rfl | rfl | rfl | rfl <;> simp [opsL, wantL]
  go_enter Tryd.func5, Tryd.ntmps5
  go_wp2
  obtain ⟨W, hW⟩ : ∃ W, W = (w.alloc (.cells (opsL.map fun (k : Nat) => Value.int .u8 (k : Int)).toArray 5)).alloc (.cells (wantL.map fun k => Value.int .i64 k).toArray 3) := ⟨_, rfl⟩
  rw [← hW] at hb2 c1 c2
  change Code.wp _ _ _ _ ((w.alloc (.cells (opsL.map fun (k : Nat) => Value.int .u8 (k : Int)).toArray 5)).alloc (.cells (wantL.map fun k => Value.int .i64 k).toArray 3))
  rw [← hW]
  have HT := Lib.hid (hT.below hb2)
  have HB := Lib.hid hb2
  have HC1 := Lib.hid c1
  have HC2 := Lib.hid c2
  clear hb1 hb2 c1 c2 hW hT
  go_loop [3] (fun iv => ∃ i : Nat, iv = .int .i64 (i : Int) ∧ i ≤ 6) (fun iv => 6 - (intOf iv).toNat)
  case atStart => exact ⟨0, rfl, by omega⟩
  case round =>
    obtain ⟨i, rfl, hi⟩ := hrel
    by_cases hlt : i < 6
    · have h1 : (i : Int) < 6 := by omega
      have d1 := HC1.out i hlt
      have d2 := HC2.out i hlt
      obtain ⟨o1, o2, o3⟩ := ops_ok i hlt
      have C1 := arity_any (opsL.getD i 0) W o1 HT.out
      rw [o2, o3] at C1
      have C1 := Lib.hid C1
      generalize opsL.getD i 0 = m at *
      generalize wantL.getD i 0 = q at *
      clear o1 o2 o3
      go_wp2_with (go_at_call 10; refine (C1.out).mono ?_; rintro e w' ⟨rfl, rfl⟩)
      go_round
      case rel => exact ⟨i + 1, by simp, by omega⟩
      case measure => simp [intOf]; omega
    · obtain rfl : i = 6 := by omega
      have A1 : Hid (Calls Tryd.prog 10 #[.int .u8 22] W fun e w' => e = .returned (.tuple #[.int .i64 0, .int .i64 3]) ∧ W = w') := arity_any 22 W (by omega) HT.out
      have A2 : Hid (Calls Tryd.prog 12 #[.int .u8 0] W fun e w' => e = .returned (.tuple #[.string ⟨#[]⟩, .int .i64 6]) ∧ W = w') := name_any 0 W (by omega) HT.out
      have A3 : Hid (Calls Tryd.prog 12 #[.int .u8 99] W fun e w' => e = .returned (.tuple #[.string ⟨#[]⟩, .int .i64 3]) ∧ W = w') := name_any 99 W (by omega) HT.out
      have A4 : Hid (Calls Tryd.prog 12 #[.int .u8 2] W fun e w' => e = .returned (.tuple #[.string ⟨#[110, 111, 116]⟩, .int .i64 0]) ∧ W = w') := name_any 2 W (by omega) HT.out
      have B1 : Hid (∀ w, Calls Tryd.prog 17 #[.string ⟨#[88, 79, 82]⟩] w fun e w' => e = .returned (.tuple #[.int .u8 0, .int .i64 6]) ∧ Below w.heap.size w w') := by
        intro w
        have := of_any [88, 79, 82] w
        rw [show ofV [88, 79, 82] = 0 by decide +kernel, show ofE [88, 79, 82] = 6 by decide +kernel] at this
        exact this
      have B2 : Hid (∀ w, Calls Tryd.prog 17 #[.string ⟨#[]⟩] w fun e w' => e = .returned (.tuple #[.int .u8 0, .int .i64 6]) ∧ Below w.heap.size w w') := by
        intro w
        have := of_any [] w
        rw [show ofV [] = 0 by decide +kernel, show ofE [] = 6 by decide +kernel] at this
        exact this
      have B3 : Hid (∀ w, Calls Tryd.prog 17 #[.string ⟨#[99, 111, 110, 115, 116]⟩] w fun e w' => e = .returned (.tuple #[.int .u8 0, .int .i64 6]) ∧ Below w.heap.size w w') := by
        intro w
        have := of_any [99, 111, 110, 115, 116] w
        rw [show ofV [99, 111, 110, 115, 116] = 0 by decide +kernel, show ofE [99, 111, 110, 115, 116] = 6 by decide +kernel] at this
        exact this
      have D1 : Hid (∀ w, Calls Tryd.prog 14 #[.int .u8 4] w fun e w' => e = .returned (.bool true) ∧ w = w') := fun w => commutes_any 4 w
      have D2 : Hid (∀ w, Calls Tryd.prog 14 #[.int .u8 5] w fun e w' => e = .returned (.bool false) ∧ w = w') := fun w => commutes_any 5 w
      have D3 : Hid (∀ w, Calls Tryd.prog 14 #[.int .u8 21] w fun e w' => e = .returned (.bool false) ∧ w = w') := fun w => commutes_any 21 w
      have D4 : Hid (∀ w, Calls Tryd.prog 14 #[.int .u8 22] w fun e w' => e = .returned (.bool false) ∧ w = w') := fun w => commutes_any 22 w
      go_wp2_with (first | (go_at_call 10; refine (A1.out).mono ?_; rintro e w' ⟨rfl, rfl⟩) | (go_at_call 12; with_reducible refine (A2.out).mono ?_; rintro e w' ⟨rfl, rfl⟩) | (go_at_call 12; with_reducible refine (A3.out).mono ?_; rintro e w' ⟨rfl, rfl⟩) | (go_at_call 12; with_reducible refine (A4.out).mono ?_; rintro e w' ⟨rfl, rfl⟩))
      refine (B1.out _).mono ?_
      rintro e w1 ⟨rfl, hb1⟩
      have HB1 := Lib.hid (HB.out.trans (hb1.mono HB.out.size))
      have HT1 := Lib.hid (HT.out.below hb1)
      clear hb1
      go_wp2_with fail
      refine (B2.out _).mono ?_
      rintro e w2 ⟨rfl, hb2⟩
      have HB2 := Lib.hid (HB1.out.trans (hb2.mono HB1.out.size))
      have HT2 := Lib.hid (HT1.out.below hb2)
      clear hb2
      go_wp2_with fail
      refine (B3.out _).mono ?_
      rintro e w3 ⟨rfl, hb3⟩
      have HB3 := Lib.hid (HB2.out.trans (hb3.mono HB2.out.size))
      have HT3 := Lib.hid (HT2.out.below hb3)
      clear hb3
      go_wp2_with (first | (go_at_call 14; with_reducible refine (D1.out _).mono ?_; rintro e w' ⟨rfl, rfl⟩) | (go_at_call 14; with_reducible refine (D2.out _).mono ?_; rintro e w' ⟨rfl, rfl⟩) | (go_at_call 14; with_reducible refine (D3.out _).mono ?_; rintro e w' ⟨rfl, rfl⟩) | (go_at_call 14; with_reducible refine (D4.out _).mono ?_; rintro e w' ⟨rfl, rfl⟩) | (go_at_call 16; refine (known8_any _ HT3.out).mono ?_; rintro e w4 ⟨rfl, hb4⟩; have HB4 := Lib.hid hb4; clear hb4))
      go_ret
      exact ⟨rfl, HB3.out.trans (HB4.out.mono HB3.out.size)⟩
end L
end Go.Proofs.YtgnblodelaoaoaaDoor
