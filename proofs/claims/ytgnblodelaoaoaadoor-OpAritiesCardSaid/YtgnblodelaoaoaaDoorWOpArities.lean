/- OpArities: the walk. -/
import Derived.Test.YtgnblodelaoaoaaDoorWOpMatches
namespace Go.Proofs.YtgnblodelaoaoaaDoor
open Go.RowKit
namespace L
set_option maxRecDepth 100000

def pA (j m : Nat) : Nat := if m ≤ 21 ∧ arL.getD m 0 = (j : Int) then 1 else 0
/-- How many of the numbers k, k + 1 .. (n of them, modulo 256) are operators with j arguments. -/
def cntA (j k : Nat) : Nat → Nat
  | 0 => 0
  | n + 1 => cntA j k n + pA j ((k + n) % 256)
theorem cntA_front (j k : Nat) : ∀ n, cntA j k (n + 1) = pA j (k % 256) + cntA j (k + 1) n
  | 0 => by simp [cntA]
  | n + 1 => by
    rw [cntA, cntA_front j k n, cntA, Nat.add_assoc, show k + (n + 1) = k + 1 + n by omega]
theorem cntA_turn (j k : Nat) : cntA j (k + 1) 256 = cntA j k 256 := by
  have h1 : cntA j k 257 = pA j (k % 256) + cntA j (k + 1) 256 := cntA_front j k 256
  have h2 : cntA j k 257 = cntA j k 256 + pA j ((k + 256) % 256) := rfl
  rw [show (k + 256) % 256 = k % 256 by omega] at h2
  omega
theorem cntA_any (j k : Nat) : cntA j k 256 = cntA j 0 256 := by
  induction k with
  | zero => rfl
  | succ k ih => rw [cntA_turn, ih]
theorem cntA_le (j k : Nat) : ∀ n, cntA j k n ≤ n
  | 0 => Nat.le_refl _
  | n + 1 => by
    have := cntA_le j k n
    have h2 : pA j ((k + n) % 256) ≤ 1 := by unfold pA; split <;> omega
    show cntA j k n + pA j ((k + n) % 256) ≤ n + 1
    omega
theorem cntA_end (k : Nat) : cntA 0 k 256 = 2 ∧ cntA 1 k 256 = 2 ∧ cntA 2 k 256 = 17 ∧ cntA 3 k 256 = 1 := by
  rw [cntA_any 0 k, cntA_any 1 k, cntA_any 2 k, cntA_any 3 k]
  decide +kernel
theorem ar_cases (m : Nat) (h : m < 256) : (arE m = 3 ∧ arA m = 0 ∧ pA 0 m = 0 ∧ pA 1 m = 0 ∧ pA 2 m = 0 ∧ pA 3 m = 0) ∨ (arE m = 0 ∧ arA m = 0 ∧ pA 0 m = 1 ∧ pA 1 m = 0 ∧ pA 2 m = 0 ∧ pA 3 m = 0) ∨ (arE m = 0 ∧ arA m = 1 ∧ pA 0 m = 0 ∧ pA 1 m = 1 ∧ pA 2 m = 0 ∧ pA 3 m = 0) ∨ (arE m = 0 ∧ arA m = 2 ∧ pA 0 m = 0 ∧ pA 1 m = 0 ∧ pA 2 m = 1 ∧ pA 3 m = 0) ∨ (arE m = 0 ∧ arA m = 3 ∧ pA 0 m = 0 ∧ pA 1 m = 0 ∧ pA 2 m = 0 ∧ pA 3 m = 1) := by
  have : ∀ m : Fin 256, (arE m.val = 3 ∧ arA m.val = 0 ∧ pA 0 m.val = 0 ∧ pA 1 m.val = 0 ∧ pA 2 m.val = 0 ∧ pA 3 m.val = 0) ∨ (arE m.val = 0 ∧ arA m.val = 0 ∧ pA 0 m.val = 1 ∧ pA 1 m.val = 0 ∧ pA 2 m.val = 0 ∧ pA 3 m.val = 0) ∨ (arE m.val = 0 ∧ arA m.val = 1 ∧ pA 0 m.val = 0 ∧ pA 1 m.val = 1 ∧ pA 2 m.val = 0 ∧ pA 3 m.val = 0) ∨ (arE m.val = 0 ∧ arA m.val = 2 ∧ pA 0 m.val = 0 ∧ pA 1 m.val = 0 ∧ pA 2 m.val = 1 ∧ pA 3 m.val = 0) ∨ (arE m.val = 0 ∧ arA m.val = 3 ∧ pA 0 m.val = 0 ∧ pA 1 m.val = 0 ∧ pA 2 m.val = 0 ∧ pA 3 m.val = 1) := by decide +kernel
  exact this ⟨m, h⟩

/-- The four counts in memory. -/
def ArW (w : World) (a b c d : Nat) : World := w.alloc (.cells #[.int .i64 (a : Int), .int .i64 (b : Int), .int .i64 (c : Int), .int .i64 (d : Int)] 36)

theorem heq8 (w : World) : (Op.equalIn 10000 36 (.agg #[.int .i64 2, .int .i64 2, .int .i64 17, .int .i64 1]) (.agg #[.int .i64 2, .int .i64 2, .int .i64 17, .int .i64 1])).run Tryd.prog w = .ok true w := by kernel_rfl

set_option maxHeartbeats 4000000 in
theorem arities8_walk (a : Int) (w : World) (hT : OpTab w) (ha : (Lit.int .u8 a).wf = true) :
    Calls Tryd.prog 9 #[.int .u8 a] w fun e w' => e = .returned (.bool true) ∧ Below w.heap.size w w' := by
  obtain ⟨k, rfl, hk⟩ := u8_nat ha
  clear ha
  have HT := Lib.hid hT
  clear hT
  go_enter Tryd.func9, Tryd.ntmps9
  go_wp2
  go_loopw [4] (fun iv wr => ∃ i : Nat, iv = .int .i64 (i : Int) ∧ i ≤ 256 ∧ ∃ a b c d : Nat, wr = ArW w a b c d ∧ a = cntA 0 k i ∧ b = cntA 1 k i ∧ c = cntA 2 k i ∧ d = cntA 3 k i) (fun iv _ => 256 - (intOf iv).toNat)
  case atStart => exact ⟨0, rfl, by omega, 0, 0, 0, 0, rfl, rfl, rfl, rfl, rfl⟩
  case round =>
    obtain ⟨i, rfl, hi, a, b, c, d, rfl, ha, hb, hc, hd⟩ := hrel
    have hbel : Below w.heap.size w (ArW w a b c d) := (Below.refl _ w).alloc (Nat.le_refl _) _
    have HB := Lib.hid hbel
    have HTr := Lib.hid (HT.out.below hbel)
    clear hbel
    by_cases hlt : i < 256
    · have h1 : (i : Int) < 256 := by omega
      have e1 := u8_add k i
      have s0 : cntA 0 k (i + 1) = a + pA 0 ((k + i) % 256) := by rw [ha]; rfl
      have s1 : cntA 1 k (i + 1) = b + pA 1 ((k + i) % 256) := by rw [hb]; rfl
      have s2 : cntA 2 k (i + 1) = c + pA 2 ((k + i) % 256) := by rw [hc]; rfl
      have s3 : cntA 3 k (i + 1) = d + pA 3 ((k + i) % 256) := by rw [hd]; rfl
      have l0 := cntA_le 0 k i
      have l1 := cntA_le 1 k i
      have l2 := cntA_le 2 k i
      have l3 := cntA_le 3 k i
      rw [← ha] at l0
      rw [← hb] at l1
      rw [← hc] at l2
      rw [← hd] at l3
      clear ha hb hc hd
      have hml : (k + i) % 256 < 256 := Nat.mod_lt _ (by omega)
      generalize (k + i) % 256 = m at *
      have C1 := Lib.hid (arity_any m (ArW w a b c d) hml HTr.out)
      have hcs := ar_cases m hml
      unfold ArW at *
      rcases hcs with ⟨e2, e3, p0, p1, p2, p3⟩ | ⟨e2, e3, p0, p1, p2, p3⟩ | ⟨e2, e3, p0, p1, p2, p3⟩ | ⟨e2, e3, p0, p1, p2, p3⟩ | ⟨e2, e3, p0, p1, p2, p3⟩
      all_goals
        rw [e2, e3] at C1
        rw [p0] at s0
        rw [p1] at s1
        rw [p2] at s2
        rw [p3] at s3
        have S0 := Lib.hid s0
        have S1 := Lib.hid s1
        have S2 := Lib.hid s2
        have S3 := Lib.hid s3
        clear e2 e3 p0 p1 p2 p3 s0 s1 s2 s3
        go_wp2_with (go_at_call 10; refine (C1.out).mono ?_; rintro e w' ⟨rfl, rfl⟩)
        go_roundw
        case rel => exact ⟨i + 1, by simp, by omega, _, _, _, _, rfl, S0.out.symm, S1.out.symm, S2.out.symm, S3.out.symm⟩
        case measure => simp [intOf]; omega
    · obtain rfl : i = 256 := by omega
      obtain ⟨z0, z1, z2, z3⟩ := cntA_end k
      rw [z0] at ha
      rw [z1] at hb
      rw [z2] at hc
      rw [z3] at hd
      subst ha hb hc hd
      clear z0 z1 z2 z3
      unfold ArW at *
      have heq : ∀ w, (Op.equalIn 10000 36 (.agg #[.int .i64 2, .int .i64 2, .int .i64 17, .int .i64 1]) (.agg #[.int .i64 2, .int .i64 2, .int .i64 17, .int .i64 1])).run Tryd.prog w = .ok true w := fun w => heq8 w
      go_wp2_with (go_at_call 16; refine (known8_any _ HTr.out).mono ?_; rintro e w2 ⟨rfl, hb2⟩; have HB2 := Lib.hid hb2; clear hb2)
      go_ret
      exact ⟨rfl, HB.out.trans (HB2.out.mono HB.out.size)⟩
end L
end Go.Proofs.YtgnblodelaoaoaaDoor
