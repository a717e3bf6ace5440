/- OpMatches: the walk. -/
import Derived.Test.YtgnblodelaoaoaaDoorOS
namespace Go.Proofs.YtgnblodelaoaoaaDoor
open Go.RowKit
namespace L
set_option maxRecDepth 100000

theorem u8_nat {a : Int} (h : (Lit.int .u8 a).wf = true) : ∃ k : Nat, a = (k : Int) ∧ k < 256 := by
  simp [Lit.wf, IntKind.min, IntKind.max, IntKind.signed, IntKind.bits] at h
  exact ⟨a.toNat, by omega, by omega⟩
theorem u8_add (k i : Nat) : ((k : Int) + (i : Int)) % 256 = (((k + i) % 256 : Nat) : Int) := by omega

set_option maxHeartbeats 2000000 in
theorem matches8_walk (a : Int) (w : World) (hT : OpTab w) (ha : (Lit.int .u8 a).wf = true) :
    Calls Tryd.prog 3 #[.int .u8 a] w fun e w' => e = .returned (.bool true) ∧ Below w.heap.size w w' := by
  obtain ⟨k, rfl, hk⟩ := u8_nat ha
  clear ha
  have HT := Lib.hid hT
  clear hT
  go_enter Tryd.func3, Tryd.ntmps3
  go_wp2
  go_loopw [3] (fun iv wr => ∃ i : Nat, iv = .int .i64 (i : Int) ∧ i ≤ 256 ∧ Below w.heap.size w wr) (fun iv _ => 256 - (intOf iv).toNat)
  case atStart => exact ⟨0, rfl, by omega, Below.refl _ _⟩
  case round =>
    obtain ⟨i, rfl, hi, hb⟩ := hrel
    have HB := Lib.hid hb
    have HTr := Lib.hid (HT.out.below hb)
    clear hb
    by_cases hlt : i < 256
    · have h1 : (i : Int) < 256 := by omega
      have e1 := u8_add k i
      obtain ⟨m, hm, hml⟩ : ∃ m, m = (k + i) % 256 ∧ m < 256 := ⟨_, rfl, Nat.mod_lt _ (by omega)⟩
      rw [← hm] at e1
      clear hm
      have C1 := Lib.hid (arity_any m wr hml HTr.out)
      have C2 := Lib.hid (rarity_any m wr hml)
      have C3 := Lib.hid (name_any m wr hml HTr.out)
      have C4 := Lib.hid (rname_any m wr hml)
      generalize arA m = q1 at *
      generalize arE m = q2 at *
      generalize nmE m = q3 at *
      generalize nmS m = q4 at *
      unfold str at *
      generalize (⟨q4.toArray⟩ : ByteArray) = q5 at *
      go_wp2_with (first | (go_at_call 10; refine (C1.out).mono ?_; rintro e w' ⟨rfl, rfl⟩) | (go_at_call 11; refine (C2.out).mono ?_; rintro e w' ⟨rfl, rfl⟩) | (go_at_call 12; refine (C3.out).mono ?_; rintro e w' ⟨rfl, rfl⟩) | (go_at_call 13; refine (C4.out).mono ?_; rintro e w2 ⟨rfl, hb2⟩; have HB2 := Lib.hid hb2; clear hb2) | (go_at_call 14; refine (commutes_any _ _).mono ?_; rintro e w' ⟨rfl, rfl⟩) | (go_at_call 15; refine (rcommutes_any _ _).mono ?_; rintro e w' ⟨rfl, rfl⟩))
      go_roundw
      case rel => exact ⟨i + 1, by simp, by omega, HB.out.trans (HB2.out.mono HB.out.size)⟩
      case measure => simp [intOf]; omega
    · obtain rfl : i = 256 := by omega
      go_wp2_with (go_at_call 16; refine (known8_any _ HTr.out).mono ?_; rintro e w2 ⟨rfl, hb2⟩; have HB2 := Lib.hid hb2; clear hb2)
      go_ret
      exact ⟨rfl, HB.out.trans (HB2.out.mono HB.out.size)⟩
end L
end Go.Proofs.YtgnblodelaoaoaaDoor
