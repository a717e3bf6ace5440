/- OpInverse: the walk. -/
import Derived.Test.YtgnblodelaoaoaaDoorWOpMatches
namespace Go.Proofs.YtgnblodelaoaoaaDoor
open Go.RowKit
namespace L
set_option maxRecDepth 100000

theorem nm_good (k : Nat) (hk : k < 256) : (2 ≤ k ∧ k ≤ 21 ∧ nmE k = 0 ∧ ofV (nmS k) = (k : Int) ∧ ofE (nmS k) = 0) ∨ (¬ (2 ≤ k ∧ k ≤ 21) ∧ nmS k = [] ∧ (nmE k = 3 ∨ nmE k = 6)) := by
  have : ∀ k : Fin 256, (2 ≤ k.val ∧ k.val ≤ 21 ∧ nmE k.val = 0 ∧ ofV (nmS k.val) = (k.val : Int) ∧ ofE (nmS k.val) = 0) ∨ (¬ (2 ≤ k.val ∧ k.val ≤ 21) ∧ nmS k.val = [] ∧ (nmE k.val = 3 ∨ nmE k.val = 6)) := by decide +kernel
  exact this ⟨k, hk⟩

set_option maxHeartbeats 2000000 in
theorem inverse8_walk (a b : Int) (w : World) (hT : OpTab w) (ha : (Lit.int .u8 a).wf = true) (hb : (Lit.int .u8 b).wf = true) :
    Calls Tryd.prog 6 #[.int .u8 a, .int .u8 b] w fun e w' => e = .returned (.bool true) ∧ Below w.heap.size w w' := by
  obtain ⟨k, rfl, hk⟩ := u8_nat ha
  obtain ⟨m, rfl, hm⟩ := u8_nat hb
  clear ha hb
  have HK := Lib.hid fun W (hb : Below w.heap.size w W) => known8_any W (hT.below hb)
  have hka := nm_good k hk
  have hmb := nm_good m hm
  have C1 := Lib.hid (name_any k w hk hT)
  have C2 := Lib.hid (name_any m w hm hT)
  have C3 : Hid (∀ W, Calls Tryd.prog 17 #[str (nmS k)] W fun e w' => e = .returned (.tuple #[.int .u8 (ofV (nmS k)), .int .i64 (ofE (nmS k))]) ∧ Below W.heap.size W w') := fun W => of_any (nmS k) W
  rcases hka with ⟨h1, h2, h3, h4, h5⟩ | ⟨h1, h2, h3⟩
  · rw [h3] at C1
    rw [h4, h5] at C3
    have g1 : (k : Int) ≥ 2 := by omega
    have g2 : (k : Int) ≤ 21 := by omega
    by_cases hkm : k = m
    · subst hkm
      rw [h3] at C2
      clear hmb h1 h2 h3 h4 h5 hT
      unfold str at *
      generalize (⟨(nmS k).toArray⟩ : ByteArray) = s at *
      go_enter Tryd.func6, Tryd.ntmps6
      go_wp2_with (first | (go_at_call 12; refine (C1.out).mono ?_; rintro e w' ⟨rfl, rfl⟩) | (go_at_call 17; refine (C3.out _).mono ?_; rintro e w2 ⟨rfl, hb2⟩; have HB2 := Lib.hid hb2; clear hb2) | (go_at_call 16; refine (HK.out _ HB2.out).mono ?_; rintro e w3 ⟨rfl, hb3⟩; have HB3 := Lib.hid hb3; clear hb3))
      go_ret
      exact ⟨rfl, HB2.out.trans (HB3.out.mono HB2.out.size)⟩
    · have g3 : ((k : Int) == (m : Int)) = false := by rw [beq_eq_false_iff_ne]; omega
      rcases hmb with ⟨m1, m2, m3, m4, m5⟩ | ⟨m1, m2, m3⟩
      · have hs : ((⟨(nmS k).toArray⟩ : ByteArray).toList == (⟨(nmS m).toArray⟩ : ByteArray).toList) = false := by
          rw [str_same]
          refine decide_eq_false fun h => hkm ?_
          rw [h, m4] at h4
          omega
        rw [m3] at C2
        clear m1 m2 m3 m4 m5 h1 h2 h3 h4 h5 hT hkm
        unfold str at *
        generalize (⟨(nmS k).toArray⟩ : ByteArray) = s at *
        generalize (⟨(nmS m).toArray⟩ : ByteArray) = t at *
        go_enter Tryd.func6, Tryd.ntmps6
        go_wp2_with (first | (go_at_call 12; with_reducible refine (C1.out).mono ?_; rintro e w' ⟨rfl, rfl⟩) | (go_at_call 12; with_reducible refine (C2.out).mono ?_; rintro e w' ⟨rfl, rfl⟩) | (go_at_call 17; refine (C3.out _).mono ?_; rintro e w2 ⟨rfl, hb2⟩; have HB2 := Lib.hid hb2; clear hb2) | (go_at_call 16; refine (HK.out _ HB2.out).mono ?_; rintro e w3 ⟨rfl, hb3⟩; have HB3 := Lib.hid hb3; clear hb3))
        go_ret
        exact ⟨rfl, HB2.out.trans (HB3.out.mono HB2.out.size)⟩
      · obtain ⟨q, hq, hq0⟩ : ∃ q : Int, nmE m = q ∧ (q == 0) = false := by rcases m3 with h | h <;> exact ⟨_, h, by decide⟩
        rw [hq] at C2
        clear hq m1 m2 m3 h1 h2 h3 h4 h5 hT hkm
        unfold str at *
        generalize (⟨(nmS k).toArray⟩ : ByteArray) = s at *
        generalize (⟨(nmS m).toArray⟩ : ByteArray) = t at *
        go_enter Tryd.func6, Tryd.ntmps6
        go_wp2_with (first | (go_at_call 12; with_reducible refine (C1.out).mono ?_; rintro e w' ⟨rfl, rfl⟩) | (go_at_call 12; with_reducible refine (C2.out).mono ?_; rintro e w' ⟨rfl, rfl⟩) | (go_at_call 17; refine (C3.out _).mono ?_; rintro e w2 ⟨rfl, hb2⟩; have HB2 := Lib.hid hb2; clear hb2) | (go_at_call 16; refine (HK.out _ HB2.out).mono ?_; rintro e w3 ⟨rfl, hb3⟩; have HB3 := Lib.hid hb3; clear hb3))
        go_ret
        exact ⟨rfl, HB2.out.trans (HB3.out.mono HB2.out.size)⟩
  · obtain ⟨q, hq, hq0⟩ : ∃ q : Int, nmE k = q ∧ (q == 0) = false := by rcases h3 with h | h <;> exact ⟨_, h, by decide⟩
    rw [hq, h2] at C1
    have g1 : ¬ ((k : Int) ≥ 2 ∧ (k : Int) ≤ 21) := by omega
    clear hmb h1 h2 h3 hq hT C3
    have C2' : Hid (∃ s q, Calls Tryd.prog 12 #[.int .u8 (m : Int)] w fun e w' => e = .returned (.tuple #[.string s, .int .i64 q]) ∧ w = w') := Lib.hid ⟨_, _, C2.out⟩
    obtain ⟨s2, q2, c2⟩ := C2'.out
    have C2 := Lib.hid c2
    clear c2 C2'
    unfold str at *
    by_cases g2 : (k : Int) ≥ 2
    · have g3 : ¬ (k : Int) ≤ 21 := by omega
      clear g1
      go_enter Tryd.func6, Tryd.ntmps6
      go_wp2_with (first | (go_at_call 12; with_reducible refine (C1.out).mono ?_; rintro e w' ⟨rfl, rfl⟩) | (go_at_call 12; with_reducible refine (C2.out).mono ?_; rintro e w' ⟨rfl, rfl⟩) | (go_at_call 16; refine (HK.out _ (Below.refl _ _)).mono ?_; rintro e w3 ⟨rfl, hb3⟩; have HB3 := Lib.hid hb3; clear hb3))
      go_ret
      exact ⟨rfl, HB3.out⟩
    · clear g1
      go_enter Tryd.func6, Tryd.ntmps6
      go_wp2_with (first | (go_at_call 12; with_reducible refine (C1.out).mono ?_; rintro e w' ⟨rfl, rfl⟩) | (go_at_call 12; with_reducible refine (C2.out).mono ?_; rintro e w' ⟨rfl, rfl⟩) | (go_at_call 16; refine (HK.out _ (Below.refl _ _)).mono ?_; rintro e w3 ⟨rfl, hb3⟩; have HB3 := Lib.hid hb3; clear hb3))
      go_ret
      exact ⟨rfl, HB3.out⟩
end L
end Go.Proofs.YtgnblodelaoaoaaDoor
