/- OpLetters: the walk. -/
import Derived.Test.YtgnblodelaoaoaaDoorWOpMatches
namespace Go.Proofs.YtgnblodelaoaoaaDoor
open Go.RowKit
namespace L
set_option maxRecDepth 100000

theorem of_back (s : List UInt8) : (ofE s = 0 ∧ ∃ k : Nat, k < 256 ∧ ofV s = (k : Int) ∧ nmS k = s ∧ nmE k = 0) ∨ (ofE s = 6 ∧ ofV s = 0) := by
  by_cases h : ofN s < 20
  · left
    have e1 : ofE s = 0 := by simp [ofE, h]
    have e2 : ofV s = ((ofN s + 2 : Nat) : Int) := by simp [ofV, h]
    refine ⟨e1, ofN s + 2, by omega, e2, ?_, ?_⟩
    · have := ofN_get s h
      have h3 : ofN s + 2 ≤ 21 := by omega
      simp only [nmS, h3, if_true]
      exact this
    · have h3 : ofN s + 2 ≤ 21 := by omega
      simp [nmE, h3]
  · right
    exact ⟨by simp [ofE, h], by simp [ofV, h]⟩
theorem nm_letters (k : Nat) (hk : k < 20) : nmE (k + 2) = 0 ∧ 2 ≤ (nmS (k + 2)).length ∧ (nmS (k + 2)).length ≤ 3 ∧ ∀ j, j < (nmS (k + 2)).length → 97 ≤ ((nmS (k + 2)).getD j 0).toNat ∧ ((nmS (k + 2)).getD j 0).toNat ≤ 122 := by
  have : ∀ k : Fin 20, nmE (k.val + 2) = 0 ∧ 2 ≤ (nmS (k.val + 2)).length ∧ (nmS (k.val + 2)).length ≤ 3 ∧ ∀ j, j < (nmS (k.val + 2)).length → 97 ≤ ((nmS (k.val + 2)).getD j 0).toNat ∧ ((nmS (k.val + 2)).getD j 0).toNat ≤ 122 := by decide +kernel
  exact this ⟨k, hk⟩

set_option maxHeartbeats 2000000 in
theorem letters8_walk (s : ByteArray) (a : Int) (w : World) (hT : OpTab w) (_hs : s.size ≤ maxLen) (ha : (Lit.int .u8 a).wf = true) :
    Calls Tryd.prog 7 #[.string s, .int .u8 a] w fun e w' => e = .returned (.bool true) ∧ Below w.heap.size w w' := by
  obtain ⟨k, rfl, hk⟩ := u8_nat ha
  clear ha
  have HK := Lib.hid fun W (hb : Below w.heap.size w W) => known8_any W (hT.below hb)
  by_cases h : s.size ≤ 100
  · have h1 : ¬ (s.size : Int) > 100 := by omega
    have HO : Hid (∀ W, Calls Tryd.prog 17 #[.string s] W fun e w' => e = .returned (.tuple #[.int .u8 (ofV s.data.toList), .int .i64 (ofE s.data.toList)]) ∧ Below W.heap.size W w') := fun W => of_any s.data.toList W
    have hob := of_back s.data.toList
    have ho2 : ((k : Int) % 20 + 2 : Int) = ((k % 20 + 2 : Nat) : Int) := by omega
    obtain ⟨l, hl⟩ : ∃ l, l = nmS (k % 20 + 2) := ⟨_, rfl⟩
    obtain ⟨l1, l2, l3, l4⟩ := nm_letters (k % 20) (Nat.mod_lt _ (by omega))
    rw [← hl] at l2 l3 l4
    obtain ⟨S, hS⟩ : ∃ S : ByteArray, S = ⟨l.toArray⟩ := ⟨_, rfl⟩
    have hg : ∀ W, Below w.heap.size w W → Calls Tryd.prog 12 #[.int .u8 (2 + (k : Int) % 20)] W fun e w' => e = .returned (.tuple #[.string S, .int .i64 0]) ∧ W = w' := by
      intro W hb
      have := name_any (k % 20 + 2) W (by omega) (hT.below hb)
      rw [l1, ← hl] at this
      rw [show (2 + (k : Int) % 20) = ((k % 20 + 2 : Nat) : Int) by omega, hS]
      exact this
    clear hl l1
    have HG := Lib.hid hg
    have HL := Lib.hid l4
    have t1 : ¬ (l.length : Int) < 2 := by omega
    have t2 : ¬ (l.length : Int) > 3 := by omega
    have hsz : S.size = l.length := by rw [hS]; simp [ByteArray.size]
    have hgx : ∀ (j : Nat) (hj : j < S.size), S[j]'hj = l.getD j 0 := by
      subst hS
      intro j hj
      have h2 : j < l.length := by rw [hsz] at hj; exact hj
      have e : (⟨l.toArray⟩ : ByteArray)[j]'hj = l.toArray[j]'(by simpa using h2) := rfl
      rw [e, List.getElem_toArray, List.getD_eq_getElem?_getD, List.getElem?_eq_getElem h2]; rfl
    clear hS
    have HGX := Lib.hid hgx
    have HSZ := Lib.hid hsz
    have d1 : ¬ (S.size : Int) < 2 := by rw [hsz]; exact t1
    have d2 : ¬ (S.size : Int) > 3 := by rw [hsz]; exact t2
    have d3 : S.size ≤ 3 := by omega
    clear l2 l3 l4 hg hgx ho2 t1 t2 hsz
    rcases hob with ⟨e1, m, hm, e2, e3, e4⟩ | ⟨e1, e2⟩
    · have HN : Hid (∀ W, Below w.heap.size w W → Calls Tryd.prog 12 #[.int .u8 (m : Int)] W fun e w' => e = .returned (.tuple #[.string s, .int .i64 0]) ∧ W = w') := by
        intro W hb
        have := name_any m W hm (hT.below hb)
        rw [e3, e4] at this
        exact this
      rw [e1, e2] at HO
      clear e1 e2 e3 e4 hT
      go_enter Tryd.func7, Tryd.ntmps7
      go_wp2_with fail
      refine (HO.out _).mono ?_
      rintro e w2 ⟨rfl, hb2⟩
      have HB2 := Lib.hid hb2; clear hb2
      go_wp2_with fail
      refine (HN.out _ HB2.out).mono ?_
      rintro e w' ⟨rfl, rfl⟩
      go_wp2_with fail
      refine (HG.out _ HB2.out).mono ?_
      rintro e w' ⟨rfl, rfl⟩
      go_wp2
      go_loop [11] (fun iv => ∃ i : Nat, iv = .int .i64 (i : Int) ∧ i ≤ S.size) (fun iv => S.size - (intOf iv).toNat)
      case atStart => exact ⟨0, rfl, by omega⟩
      case round =>
        obtain ⟨i, rfl, hi⟩ := hrel
        by_cases hlt : i < S.size
        · have g1 : (i : Int) < (S.size : Int) := by omega
          have hb := HGX.out i hlt
          have hr := HL.out i (by rw [← HSZ.out]; exact hlt)
          rw [← hb] at hr
          have r1 : ¬ ((S[i]'hlt).toNat : Int) < 97 := by omega
          have r2 : ¬ ((S[i]'hlt).toNat : Int) > 122 := by omega
          clear hb hr
          go_wp2
          go_round
          case rel => exact ⟨i + 1, by simp, by omega⟩
          case measure => simp [intOf]; omega
        · obtain rfl : i = S.size := by omega
          go_wp2_with (go_at_call 16; refine (HK.out _ HB2.out).mono ?_; rintro e w3 ⟨rfl, hb3⟩; have HB3 := Lib.hid hb3; clear hb3)
          go_ret
          exact ⟨rfl, HB2.out.trans (HB3.out.mono HB2.out.size)⟩
    · rw [e1, e2] at HO
      clear e1 e2 hT
      go_enter Tryd.func7, Tryd.ntmps7
      go_wp2_with fail
      refine (HO.out _).mono ?_
      rintro e w2 ⟨rfl, hb2⟩
      have HB2 := Lib.hid hb2; clear hb2
      go_wp2_with fail
      refine (HG.out _ HB2.out).mono ?_
      rintro e w' ⟨rfl, rfl⟩
      go_wp2
      go_loop [11] (fun iv => ∃ i : Nat, iv = .int .i64 (i : Int) ∧ i ≤ S.size) (fun iv => S.size - (intOf iv).toNat)
      case atStart => exact ⟨0, rfl, by omega⟩
      case round =>
        obtain ⟨i, rfl, hi⟩ := hrel
        by_cases hlt : i < S.size
        · have g1 : (i : Int) < (S.size : Int) := by omega
          have hb := HGX.out i hlt
          have hr := HL.out i (by rw [← HSZ.out]; exact hlt)
          rw [← hb] at hr
          have r1 : ¬ ((S[i]'hlt).toNat : Int) < 97 := by omega
          have r2 : ¬ ((S[i]'hlt).toNat : Int) > 122 := by omega
          clear hb hr
          go_wp2
          go_round
          case rel => exact ⟨i + 1, by simp, by omega⟩
          case measure => simp [intOf]; omega
        · obtain rfl : i = S.size := by omega
          go_wp2_with (go_at_call 16; refine (HK.out _ HB2.out).mono ?_; rintro e w3 ⟨rfl, hb3⟩; have HB3 := Lib.hid hb3; clear hb3)
          go_ret
          exact ⟨rfl, HB2.out.trans (HB3.out.mono HB2.out.size)⟩
  · have h1 : (s.size : Int) > 100 := by omega
    go_enter Tryd.func7, Tryd.ntmps7
    go_wp2_with (go_at_call 16; refine (HK.out _ (Below.refl _ _)).mono ?_; rintro e w3 ⟨rfl, hb3⟩; have HB3 := Lib.hid hb3; clear hb3)
    go_ret
    exact ⟨rfl, HB3.out⟩
end L
end Go.Proofs.YtgnblodelaoaoaaDoor
