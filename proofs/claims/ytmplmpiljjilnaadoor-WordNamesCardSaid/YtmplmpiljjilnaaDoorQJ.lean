/- Apply in all its ways, both sides; Trim, Signed, Check. -/
import Derived.Test.YtmplmpiljjilnaaDoorQF
import Derived.Test.YtmplmpiljjilnaaDoorQI
namespace Go.Proofs.YtmplmpiljjilnaaDoor
open Go.RowKit
open L
namespace W9
set_option maxRecDepth 100000

theorem rcheckW_any (W : Int) (w : World) :
    Calls Tryd.prog 21 #[.int .i64 W] w fun e w' => e = .returned (.int .i64 (chkE W)) ∧ w = w' := by
  by_cases h : W < 1 ∨ 64 < W
  · have e : chkE W = 3 := if_pos h
    rw [e]; clear e
    by_cases h' : W < 1
    · clear h
      go_enter Tryd.func21, Tryd.ntmps21
      go_wp2
      go_ret
      exact ⟨rfl, rfl⟩
    · have h3 : W > 64 := by omega
      clear h
      go_enter Tryd.func21, Tryd.ntmps21
      go_wp2
      go_ret
      exact ⟨rfl, rfl⟩
  · have e : chkE W = 0 := if_neg h
    rw [e]; clear e
    have h' : ¬ W < 1 := by omega
    have h3 : ¬ W > 64 := by omega
    clear h
    go_enter Tryd.func21, Tryd.ntmps21
    go_wp2
    go_ret
    exact ⟨rfl, rfl⟩

theorem chk_cases (W : Int) : (chkE W = 3) ∨ (chkE W = 0 ∧ 1 ≤ W ∧ W ≤ 64) := by
  unfold chkE; split
  · exact .inl rfl
  · exact .inr ⟨rfl, by omega, by omega⟩
theorem tk_cases (o n : Nat) : tkE o n = 3 ∨ tkE o n = 2 ∨ (tkE o n = 0 ∧ 2 ≤ o ∧ o ≤ 21 ∧ (n = 1 ∨ n = 2 ∨ n = 3)) := by
  unfold tkE
  split
  · exact .inl rfl
  · split
    · next h h2 =>
      refine .inr (.inr ⟨rfl, by omega, by omega, ?_⟩)
      rcases ar_range o (by omega) (by omega) with h3 | h3 | h3 <;> rw [h3] at h2 <;> omega
    · exact .inr (.inl rfl)
theorem apE_bad {o : Nat} {W : Int} {l : List Nat} (h : chkE W ≠ 0) : apE o W l = chkE W := if_neg h
theorem apE_good {o : Nat} {W : Int} {l : List Nat} (h : chkE W = 0) : apE o W l = tkE o l.length := if_pos h
theorem apV_bad {o : Nat} {W : Int} {l : List Nat} (h : apE o W l ≠ 0) : apV o W l = 0 := if_neg h
theorem apV_good {o : Nat} {W : Nat} {l : List Nat} (h : apE o W l = 0) : apV o W l = ap W W o (args W l 0) (args W l 1) (args W l 2) := if_pos h

set_option maxHeartbeats 1000000 in
theorem apply_any (o : Nat) (W : Int) (l : List Nat) (v : Value) (w : World) (ho : o < 256) (hT : OpTab w) (hv : Words w v l) :
    Calls Tryd.prog 13 #[.int .u8 (o : Int), .int .i64 W, v] w fun e w' => e = .returned (.tuple #[.int .u64 ((apV o W l : Nat) : Int), .int .i64 (apE o W l)]) ∧ Below w.heap.size w w' := by
  have C1 := checkW_any W w
  rcases chk_cases W with h | ⟨h, h1, h2⟩
  · have e := apE_bad (o := o) (l := l) (W := W) (by rw [h]; decide)
    rw [h] at e
    rw [apV_bad (by rw [e]; decide), e]
    rw [h] at C1
    have HC1 := Lib.hid C1
    clear C1 e h hT
    go_enter Tryd.func13, Tryd.ntmps13
    go_wp2_with (go_at_call 20; refine (HC1.out).mono ?_; rintro e w' ⟨rfl, rfl⟩)
    go_ret2
    exact ⟨rfl, Below.refl _ _⟩
  · have e := apE_good (o := o) (l := l) h
    rcases tk_cases o l.length with k | k | ⟨k, o1, o2, hn⟩
    · rw [k] at e
      rw [apV_bad (by rw [e]; decide), e]
      rw [h] at C1
      have HC1 := Lib.hid C1
      have C2 := takes_any o l.length ho w hT
      rw [k] at C2
      have HC2 := Lib.hid C2
      obtain ⟨p, cap, rfl, _, hm, _, _⟩ := hv
      clear C1 C2 e h hT k
      go_enter Tryd.func13, Tryd.ntmps13
      go_wp2_with (first | (go_at_call 20; refine (HC1.out).mono ?_; rintro e w' ⟨rfl, rfl⟩) | (go_at_call 28; refine (HC2.out).mono ?_; rintro e w' ⟨rfl, rfl⟩))
      go_ret2
      exact ⟨rfl, Below.refl _ _⟩
    · rw [k] at e
      rw [apV_bad (by rw [e]; decide), e]
      rw [h] at C1
      have HC1 := Lib.hid C1
      have C2 := takes_any o l.length ho w hT
      rw [k] at C2
      have HC2 := Lib.hid C2
      obtain ⟨p, cap, rfl, _, hm, _, _⟩ := hv
      clear C1 C2 e h hT k
      go_enter Tryd.func13, Tryd.ntmps13
      go_wp2_with (first | (go_at_call 20; refine (HC1.out).mono ?_; rintro e w' ⟨rfl, rfl⟩) | (go_at_call 28; refine (HC2.out).mono ?_; rintro e w' ⟨rfl, rfl⟩))
      go_ret2
      exact ⟨rfl, Below.refl _ _⟩
    · obtain ⟨n, rfl⟩ : ∃ n : Nat, W = (n : Int) := ⟨W.toNat, by omega⟩
      rw [k] at e
      rw [apV_good e, e]
      exact apply_ok o n l v w o1 o2 (by omega) (by omega) hT hv hn k

set_option maxHeartbeats 4000000 in
theorem rapply_ok (o : Nat) (W : Nat) (l : List Nat) (v : Value) (w : World) (o1 : 2 ≤ o) (o2 : o ≤ 21) (h1 : 1 ≤ W) (h2 : W ≤ 64) (hv : Words w v l) (hn : l.length = 1 ∨ l.length = 2 ∨ l.length = 3) (htk : tkE o l.length = 0) :
    Calls Tryd.prog 15 #[.int .u8 (o : Int), .int .i64 (W : Int), v] w fun e w' => e = .returned (.tuple #[.int .u64 ((ap W W o (args W l 0) (args W l 1) (args W l 2) : Nat) : Int), .int .i64 0]) ∧ w = w' := by
  obtain ⟨p, cap, rfl, hl, hm, hx, hc⟩ := hv
  obtain ⟨b, off, rfl, e0⟩ := hc (by omega)
  clear hc
  have D1 := rcheckW_any (W : Int) w
  rw [show chkE (W : Int) = 0 from if_neg (by omega)] at D1
  have D2 := rarity_any o w (by omega)
  have e3 : arE o = 0 := by unfold arE; rw [if_pos (by omega)]
  have e4 : arA o = (l.length : Int) := by
    unfold tkE at htk
    rw [if_neg (by omega)] at htk
    by_cases hq : (l.length : Int) = arA o
    · exact hq.symm
    · rw [if_neg hq] at htk; exact absurd htk (by decide)
  rw [e3, e4] at D2
  have D3 := fun j => rtrim_any W (l.getD j 0) h1 h2 (getD_lt hx j)
  have hlow := rr_low (o := o) h1 h2 (args_lt W l 0) (args_lt W l 1) (args_lt W l 2)
  have hlt := rr_lt (W := W) (o := o) h2 (args_lt W l 0) (args_lt W l 1) (args_lt W l 2)
  have D4 := result_any o W (args W l 0) (args W l 1) (args W l 2) h1 h2 (args_lt W l 0) (args_lt W l 1) o1 o2
  have D5 := rtrim_any W (rr W o (args W l 0) (args W l 1) (args W l 2)) h1 h2 hlt
  rw [hlow] at D5
  have ho2 : ¬ (o : Int) < 2 := by omega
  have A1 : l.length = 1 → args W l 1 = 0 ∧ args W l 2 = 0 := fun h => by
    unfold args; rw [List.getD_eq_getElem?_getD, List.getD_eq_getElem?_getD, List.getElem?_eq_none (by omega), List.getElem?_eq_none (by omega)]; simp
  have A2 : l.length = 2 → args W l 2 = 0 := fun h => by
    unfold args; rw [List.getD_eq_getElem?_getD, List.getElem?_eq_none (by omega)]; simp
  have T0 := D3 0
  have T1 := D3 1
  have T2 := D3 2
  change ∀ w, Calls _ _ _ w fun e w' => e = .returned (.int .u64 ((args W l 0 : Nat) : Int)) ∧ w = w' at T0
  change ∀ w, Calls _ _ _ w fun e w' => e = .returned (.int .u64 ((args W l 1 : Nat) : Int)) ∧ w = w' at T1
  change ∀ w, Calls _ _ _ w fun e w' => e = .returned (.int .u64 ((args W l 2 : Nat) : Int)) ∧ w = w' at T2
  have c0 : 0 < l.length → w.cell? ⟨b, off, none⟩ = some (.int .u64 ((l.getD 0 0 : Nat) : Int)) := fun h => e0 0 h
  have c1 := e0 1
  have c2 := e0 2
  clear D3 hlow hlt e0 htk e3 e4 o1 o2
  generalize rr W o (args W l 0) (args W l 1) (args W l 2) = r1 at *
  generalize ap W W o (args W l 0) (args W l 1) (args W l 2) = r2 at *
  generalize args W l 0 = a0 at *
  generalize args W l 1 = a1 at *
  generalize args W l 2 = a2 at *
  generalize l.getD 0 0 = x0 at *
  generalize l.getD 1 0 = x1 at *
  generalize l.getD 2 0 = x2 at *
  have HD1 := Lib.hid D1
  have HD2 := Lib.hid D2
  have HD4 := Lib.hid D4
  have HD5 := Lib.hid D5
  have HT0 := Lib.hid T0
  have HT1 := Lib.hid T1
  have HT2 := Lib.hid T2
  clear D1 D2 D4 D5 T0 T1 T2 hx
  rcases hn with hn | hn | hn
  · obtain ⟨rfl, rfl⟩ := A1 hn
    have c0 := c0 (by omega)
    rw [hn] at HD2 ⊢
    clear A1 A2 hn c1 c2
    go_enter Tryd.func15, Tryd.ntmps15
    go_wp2_with (first
      | (go_at_call 21; with_reducible refine (HD1.out).mono ?_; rintro e w' ⟨rfl, rfl⟩)
      | (go_at_call 31; refine (HD2.out).mono ?_; rintro e w' ⟨rfl, rfl⟩)
      | (go_at_call 32; first | (with_reducible refine (HT0.out _).mono ?_; rintro e w' ⟨rfl, rfl⟩) | (with_reducible refine (HD5.out _).mono ?_; rintro e w' ⟨rfl, rfl⟩))
      | (go_at_call 33; refine (HD4.out _).mono ?_; rintro e w' ⟨rfl, rfl⟩))
    go_ret2
    exact ⟨rfl, rfl⟩
  · obtain rfl := A2 hn
    have c0 := c0 (by omega)
    have c1 := c1 (by omega)
    rw [hn] at HD2 ⊢
    clear A1 A2 hn c2
    go_enter Tryd.func15, Tryd.ntmps15
    go_wp2_with (first
      | (go_at_call 21; with_reducible refine (HD1.out).mono ?_; rintro e w' ⟨rfl, rfl⟩)
      | (go_at_call 31; refine (HD2.out).mono ?_; rintro e w' ⟨rfl, rfl⟩)
      | (go_at_call 32; first | (with_reducible refine (HT0.out _).mono ?_; rintro e w' ⟨rfl, rfl⟩) | (with_reducible refine (HT1.out _).mono ?_; rintro e w' ⟨rfl, rfl⟩) | (with_reducible refine (HD5.out _).mono ?_; rintro e w' ⟨rfl, rfl⟩))
      | (go_at_call 33; refine (HD4.out _).mono ?_; rintro e w' ⟨rfl, rfl⟩))
    go_ret2
    exact ⟨rfl, rfl⟩
  · have c0 := c0 (by omega)
    have c1 := c1 (by omega)
    have c2 := c2 (by omega)
    rw [hn] at HD2 ⊢
    clear A1 A2 hn
    go_enter Tryd.func15, Tryd.ntmps15
    go_wp2_with (first
      | (go_at_call 21; with_reducible refine (HD1.out).mono ?_; rintro e w' ⟨rfl, rfl⟩)
      | (go_at_call 31; refine (HD2.out).mono ?_; rintro e w' ⟨rfl, rfl⟩)
      | (go_at_call 32; first | (with_reducible refine (HT0.out _).mono ?_; rintro e w' ⟨rfl, rfl⟩) | (with_reducible refine (HT1.out _).mono ?_; rintro e w' ⟨rfl, rfl⟩) | (with_reducible refine (HT2.out _).mono ?_; rintro e w' ⟨rfl, rfl⟩) | (with_reducible refine (HD5.out _).mono ?_; rintro e w' ⟨rfl, rfl⟩))
      | (go_at_call 33; refine (HD4.out _).mono ?_; rintro e w' ⟨rfl, rfl⟩))
    go_ret2
    exact ⟨rfl, rfl⟩

set_option maxHeartbeats 1000000 in
theorem rapply_any (o : Nat) (W : Int) (l : List Nat) (v : Value) (w : World) (ho : o < 256) (hv : Words w v l) :
    Calls Tryd.prog 15 #[.int .u8 (o : Int), .int .i64 W, v] w fun e w' => e = .returned (.tuple #[.int .u64 ((apV o W l : Nat) : Int), .int .i64 (apE o W l)]) ∧ w = w' := by
  have C1 := rcheckW_any W w
  rcases chk_cases W with h | ⟨h, h1, h2⟩
  · have e := apE_bad (o := o) (l := l) (W := W) (by rw [h]; decide)
    rw [h] at e
    rw [apV_bad (by rw [e]; decide), e]
    rw [h] at C1
    have HC1 := Lib.hid C1
    clear C1 e h
    go_enter Tryd.func15, Tryd.ntmps15
    go_wp2_with (go_at_call 21; refine (HC1.out).mono ?_; rintro e w' ⟨rfl, rfl⟩)
    go_ret2
    exact ⟨rfl, rfl⟩
  · have e := apE_good (o := o) (l := l) h
    rw [h] at C1
    have HC1 := Lib.hid C1
    have HC2 := Lib.hid (rarity_any o w ho)
    clear C1
    by_cases k0 : tkE o l.length = 0
    · rcases tk_cases o l.length with k | k | ⟨k, o1, o2, hn⟩
      · rw [k0] at k; exact absurd k (by decide)
      · rw [k0] at k; exact absurd k (by decide)
      · obtain ⟨n, rfl⟩ : ∃ n : Nat, W = (n : Int) := ⟨W.toNat, by omega⟩
        rw [k] at e
        rw [apV_good e, e]
        exact rapply_ok o n l v w o1 o2 (by omega) (by omega) hv hn k
    · obtain ⟨p, cap, rfl, _, hm, _, _⟩ := hv
      rcases tk_eq o l.length ho with ⟨k1, k⟩ | ⟨k1, k⟩ | ⟨k1, k2, k3, k⟩
      · rw [k] at e
        rw [apV_bad (by rw [e]; decide), e]
        have e1 : arE o = 0 := by unfold arE; rw [if_pos (by omega)]
        rw [e1] at HC2
        have g : (o : Int) < 2 := by omega
        clear e h k k0 e1
        generalize arA o = q at *
        go_enter Tryd.func15, Tryd.ntmps15
        go_wp2_with (first | (go_at_call 21; refine (HC1.out).mono ?_; rintro e w' ⟨rfl, rfl⟩) | (go_at_call 31; refine (HC2.out).mono ?_; rintro e w' ⟨rfl, rfl⟩))
        go_ret2
        exact ⟨rfl, rfl⟩
      · rw [k] at e
        rw [apV_bad (by rw [e]; decide), e]
        have e1 : arE o = 3 := by unfold arE; rw [if_neg (by omega)]
        rw [e1] at HC2
        clear e h k k0 e1
        generalize arA o = q at *
        go_enter Tryd.func15, Tryd.ntmps15
        go_wp2_with (first | (go_at_call 21; refine (HC1.out).mono ?_; rintro e w' ⟨rfl, rfl⟩) | (go_at_call 31; refine (HC2.out).mono ?_; rintro e w' ⟨rfl, rfl⟩))
        go_ret2
        exact ⟨rfl, rfl⟩
      · rw [k] at e k0
        by_cases hq : (l.length : Int) = arA o
        · rw [if_pos hq] at k0; exact absurd rfl k0
        · rw [if_neg hq] at e
          rw [apV_bad (by rw [e]; decide), e]
          rw [k3] at HC2
          have g : ¬ (o : Int) < 2 := by omega
          have e2 : ((l.length : Int) != arA o) = true := by simp [hq]
          clear e h k k0 k3 hq
          generalize arA o = q at *
          go_enter Tryd.func15, Tryd.ntmps15
          go_wp2_with (first | (go_at_call 21; refine (HC1.out).mono ?_; rintro e w' ⟨rfl, rfl⟩) | (go_at_call 31; refine (HC2.out).mono ?_; rintro e w' ⟨rfl, rfl⟩))
          go_ret2
          exact ⟨rfl, rfl⟩
end W9
end Go.Proofs.YtmplmpiljjilnaaDoor
