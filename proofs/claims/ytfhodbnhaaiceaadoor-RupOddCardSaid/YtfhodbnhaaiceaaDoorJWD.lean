/- RupOdd: the walk. -/
import Derived.Test.YtfhodbnhaaiceaaDoorJWC
import Derived.Test.YtfhodbnhaaiceaaDoorQ25
namespace Go.Proofs.YtfhodbnhaaiceaaDoor
open Go.RowKit RA
namespace L
open K
set_option maxRecDepth 100000

set_option maxHeartbeats 16000000 in
theorem odd_walk5 (n : Int) (v : Value) (cs : List (List Int)) (u : Value) (A : List Int) (w : World) (ht : Tab w) (hn0 : (Lit.int .i64 n).wf = true) (hW : ListsW .i64 w v cs) (hA : IntsW .i64 w u A) :
    Calls Tryd.prog 5 #[.agg #[.int .i64 n, v], u] w fun e w' => e = .returned (.bool true) ∧ Below w.heap.size w w' := by
  have hn := wf64 hn0
  have hl : ∀ l ∈ cs, ∀ x ∈ l, I64 x := fun l h x hx => wf64 (hW.wf l h x hx)
  have hl2 := ints_i64 hA
  have hsm := fun W (hb : Below w.heap.size w W) => small_any n v cs W (hW.below hb)
  obtain ⟨p, c, rfl⟩ : ∃ p c, v = .slice p cs.length c := by obtain ⟨p, c, h, _⟩ := hW; exact ⟨p, c, h⟩
  obtain ⟨pu, cu, rfl⟩ : ∃ p c, u = .slice p A.length c := by obtain ⟨p, c, h, _⟩ := hA; exact ⟨p, c, h⟩
  have HS := Lib.hid hsm
  have HK : Hid (∀ W, Below w.heap.size w W → Calls Tryd.prog 13 #[] W fun e w' => e = .returned (.bool true) ∧ Below W.heap.size W w') := Lib.hid fun W hb => known5_any W (ht.below hb)
  by_cases hgood : smallB cs = true ∧ A.length ≤ 20 ∧ n ≤ 500
  · obtain ⟨hs, hA20, hn5⟩ := hgood
    have hI := ListsW.small hW hs
    have hAI := hA.ints (by omega)
    have h60 : cs.length ≤ 60 := by unfold smallB at hs; simp at hs; omega
    rw [hs] at HS
    have H1 : Hid (∀ W, Below w.heap.size w W → Calls Tryd.prog 14 #[.agg #[.int .i64 n, .slice p cs.length c], .slice pu A.length cu] W fun e w' => e = .returned (.tuple #[.bool (impliedR n cs A).1, .int .i64 (impliedR n cs A).2]) ∧ Below W.heap.size W w') := Lib.hid fun W hb => implied_any n _ cs _ A W hn hl (hI.below hb) hl2 (hAI.below hb) (by omega) (by omega)
    have H2 : Hid (∀ W, Below w.heap.size w W → Calls Tryd.prog 16 #[.agg #[.int .i64 n, .slice p cs.length c], .slice pu A.length cu] W fun e w' => e = .returned (.tuple #[.bool (impliedR n cs A).1, .int .i64 (impliedR n cs A).2]) ∧ Below W.heap.size W w') := Lib.hid fun W hb => rimplied_any n _ cs _ A W hn hl (hI.below hb) hl2 (hAI.below hb)
    have hl3 : ∀ d ∈ [A], ∀ x ∈ d, I64 x := fun d hd => by simp at hd; subst hd; exact hl2
    have H3 : Hid (∀ W, Below w.heap.size w W → Calls Tryd.prog 18 #[.agg #[.int .i64 n, .slice p cs.length c], .slice (some ⟨W.heap.size, 0, none⟩) 1 1] (W.alloc (.cells #[.slice pu A.length cu] 23)) fun e w' => e = .returned (.tuple #[.int .i64 (checkA n cs [A]).1, .int .i64 (checkA n cs [A]).2]) ∧ Below W.heap.size W w') := Lib.hid fun W hb => by
      have h0 : Below W.heap.size W (W.alloc (.cells #[.slice pu A.length cu] 23)) := (Below.refl _ _).alloc (Nat.le_refl _) _
      refine (check5_any n _ cs _ [A] _ hn hl ((hI.below hb).below h0) hl3 (lists_one (Box.new W _ _) ((hAI.below hb).below h0)) (by omega) (by simp) ((ht.below hb).below h0)).mono fun e w' h => ⟨h.1, h0.trans (h.2.mono h0.size)⟩
    have H4 : Hid (∀ W, Below w.heap.size w W → Calls Tryd.prog 19 #[.agg #[.int .i64 n, .slice p cs.length c], .slice (some ⟨W.heap.size, 0, none⟩) 1 1] (W.alloc (.cells #[.slice pu A.length cu] 23)) fun e w' => e = .returned (.tuple #[.int .i64 (checkA n cs [A]).1, .int .i64 (checkA n cs [A]).2]) ∧ Below W.heap.size W w') := Lib.hid fun W hb => by
      have h0 : Below W.heap.size W (W.alloc (.cells #[.slice pu A.length cu] 23)) := (Below.refl _ _).alloc (Nat.le_refl _) _
      refine (rcheck5_any n _ cs _ [A] _ hn hl ((hI.below hb).below h0) hl3 (lists_one (Box.new W _ _) ((hAI.below hb).below h0)) (by omega) (by simp)).mono fun e w' h => ⟨h.1, h0.trans (h.2.mono h0.size)⟩
    have hA20' : (A.length : Int) ≤ 20 := by omega
    generalize impliedR n cs A = R at *
    generalize checkA n cs [A] = Q at *
    obtain ⟨R1, R2⟩ := R
    obtain ⟨Q1, Q2⟩ := Q
    have e1 : (R1 == R1) = true := by simp
    have e2 : (R2 == R2) = true := by simp
    have e3 : (Q1 == Q1) = true := by simp
    have e4 : (Q2 == Q2) = true := by simp
    clear hsm hI hAI hW hA hn hl hl2 hl3 hs hn0 hA20 ht
    go_enter Tryd.func5, Tryd.ntmps5
    go_wp2_with fail
    refine (HS.out _ ((Below.refl _ _).alloc (Nat.le_refl _) _)).mono ?_
    rintro e w1 ⟨rfl, hb1⟩
    refine Hid.out ?_
    refine Lib.hid ?_
    have HB1 : Hid (Below w.heap.size w w1) := Lib.hid (((Below.refl _ w).alloc (Nat.le_refl _) _).trans (hb1.mono (by simp)))
    have xa1 : w1.cell? ⟨w.heap.size, 0, none⟩ = some (.int .i64 n) := (hb1.cell (p := ⟨w.heap.size, 0, none⟩) (by simp)).trans (by simp)
    have xb1 : w1.cell? ⟨w.heap.size, 1, none⟩ = some (.slice p cs.length c) := (hb1.cell (p := ⟨w.heap.size, 1, none⟩) (by simp)).trans (by simp)
    have xl1 : w.heap.size < w1.heap.size := World.block_lt_of_cell? _ _ xa1
    clear hb1
    go_wp2_with fail
    refine (H1.out _ HB1.out).mono ?_
    rintro e w2 ⟨rfl, hb2⟩
    refine Hid.out ?_
    refine Lib.hid ?_
    have HB2 := Lib.hid (HB1.out.trans (hb2.mono HB1.out.size))
    have xa2 := (hb2.cell (p := ⟨w.heap.size, 0, none⟩) xl1).trans xa1
    have xb2 := (hb2.cell (p := ⟨w.heap.size, 1, none⟩) xl1).trans xb1
    have xl2 : w.heap.size < w2.heap.size := Nat.lt_of_lt_of_le xl1 hb2.size
    clear hb2 xa1 xb1 xl1
    go_wp2_with fail
    refine (H2.out _ HB2.out).mono ?_
    rintro e w3 ⟨rfl, hb3⟩
    refine Hid.out ?_
    refine Lib.hid ?_
    have HB3 := Lib.hid (HB2.out.trans (hb3.mono HB2.out.size))
    have xa3 := (hb3.cell (p := ⟨w.heap.size, 0, none⟩) xl2).trans xa2
    have xb3 := (hb3.cell (p := ⟨w.heap.size, 1, none⟩) xl2).trans xb2
    have xl3 : w.heap.size < w3.heap.size := Nat.lt_of_lt_of_le xl2 hb3.size
    clear hb3 xa2 xb2 xl2
    go_wp2_with fail
    refine (H3.out _ HB3.out).mono ?_
    rintro e w4 ⟨rfl, hb4⟩
    refine Hid.out ?_
    refine Lib.hid ?_
    have HB4 := Lib.hid (HB3.out.trans (hb4.mono HB3.out.size))
    have xa4 := (hb4.cell (p := ⟨w.heap.size, 0, none⟩) xl3).trans xa3
    have xb4 := (hb4.cell (p := ⟨w.heap.size, 1, none⟩) xl3).trans xb3
    have xl4 : w.heap.size < w4.heap.size := Nat.lt_of_lt_of_le xl3 hb4.size
    clear hb4 xa3 xb3 xl3
    go_wp2_with fail
    refine (H4.out _ HB4.out).mono ?_
    rintro e w5 ⟨rfl, hb5⟩
    refine Hid.out ?_
    refine Lib.hid ?_
    have HB5 := Lib.hid (HB4.out.trans (hb5.mono HB4.out.size))
    have xa5 := (hb5.cell (p := ⟨w.heap.size, 0, none⟩) xl4).trans xa4
    have xb5 := (hb5.cell (p := ⟨w.heap.size, 1, none⟩) xl4).trans xb4
    have xl5 : w.heap.size < w5.heap.size := Nat.lt_of_lt_of_le xl4 hb5.size
    clear hb5 xa4 xb4 xl4
    go_wp2_with fail
    refine (HK.out _ HB5.out).mono ?_
    rintro e w6 ⟨rfl, hb6⟩
    refine Hid.out ?_
    refine Lib.hid ?_
    have HB6 := Lib.hid (HB5.out.trans (hb6.mono HB5.out.size))
    clear hb6
    go_wp2
    go_ret
    exact ⟨rfl, HB6.out⟩
  · clear hsm hW hA hl hl2 hn0 ht
    cases hs : smallB cs with
    | false =>
      rw [hs] at HS
      clear hgood hs
      go_enter Tryd.func5, Tryd.ntmps5
      go_wp2_with fail
      refine (HS.out _ ((Below.refl _ _).alloc (Nat.le_refl _) _)).mono ?_
      rintro e w1 ⟨rfl, hb1⟩
      refine Hid.out ?_
      refine Lib.hid ?_
      have HB1 : Hid (Below w.heap.size w w1) := Lib.hid (((Below.refl _ w).alloc (Nat.le_refl _) _).trans (hb1.mono (by simp)))
      clear hb1
      go_wp2_with fail
      refine (HK.out _ HB1.out).mono ?_
      rintro e w5 ⟨rfl, hb5⟩
      refine Hid.out ?_
      refine Lib.hid ?_
      have HB5 := Lib.hid (HB1.out.trans (hb5.mono HB1.out.size))
      clear hb5
      go_wp2
      go_ret
      exact ⟨rfl, HB5.out⟩
    | true =>
      rw [hs] at HS
      by_cases h20 : (20 : Int) < (A.length : Int)
      · clear hgood hs
        go_enter Tryd.func5, Tryd.ntmps5
        go_wp2_with fail
        refine (HS.out _ ((Below.refl _ _).alloc (Nat.le_refl _) _)).mono ?_
        rintro e w1 ⟨rfl, hb1⟩
        refine Hid.out ?_
        refine Lib.hid ?_
        have HB1 : Hid (Below w.heap.size w w1) := Lib.hid (((Below.refl _ w).alloc (Nat.le_refl _) _).trans (hb1.mono (by simp)))
        clear hb1
        go_wp2_with fail
        refine (HK.out _ HB1.out).mono ?_
        rintro e w5 ⟨rfl, hb5⟩
        refine Hid.out ?_
        refine Lib.hid ?_
        have HB5 := Lib.hid (HB1.out.trans (hb5.mono HB1.out.size))
        clear hb5
        go_wp2
        go_ret
        exact ⟨rfl, HB5.out⟩
      · have h500 : (500 : Int) < n := Classical.byContradiction fun h => hgood ⟨hs, by omega, by omega⟩
        clear hgood hs
        go_enter Tryd.func5, Tryd.ntmps5
        go_wp2_with fail
        refine (HS.out _ ((Below.refl _ _).alloc (Nat.le_refl _) _)).mono ?_
        rintro e w1 ⟨rfl, hb1⟩
        refine Hid.out ?_
        refine Lib.hid ?_
        have HB1 : Hid (Below w.heap.size w w1) := Lib.hid (((Below.refl _ w).alloc (Nat.le_refl _) _).trans (hb1.mono (by simp)))
        have hx0 : w1.cell? ⟨w.heap.size, 0, none⟩ = some (.int .i64 n) := (hb1.cell (p := ⟨w.heap.size, 0, none⟩) (by simp)).trans (by simp)
        clear hb1
        go_wp2_with fail
        refine (HK.out _ HB1.out).mono ?_
        rintro e w5 ⟨rfl, hb5⟩
        refine Hid.out ?_
        refine Lib.hid ?_
        have HB5 := Lib.hid (HB1.out.trans (hb5.mono HB1.out.size))
        clear hb5
        go_wp2
        go_ret
        exact ⟨rfl, HB5.out⟩
end L
end Go.Proofs.YtfhodbnhaaiceaaDoor
