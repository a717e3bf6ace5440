/- PropOdd: the walk. -/
import Derived.Test.YtoffhaamkhfdeaaLU
import Derived.Test.YtoffhaamkhfdeaaRP
import Derived.Test.YtoffhaamkhfdeaaXI
namespace Go.Proofs.Ytoffhaamkhfdeaa
open Go.RowKit Go.Conc
namespace L
open K

theorem IntsW.i64 {w : World} {v : Value} {l : List Int} (h : IntsW .i64 w v l) : ∀ x ∈ l, I64 x := by
  obtain ⟨p, c, _, _, _, hw, _⟩ := h
  exact fun x hx => wf64 (hw x hx)

set_option maxHeartbeats 4000000 in
theorem odd_walk (n : Int) (v : Value) (cs : List (List Int)) (u : Value) (A : List Int) (w : World) (hn0 : (Lit.int .i64 n).wf = true) (hW : ListsW .i64 w v cs) (hA : IntsW .i64 w u A) :
    Calls Try.prog 4 #[.agg #[.int .i64 n, v], u] w fun e w' => e = .returned (.bool true) ∧ Below w.heap.size w w' := by
  have hn := wf64 hn0
  have hl : ∀ l ∈ cs, ∀ x ∈ l, I64 x := fun l h x hx => wf64 (hW.wf l h x hx)
  have hl2 := IntsW.i64 hA
  have hsm := fun W (hb : Below w.heap.size w W) => small_any n v cs W (hW.below hb)
  obtain ⟨p, c, rfl⟩ : ∃ p c, v = .slice p cs.length c := by obtain ⟨p, c, h, _⟩ := hW; exact ⟨p, c, h⟩
  obtain ⟨pu, cu, rfl⟩ : ∃ p c, u = .slice p A.length c := by obtain ⟨p, c, h, _⟩ := hA; exact ⟨p, c, h⟩
  have HS := Lib.hid hsm
  by_cases hgood : smallB cs = true ∧ A.length ≤ 20 ∧ n ≤ 500
  · obtain ⟨hs, hA20, hn5⟩ := hgood
    have hI := ListsW.small hW hs
    have hAI := hA.ints (by omega)
    rw [hs] at HS
    have H1 : Hid (∀ W, Below w.heap.size w W → Calls Try.prog 13 #[.agg #[.int .i64 n, .slice p cs.length c], .slice pu A.length cu] W fun e w' => ∃ r, e = .returned r ∧ UPost W w' n cs A r ∧ Below W.heap.size W w') := Lib.hid fun W hb => punits_any n _ cs _ A W hn hl (hI.below hb) hl2 (hAI.below hb)
    have H2 : Hid (∀ W, Below w.heap.size w W → Calls Try.prog 15 #[.agg #[.int .i64 n, .slice p cs.length c], .slice pu A.length cu] W fun e w' => ∃ r, e = .returned r ∧ UPost W w' n cs A r ∧ Below W.heap.size W w') := Lib.hid fun W hb => runits_any n _ cs _ A W hn hl (hI.below hb) hl2 (hAI.below hb)
    have hA20' : (A.length : Int) ≤ 20 := by omega
    clear hsm hI hAI hW hA hn hl hl2 hs hn0 hA20
    go_enter Try.func4, Try.ntmps4
    go_wp2_with fail
    refine (HS.out _ ((Below.refl _ _).alloc (Nat.le_refl _) _)).mono ?_
    rintro e w1 ⟨rfl, hb1⟩
    refine Hid.out ?_
    refine Lib.hid ?_
    have HB1 : Hid (Below w.heap.size w w1) := Lib.hid (((Below.refl _ w).alloc (Nat.le_refl _) _).trans (hb1.mono (by simp)))
    have hx0 : w1.cell? ⟨w.heap.size, 0, none⟩ = some (.int .i64 n) := (hb1.cell (p := ⟨w.heap.size, 0, none⟩) (by simp)).trans (by simp)
    have hx1 : w1.cell? ⟨w.heap.size, 1, none⟩ = some (.slice p cs.length c) := (hb1.cell (p := ⟨w.heap.size, 1, none⟩) (by simp)).trans (by simp)
    have hlt : w.heap.size < w1.heap.size := World.block_lt_of_cell? _ _ hx0
    clear hb1
    go_wp2_with fail
    refine (H1.out _ HB1.out).mono ?_
    rintro e w2 ⟨r, rfl, hp, hb2⟩
    refine Hid.out ?_
    refine Lib.hid ?_
    obtain ⟨vl, rfl, ho, hlen⟩ := upost_r hp
    have HB2 := Lib.hid (HB1.out.trans (hb2.mono HB1.out.size))
    have hy0 := (hb2.cell (p := ⟨w.heap.size, 0, none⟩) hlt).trans hx0
    have hy1 := (hb2.cell (p := ⟨w.heap.size, 1, none⟩) hlt).trans hx1
    have HI1 := Lib.hid (ho.ints (by omega))
    obtain ⟨⟨R1, R2, R3⟩, eR⟩ : ∃ R, unitsR n cs A = R := ⟨_, rfl⟩
    rw [eR] at HI1
    have HER := Lib.hid eR
    simp only [eR]
    clear hp ho hlen hb2 hx0 hx1 eR
    go_wp2_with fail
    refine (H2.out _ HB2.out).mono ?_
    rintro e w3 ⟨r, rfl, hp, hb3⟩
    refine Hid.out ?_
    refine Lib.hid ?_
    obtain ⟨vl2, rfl, ho, hlen⟩ := upost_r hp
    have HB3 := Lib.hid (HB2.out.trans (hb3.mono HB2.out.size))
    have hI2 := ho.ints (by omega)
    rw [HER.out] at hI2
    simp only [HER.out]
    have he := equal_any vl vl2 R1 R1 w3 (HI1.out.below hb3) hI2
    rw [decide_eq_true rfl] at he
    clear hp ho hlen hb3 hI2 hy0 hy1
    go_wp2_with fail
    refine he.mono ?_
    rintro e w4 ⟨rfl, hb4⟩
    refine Hid.out ?_
    refine Lib.hid ?_
    have HB4 := Lib.hid (HB3.out.trans (hb4.mono HB3.out.size))
    have e2 : (R2 == R2) = true := by simp
    have e3 : (R3 == R3) = true := by simp
    clear hb4 he
    go_wp2_with fail
    refine (known4_any _).mono ?_
    rintro e w5 ⟨rfl, hb5⟩
    refine Hid.out ?_
    refine Lib.hid ?_
    have HB5 := Lib.hid (HB4.out.trans (hb5.mono HB4.out.size))
    clear hb5
    go_wp2
    go_ret
    exact ⟨rfl, HB5.out⟩
  · clear hsm hW hA hl hl2 hn0
    cases hs : smallB cs with
    | false =>
      rw [hs] at HS
      clear hgood hs
      go_enter Try.func4, Try.ntmps4
      go_wp2_with fail
      refine (HS.out _ ((Below.refl _ _).alloc (Nat.le_refl _) _)).mono ?_
      rintro e w1 ⟨rfl, hb1⟩
      refine Hid.out ?_
      refine Lib.hid ?_
      have HB1 : Hid (Below w.heap.size w w1) := Lib.hid (((Below.refl _ w).alloc (Nat.le_refl _) _).trans (hb1.mono (by simp)))
      clear hb1
      go_wp2_with fail
      refine (known4_any _).mono ?_
      rintro e w5 ⟨rfl, hb5⟩
      refine Hid.out ?_
      refine Lib.hid ?_
      have HB5 := Lib.hid (HB1.out.trans (hb5.mono HB1.out.size))
      clear hb5
      go_wp2
      go_ret
      exact ⟨rfl, HB5.out⟩
    | true =>
      rw [hs] at HS
      by_cases h20 : (20 : Int) < (A.length : Int)
      · clear hgood hs
        go_enter Try.func4, Try.ntmps4
        go_wp2_with fail
        refine (HS.out _ ((Below.refl _ _).alloc (Nat.le_refl _) _)).mono ?_
        rintro e w1 ⟨rfl, hb1⟩
        refine Hid.out ?_
        refine Lib.hid ?_
        have HB1 : Hid (Below w.heap.size w w1) := Lib.hid (((Below.refl _ w).alloc (Nat.le_refl _) _).trans (hb1.mono (by simp)))
        clear hb1
        go_wp2_with fail
        refine (known4_any _).mono ?_
        rintro e w5 ⟨rfl, hb5⟩
        refine Hid.out ?_
        refine Lib.hid ?_
        have HB5 := Lib.hid (HB1.out.trans (hb5.mono HB1.out.size))
        clear hb5
        go_wp2
        go_ret
        exact ⟨rfl, HB5.out⟩
      · have h500 : (500 : Int) < n := Classical.byContradiction fun h => hgood ⟨hs, by omega, by omega⟩
        clear hgood hs
        go_enter Try.func4, Try.ntmps4
        go_wp2_with fail
        refine (HS.out _ ((Below.refl _ _).alloc (Nat.le_refl _) _)).mono ?_
        rintro e w1 ⟨rfl, hb1⟩
        refine Hid.out ?_
        refine Lib.hid ?_
        have HB1 : Hid (Below w.heap.size w w1) := Lib.hid (((Below.refl _ w).alloc (Nat.le_refl _) _).trans (hb1.mono (by simp)))
        have hx0 : w1.cell? ⟨w.heap.size, 0, none⟩ = some (.int .i64 n) := (hb1.cell (p := ⟨w.heap.size, 0, none⟩) (by simp)).trans (by simp)
        clear hb1
        go_wp2_with fail
        refine (known4_any _).mono ?_
        rintro e w5 ⟨rfl, hb5⟩
        refine Hid.out ?_
        refine Lib.hid ?_
        have HB5 := Lib.hid (HB1.out.trans (hb5.mono HB1.out.size))
        clear hb5
        go_wp2
        go_ret
        exact ⟨rfl, HB5.out⟩
end L
end Go.Proofs.Ytoffhaamkhfdeaa
