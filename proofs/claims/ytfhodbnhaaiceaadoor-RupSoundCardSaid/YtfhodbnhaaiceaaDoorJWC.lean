/- RupChecks: the walk. -/
import Derived.Test.YtfhodbnhaaiceaaDoorJWI
import Derived.Test.YtfhodbnhaaiceaaDoorQ28
import Derived.Test.YtfhodbnhaaiceaaDoorQ29
namespace Go.Proofs.YtfhodbnhaaiceaaDoor
open Go.RowKit RA
namespace L
open K
set_option maxRecDepth 100000

theorem lists_i64 {w : World} {v : Value} {L : List (List Int)} (h : ListsW .i64 w v L) : ∀ l ∈ L, ∀ x ∈ l, I64 x := fun l hl x hx => wf64 (h.wf l hl x hx)

set_option maxHeartbeats 16000000 in
theorem checks_walk5 (n : Int) (v : Value) (L8 : List (List Int)) (u : Value) (P : List (List Int)) (w : World) (ht : Tab w) (hn0 : (Lit.int .u8 n).wf = true) (hW : ListsW .i8 w v L8) (hP : ListsW .i64 w u P) :
    Calls Tryd.prog 4 #[.int .u8 n, v, u] w fun e w' => e = .returned (.bool true) ∧ Below w.heap.size w w' := by
  have hfit := fit_any n v L8 w hn0 hW
  obtain ⟨p, c, rfl⟩ : ∃ p c, v = .slice p L8.length c := by obtain ⟨p, c, h, _⟩ := hW; exact ⟨p, c, h⟩
  obtain ⟨pu, cu, rfl⟩ : ∃ p c, u = .slice p P.length c := by obtain ⟨p, c, h, _⟩ := hP; exact ⟨p, c, h⟩
  obtain ⟨V, hVd⟩ : ∃ V : Nat, (V : Int) = 1 + n % 12 := ⟨(1 + n % 12).toNat, by omega⟩
  have hV : 1 ≤ V ∧ V ≤ 12 := by omega
  rw [← hVd] at hfit
  have hl2 := lists_i64 hP
  have HP := Lib.hid hP
  have HL2 := Lib.hid hl2
  have HT := Lib.hid ht
  have HK : Hid (∀ W, Below w.heap.size w W → Calls Tryd.prog 13 #[] W fun e w' => e = .returned (.bool true) ∧ Below W.heap.size W w') := Lib.hid fun W hb => known5_any W (ht.below hb)
  clear hVd hn0 hW hP hl2 ht
  go_enter Tryd.func4, Tryd.ntmps4
  go_wp2_with fail
  refine hfit.mono ?_
  rintro e w1 ⟨r, rfl, hpost, hb1⟩
  refine Hid.out ?_
  refine Lib.hid ?_
  rcases hpost with ⟨hok, v', rfl, hown⟩ | ⟨hok, rfl⟩
  · by_cases h20 : P.length ≤ 20
    · have h20' : (P.length : Int) ≤ 20 := by omega
      have hL0 := fit_own hok hown
      have hF := fit_len (V := V) hok
      have HI := Lib.hid (fit_i64 (V := V) (L := L8) (by omega) (by omega))
      clear hown hok hfit
      generalize fitL V L8 = F at *
      obtain ⟨pv, cv, rfl⟩ : ∃ p c, v' = .slice p F.length c := by obtain ⟨p, c, h, _⟩ := hL0; exact ⟨p, c, h⟩
      obtain ⟨w2, hw2⟩ : ∃ W : World, w1.alloc (.cells #[.int .i64 V, .slice pv F.length cv] 26) = W := ⟨_, rfl⟩
      have hb12 : Below w1.heap.size w1 w2 := by rw [← hw2]; exact (Below.refl _ _).alloc (Nat.le_refl _) _
      have hb2 : Below w.heap.size w w2 := hb1.trans (hb12.mono hb1.size)
      have hx0 : w2.cell? ⟨w1.heap.size, 0, none⟩ = some (.int .i64 V) := by rw [← hw2]; simp
      have hx1 : w2.cell? ⟨w1.heap.size, 1, none⟩ = some (.slice pv F.length cv) := by rw [← hw2]; simp
      have HL : Hid (∀ W, Below w2.heap.size w2 W → Lists W (.slice pv F.length cv) F) := Lib.hid fun W hW => (hL0.below hb12).below hW
      have HB2 := Lib.hid hb2
      have HX0 := Lib.hid hx0
      have HX1 := Lib.hid hx1
      have hs2 : w1.heap.size < w2.heap.size := World.block_lt_of_cell? _ _ hx0
      have HV64 : Hid (I64 (V : Int)) := Lib.hid (by unfold I64; omega)
      have hcellP : 0 < P.length → ∃ b off, pu = some ⟨b, off, none⟩ ∧ ∀ j, j < P.length → ∃ u, w2.cell? ⟨b, off + j, none⟩ = some u ∧ ∃ pp cc, u = .slice pp (P.getD j []).length cc := by
        obtain ⟨pp, cc, he, _, _, h⟩ := HP.out
        injection he with he1 he2 he3
        subst he1
        intro h0
        obtain ⟨b, off, hp, hc⟩ := h h0
        refine ⟨b, off, hp, fun j hj => ?_⟩
        obtain ⟨u, hu, p2, c2, he, _⟩ := hc j hj
        exact ⟨u, (hb2.cell (p := ⟨b, off + j, none⟩) (World.block_lt_of_cell? _ _ hu)).trans hu, p2, c2, he⟩
      have HCP := Lib.hid hcellP
      clear hL0 hb12 hb2 hb1 hcellP hx0 hx1
      go_wp2
      clear hw2
      go_loopw [9] (fun i wr => ∃ k : Nat, k ≤ P.length ∧ i = .int .i64 k ∧ (∀ j, j < k → (P.getD j []).length ≤ 20) ∧ wr = w2) (fun i _ => P.length - (intOf i).toNat)
      case atStart => exact ⟨0, Nat.zero_le _, rfl, fun j hj => absurd hj (Nat.not_lt_zero _), rfl⟩
      case round =>
        obtain ⟨k, hk, rfl, hle, rfl⟩ := hrel
        have HLE := Lib.hid hle
        clear hle
        by_cases hlt : k < P.length
        · obtain ⟨b, off, rfl, e1⟩ := HCP.out (by omega)
          obtain ⟨u, hu, pp, cc, rfl⟩ := e1 k hlt
          obtain ⟨ln, hln⟩ : ∃ ln, (P.getD k []).length = ln := ⟨_, rfl⟩
          rw [hln] at hu
          have HLN := Lib.hid hln
          clear e1 hln
          by_cases hg : ln ≤ 20
          · have hg' : (ln : Int) ≤ 20 := by omega
            go_wp2
            go_roundw
            case rel =>
              refine ⟨k + 1, by omega, by go_num, fun j hj => ?_, by trivial⟩
              by_cases hjk : j = k
              · subst hjk; rw [HLN.out]; exact hg
              · exact HLE.out j (by omega)
            case measure => simp [intOf]; omega
          · have hg' : (20 : Int) < (ln : Int) := by omega
            have hkn := HK.out _ HB2.out
            go_wp2_with fail
            refine hkn.mono ?_
            rintro e w7 ⟨rfl, hb7⟩
            refine Hid.out ?_
            refine Lib.hid ?_
            have HB7 := Lib.hid (HB2.out.trans (hb7.mono HB2.out.size))
            clear hb7 hkn
            go_wp2
            go_ret
            exact ⟨rfl, HB7.out⟩
        · obtain rfl : k = P.length := by omega
          have hPL : Lists w (.slice pu P.length cu) P := HP.out.lists (by omega) (fun j hj => by have := HLE.out j hj; omega)
          have hcp := copyl_any _ P wr (hPL.below HB2.out)
          have HPL := Lib.hid hPL
          have HLE2 : Hid (∀ j, j < P.length → (P.getD j []).length * 8 ≤ 140737488351232) := Lib.hid fun j hj => by have := HLE.out j hj; omega
          clear hPL
          go_wp2_with fail
          refine hcp.mono ?_
          rintro e w3 ⟨vi, rfl, hoi, hb3⟩
          have hb03 := HB2.out.trans (hb3.mono HB2.out.size)
          have hin : Lists w3 vi P := hoi.lists (by omega) HLE2.out
          have hck := check5_any V _ F vi P w3 HV64.out HI.out (HL.out _ hb3) HL2.out hin (by omega) (by omega) (HT.out.below hb03)
          have y0 := (hb3.cell (p := ⟨w1.heap.size, 0, none⟩) hs2).trans HX0.out
          have y1 := (hb3.cell (p := ⟨w1.heap.size, 1, none⟩) hs2).trans HX1.out
          obtain ⟨pi, ci, rfl, _⟩ := id hin
          have HIN := Lib.hid hin
          have HB3 := Lib.hid hb3
          have HB03 := Lib.hid hb03
          clear hcp hoi hb3 hb03 hin
          go_wp2_with fail
          refine hck.mono ?_
          rintro e w4 ⟨rfl, hb4⟩
          have hb24 := HB3.out.trans (hb4.mono HB3.out.size)
          have hb04 := HB03.out.trans (hb4.mono HB03.out.size)
          have hrc := rcheck5_any V _ F _ P w4 HV64.out HI.out (HL.out _ hb24) HL2.out (HPL.out.below hb04) (by omega) (by omega)
          have z0 := (hb24.cell (p := ⟨w1.heap.size, 0, none⟩) hs2).trans HX0.out
          have z1 := (hb24.cell (p := ⟨w1.heap.size, 1, none⟩) hs2).trans HX1.out
          have HIN4 := Lib.hid (HIN.out.below hb4)
          have HB04 := Lib.hid hb04
          generalize checkA V F P = R at *
          obtain ⟨R1, R2⟩ := R
          have e2 : (R1 == R1) = true := by simp
          have e3 : (R2 == R2) = true := by simp
          clear hck hb4 hb24 hb04 y0 y1
          go_wp2_with fail
          refine hrc.mono ?_
          rintro e w5 ⟨rfl, hb5⟩
          have hb05 := HB04.out.trans (hb5.mono HB04.out.size)
          have heq := equall_any _ _ P P w5 (HIN4.out.below hb5) (HPL.out.below hb05)
          rw [decide_eq_true rfl] at heq
          have HB05 := Lib.hid hb05
          clear hrc hb5 hb05 z0 z1
          go_wp2_with fail
          refine heq.mono ?_
          rintro e w6 ⟨rfl, hb6⟩
          have hb06 := HB05.out.trans (hb6.mono HB05.out.size)
          have hkn := HK.out _ hb06
          have HB06 := Lib.hid hb06
          clear heq hb6 hb06
          go_wp2_with fail
          refine hkn.mono ?_
          rintro e w7 ⟨rfl, hb7⟩
          refine Hid.out ?_
          refine Lib.hid ?_
          have HB7 := Lib.hid (HB06.out.trans (hb7.mono HB06.out.size))
          clear hb7 hkn
          go_wp2
          go_ret
          exact ⟨rfl, HB7.out⟩
    · have h20' : (20 : Int) < (P.length : Int) := by omega
      have hB1 := hb1.alloc hb1.size (.cells #[.int .i64 V, v'] 26)
      have hk := HK.out _ hB1
      have HB1 := Lib.hid hB1
      obtain ⟨pv, cv, rfl⟩ : ∃ p c, v' = .slice p (fitL V L8).length c := by obtain ⟨p, c, h, _⟩ := fit_own hok hown; exact ⟨p, c, h⟩
      clear hown hok hfit hb1 hB1
      generalize (fitL V L8).length = ln at *
      go_wp2_with fail
      refine hk.mono ?_
      rintro e w7 ⟨rfl, hb7⟩
      refine Hid.out ?_
      refine Lib.hid ?_
      have HB7 := Lib.hid (HB1.out.trans (hb7.mono HB1.out.size))
      clear hb7 hk
      go_wp2
      go_ret
      exact ⟨rfl, HB7.out⟩
  · have hB1 := hb1.alloc hb1.size (.cells #[.int .i64 0, .slice none 0 0] 26)
    have hk := HK.out _ hB1
    have HB1 := Lib.hid hB1
    clear hok hfit hb1 hB1
    go_wp2_with fail
    refine hk.mono ?_
    rintro e w7 ⟨rfl, hb7⟩
    refine Hid.out ?_
    refine Lib.hid ?_
    have HB7 := Lib.hid (HB1.out.trans (hb7.mono HB1.out.size))
    clear hb7 hk
    go_wp2
    go_ret
    exact ⟨rfl, HB7.out⟩
end L
end Go.Proofs.YtfhodbnhaaiceaaDoor
