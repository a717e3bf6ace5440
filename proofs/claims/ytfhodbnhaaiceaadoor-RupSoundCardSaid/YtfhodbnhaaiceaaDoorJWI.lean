/- RupImplies: the walk. -/
import Derived.Test.YtfhodbnhaaiceaaDoorQ26
import Derived.Test.YtfhodbnhaaiceaaDoorQ27
import Derived.Test.YtfhodbnhaaiceaaDoorQ20
import Derived.Deep.RegionHeld3
namespace Go.Proofs.YtfhodbnhaaiceaaDoor
open Go.RowKit RA
namespace L
open K
set_option maxRecDepth 100000

set_option maxHeartbeats 8000000 in
theorem implies_walk (n : Int) (v : Value) (L8 : List (List Int)) (u : Value) (A : List Int) (w : World) (ht : Tab w) (hn0 : (Lit.int .u8 n).wf = true) (hW : ListsW .i8 w v L8) (hA : IntsW .i64 w u A) :
    Calls Tryd.prog 3 #[.int .u8 n, v, u] w fun e w' => e = .returned (.bool true) ∧ Below w.heap.size w w' := by
  have hfit := fit_any n v L8 w hn0 hW
  obtain ⟨p, c, rfl⟩ : ∃ p c, v = .slice p L8.length c := by obtain ⟨p, c, h, _⟩ := hW; exact ⟨p, c, h⟩
  obtain ⟨pu, cu, rfl⟩ : ∃ p c, u = .slice p A.length c := by obtain ⟨p, c, h, _⟩ := hA; exact ⟨p, c, h⟩
  obtain ⟨V, hVd⟩ : ∃ V : Nat, (V : Int) = 1 + n % 12 := ⟨(1 + n % 12).toNat, by omega⟩
  have hV : 1 ≤ V ∧ V ≤ 12 := by omega
  rw [← hVd] at hfit
  have hl2 := ints_i64 hA
  have HA := Lib.hid hA
  have HL2 := Lib.hid hl2
  have HK : Hid (∀ W, Below w.heap.size w W → Calls Tryd.prog 13 #[] W fun e w' => e = .returned (.bool true) ∧ Below W.heap.size W w') := Lib.hid fun W hb => known5_any W (ht.below hb)
  clear hVd hn0 hW hA hl2 ht
  go_enter Tryd.func3, Tryd.ntmps3
  go_wp2_with fail
  refine hfit.mono ?_
  rintro e w1 ⟨r, rfl, hpost, hb1⟩
  refine Hid.out ?_
  refine Lib.hid ?_
  rcases hpost with ⟨hok, v', rfl, hown⟩ | ⟨hok, rfl⟩
  · by_cases h20 : A.length ≤ 20
    · have h20' : (A.length : Int) ≤ 20 := by omega
      have hL0 := fit_own hok hown
      have hF := fit_len (V := V) hok
      have HI := Lib.hid (fit_i64 (V := V) (L := L8) (by omega) (by omega))
      clear hown hok hfit
      generalize fitL V L8 = F at *
      obtain ⟨pv, cv, rfl⟩ : ∃ p c, v' = .slice p F.length c := by obtain ⟨p, c, h, _⟩ := hL0; exact ⟨p, c, h⟩
      have hAI := HA.out.ints (by omega)
      obtain ⟨w2, hw2⟩ : ∃ W : World, w1.alloc (.cells #[.int .i64 V, .slice pv F.length cv] 26) = W := ⟨_, rfl⟩
      have hb12 : Below w1.heap.size w1 w2 := by rw [← hw2]; exact (Below.refl _ _).alloc (Nat.le_refl _) _
      have hb2 : Below w.heap.size w w2 := hb1.trans (hb12.mono hb1.size)
      have hx0 : w2.cell? ⟨w1.heap.size, 0, none⟩ = some (.int .i64 V) := by rw [← hw2]; simp
      have hx1 : w2.cell? ⟨w1.heap.size, 1, none⟩ = some (.slice pv F.length cv) := by rw [← hw2]; simp
      have HL : Hid (∀ W, Below w2.heap.size w2 W → Lists W (.slice pv F.length cv) F) := Lib.hid fun W hW => (hL0.below hb12).below hW
      have HAI : Hid (∀ W, Below w2.heap.size w2 W → Ints W (.slice pu A.length cu) A) := Lib.hid fun W hW => (hAI.below hb2).below hW
      have HB2 := Lib.hid hb2
      have hs2 : w1.heap.size < w2.heap.size := World.block_lt_of_cell? _ _ hx0
      have HV64 : Hid (I64 (V : Int)) := Lib.hid (by unfold I64; omega)
      clear hL0 hAI hb12 hb2 hb1
      go_wp2
      clear hw2
      go_region_held3 (fun w' => w'.cell? ⟨w1.heap.size, 0, none⟩ = some (.int .i64 V) ∧ w'.cell? ⟨w1.heap.size, 1, none⟩ = some (.slice pv F.length cv))
        (first
          | go_keep
          | (exact ⟨(hb3.cell (p := ⟨w1.heap.size, 0, none⟩) (by show w1.heap.size < w2.heap.size; omega)).trans hx0, (hb3.cell (p := ⟨w1.heap.size, 1, none⟩) (by show w1.heap.size < w2.heap.size; omega)).trans hx1⟩)
          | (exact ⟨((hb3.trans (hb4.mono hb3.size)).cell (p := ⟨w1.heap.size, 0, none⟩) (by show w1.heap.size < w2.heap.size; omega)).trans hx0, ((hb3.trans (hb4.mono hb3.size)).cell (p := ⟨w1.heap.size, 1, none⟩) (by show w1.heap.size < w2.heap.size; omega)).trans hx1⟩))
        (first
          | (go_at_call 15
             refine (copy_any _ A _ (HAI.out _ (Below.refl _ _).drew)).mono ?_
             rintro e w3 ⟨vc, rfl, hoc, hb3'⟩
             have hb3 : Below w2.heap.size w2 w3 := (Below.refl _ w2).drew.trans hb3')
          | (go_at_call 14
             refine (implied_any V _ F _ A w3 HV64.out HI.out (HL.out _ hb3) HL2.out (owns_ints hoc (by omega)) (by omega) (by omega)).mono ?_
             rintro e w4 ⟨rfl, hb4⟩))
      have hb24 : Below w2.heap.size w2 w4 := hb3.trans (hb4.mono hb3.size)
      have HB4 := Lib.hid (HB2.out.trans (hb24.mono HB2.out.size))
      have hy0 := (hb24.cell (p := ⟨w1.heap.size, 0, none⟩) hs2).trans hx0
      have hy1 := (hb24.cell (p := ⟨w1.heap.size, 1, none⟩) hs2).trans hx1
      have hru := rimplied_any V _ F _ A w4 HV64.out HI.out (HL.out _ hb24) HL2.out (HAI.out _ hb24)
      generalize impliedR V F A = R at *
      obtain ⟨R1, R2⟩ := R
      have e2 : (R1 == R1) = true := by simp
      have e3 : (R2 == R2) = true := by simp
      clear hb4 hb3 hb3' hb24 hoc hx0 hx1
      go_wp2_with fail
      refine hru.mono ?_
      rintro e w5 ⟨rfl, hb5⟩
      refine Hid.out ?_
      refine Lib.hid ?_
      have hB5 := HB4.out.trans (hb5.mono HB4.out.size)
      have hk := HK.out w5 hB5
      have HB5 := Lib.hid hB5
      clear hb5 hy0 hy1 hru hB5
      go_wp2_with fail
      refine hk.mono ?_
      rintro e w7 ⟨rfl, hb7⟩
      refine Hid.out ?_
      refine Lib.hid ?_
      have HB7 := Lib.hid (HB5.out.trans (hb7.mono HB5.out.size))
      clear hb7 hk
      go_wp2
      go_ret
      exact ⟨rfl, HB7.out⟩
    · have h20' : (20 : Int) < (A.length : Int) := by omega
      have hB1 := hb1.alloc hb1.size (.cells #[.int .i64 V, v'] 26)
      have hk := HK.out _ hB1
      have HB1 := Lib.hid hB1
      obtain ⟨pv, cv, rfl⟩ : ∃ p c, v' = .slice p (fitL V L8).length c := by obtain ⟨p, c, h, _⟩ := fit_own hok hown; exact ⟨p, c, h⟩
      clear hown hok hfit hb1 hB1
      generalize (fitL V L8).length = ln at *
      go_wp2_with fail
      refine hk.mono ?_
      rintro e w7 ⟨rfl, hb7⟩
      refine Hid.out ?_
      refine Lib.hid ?_
      have HB7 := Lib.hid (HB1.out.trans (hb7.mono HB1.out.size))
      clear hb7 hk
      go_wp2
      go_ret
      exact ⟨rfl, HB7.out⟩
  · have hB1 := hb1.alloc hb1.size (.cells #[.int .i64 0, .slice none 0 0] 26)
    have hk := HK.out _ hB1
    have HB1 := Lib.hid hB1
    clear hok hfit hb1 hB1
    go_wp2_with fail
    refine hk.mono ?_
    rintro e w7 ⟨rfl, hb7⟩
    refine Hid.out ?_
    refine Lib.hid ?_
    have HB7 := Lib.hid (HB1.out.trans (hb7.mono HB1.out.size))
    clear hb7 hk
    go_wp2
    go_ret
    exact ⟨rfl, HB7.out⟩
end L
end Go.Proofs.YtfhodbnhaaiceaaDoor
