/- PropGrows: the walk. -/
import Derived.Test.YtoffhaamkhfdeaaLW
import Derived.Test.YtoffhaamkhfdeaaYF
import Derived.Test.YtoffhaamkhfdeaaXI
import Derived.Deep.RegionHeld3
namespace Go.Proofs.Ytoffhaamkhfdeaa
open Go.RowKit Go.Conc
namespace L
open K

theorem own_split {w : World} {base : Nat} {v : Value} {l : List Int} (h : OwnI w base v l) : (v = .slice none 0 0 ∧ l = []) ∨ ∃ g c, v = .slice (some ⟨g, 0, none⟩) l.length c ∧ l.length ≤ c := by
  rcases h.2 with ⟨h1, h2⟩ | ⟨g, cap, cur, h1, _, _, h2, _⟩
  · exact .inl ⟨h1, List.length_eq_zero_iff.1 h2⟩
  · exact .inr ⟨g, cap, h1, h2⟩

set_option maxRecDepth 100000 in
set_option maxHeartbeats 8000000 in
theorem grows_walk (n : Int) (v : Value) (L8 : List (List Int)) (u : Value) (l8 : List Int) (cut drop : Int) (w : World) (hn0 : (Lit.int .u8 n).wf = true) (hW : ListsW .i8 w v L8) (hA8 : IntsW .i8 w u l8) (hc0 : (Lit.int .u8 cut).wf = true) (hd0 : (Lit.int .u8 drop).wf = true) :
    Calls Try.prog 9 #[.int .u8 n, v, u, .int .u8 cut, .int .u8 drop] w fun e w' => e = .returned (.bool true) ∧ Below w.heap.size w w' := by
  have hfit := fit_any n v L8 w hn0 hW
  have hcut : 0 ≤ cut ∧ cut ≤ 255 := by simpa [Lit.wf, IntKind.min, IntKind.max, IntKind.signed, IntKind.bits] using hc0
  have hdrop : 0 ≤ drop ∧ drop ≤ 255 := by simpa [Lit.wf, IntKind.min, IntKind.max, IntKind.signed, IntKind.bits] using hd0
  obtain ⟨hcut1, hcut2⟩ := hcut
  obtain ⟨hdrop1, hdrop2⟩ := hdrop
  obtain ⟨p, c, rfl⟩ : ∃ p c, v = .slice p L8.length c := by obtain ⟨p, c, h, _⟩ := hW; exact ⟨p, c, h⟩
  obtain ⟨pu, cu, rfl⟩ : ∃ p c, u = .slice p l8.length c := by obtain ⟨p, c, h, _⟩ := hA8; exact ⟨p, c, h⟩
  obtain ⟨V, hVd⟩ : ∃ V : Nat, (V : Int) = 1 + n % 12 := ⟨(1 + n % 12).toNat, by omega⟩
  have hV : 1 ≤ V ∧ V ≤ 12 := by omega
  rw [← hVd] at hfit
  have HA8 := Lib.hid hA8
  clear hVd hn0 hW hA8 hc0 hd0
  go_enter Try.func9, Try.ntmps9
  go_wp2_with fail
  refine hfit.mono ?_
  rintro e w1 ⟨r, rfl, hpost, hb1⟩
  refine Hid.out ?_
  refine Lib.hid ?_
  rcases hpost with ⟨hok, v', rfl, hown⟩ | ⟨hok, rfl⟩
  · have hL0 := fit_own hok hown
    have hF := fit_len (V := V) hok
    have HCK := Lib.hid (fit_check (V := V) (L := L8) (by omega) (by omega) hok)
    have HVL := Lib.hid (val_fitL hV L8)
    have hsh := hown.shape
    clear hok hfit hown
    generalize fitL V L8 = F at *
    obtain ⟨pv, cv, ev, hcv⟩ : ∃ p c, v' = .slice p F.length c ∧ F.length ≤ c := by obtain ⟨p, c, h, h1, _⟩ := hL0; exact ⟨p, c, h, h1⟩
    subst ev
    have HPV : Hid ((pv = none ∧ F.length = 0) ∨ ∃ g, pv = some ⟨g, 0, none⟩) := Lib.hid (by
      rcases hsh with ⟨h1, h2⟩ | ⟨g, c, h⟩
      · simp only [Value.slice.injEq] at h1; exact .inl ⟨h1.1, h2⟩
      · simp only [Value.slice.injEq] at h; exact .inr ⟨g, h.1⟩)
    have hF1 := hF.1
    obtain ⟨w2, hw2⟩ : ∃ W : World, w1.alloc (.cells #[.int .i64 V, .slice pv F.length cv] 26) = W := ⟨_, rfl⟩
    have hb12 : Below w1.heap.size w1 w2 := by rw [← hw2]; exact (Below.refl _ _).alloc (Nat.le_refl _) _
    have hb2 : Below w.heap.size w w2 := hb1.trans (hb12.mono hb1.size)
    have hx0 : w2.cell? ⟨w1.heap.size, 0, none⟩ = some (.int .i64 V) := by rw [← hw2]; simp
    have hx1 : w2.cell? ⟨w1.heap.size, 1, none⟩ = some (.slice pv F.length cv) := by rw [← hw2]; simp
    have hs2 : w1.heap.size < w2.heap.size := World.block_lt_of_cell? _ _ hx0
    have HL : Hid (∀ W, Below w2.heap.size w2 W → Lists W (.slice pv F.length cv) F) := Lib.hid fun W hW => (hL0.below hb12).below hW
    have has := assumed_any V hV pv F.length cv (.slice pu l8.length cu) l8 w2 (HA8.out.below hb2)
    have HB2 := Lib.hid hb2
    clear hL0 hF hsh hb12 hb1 hb2
    go_wp2_with fail
    clear hw2
    refine has.mono ?_
    rintro e w3 ⟨va, rfl, hoA, hb3⟩
    refine Hid.out ?_
    refine Lib.hid ?_
    have HVA := Lib.hid (val_fitC hV (l8.take 12))
    have hAl : (fitC (V : Int) (l8.take 12)).length ≤ 12 := Nat.le_trans fitC_len (by simp; omega)
    generalize fitC (V : Int) (l8.take 12) = A at *
    have HB3 := Lib.hid (HB2.out.trans (hb3.mono HB2.out.size))
    have HB23 := Lib.hid hb3
    have hy0 := (hb3.cell (p := ⟨w1.heap.size, 0, none⟩) hs2).trans hx0
    have hy1 := (hb3.cell (p := ⟨w1.heap.size, 1, none⟩) hs2).trans hx1
    have hs3 : w1.heap.size < w3.heap.size := World.block_lt_of_cell? _ _ hy0
    have HIA := Lib.hid (hoA.ints (by omega))
    obtain ⟨pa, ca, eva, hca, hpa⟩ : ∃ pa ca, va = .slice pa A.length ca ∧ A.length ≤ ca ∧ ((pa = none ∧ A.length = 0 ∧ ca = 0) ∨ ∃ g, pa = some ⟨g, 0, none⟩) := by
      rcases own_split hoA with ⟨h1, h2⟩ | ⟨g, c, h1, h2⟩
      · exact ⟨none, 0, by rw [h1, h2]; rfl, by rw [h2]; simp, .inl ⟨rfl, by rw [h2]; rfl, rfl⟩⟩
      · exact ⟨_, c, h1, h2, .inr ⟨g, rfl⟩⟩
    subst eva
    obtain ⟨k, hk⟩ : ∃ k : Nat, (k : Int) = cut % ((A.length : Int) + 1) := ⟨(cut % ((A.length : Int) + 1)).toNat, by have := Int.emod_nonneg cut (show ((A.length : Int) + 1) ≠ 0 by omega); omega⟩
    have hkA : k ≤ A.length := by have := Int.emod_lt_of_pos cut (show 0 < ((A.length : Int) + 1) by omega); omega
    obtain ⟨d, hd⟩ : ∃ k : Nat, (k : Int) = drop % ((F.length : Int) + 1) := ⟨(drop % ((F.length : Int) + 1)).toNat, by have := Int.emod_nonneg drop (show ((F.length : Int) + 1) ≠ 0 by omega); omega⟩
    have hdF : d ≤ F.length := by have := Int.emod_lt_of_pos drop (show 0 < ((F.length : Int) + 1) by omega); omega
    have ht1 : cut.tmod ((A.length : Int) + 1) = (k : Int) := by rw [hk]; exact Int.tmod_eq_emod_of_nonneg hcut1
    have ht2 : drop.tmod ((F.length : Int) + 1) = (d : Int) := by rw [hd]; exact Int.tmod_eq_emod_of_nonneg hdrop1
    have hk' := hk.symm
    have hd' := hd.symm
    have hzA : ((A.length : Int) + 1 == 0) = false := beq_eq_false_iff_ne.2 (by omega)
    have hzF : ((F.length : Int) + 1 == 0) = false := beq_eq_false_iff_ne.2 (by omega)
    have hkc : (k : Int) ≤ (ca : Int) := by omega
    have hdc : (d : Int) ≤ (cv : Int) := by omega
    clear hoA hb3 hx0 hx1 has hk hd
    have hn1 := World.new_ne w3 ⟨w1.heap.size, 0, none⟩ hy0
    have hn2 := World.new_ne w3 ⟨w1.heap.size, 1, none⟩ hy1
    have HKA := Lib.hid hkA
    have HDF := Lib.hid hdF
    rcases hpa with ⟨rfl, hA0, rfl⟩ | ⟨ga, rfl⟩
    case' inl =>
      have hk0 : k = 0 := by omega
      have HIA2 : Hid (∀ W, Below w3.heap.size w3 W → Ints W (.slice none 0 0) A) := Lib.hid fun W hW => by have := HIA.out.below hW; rw [hA0] at this; exact this
      have HIK : Hid (∀ W, Below w3.heap.size w3 W → Ints W (.slice none 0 0) (A.take k)) := Lib.hid fun W hW => by rw [hk0]; exact ⟨none, 0, rfl, by simp, by simp, fun h => absurd h (by simp)⟩
    case' inr =>
      have HIA2 : Hid (∀ W, Below w3.heap.size w3 W → Ints W (.slice (some ⟨ga, 0, none⟩) A.length ca) A) := Lib.hid fun W hW => HIA.out.below hW
      have HIK : Hid (∀ W, Below w3.heap.size w3 W → Ints W (.slice (some ⟨ga, 0, none⟩) k ca) (A.take k)) := Lib.hid fun W hW => (HIA.out.below hW).take k HKA.out
    all_goals
      go_wp2
      clear HIA
      rcases HPV.out with ⟨rfl, hF0⟩ | ⟨gf, rfl⟩
    all_goals
      go_region
    all_goals first
      | (have HLd : Hid (∀ W, Below w3.heap.size w3 W → Lists W (.slice none 0 cv) (F.take d)) := Lib.hid fun W hW => by rw [List.length_eq_zero_iff.1 hF0]; simpa using Lists.nil W cv none
         have HLf : Hid (∀ W, Below w3.heap.size w3 W → Lists W (.slice none 0 cv) F) := Lib.hid fun W hW => by rw [List.length_eq_zero_iff.1 hF0]; exact Lists.nil W cv none
         obtain ⟨w4, hw4⟩ : ∃ W, W = (w3.alloc (.cells #[.int .i64 V, .slice none 0 cv] 26)).drew := ⟨_, rfl⟩
         rw [← hw4]
         have hz0 : w4.cell? ⟨w3.heap.size, 0, none⟩ = some (.int .i64 V) := by rw [hw4]; simp
         have hz1 : w4.cell? ⟨w3.heap.size, 1, none⟩ = some (.slice none 0 cv) := by rw [hw4]; simp
         have hb34 : Below w3.heap.size w3 w4 := by rw [hw4]; exact ((Below.refl _ _).alloc (Nat.le_refl _) _).drew
         have hq0 : w4.cell? ⟨w1.heap.size, 0, none⟩ = some (.int .i64 V) := (hb34.cell (p := ⟨w1.heap.size, 0, none⟩) hs3).trans hy0
         have hq1 : w4.cell? ⟨w1.heap.size, 1, none⟩ = some (.slice none 0 cv) := (hb34.cell (p := ⟨w1.heap.size, 1, none⟩) hs3).trans (by rw [hy1, hF0])
         clear hw4)
      | (have HLd : Hid (∀ W, Below w3.heap.size w3 W → Lists W (.slice (some ⟨gf, 0, none⟩) d cv) (F.take d)) := Lib.hid fun W hW => by exact (HL.out W (HB23.out.trans (hW.mono HB23.out.size))).take d HDF.out
         have HLf : Hid (∀ W, Below w3.heap.size w3 W → Lists W (.slice (some ⟨gf, 0, none⟩) F.length cv) F) := Lib.hid fun W hW => by exact HL.out W (HB23.out.trans (hW.mono HB23.out.size))
         obtain ⟨w4, hw4⟩ : ∃ W, W = (w3.alloc (.cells #[.int .i64 V, .slice (some ⟨gf, 0, none⟩) d cv] 26)).drew := ⟨_, rfl⟩
         rw [← hw4]
         have hz0 : w4.cell? ⟨w3.heap.size, 0, none⟩ = some (.int .i64 V) := by rw [hw4]; simp
         have hz1 : w4.cell? ⟨w3.heap.size, 1, none⟩ = some (.slice (some ⟨gf, 0, none⟩) d cv) := by rw [hw4]; simp
         have hb34 : Below w3.heap.size w3 w4 := by rw [hw4]; exact ((Below.refl _ _).alloc (Nat.le_refl _) _).drew
         have hq0 : w4.cell? ⟨w1.heap.size, 0, none⟩ = some (.int .i64 V) := (hb34.cell (p := ⟨w1.heap.size, 0, none⟩) hs3).trans hy0
         have hq1 : w4.cell? ⟨w1.heap.size, 1, none⟩ = some (.slice (some ⟨gf, 0, none⟩) F.length cv) := (hb34.cell (p := ⟨w1.heap.size, 1, none⟩) hs3).trans (by exact hy1)
         clear hw4)
    all_goals
      have HV64 : Hid (I64 (V : Int)) := Lib.hid (by unfold I64; omega)
      have HFI : Hid (∀ c ∈ F, ∀ x ∈ c, I64 x) := Lib.hid fun c hc => val_i64 (n := V) (by omega) (HVL.out c hc)
      have HAI : Hid (∀ x ∈ A, I64 x) := Lib.hid (val_i64 (n := V) (by omega) HVA.out)
      have HB4 := Lib.hid (HB3.out.trans (hb34.mono HB3.out.size))
      have HB34 := Lib.hid hb34
      have hl4 : w3.heap.size < w4.heap.size := World.block_lt_of_cell? _ _ hz0
      have hc1 := punits_any (V : Int) _ (F.take d) _ (A.take k) w4 HV64.out (fun c hc => HFI.out c (List.mem_of_mem_take hc)) (HLd.out w4 hb34) (fun x hx => HAI.out x (List.mem_of_mem_take hx)) (HIK.out w4 hb34)
      have hc2 := fun W (hb : Below w4.heap.size w4 W) => punits_any (V : Int) _ F _ A W HV64.out HFI.out (HLf.out W (hb34.trans (hb.mono hb34.size))) HAI.out (HIA2.out W (hb34.trans (hb.mono hb34.size)))
      have HC2 := Lib.hid hc2
      have hU1 := units_cases (checkU_valid (A := A.take k) (check_take (k := d) HCK.out) (fun x hx => HVA.out x (List.mem_of_mem_take hx)))
      have hU2 := units_cases (checkU_valid HCK.out HVA.out)
      have HBM : Hid (U.Bad (F.take d) (A.take k) → U.Bad F A) := Lib.hid (fun h => h.mono (fun c hc => List.mem_of_mem_take hc) (fun x hx => List.mem_of_mem_take hx))
      clear hb34 hc2 hy0 hy1 hn1 hn2 hs2
      clear ht1 ht2 hk' hd' hzA hzF hkc hdc
      try clear hk0
      try clear hA0
      try clear hF0
    all_goals
      go_wp2_with fail
      refine hc1.mono ?_
      rintro e w5 ⟨r, rfl, hp1, hb5⟩
      refine Hid.out ?_
      refine Lib.hid ?_
      obtain ⟨vl1, rfl, ho1, hlen1⟩ := upost_r hp1
      have HB45 := Lib.hid hb5
      have hr0 := (hb5.cell (p := ⟨w1.heap.size, 0, none⟩) (by show w1.heap.size < _; omega)).trans hq0
      have hr1 := (hb5.cell (p := ⟨w1.heap.size, 1, none⟩) (by show w1.heap.size < _; omega)).trans hq1
      have hl5 : w1.heap.size < w5.heap.size := World.block_lt_of_cell? _ _ hr0
      have HO1 := Lib.hid (ho1.ints (by omega))
      have HB5 := Lib.hid (HB4.out.trans (hb5.mono HB4.out.size))
      clear hp1 ho1 hb5 hc1 hz0 hz1 hq0 hq1 hlen1
      go_wp2_with fail
      refine (HC2.out w5 HB45.out).mono ?_
      rintro e w6 ⟨r, rfl, hp2, hb6⟩
      refine Hid.out ?_
      refine Lib.hid ?_
      obtain ⟨vl2, rfl, ho2, hlen2⟩ := upost_r hp2
      have hs0 := (hb6.cell (p := ⟨w1.heap.size, 0, none⟩) hl5).trans hr0
      have hs1 := (hb6.cell (p := ⟨w1.heap.size, 1, none⟩) hl5).trans hr1
      have hO1 := HO1.out.below hb6
      have hO2 := ho2.ints (by omega)
      have HB6 := Lib.hid (HB5.out.trans (hb6.mono HB5.out.size))
      have HB46 := Lib.hid (HB45.out.trans (hb6.mono HB45.out.size))
      clear hp2 ho2 hb6 hr0 hr1 hlen2 HO1
      rcases hU1 with ⟨b1, e1⟩ | ⟨g1, e1⟩
      · rcases hU2 with ⟨b2, e2⟩ | ⟨g2, e2⟩
        · rw [e1] at hO1
          rw [e2] at hO2
          simp only [e1, e2]
          obtain ⟨q1, d1, rfl⟩ : ∃ p c, vl1 = .slice p 0 c := by obtain ⟨p, c, h, _⟩ := hO1; exact ⟨p, c, h⟩
          clear hO1 hO2 b1 b2 e1 e2
          go_wp2_with fail
          refine (known4_any _).mono ?_
          rintro e wz ⟨rfl, hbz⟩
          refine Hid.out ?_
          refine Lib.hid ?_
          have HBz := Lib.hid (HB6.out.trans (hbz.mono HB6.out.size))
          clear hbz
          go_wp2
          go_ret
          exact ⟨rfl, HBz.out⟩
        · exact absurd (HBM.out b1) g2
      · rcases hU2 with ⟨b2, e2⟩ | ⟨g2, e2⟩
        · simp only [e1, e2]
          clear hO1 hO2 g1 b2 e1 e2
          go_wp2_with fail
          refine (known4_any _).mono ?_
          rintro e wz ⟨rfl, hbz⟩
          refine Hid.out ?_
          refine Lib.hid ?_
          have HBz := Lib.hid (HB6.out.trans (hbz.mono HB6.out.size))
          clear hbz
          go_wp2
          go_ret
          exact ⟨rfl, HBz.out⟩
        · rw [e1] at hO1
          rw [e2] at hO2
          simp only [e1, e2]
          have hsub : ∀ x ∈ U.lits V (U.Der (F.take d) (A.take k)), x ∈ U.lits V (U.Der F A) := fun x hx =>
            (mem_units g2 HVL.out HVA.out x).2 (((mem_units g1 (fun c hc => HVL.out c (List.mem_of_mem_take hc)) (fun x hx => HVA.out x (List.mem_of_mem_take hx)) x).1 hx).mono (fun c hc => List.mem_of_mem_take hc) (fun x hx => List.mem_of_mem_take hx))
          have hval := val_units g2 HVL.out HVA.out
          have hag := units_again g2 HVL.out HVA.out
          clear e1 e2 g1 g2
          generalize U.lits V (U.Der (F.take d) (A.take k)) = U1 at *
          generalize U.lits V (U.Der F A) = U2 at *
          have h3 := unitsR_ok (checkU_valid HCK.out hval) hag
          have H3 := Lib.hid h3
          have HSUB := Lib.hid hsub
          have HVAL := Lib.hid hval
          have HO2 := Lib.hid hO2
          obtain ⟨q1, d1, rfl, _, _, hcell1⟩ := hO1
          have HC1 := Lib.hid hcell1
          have hhas := fun x => has_any vl2 U2 x w6 hO2
          have HHAS := Lib.hid hhas
          clear h3 hsub hval hag hO2 hcell1 hhas
          go_wp2
          go_loop [22] (fun i => ∃ k : Nat, k ≤ U1.length ∧ i = .int .i64 k) (fun i => U1.length - (intOf i).toNat)
          case atStart => exact ⟨0, Nat.zero_le _, rfl⟩
          case round =>
            obtain ⟨j, hj, rfl⟩ := hrel
            by_cases hlt : j < U1.length
            · have hlt' : (j : Int) < (U1.length : Int) := by omega
              obtain ⟨bb, oo, rfl, ee⟩ := HC1.out (by omega)
              have dd := ee j hlt
              obtain ⟨x, ex⟩ : ∃ x, U1.getD j 0 = x := ⟨_, rfl⟩
              have hh := HHAS.out x
              rw [decide_eq_true (HSUB.out x (by rw [← ex]; exact mem_getD hlt))] at hh
              rw [ex] at dd
              clear ee ex
              go_wp2_with fail
              refine hh.mono ?_
              rintro e wy ⟨rfl, hwy⟩
              subst hwy
              refine Hid.out ?_
              refine Lib.hid ?_
              clear hh
              go_wp2
              go_round
              case rel => exact ⟨j + 1, by omega, by go_num⟩
              case measure => simp [intOf]; omega
            · have hlt' : ¬ (j : Int) < (U1.length : Int) := by omega
              have hc3 := punits_any (V : Int) _ F vl2 U2 w6 HV64.out HFI.out (HLf.out w6 (HB34.out.trans (HB46.out.mono HB34.out.size))) (val_i64 (n := V) (by omega) HVAL.out) HO2.out
              go_wp2_with fail
              refine hc3.mono ?_
              rintro e w7 ⟨r, rfl, hp3, hb7⟩
              refine Hid.out ?_
              refine Lib.hid ?_
              obtain ⟨vl3, rfl, ho3, hlen3⟩ := upost_r hp3
              have hO3 := ho3.ints (by omega)
              rw [H3.out] at hO3
              simp only [H3.out]
              have he := equal_any vl2 vl3 U2 U2 w7 (HO2.out.below hb7) hO3
              rw [decide_eq_true rfl] at he
              have HB7 := Lib.hid (HB6.out.trans (hb7.mono HB6.out.size))
              clear hp3 ho3 hlen3 hO3 hb7 hc3
              go_wp2_with fail
              refine he.mono ?_
              rintro e w8 ⟨rfl, hb8⟩
              refine Hid.out ?_
              refine Lib.hid ?_
              have HB8 := Lib.hid (HB7.out.trans (hb8.mono HB7.out.size))
              clear hb8 he
              go_wp2_with fail
              refine (known4_any _).mono ?_
              rintro e wz ⟨rfl, hbz⟩
              refine Hid.out ?_
              refine Lib.hid ?_
              have HBz := Lib.hid (HB8.out.trans (hbz.mono HB8.out.size))
              clear hbz
              go_wp2
              go_ret
              exact ⟨rfl, HBz.out⟩
  · have HB1 := Lib.hid (hb1.alloc hb1.size (.cells #[.int .i64 0, .slice none 0 0] 26))
    clear hok hfit hb1
    go_wp2_with fail
    refine (known4_any _).mono ?_
    rintro e w7 ⟨rfl, hb7⟩
    refine Hid.out ?_
    refine Lib.hid ?_
    have HB7 := Lib.hid (HB1.out.trans (hb7.mono HB1.out.size))
    clear hb7
    go_wp2
    go_ret
    exact ⟨rfl, HB7.out⟩
end L
end Go.Proofs.Ytoffhaamkhfdeaa
