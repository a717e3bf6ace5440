/- PropSound: the walk. -/
import Derived.Test.YtoffhaamkhfdeaaLW
import Derived.Test.YtoffhaamkhfdeaaUG
import Derived.Test.YtoffhaamkhfdeaaXI
import Derived.Test.YtoffhaamkhfdeaaXG
import Derived.BigRegion
namespace Go.Proofs.Ytoffhaamkhfdeaa
open Go.RowKit Go.Conc
namespace L
open K

theorem modelU_of {V : Nat} {R : List Int} {bs : List Bool} (hl : bs.length = V) (hR : R.length = V) (h : ∀ j, j < V → bs.getD j false = decide (0 < R.getD j 0)) : bs = modelU R := by
  refine List.ext_getElem (by simp [modelU, hl, hR]) fun i h1 h2 => ?_
  have h3 := h i (by omega)
  have h4 : i < R.length := by omega
  simp only [List.getD_eq_getElem?_getD, List.getElem?_eq_getElem h1, List.getElem?_eq_getElem h4, Option.getD_some] at h3
  simpa [modelU] using h3
theorem all_of_idx {F : List (List Int)} {m : List Bool} (h : ∀ j, j < F.length → holdsB m (F.getD j []) = true) : ∀ c ∈ F, holdsB m c = true := by
  intro c hc
  obtain ⟨j, hj, rfl⟩ := List.getElem_of_mem hc
  have := h j hj
  simpa [List.getD, hj] using this
theorem firstI_all {F : List (List Int)} {m : List Bool} (h : ∀ c ∈ F, holdsB m c = true) : firstI m F = -1 :=
  firstI_upto (k := F.length) (fun _ hj => h _ (mem_getDL hj)) (Nat.le_refl _)

theorem owns_bools' {w : World} {base n : Nat} {v : Value} {l : List Bool} (h : w.ownsRow base 4 1 v n (l.map Value.bool)) (hl : l.length = n) (hm : n ≤ 1000) : Bools w v l := by
  subst hl
  exact owns_bools h (by omega)

set_option maxRecDepth 100000 in
set_option maxHeartbeats 8000000 in
theorem sound_walk (n : Int) (v : Value) (L8 : List (List Int)) (u : Value) (l8 : List Int) (bt : Int) (w : World) (hn0 : (Lit.int .u8 n).wf = true) (hW : ListsW .i8 w v L8) (hA8 : IntsW .i8 w u l8) (hbt : (Lit.int .u16 bt).wf = true) :
    Calls Try.prog 8 #[.int .u8 n, v, u, .int .u16 bt] w fun e w' => e = .returned (.bool true) ∧ Below w.heap.size w w' := by
  have hfit := fit_any n v L8 w hn0 hW
  obtain ⟨p, c, rfl⟩ : ∃ p c, v = .slice p L8.length c := by obtain ⟨p, c, h, _⟩ := hW; exact ⟨p, c, h⟩
  obtain ⟨pu, cu, rfl⟩ : ∃ p c, u = .slice p l8.length c := by obtain ⟨p, c, h, _⟩ := hA8; exact ⟨p, c, h⟩
  obtain ⟨V, hVd⟩ : ∃ V : Nat, (V : Int) = 1 + n % 12 := ⟨(1 + n % 12).toNat, by omega⟩
  have hV : 1 ≤ V ∧ V ≤ 12 := by omega
  rw [← hVd] at hfit
  have HA8 := Lib.hid hA8
  have HMOD := Lib.hid (fun W => model_any V bt W (by omega) hbt)
  clear hVd hn0 hW hA8 hbt
  go_enter Try.func8, Try.ntmps8
  go_wp2_with fail
  refine hfit.mono ?_
  rintro e w1 ⟨r, rfl, hpost, hb1⟩
  refine Hid.out ?_
  refine Lib.hid ?_
  rcases hpost with ⟨hok, v', rfl, hown⟩ | ⟨hok, rfl⟩
  · have hL0 := fit_own hok hown
    have hF := fit_len (V := V) hok
    have HCK := Lib.hid (fit_check (V := V) (L := L8) (by omega) (by omega) hok)
    have HVL := Lib.hid (val_fitL hV L8)
    clear hok hfit hown
    generalize fitL V L8 = F at *
    obtain ⟨pv, cv, ev⟩ : ∃ p c, v' = .slice p F.length c := by obtain ⟨p, c, h, _⟩ := hL0; exact ⟨p, c, h⟩
    subst ev
    have hF1 := hF.1
    obtain ⟨w2, hw2⟩ : ∃ W : World, w1.alloc (.cells #[.int .i64 V, .slice pv F.length cv] 26) = W := ⟨_, rfl⟩
    have hb12 : Below w1.heap.size w1 w2 := by rw [← hw2]; exact (Below.refl _ _).alloc (Nat.le_refl _) _
    have hb2 : Below w.heap.size w w2 := hb1.trans (hb12.mono hb1.size)
    have hx0 : w2.cell? ⟨w1.heap.size, 0, none⟩ = some (.int .i64 V) := by rw [← hw2]; simp
    have hx1 : w2.cell? ⟨w1.heap.size, 1, none⟩ = some (.slice pv F.length cv) := by rw [← hw2]; simp
    have hs2 : w1.heap.size < w2.heap.size := World.block_lt_of_cell? _ _ hx0
    have HL : Hid (∀ W, Below w2.heap.size w2 W → Lists W (.slice pv F.length cv) F) := Lib.hid fun W hW => (hL0.below hb12).below hW
    have has := assumed_any V hV pv F.length cv (.slice pu l8.length cu) l8 w2 (HA8.out.below hb2)
    have HB2 := Lib.hid hb2
    clear hL0 hF hb12 hb1 hb2
    go_wp2_with fail
    clear hw2
    refine has.mono ?_
    rintro e w3 ⟨va, rfl, hoA, hb3⟩
    refine Hid.out ?_
    refine Lib.hid ?_
    have HVA := Lib.hid (val_fitC hV (l8.take 12))
    have hAl : (fitC (V : Int) (l8.take 12)).length ≤ 12 := Nat.le_trans fitC_len (by simp; omega)
    generalize fitC (V : Int) (l8.take 12) = A at *
    have HB3 := Lib.hid (HB2.out.trans (hb3.mono HB2.out.size))
    have HB23 := Lib.hid hb3
    have hy0 := (hb3.cell (p := ⟨w1.heap.size, 0, none⟩) hs2).trans hx0
    have hy1 := (hb3.cell (p := ⟨w1.heap.size, 1, none⟩) hs2).trans hx1
    have hs3 : w1.heap.size < w3.heap.size := World.block_lt_of_cell? _ _ hy0
    have HIA := Lib.hid (hoA.ints (by omega))
    obtain ⟨pa, ca, eva⟩ : ∃ pa ca, va = .slice pa A.length ca := by obtain ⟨p, c, h, _⟩ := HIA.out; exact ⟨p, c, h⟩
    subst eva
    clear hoA hb3 hx0 hx1 has hs2
    have HV64 : Hid (I64 (V : Int)) := Lib.hid (by unfold I64; omega)
    have HFI : Hid (∀ c ∈ F, ∀ x ∈ c, I64 x) := Lib.hid fun c hc => val_i64 (n := V) (by omega) (HVL.out c hc)
    have HAI : Hid (∀ x ∈ A, I64 x) := Lib.hid (val_i64 (n := V) (by omega) HVA.out)
    have hc1 := punits_any (V : Int) _ F _ A w3 HV64.out HFI.out (HL.out w3 HB23.out) HAI.out HIA.out
    have hU := units_cases (checkU_valid HCK.out HVA.out)
    go_wp2_with fail
    refine hc1.mono ?_
    rintro e w4 ⟨r, rfl, hp1, hb4⟩
    refine Hid.out ?_
    refine Lib.hid ?_
    obtain ⟨vl, rfl, ho1, hlen1⟩ := upost_r hp1
    have HB4 := Lib.hid (HB3.out.trans (hb4.mono HB3.out.size))
    have HB24 := Lib.hid (HB23.out.trans (hb4.mono HB23.out.size))
    have hz0 := (hb4.cell (p := ⟨w1.heap.size, 0, none⟩) hs3).trans hy0
    have hz1 := (hb4.cell (p := ⟨w1.heap.size, 1, none⟩) hs3).trans hy1
    have hs4 : w1.heap.size < w4.heap.size := World.block_lt_of_cell? _ _ hz0
    have hO := ho1.ints (by omega)
    have HIA4 := Lib.hid (HIA.out.below hb4)
    obtain ⟨R1, R2, e1, HVAL, HU⟩ : ∃ R1 R2, unitsR (V : Int) F A = (R1, R2, 0) ∧ Hid (U.Val V R1) ∧ Hid ((R2 = true ∧ U.Bad F A) ∨ (R2 = false ∧ ¬ U.Bad F A ∧ R1 = U.lits V (U.Der F A))) := by
      rcases hU with ⟨b, e⟩ | ⟨g, e⟩
      · exact ⟨_, _, e, Lib.hid (by intro x hx; cases hx), Lib.hid (.inl ⟨rfl, b⟩)⟩
      · exact ⟨_, _, e, Lib.hid (val_units g HVL.out HVA.out), Lib.hid (.inr ⟨rfl, g, rfl⟩)⟩
    rw [e1] at hO hlen1
    simp only [e1]
    dsimp only at hO hlen1
    obtain ⟨pl, cl, rfl, _, _, hcell⟩ := hO
    have HCELL := Lib.hid hcell
    clear hp1 ho1 hb4 hc1 hy0 hy1 hs3 hU e1 hcell
    go_wp2
    go_loopw [15] (fun i wr => ∃ k : Nat, k ≤ R1.length ∧ i = .int .i64 k ∧ Below w4.heap.size w4 wr) (fun i _ => R1.length - (intOf i).toNat)
    case atStart => exact ⟨0, Nat.zero_le _, rfl, Below.refl _ _⟩
    case round =>
      obtain ⟨k, hk, rfl, hb⟩ := hrel
      by_cases hlt : k < R1.length
      · have hlt' : (k : Int) < (R1.length : Int) := by omega
        obtain ⟨b1, o1, rfl, e1⟩ := HCELL.out (by omega)
        have d1 := (hb.cell (p := ⟨b1, o1 + k, none⟩) (World.block_lt_of_cell? _ _ (e1 k hlt))).trans (e1 k hlt)
        have q0 := (hb.cell (p := ⟨w1.heap.size, 0, none⟩) hs4).trans hz0
        have hxv := HVAL.out _ (mem_getD hlt)
        clear e1 hz0 hz1
        generalize R1.getD k 0 = x at *
        have hx1 : (x == (0 : Int)) = false := beq_eq_false_iff_ne.2 hxv.1
        have hx2 : decide ((V : Int) < x) = false := decide_eq_false (by omega)
        have hx3 : decide (x < -(V : Int)) = false := decide_eq_false (by omega)
        have hVn : IntKind.i64.wrap (-(V : Int)) = -(V : Int) := by simp only [IntKind.wrap_i64]; omega
        clear hxv
        go_wp2
        go_quiet (fail)
        go_wp2
        go_roundw
        case rel => exact ⟨k + 1, by omega, by go_num, below_drewN hb _⟩
        case measure => simp [intOf]; omega
      · have hlt' : ¬ (k : Int) < (R1.length : Int) := by omega
        have hy0 := (hb.cell (p := ⟨w1.heap.size, 0, none⟩) hs4).trans hz0
        have hy1 := (hb.cell (p := ⟨w1.heap.size, 1, none⟩) hs4).trans hz1
        have hs5 : w1.heap.size < wr.heap.size := World.block_lt_of_cell? _ _ hy0
        have HB5 := Lib.hid (HB4.out.trans (hb.mono HB4.out.size))
        have HB25 := Lib.hid (HB24.out.trans (hb.mono HB24.out.size))
        have HB45 := Lib.hid hb
        clear hz0 hz1 hs4 hb hk hlt
        go_wp2_with fail
        refine (HMOD.out wr).mono ?_
        rintro e w6 ⟨vm, rfl, hown, hb6⟩
        refine Hid.out ?_
        refine Lib.hid ?_
        obtain ⟨g, cap, rfl, hgb, hgl⟩ := hown.form (by omega)
        have hcap : V ≤ cap := by
          obtain ⟨_, _, h1, h2, _⟩ := owns_bools' hown (modelR_len _ _) (by omega)
          simp only [Value.slice.injEq] at h1
          rw [modelR_len] at h2
          omega
        have hz0 := (hb6.cell (p := ⟨w1.heap.size, 0, none⟩) hs5).trans hy0
        have hz1 := (hb6.cell (p := ⟨w1.heap.size, 1, none⟩) hs5).trans hy1
        have HB6 := Lib.hid (HB5.out.trans (hb6.mono HB5.out.size))
        have HB26 := Lib.hid (HB25.out.trans (hb6.mono HB25.out.size))
        have HB56 := Lib.hid hb6
        have HB46 := Lib.hid (HB45.out.trans (hb6.mono HB45.out.size))
        have HS5 := Lib.hid hs5
        have HY0 := Lib.hid hy0
        have HY1 := Lib.hid hy1
        clear hy0 hy1 hlt' hs5
        by_cases hfull : R2 = false ∧ R1.length = V
        · obtain ⟨rfl, hlenV⟩ := hfull
          have HFH : Hid (∀ c ∈ F, holdsB (modelU R1) c = true) := by
            rcases HU.out with ⟨h, _⟩ | ⟨_, g, eR⟩
            · cases h
            · refine Lib.hid ?_
              rw [eR]
              exact full_holds (U.Der.closed g (fun c h x hx => (HVL.out c h x hx).1)) HVL.out (by rw [← eR]; exact hlenV)
          have hVl : ((R1.length : Int) == (V : Int)) = true := by simp [hlenV]
          have HLV := Lib.hid hlenV
          have HGB := Lib.hid hgb
          clear HU hgb hb6 hgl
          go_wp2
          go_loopw [17] (fun i wq => ∃ (k : Nat) (bs : List Bool), k ≤ V ∧ i = .int .i64 k ∧ bs.length = V ∧ (∀ j, j < k → bs.getD j false = decide (0 < R1.getD j 0)) ∧ wq.ownsRow wr.heap.size 4 1 (.slice (some ⟨g, 0, none⟩) V cap) V (bs.map Value.bool) ∧ Below wr.heap.size wr wq) (fun i _ => V - (intOf i).toNat)
          case atStart => exact ⟨0, modelR V bt, Nat.zero_le _, rfl, modelR_len _ _, fun j hj => absurd hj (Nat.not_lt_zero _), hown, HB56.out⟩
          case round =>
            clear hown hz0 hz1
            obtain ⟨k, bs, hk, rfl, hbs, hval, hown, hb⟩ := hrel
            have hz0 := (hb.cell (p := ⟨w1.heap.size, 0, none⟩) HS5.out).trans HY0.out
            have hz1 := (hb.cell (p := ⟨w1.heap.size, 1, none⟩) HS5.out).trans HY1.out
            have HV := Lib.hid hval
            have HB := Lib.hid hb
            have HBS := Lib.hid hbs
            clear hval
            by_cases hlt : k < V
            · have hlt' : (k : Int) < (R1.length : Int) := by omega
              obtain ⟨b1, o1, rfl, e1⟩ := HCELL.out (by omega)
              have d1 := ((HB45.out.trans (hb.mono HB45.out.size)).cell (p := ⟨b1, o1 + k, none⟩) (World.block_lt_of_cell? _ _ (e1 k (by omega)))).trans (e1 k (by omega))
              have dS := hown.cellAt k (by omega)
              have fS := hown.frozenAt k
              have hkb : k < bs.length := by omega
              rw [List.getElem?_map, List.getElem?_eq_getElem hkb] at dS
              generalize bs[k] = z at dS
              have HO := Lib.hid hown
              have hkc : k < cap := by omega
              obtain ⟨x, ex⟩ : ∃ x, R1.getD k 0 = x := ⟨_, rfl⟩
              rw [ex] at d1
              have HX := Lib.hid ex
              clear hown hbs hb e1 ex
              go_wp2
              go_roundw
              case rel =>
                refine ⟨k + 1, bs.set k (decide (0 < x)), by omega, by go_num, by simpa using HBS.out, fun j hj => ?_, ?_, HB.out.setCell HGB.out _⟩
                · by_cases hjk : j = k
                  · subst hjk; rw [HX.out]; simp [List.getD, hkb]
                  · have := HV.out j (by omega)
                    simp only [List.getD_eq_getElem?_getD, List.getElem?_set, show ¬ k = j by omega, if_false] at this ⊢
                    exact this
                · have := (HO.out.stored k (.bool (decide (0 < x)))).1
                  rwa [← List.map_set] at this
              case measure => simp [intOf]; omega
            · have hkn : k = V := by omega
              have hlt' : ¬ (k : Int) < (R1.length : Int) := by omega
              have em := modelU_of hbs HLV.out (by rw [← hkn]; exact HV.out)
              have hM := owns_bools' hown hbs (by omega)
              rw [em] at hM
              have hml : (modelU R1).length = V := by rw [← em]; exact hbs
              have hf := first_any (V : Int) _ _ F (modelU R1) _ HV64.out HFI.out (HL.out _ (HB25.out.trans (HB.out.mono HB25.out.size))) hM
              rw [firstF_ok HCK.out (by rw [hml]), firstI_all HFH.out] at hf
              have HBT := Lib.hid (HB5.out.trans (HB.out.mono HB5.out.size))
              clear hown hb hbs hM hml em hk
              go_wp2_with fail
              refine hf.mono ?_
              rintro e w8 ⟨rfl, hb8⟩
              refine Hid.out ?_
              refine Lib.hid ?_
              have HB8 := Lib.hid (HBT.out.trans (hb8.mono HBT.out.size))
              clear hb8 hf
              go_wp2_with fail
              refine (known4_any _).mono ?_
              rintro e wz ⟨rfl, hbz⟩
              refine Hid.out ?_
              refine Lib.hid ?_
              have HBz := Lib.hid (HB8.out.trans (hbz.mono HB8.out.size))
              clear hbz
              go_wp2
              go_ret
              exact ⟨rfl, HBz.out⟩
        · have hM := owns_bools' hown (modelR_len _ _) (by omega)
          have hml := modelR_len V bt
          generalize modelR V bt = M at *
          have hf := first_any (V : Int) _ _ F M w6 HV64.out HFI.out (HL.out _ HB26.out) hM
          rw [firstF_ok HCK.out (by rw [hml])] at hf
          have hcase := first_facts M F
          generalize firstI M F = at1 at hf hcase
          have hg : R2 = true ∨ (R2 = false ∧ ((R1.length : Int) == (V : Int)) = false) := by
            cases R2 with
            | true => exact .inl rfl
            | false => exact .inr ⟨rfl, beq_eq_false_iff_ne.2 fun h => hfull ⟨rfl, by omega⟩⟩
          have HM := Lib.hid hM
          have HML := Lib.hid hml
          clear hown hM hml hfull hb6 HB56 HMOD hgb hgl HY0 HY1 HS5
          rcases hcase with ⟨rfl, hall⟩ | ⟨a, rfl, _, _, _⟩
          · have HALL := Lib.hid (all_of_idx hall)
            clear hall
            rcases hg with rfl | ⟨rfl, hlf⟩
            · go_wp2_with fail
              refine hf.mono ?_
              rintro e w8 ⟨rfl, hb8⟩
              refine Hid.out ?_
              refine Lib.hid ?_
              have HB8 := Lib.hid (HB6.out.trans (hb8.mono HB6.out.size))
              have HM8 := Lib.hid (HM.out.below hb8)
              have HIA8 := Lib.hid (HIA4.out.below (HB46.out.trans (hb8.mono HB46.out.size)))
              have HB48 := Lib.hid (HB46.out.trans (hb8.mono HB46.out.size))
              clear hb8 hf hz0 hz1 HM
              go_wp2
              go_loopw [22] (fun i wr => ∃ k : Nat, k ≤ A.length ∧ i = .int .i64 k ∧ (∀ j, j < k → litB M (A.getD j 0) = true) ∧ Below w8.heap.size w8 wr) (fun i _ => A.length - (intOf i).toNat)
              case atStart => exact ⟨0, Nat.zero_le _, rfl, fun j hj => absurd hj (Nat.not_lt_zero _), Below.refl _ _⟩
              case round =>
                obtain ⟨k, hk, rfl, hno, hb⟩ := hrel
                have HE := Lib.hid hno
                clear hno
                by_cases hlt : k < A.length
                · have hlt' : (k : Int) < (A.length : Int) := by omega
                  obtain ⟨_, _, ep, _, _, e0⟩ := HIA8.out
                  cases ep
                  obtain ⟨b1, o1, rfl, e1⟩ := e0 (by omega)
                  clear e0
                  have d1 := (hb.cell (p := ⟨b1, o1 + k, none⟩) (World.block_lt_of_cell? _ _ (e1 k hlt))).trans (e1 k hlt)
                  have hxv := HVA.out _ (mem_getD hlt)
                  have hvx := litB_val HML.out hxv.1 hxv.2
                  obtain ⟨x, ex⟩ : ∃ x, A.getD k 0 = x := ⟨_, rfl⟩
                  rw [ex] at d1 hxv hvx
                  have HX := Lib.hid ex
                  obtain ⟨hx0, hxV⟩ := hxv
                  clear e1 ex
                  obtain ⟨t, ht⟩ : ∃ t, x.natAbs = t + 1 := ⟨x.natAbs - 1, by omega⟩
                  rw [show x.natAbs - 1 = t by omega] at hvx
                  have htV : t < V := by omega
                  have hml := HML.out
                  obtain ⟨_, _, ep, _, _, em⟩ := HM8.out
                  simp only [Value.slice.injEq] at ep
                  obtain ⟨ep, ep2, ep3⟩ := ep
                  subst ep
                  clear ep2 ep3
                  obtain ⟨bm, om, epm, ec⟩ := em (by omega)
                  cases epm
                  have eM := ec t (by omega)
                  rw [Nat.zero_add] at eM
                  have dM := (hb.cell (p := ⟨g, t, none⟩) (World.block_lt_of_cell? _ _ eM)).trans eM
                  clear em eM ec
                  generalize M.getD t false = y at dM hvx
                  have hmax : (if x < -x then -x else x) = (t : Int) + 1 := by split <;> omega
                  have hneg : IntKind.i64.wrap (-x) = -x := by simp only [IntKind.wrap_i64]; omega
                  have htV' : (t : Int) < (V : Int) := by omega
                  have HLT : ∀ b, (y == decide (0 < x)) = b → Hid (litB M (A.getD k 0) = b) := fun b h => Lib.hid (by rw [HX.out, hvx, h])
                  clear hvx ht hxV hml hx0
                  cases hy : (y == decide (0 < x)) with
                  | true =>
                    have HT := HLT _ hy
                    have hd : (y != decide (0 < x)) = false := by simp [bne, hy]
                    clear HLT
                    go_wp2
                    go_quiet (fail)
                    go_wp2
                    go_roundw
                    case rel =>
                      refine ⟨k + 1, by omega, by go_num, fun j hj => ?_, below_drewN hb _⟩
                      by_cases hjk : j = k
                      · rw [hjk]; exact HT.out
                      · exact HE.out j (by omega)
                    case measure => simp [intOf]; omega
                  | false =>
                    have hd : (y != decide (0 < x)) = true := by simp [bne, hy]
                    have HBT := Lib.hid (HB8.out.trans (hb.mono HB8.out.size))
                    clear HLT hb
                    go_wp2
                    go_quiet (fail)
                    clear d1 dM
                    have HBq := Lib.hid (below_drewN HBT.out nq)
                    go_wp2_with fail
                    refine (known4_any _).mono ?_
                    rintro e wz ⟨rfl, hbz⟩
                    refine Hid.out ?_
                    refine Lib.hid ?_
                    have HBz := Lib.hid (HBq.out.trans (hbz.mono HBq.out.size))
                    clear hbz
                    go_wp2
                    go_ret
                    exact ⟨rfl, HBz.out⟩
                · have hlt' : ¬ (k : Int) < (A.length : Int) := by omega
                  have HAT : Hid (∀ a ∈ A, litB M a = true) := Lib.hid fun a ha => by
                    obtain ⟨j, hj, e⟩ := U.mem_at ha
                    rw [← e]
                    exact HE.out j (by omega)
                  rcases HU.out with ⟨_, h⟩ | ⟨h, _⟩
                  · exact absurd h (bad_sound HML.out HALL.out HVL.out HAT.out HVA.out)
                  · cases h
            · go_wp2_with fail
              refine hf.mono ?_
              rintro e w8 ⟨rfl, hb8⟩
              refine Hid.out ?_
              refine Lib.hid ?_
              have HB8 := Lib.hid (HB6.out.trans (hb8.mono HB6.out.size))
              have HM8 := Lib.hid (HM.out.below hb8)
              have HIA8 := Lib.hid (HIA4.out.below (HB46.out.trans (hb8.mono HB46.out.size)))
              have HB48 := Lib.hid (HB46.out.trans (hb8.mono HB46.out.size))
              clear hb8 hf hz0 hz1 HM
              go_wp2
              go_loopw [22] (fun i wr => ∃ k : Nat, k ≤ A.length ∧ i = .int .i64 k ∧ (∀ j, j < k → litB M (A.getD j 0) = true) ∧ Below w8.heap.size w8 wr) (fun i _ => A.length - (intOf i).toNat)
              case atStart => exact ⟨0, Nat.zero_le _, rfl, fun j hj => absurd hj (Nat.not_lt_zero _), Below.refl _ _⟩
              case round =>
                obtain ⟨k, hk, rfl, hno, hb⟩ := hrel
                have HE := Lib.hid hno
                clear hno
                by_cases hlt : k < A.length
                · have hlt' : (k : Int) < (A.length : Int) := by omega
                  obtain ⟨_, _, ep, _, _, e0⟩ := HIA8.out
                  cases ep
                  obtain ⟨b1, o1, rfl, e1⟩ := e0 (by omega)
                  clear e0
                  have d1 := (hb.cell (p := ⟨b1, o1 + k, none⟩) (World.block_lt_of_cell? _ _ (e1 k hlt))).trans (e1 k hlt)
                  have hxv := HVA.out _ (mem_getD hlt)
                  have hvx := litB_val HML.out hxv.1 hxv.2
                  obtain ⟨x, ex⟩ : ∃ x, A.getD k 0 = x := ⟨_, rfl⟩
                  rw [ex] at d1 hxv hvx
                  have HX := Lib.hid ex
                  obtain ⟨hx0, hxV⟩ := hxv
                  clear e1 ex
                  obtain ⟨t, ht⟩ : ∃ t, x.natAbs = t + 1 := ⟨x.natAbs - 1, by omega⟩
                  rw [show x.natAbs - 1 = t by omega] at hvx
                  have htV : t < V := by omega
                  have hml := HML.out
                  obtain ⟨_, _, ep, _, _, em⟩ := HM8.out
                  simp only [Value.slice.injEq] at ep
                  obtain ⟨ep, ep2, ep3⟩ := ep
                  subst ep
                  clear ep2 ep3
                  obtain ⟨bm, om, epm, ec⟩ := em (by omega)
                  cases epm
                  have eM := ec t (by omega)
                  rw [Nat.zero_add] at eM
                  have dM := (hb.cell (p := ⟨g, t, none⟩) (World.block_lt_of_cell? _ _ eM)).trans eM
                  clear em eM ec
                  generalize M.getD t false = y at dM hvx
                  have hmax : (if x < -x then -x else x) = (t : Int) + 1 := by split <;> omega
                  have hneg : IntKind.i64.wrap (-x) = -x := by simp only [IntKind.wrap_i64]; omega
                  have htV' : (t : Int) < (V : Int) := by omega
                  have HLT : ∀ b, (y == decide (0 < x)) = b → Hid (litB M (A.getD k 0) = b) := fun b h => Lib.hid (by rw [HX.out, hvx, h])
                  clear hvx ht hxV hml hx0
                  cases hy : (y == decide (0 < x)) with
                  | true =>
                    have HT := HLT _ hy
                    have hd : (y != decide (0 < x)) = false := by simp [bne, hy]
                    clear HLT
                    go_wp2
                    go_quiet (fail)
                    go_wp2
                    go_roundw
                    case rel =>
                      refine ⟨k + 1, by omega, by go_num, fun j hj => ?_, below_drewN hb _⟩
                      by_cases hjk : j = k
                      · rw [hjk]; exact HT.out
                      · exact HE.out j (by omega)
                    case measure => simp [intOf]; omega
                  | false =>
                    have hd : (y != decide (0 < x)) = true := by simp [bne, hy]
                    have HBT := Lib.hid (HB8.out.trans (hb.mono HB8.out.size))
                    clear HLT hb
                    go_wp2
                    go_quiet (fail)
                    clear d1 dM
                    have HBq := Lib.hid (below_drewN HBT.out nq)
                    go_wp2_with fail
                    refine (known4_any _).mono ?_
                    rintro e wz ⟨rfl, hbz⟩
                    refine Hid.out ?_
                    refine Lib.hid ?_
                    have HBz := Lib.hid (HBq.out.trans (hbz.mono HBq.out.size))
                    clear hbz
                    go_wp2
                    go_ret
                    exact ⟨rfl, HBz.out⟩
                · have hlt' : ¬ (k : Int) < (A.length : Int) := by omega
                  have HAT : Hid (∀ a ∈ A, litB M a = true) := Lib.hid fun a ha => by
                    obtain ⟨j, hj, e⟩ := U.mem_at ha
                    rw [← e]
                    exact HE.out j (by omega)
                  have HRT : Hid (∀ x ∈ R1, litB M x = true) := Lib.hid (by
                    rcases HU.out with ⟨h, _⟩ | ⟨_, g, eR⟩
                    · cases h
                    · intro x hx
                      rw [eR] at hx
                      exact der_sound HML.out HALL.out HVL.out HAT.out ((mem_units g HVL.out HVA.out x).1 hx))
                  rename World => w9
                  have HB9 := Lib.hid (HB8.out.trans (hb.mono HB8.out.size))
                  have HB49 := Lib.hid (HB48.out.trans (hb.mono HB48.out.size))
                  have HM9 := Lib.hid (HM8.out.below hb)
                  clear hb HE HM8 HIA8 HB48 HB8 hk hlt
                  go_wp2
                  go_loopw [23] (fun i wr => ∃ k : Nat, k ≤ R1.length ∧ i = .int .i64 k ∧ Below w9.heap.size w9 wr) (fun i _ => R1.length - (intOf i).toNat)
                  case atStart => exact ⟨0, Nat.zero_le _, rfl, Below.refl _ _⟩
                  case round =>
                    clear hlt'
                    obtain ⟨k, hk, rfl, hb⟩ := hrel
                    by_cases hlt : k < R1.length
                    · have hlt' : (k : Int) < (R1.length : Int) := by omega
                      obtain ⟨b1, o1, rfl, e1⟩ := HCELL.out (by omega)
                      have d1 := ((HB49.out.trans (hb.mono HB49.out.size)).cell (p := ⟨b1, o1 + k, none⟩) (World.block_lt_of_cell? _ _ (e1 k hlt))).trans (e1 k hlt)
                      have hxv := HVAL.out _ (mem_getD hlt)
                      have hvx := litB_val HML.out hxv.1 hxv.2
                      rw [HRT.out _ (mem_getD hlt)] at hvx
                      obtain ⟨x, ex⟩ : ∃ x, R1.getD k 0 = x := ⟨_, rfl⟩
                      rw [ex] at d1 hxv hvx
                      obtain ⟨hx0, hxV⟩ := hxv
                      clear e1 ex
                      obtain ⟨t, ht⟩ : ∃ t, x.natAbs = t + 1 := ⟨x.natAbs - 1, by omega⟩
                      rw [show x.natAbs - 1 = t by omega] at hvx
                      have htV : t < V := by omega
                      have hml := HML.out
                      obtain ⟨_, _, ep, _, _, em⟩ := HM9.out
                      simp only [Value.slice.injEq] at ep
                      obtain ⟨ep, ep2, ep3⟩ := ep
                      subst ep
                      clear ep2 ep3
                      obtain ⟨bm, om, epm, ec⟩ := em (by omega)
                      cases epm
                      have eM := ec t (by omega)
                      rw [Nat.zero_add] at eM
                      have dM := (hb.cell (p := ⟨g, t, none⟩) (World.block_lt_of_cell? _ _ eM)).trans eM
                      clear em eM ec
                      generalize M.getD t false = y at dM hvx
                      have hmax : (if x < -x then -x else x) = (t : Int) + 1 := by split <;> omega
                      have hneg : IntKind.i64.wrap (-x) = -x := by simp only [IntKind.wrap_i64]; omega
                      have htV' : (t : Int) < (V : Int) := by omega
                      have hy := hvx.symm
                      have hd : (y != decide (0 < x)) = false := by simp [bne, hy]
                      clear hvx ht hxV hml hx0
                      go_wp2
                      go_quiet (fail)
                      go_wp2
                      go_roundw
                      case rel => exact ⟨k + 1, by omega, by go_num, below_drewN hb _⟩
                      case measure => simp [intOf]; omega
                    · have hlt' : ¬ (k : Int) < (R1.length : Int) := by omega
                      have HBT := Lib.hid (HB9.out.trans (hb.mono HB9.out.size))
                      clear hb
                      go_wp2_with fail
                      refine (known4_any _).mono ?_
                      rintro e wz ⟨rfl, hbz⟩
                      refine Hid.out ?_
                      refine Lib.hid ?_
                      have HBz := Lib.hid (HBT.out.trans (hbz.mono HBT.out.size))
                      clear hbz
                      go_wp2
                      go_ret
                      exact ⟨rfl, HBz.out⟩
          · have hne : ((a : Int) != -1) = true := bne_iff_ne.2 (by omega)
            have hne2 : ((a : Int) == -1) = false := beq_eq_false_iff_ne.2 (by omega)
            clear HU HCELL
            rcases hg with rfl | ⟨rfl, hlf⟩
            · go_wp2_with fail
              refine hf.mono ?_
              rintro e w8 ⟨rfl, hb8⟩
              refine Hid.out ?_
              refine Lib.hid ?_
              have HB8 := Lib.hid (HB6.out.trans (hb8.mono HB6.out.size))
              clear hb8 hf hz0 hz1
              go_wp2_with fail
              refine (known4_any _).mono ?_
              rintro e wz ⟨rfl, hbz⟩
              refine Hid.out ?_
              refine Lib.hid ?_
              have HBz := Lib.hid (HB8.out.trans (hbz.mono HB8.out.size))
              clear hbz
              go_wp2
              go_ret
              exact ⟨rfl, HBz.out⟩
            · go_wp2_with fail
              refine hf.mono ?_
              rintro e w8 ⟨rfl, hb8⟩
              refine Hid.out ?_
              refine Lib.hid ?_
              have HB8 := Lib.hid (HB6.out.trans (hb8.mono HB6.out.size))
              clear hb8 hf hz0 hz1
              go_wp2_with fail
              refine (known4_any _).mono ?_
              rintro e wz ⟨rfl, hbz⟩
              refine Hid.out ?_
              refine Lib.hid ?_
              have HBz := Lib.hid (HB8.out.trans (hbz.mono HB8.out.size))
              clear hbz
              go_wp2
              go_ret
              exact ⟨rfl, HBz.out⟩
  · have HB1 := Lib.hid (hb1.alloc hb1.size (.cells #[.int .i64 0, .slice none 0 0] 26))
    clear hok hfit hb1
    go_wp2_with fail
    refine (known4_any _).mono ?_
    rintro e w7 ⟨rfl, hb7⟩
    refine Hid.out ?_
    refine Lib.hid ?_
    have HB7 := Lib.hid (HB1.out.trans (hb7.mono HB1.out.size))
    clear hb7
    go_wp2
    go_ret
    exact ⟨rfl, HB7.out⟩
end L
end Go.Proofs.Ytoffhaamkhfdeaa
