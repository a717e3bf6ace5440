/- RupSound: the walk. -/
import Derived.Test.YtfhodbnhaaiceaaDoorJWC
import Derived.Test.YtfhodbnhaaiceaaDoorQ21
import Derived.Test.YtfhodbnhaaiceaaDoorQ19
import Derived.Test.YtfhodbnhaaiceaaDoorQ20
import Derived.Deep.RegionHeld3
namespace Go.Proofs.YtfhodbnhaaiceaaDoor
open Go.RowKit RA
namespace L
open K
set_option maxRecDepth 100000

theorem firstI_holds {m : List Bool} {F : List (List Int)} (h : firstI m F = -1) : ∀ c ∈ F, holdsB m c = true := by
  unfold firstI at h
  split at h
  · rename_i ha; exact List.all_eq_true.1 ha
  · exfalso; omega
theorem firstI_range (m : List Bool) (F : List (List Int)) : firstI m F = -1 ∨ 0 ≤ firstI m F := by
  unfold firstI
  split
  · exact .inl rfl
  · right; omega
theorem checkR_range (F p : List (List Int)) : -1 ≤ checkR F p ∧ checkR F p ≤ p.length := by
  rcases index_cases F p with ⟨_, h⟩ | ⟨i, _, h1, h⟩
  · rw [h]; split <;> omega
  · rw [h]; omega
/-- With a model that holds all of F, what Check says of the proof. -/
theorem checkR_sound {m : List Bool} {n : Nat} {F p : List (List Int)} (hm : m.length = n) (hF : ∀ c ∈ F, holdsB m c = true) (hv : ∀ c ∈ F, U.Val n c) (hp : ∀ c ∈ p, U.Val n c) :
    checkR F p ≠ -1 ∧ ∀ i : Nat, (i : Int) < checkR F p → holdsB m (p.getD i []) = true := by
  have h1 := firstNot_sound hm hF hv hp
  unfold checkR
  cases hf : firstNot F p with
  | some k =>
    rw [hf] at h1
    exact ⟨by simp, fun i hi => h1 i (by simpa using hi)⟩
  | none =>
    rw [hf] at h1
    refine ⟨?_, ?_⟩
    · simp only
      split
      · rename_i hl
        exfalso
        have hpos : 0 < p.length := by
          cases p with
          | nil => simp at hl
          | cons a b => simp
        rw [last_getD hpos] at hl
        have h2 := h1 (p.length - 1) (by simp; omega)
        rw [Option.some.inj hl] at h2
        simp [holdsB] at h2
      · omega
    · intro i hi
      simp only at hi
      split at hi
      · exfalso; omega
      · exact h1 i (by simpa using hi)
theorem owns_bools5 {w : World} {base n : Nat} {v : Value} {l : List Bool} (h : w.ownsRow base 4 1 v n (l.map Value.bool)) (hl : l.length = n) (hm : n ≤ 1000) : Bools w v l := by
  subst hl
  exact owns_bools h (by omega)

set_option maxHeartbeats 16000000 in
theorem sound_walk5 (n : Int) (v : Value) (L8 : List (List Int)) (u : Value) (P8 : List (List Int)) (bt : Int) (w : World) (ht : Tab w) (hn0 : (Lit.int .u8 n).wf = true) (hW : ListsW .i8 w v L8) (hP8 : ListsW .i8 w u P8) (hbt : (Lit.int .u16 bt).wf = true) :
    Calls Tryd.prog 7 #[.int .u8 n, v, u, .int .u16 bt] w fun e w' => e = .returned (.bool true) ∧ Below w.heap.size w w' := by
  have hfit := fit_any n v L8 w hn0 hW
  obtain ⟨p, c, rfl⟩ : ∃ p c, v = .slice p L8.length c := by obtain ⟨p, c, h, _⟩ := hW; exact ⟨p, c, h⟩
  obtain ⟨pu, cu, rfl⟩ : ∃ p c, u = .slice p P8.length c := by obtain ⟨p, c, h, _⟩ := hP8; exact ⟨p, c, h⟩
  obtain ⟨V, hVd⟩ : ∃ V : Nat, (V : Int) = 1 + n % 12 := ⟨(1 + n % 12).toNat, by omega⟩
  have hV : 1 ≤ V ∧ V ≤ 12 := by omega
  rw [← hVd] at hfit
  have HP8 := Lib.hid hP8
  have HMOD := Lib.hid (fun W => model_any V bt W (by omega) hbt)
  have HT := Lib.hid ht
  have HK : Hid (∀ W, Below w.heap.size w W → Calls Tryd.prog 13 #[] W fun e w' => e = .returned (.bool true) ∧ Below W.heap.size W w') := Lib.hid fun W hb => known5_any W (ht.below hb)
  clear hVd hn0 hW ht hP8 hbt
  go_enter Tryd.func7, Tryd.ntmps7
  go_wp2_with fail
  refine hfit.mono ?_
  rintro e w1 ⟨r, rfl, hpost, hb1⟩
  refine Hid.out ?_
  refine Lib.hid ?_
  rcases hpost with ⟨hok, v', rfl, hown⟩ | ⟨hok, rfl⟩
  · have hL0 := fit_own hok hown
    have hF := fit_len (V := V) hok
    have HCK := Lib.hid (fit_check (V := V) (L := L8) (by omega) (by omega) hok)
    have HVL := Lib.hid (val_fitL hV L8)
    clear hok hfit hown
    generalize fitL V L8 = F at *
    obtain ⟨pv, cv, ev⟩ : ∃ p c, v' = .slice p F.length c := by obtain ⟨p, c, h, _⟩ := hL0; exact ⟨p, c, h⟩
    subst ev
    have hF1 := hF.1
    have HFL := Lib.hid hF.2
    obtain ⟨w2, hw2⟩ : ∃ W : World, w1.alloc (.cells #[.int .i64 V, .slice pv F.length cv] 26) = W := ⟨_, rfl⟩
    have hb12 : Below w1.heap.size w1 w2 := by rw [← hw2]; exact (Below.refl _ _).alloc (Nat.le_refl _) _
    have hb2 : Below w.heap.size w w2 := hb1.trans (hb12.mono hb1.size)
    have hx0 : w2.cell? ⟨w1.heap.size, 0, none⟩ = some (.int .i64 V) := by rw [← hw2]; simp
    have hx1 : w2.cell? ⟨w1.heap.size, 1, none⟩ = some (.slice pv F.length cv) := by rw [← hw2]; simp
    have hs2 : w1.heap.size < w2.heap.size := World.block_lt_of_cell? _ _ hx0
    have HX0 : Hid (∀ W, Below w2.heap.size w2 W → W.cell? ⟨w1.heap.size, 0, none⟩ = some (.int .i64 V)) := Lib.hid fun W hb => (hb.cell (p := ⟨w1.heap.size, 0, none⟩) hs2).trans hx0
    have HX1 : Hid (∀ W, Below w2.heap.size w2 W → W.cell? ⟨w1.heap.size, 1, none⟩ = some (.slice pv F.length cv)) := Lib.hid fun W hb => (hb.cell (p := ⟨w1.heap.size, 1, none⟩) hs2).trans hx1
    have HL : Hid (∀ W, Below w2.heap.size w2 W → Lists W (.slice pv F.length cv) F) := Lib.hid fun W hW => (hL0.below hb12).below hW
    have HV64 : Hid (I64 (V : Int)) := Lib.hid (by unfold I64; omega)
    have HFI : Hid (∀ c ∈ F, ∀ x ∈ c, I64 x) := Lib.hid fun c hc => val_i64 (n := V) (by omega) (HVL.out c hc)
    have HB2 := Lib.hid hb2
    clear hL0 hF hb12 hb1 hb2
    have hcl := clauses_any V (by omega) pv F.length cv (.slice pu P8.length cu) P8 w2 (HP8.out.below HB2.out)
    go_wp2_with fail
    clear hw2
    refine hcl.mono ?_
    rintro e w3 ⟨r, rfl, hpost, hb3⟩
    have HB23 := Lib.hid hb3
    have HB3 := Lib.hid (HB2.out.trans (hb3.mono HB2.out.size))
    rcases hpost with ⟨hok, vp, rfl, hown⟩ | ⟨hok, rfl⟩
    · have hP0 := fit_own hok hown
      have hPl := fit_len (V := V) hok
      have HPE : Hid (firstE V (fitL V P8) = 0) := Lib.hid (checkF_first (fit_check (V := V) (L := P8) (by omega) (by omega) hok))
      have HPV := Lib.hid (val_fitL hV P8)
      clear hok hown hcl hb3
      generalize fitL V P8 = P at *
      obtain ⟨pp, cp, ev⟩ : ∃ p c, vp = .slice p P.length c := by obtain ⟨p, c, h, _⟩ := hP0; exact ⟨p, c, h⟩
      subst ev
      have hP1 := hPl.1
      have HPN := Lib.hid hPl.2
      have HPI : Hid (∀ c ∈ P, ∀ x ∈ c, I64 x) := Lib.hid fun c hc => val_i64 (n := V) (by omega) (HPV.out c hc)
      have HPL : Hid (∀ W, Below w3.heap.size w3 W → Lists W (.slice pp P.length cp) P) := Lib.hid fun W hW => hP0.below hW
      clear hP0 hPl hx0 hx1
      have x0 := HX0.out _ HB23.out
      have x1 := HX1.out _ HB23.out
      go_wp2_with fail
      refine (HMOD.out w3).mono ?_
      rintro e w4 ⟨vm, rfl, hom, hb4⟩
      have HB24 := Lib.hid (HB23.out.trans (hb4.mono HB23.out.size))
      have HB34 := Lib.hid hb4
      have HB4 := Lib.hid (HB3.out.trans (hb4.mono HB3.out.size))
      have HM : Hid (∀ W, Below w4.heap.size w4 W → Bools W vm (modelR V bt)) := Lib.hid fun W hW => (owns_bools5 hom (modelR_len _ _) (by omega)).below hW
      have HML : Hid ((modelR V bt).length = V) := Lib.hid (modelR_len _ _)
      obtain ⟨pm, cm, rfl⟩ := owns_shape hom
      generalize modelR V bt = m at *
      clear hom hb4 x0 x1
      have x0 := HX0.out _ HB24.out
      have x1 := HX1.out _ HB24.out
      have hfi := first_any (V : Int) _ _ F m w4 HV64.out HFI.out (HL.out _ HB24.out) (HM.out _ (Below.refl _ _))
      rw [firstF_ok HCK.out (by rw [HML.out])] at hfi
      go_wp2_with fail
      refine hfi.mono ?_
      rintro e w5 ⟨rfl, hb5⟩
      have HB45 := Lib.hid hb5
      have HB25 := Lib.hid (HB24.out.trans (hb5.mono HB24.out.size))
      have HB35 := Lib.hid (HB34.out.trans (hb5.mono HB34.out.size))
      have HB5 := Lib.hid (HB4.out.trans (hb5.mono HB4.out.size))
      clear hfi hb5 x0 x1
      have x0 := HX0.out _ HB25.out
      have x1 := HX1.out _ HB25.out
      have hck := check5_any (V : Int) _ F _ P w5 HV64.out HFI.out (HL.out _ HB25.out) HPI.out (HPL.out _ HB35.out) (by omega) (by omega) (HT.out.below HB5.out)
      have hA : checkA (V : Int) F P = (checkR F P, 0) := by unfold checkA; rw [if_neg (by simp [HCK.out]), if_neg (by simp [HPE.out])]
      rw [hA] at hck
      go_wp2_with fail
      refine hck.mono ?_
      rintro e w6 ⟨rfl, hb6⟩
      have HB46 := Lib.hid (HB45.out.trans (hb6.mono HB45.out.size))
      have HB26 := Lib.hid (HB25.out.trans (hb6.mono HB25.out.size))
      have HB36 := Lib.hid (HB35.out.trans (hb6.mono HB35.out.size))
      have HB6 := Lib.hid (HB5.out.trans (hb6.mono HB5.out.size))
      obtain ⟨hr1, hr2⟩ := checkR_range F P
      have HSND : Hid (firstI m F = -1 → checkR F P ≠ -1 ∧ ∀ i : Nat, (i : Int) < checkR F P → holdsB m (P.getD i []) = true) := Lib.hid fun h => checkR_sound HML.out (firstI_holds h) HVL.out HPV.out
      have hfr := firstI_range m F
      have HFH : Hid (firstI m F = -1 → ∀ c ∈ F, holdsB m c = true) := Lib.hid firstI_holds
      clear hck hb6 x0 x1 hA
      generalize checkR F P = R at *
      generalize firstI m F = I at *
      have hg1 : decide (R < -1) = false := decide_eq_false (by omega)
      have hg2 : decide ((P.length : Int) < R) = false := decide_eq_false (by omega)
      have hg1' : -1 ≤ R := hr1
      have hg2' : R ≤ (P.length : Int) := hr2
      by_cases hI : I = -1
      · subst hI
        obtain ⟨hRn, hRi⟩ := HSND.out rfl
        have hRb : (R == -1) = false := beq_eq_false_iff_ne.2 hRn
        have HRI := Lib.hid hRi
        have HFH' := Lib.hid (HFH.out rfl)
        have HIMP : Hid (∀ c ∈ P, Imp F c → holdsB m c = true) := Lib.hid fun c hc hi => imp_sound HML.out HFH'.out HVL.out (HPV.out c hc) hi
        have HPC : Hid (0 < P.length → ∃ b off, pp = some ⟨b, off, none⟩ ∧ ∀ j, j < P.length → ∃ u, w6.cell? ⟨b, off + j, none⟩ = some u ∧ Ints w6 u (P.getD j [])) := by
          obtain ⟨pp', cc', he, _, _, h⟩ := HPL.out _ HB36.out
          injection he with he1 he2 he3
          subst he1
          exact Lib.hid h
        have hR0 : 0 ≤ R := by omega
        clear hRn hRi hfr HSND HFH hr1 hr2
        go_wp2
        go_loopw [17] (fun i wr => ∃ k : Nat, (k : Int) ≤ R ∧ i = .int .i64 k ∧ wr = w6) (fun i _ => R.toNat - (intOf i).toNat)
        case atStart => exact ⟨0, by simpa using hR0, rfl, rfl⟩
        case round =>
          obtain ⟨k, hk, rfl, hwe⟩ := hrel
          obtain rfl : w6 = wr := hwe.symm
          by_cases hlt : (k : Int) < R
          · obtain ⟨b, off, rfl, e1⟩ := HPC.out (by omega)
            obtain ⟨u, hu, hui⟩ := e1 k (by omega)
            have hho := holds_any _ u m (P.getD k []) w6 (HPI.out _ (mem_getDL (by omega))) (HM.out _ HB46.out) hui
            rw [HRI.out k hlt] at hho
            obtain ⟨pu', cu', rfl, _⟩ := hui
            clear e1
            generalize (P.getD k []).length = ln at *
            go_wp2_with fail
            refine hho.mono ?_
            rintro e w7 ⟨rfl, rfl⟩
            clear hho hu
            go_wp2
            go_roundw
            case rel => exact ⟨k + 1, by omega, by go_num, by trivial⟩
            case measure => simp [intOf]; omega
          · clear hRb
            go_wp2
            go_loopw [18, 19, 20] (fun i _ _ wq => ∃ k : Nat, k ≤ P.length ∧ i = .int .i64 k ∧ Below w6.heap.size w6 wq) (fun i _ _ _ => P.length - (intOf i).toNat)
            case atStart => exact ⟨0, Nat.zero_le _, rfl, Below.refl _ _⟩
            case round =>
              clear hk hlt
              obtain ⟨j, hj, rfl, hb⟩ := hrel
              by_cases hlt : j < P.length
              · obtain ⟨b, off, rfl, e1⟩ := HPC.out (by omega)
                obtain ⟨u, hu, hui⟩ := e1 j hlt
                have hmem := mem_getDL hlt
                have hsz := HPN.out _ hmem
                have HBW := Lib.hid (HB26.out.trans (hb.mono HB26.out.size))
                have himp := fun W (hW : Below w6.heap.size w6 W) => implied_any (V : Int) _ F u (P.getD j []) W HV64.out HFI.out (HL.out _ (HB26.out.trans (hW.mono HB26.out.size))) (HPI.out _ hmem) (hui.below hW) (by omega) (by omega)
                have hho := fun W (hW : Below w6.heap.size w6 W) => holds_any _ u m (P.getD j []) W (HPI.out _ hmem) (HM.out _ (HB46.out.trans (hW.mono HB46.out.size))) (hui.below hW)
                obtain ⟨q, hq, hqi⟩ : ∃ q : Bool, impliedR (V : Int) F (P.getD j []) = (q, 0) ∧ (q = true → Imp F (P.getD j [])) := by
                  unfold impliedR
                  rw [if_neg (by simp [HCK.out]), if_neg (by rw [firstE_all HPE.out _ hmem]; simp)]
                  exact ⟨_, rfl, fun h => by simpa using h⟩
                rw [hq] at himp
                have HQI : Hid (q = true → holdsB m (P.getD j []) = true) := Lib.hid fun h => HIMP.out _ hmem (hqi h)
                have HIM := Lib.hid himp
                have HHO := Lib.hid hho
                obtain ⟨pu', cu', rfl, _⟩ := hui
                have d1 : ∀ x : Later w6.heap.size w6, x.W.cell? ⟨b, off + j, none⟩ = some (.slice pu' (P.getD j []).length cu') := fun x => (x.cell (p := ⟨b, off + j, none⟩) (World.block_lt_of_cell? _ _ hu)).trans hu
                have k0 : ∀ x : Later w6.heap.size w6, x.W.cell? ⟨w1.heap.size, 0, none⟩ = some (.int .i64 V) := fun x => HX0.out _ (HB26.out.trans (x.ok.mono HB26.out.size))
                have k1 : ∀ x : Later w6.heap.size w6, x.W.cell? ⟨w1.heap.size, 1, none⟩ = some (.slice pv F.length cv) := fun x => HX1.out _ (HB26.out.trans (x.ok.mono HB26.out.size))
                clear hq hqi himp hho e1 hu hmem
                generalize (P.getD j []).length = ln at *
                obtain ⟨hold, hhold⟩ : ∃ h, holdsB m (P.getD j []) = h := ⟨_, rfl⟩
                rw [hhold] at HHO HQI
                clear hhold
                go_wp2
                refine wp_region_later (B := w6.heap.size) (w0 := w6) (by kernel_rfl) (by kernel_rfl) hb ?_
                repeat (go_big_quiet_step ((go_at_call 14; exact later_mono _ (Nat.le_refl _) (HIM.out _ (Later.ok _)))))
                refine wpQuiet_nil ?_
                rintro _ ⟨x, rfl⟩
                have hx := x.ok
                have dx := d1 x
                clear d1 k0 k1 hb HBW
                generalize x.W = wx at *
                clear x
                cases q with
                | false =>
                  go_wp2
                  go_roundw
                  case rel => exact ⟨j + 1, by omega, by go_num, hx⟩
                  case measure => simp [intOf]; omega
                | true =>
                  obtain rfl : hold = true := HQI.out rfl
                  have hh := HHO.out wx hx
                  have HXX := Lib.hid hx
                  clear hx
                  go_wp2_with fail
                  refine hh.mono ?_
                  rintro e w7 ⟨rfl, rfl⟩
                  clear hh dx
                  go_wp2
                  go_roundw
                  case rel => exact ⟨j + 1, by omega, by go_num, HXX.out⟩
                  case measure => simp [intOf]; omega
              · have HBZ := Lib.hid (HB6.out.trans (hb.mono HB6.out.size))
                clear hb
                have hkn := HK.out _ HBZ.out
                go_wp2_with fail
                refine hkn.mono ?_
                rintro e w9 ⟨rfl, hbk⟩
                refine Hid.out ?_
                refine Lib.hid ?_
                have HBK := Lib.hid (HBZ.out.trans (hbk.mono HBZ.out.size))
                clear hbk hkn
                go_wp2
                go_ret
                exact ⟨rfl, HBK.out⟩
      · have hIb : (I != -1) = true := by simp [hI]
        clear hI hfr HSND HFH hr1 hr2
        have hkn := HK.out _ HB6.out
        go_wp2_with fail
        refine hkn.mono ?_
        rintro e w9 ⟨rfl, hbk⟩
        refine Hid.out ?_
        refine Lib.hid ?_
        have HBK := Lib.hid (HB6.out.trans (hbk.mono HB6.out.size))
        clear hbk hkn
        go_wp2
        go_ret
        exact ⟨rfl, HBK.out⟩
    · clear hok hcl hb3 hx0 hx1
      have hkn := HK.out _ HB3.out
      go_wp2_with fail
      refine hkn.mono ?_
      rintro e w9 ⟨rfl, hbk⟩
      refine Hid.out ?_
      refine Lib.hid ?_
      have HBK := Lib.hid (HB3.out.trans (hbk.mono HB3.out.size))
      clear hbk hkn
      go_wp2
      go_ret
      exact ⟨rfl, HBK.out⟩
  · have HB1 := Lib.hid (hb1.alloc hb1.size (.cells #[.int .i64 0, .slice none 0 0] 26))
    clear hok hfit hb1
    have hkn := HK.out _ HB1.out
    go_wp2_with fail
    refine hkn.mono ?_
    rintro e w9 ⟨rfl, hbk⟩
    refine Hid.out ?_
    refine Lib.hid ?_
    have HBK := Lib.hid (HB1.out.trans (hbk.mono HB1.out.size))
    clear hbk hkn
    go_wp2
    go_ret
    exact ⟨rfl, HBK.out⟩
end L
end Go.Proofs.YtfhodbnhaaiceaaDoor
