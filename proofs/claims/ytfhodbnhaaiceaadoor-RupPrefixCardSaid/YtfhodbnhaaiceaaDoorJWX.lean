/- RupPrefix: the walk. -/
import Derived.Test.YtfhodbnhaaiceaaDoorJVS
import Derived.Test.YtfhodbnhaaiceaaDoorJVT
import Derived.Test.YtfhodbnhaaiceaaDoorQ26
import Derived.Test.YtfhodbnhaaiceaaDoorQ28
import Derived.Test.YtfhodbnhaaiceaaDoorQ20
import Derived.Test.YtfhodbnhaaiceaaDoorQ21
import Derived.Test.YtfhodbnhaaiceaaDoorQ19
import Derived.Deep.RegionHeld3
import Derived.Deep.RegionLaw
import Derived.BigRegion
namespace Go.Proofs.YtfhodbnhaaiceaaDoor
open Go.RowKit RA
namespace L
open K
set_option maxRecDepth 100000

set_option maxHeartbeats 16000000 in
theorem prefix_walk5 (n : Int) (v : Value) (L8 : List (List Int)) (u : Value) (P8 : List (List Int)) (w : World) (ht : Tab w) (hn0 : (Lit.int .u8 n).wf = true) (hW : ListsW .i8 w v L8) (hP8 : ListsW .i8 w u P8) :
    Calls Tryd.prog 10 #[.int .u8 n, v, u] w fun e w' => e = .returned (.bool true) ∧ Below w.heap.size w w' := by
  have hfit := fit_any n v L8 w hn0 hW
  obtain ⟨p, c, rfl⟩ : ∃ p c, v = .slice p L8.length c := by obtain ⟨p, c, h, _⟩ := hW; exact ⟨p, c, h⟩
  obtain ⟨pu, cu, rfl⟩ : ∃ p c, u = .slice p P8.length c := by obtain ⟨p, c, h, _⟩ := hP8; exact ⟨p, c, h⟩
  obtain ⟨V, hVd⟩ : ∃ V : Nat, (V : Int) = 1 + n % 12 := ⟨(1 + n % 12).toNat, by omega⟩
  have hV : 1 ≤ V ∧ V ≤ 12 := by omega
  rw [← hVd] at hfit
  have HP8 := Lib.hid hP8
  have HT := Lib.hid ht
  have HK : Hid (∀ W, Below w.heap.size w W → Calls Tryd.prog 13 #[] W fun e w' => e = .returned (.bool true) ∧ Below W.heap.size W w') := Lib.hid fun W hb => known5_any W (ht.below hb)
  clear hVd hn0 hW ht hP8
  go_enter Tryd.func10, Tryd.ntmps10
  go_wp2_with fail
  refine hfit.mono ?_
  rintro e w1 ⟨r, rfl, hpost, hb1⟩
  refine Hid.out ?_
  refine Lib.hid ?_
  rcases hpost with ⟨hok, v', rfl, hown⟩ | ⟨hok, rfl⟩
  · have hL0 := fit_own hok hown
    have hF := fit_len (V := V) hok
    have HCK := Lib.hid (fit_check (V := V) (L := L8) (by omega) (by omega) hok)
    have HVL := Lib.hid (val_fitL hV L8)
    clear hok hfit hown
    generalize fitL V L8 = F at *
    obtain ⟨pv, cv, ev⟩ : ∃ p c, v' = .slice p F.length c := by obtain ⟨p, c, h, _⟩ := hL0; exact ⟨p, c, h⟩
    subst ev
    have hF1 := hF.1
    have HFL := Lib.hid hF.2
    obtain ⟨w2, hw2⟩ : ∃ W : World, w1.alloc (.cells #[.int .i64 V, .slice pv F.length cv] 26) = W := ⟨_, rfl⟩
    have hb12 : Below w1.heap.size w1 w2 := by rw [← hw2]; exact (Below.refl _ _).alloc (Nat.le_refl _) _
    have hb2 : Below w.heap.size w w2 := hb1.trans (hb12.mono hb1.size)
    have hx0 : w2.cell? ⟨w1.heap.size, 0, none⟩ = some (.int .i64 V) := by rw [← hw2]; simp
    have hx1 : w2.cell? ⟨w1.heap.size, 1, none⟩ = some (.slice pv F.length cv) := by rw [← hw2]; simp
    have hs2 : w1.heap.size < w2.heap.size := World.block_lt_of_cell? _ _ hx0
    have HX0 : Hid (∀ W, Below w2.heap.size w2 W → W.cell? ⟨w1.heap.size, 0, none⟩ = some (.int .i64 V)) := Lib.hid fun W hb => (hb.cell (p := ⟨w1.heap.size, 0, none⟩) hs2).trans hx0
    have HX1 : Hid (∀ W, Below w2.heap.size w2 W → W.cell? ⟨w1.heap.size, 1, none⟩ = some (.slice pv F.length cv)) := Lib.hid fun W hb => (hb.cell (p := ⟨w1.heap.size, 1, none⟩) hs2).trans hx1
    have HL : Hid (∀ W, Below w2.heap.size w2 W → Lists W (.slice pv F.length cv) F) := Lib.hid fun W hW => (hL0.below hb12).below hW
    have HV64 : Hid (I64 (V : Int)) := Lib.hid (by unfold I64; omega)
    have HFI : Hid (∀ c ∈ F, ∀ x ∈ c, I64 x) := Lib.hid fun c hc => val_i64 (n := V) (by omega) (HVL.out c hc)
    have HB2 := Lib.hid hb2
    clear hL0 hF hb12 hb1 hb2
    have hcl := clauses_any V (by omega) pv F.length cv (.slice pu P8.length cu) P8 w2 (HP8.out.below HB2.out)
    go_wp2_with fail
    clear hw2
    refine hcl.mono ?_
    rintro e w3 ⟨r, rfl, hpost, hb3⟩
    have HB23 := Lib.hid hb3
    have HB3 := Lib.hid (HB2.out.trans (hb3.mono HB2.out.size))
    rcases hpost with ⟨hok, vp, rfl, hown⟩ | ⟨hok, rfl⟩
    · have hP0 := fit_own hok hown
      have hPl := fit_len (V := V) hok
      have hPT := OwnL.typed hown (fun j hj => by have := hPl.2 _ (mem_getDL hj); omega)
      have HPE : Hid (firstE V (fitL V P8) = 0) := Lib.hid (checkF_first (fit_check (V := V) (L := P8) (by omega) (by omega) hok))
      have HPV := Lib.hid (val_fitL hV P8)
      clear hok hown hcl hb3
      generalize fitL V P8 = P at *
      obtain ⟨pp, cp, ev⟩ : ∃ p c, vp = .slice p P.length c := by obtain ⟨p, c, h, _⟩ := hP0; exact ⟨p, c, h⟩
      subst ev
      have hP1 := hPl.1
      have HPT := Lib.hid hPT
      clear hPT
      have HPN := Lib.hid hPl.2
      have HPI : Hid (∀ c ∈ P, ∀ x ∈ c, I64 x) := Lib.hid fun c hc => val_i64 (n := V) (by omega) (HPV.out c hc)
      have HPL : Hid (∀ W, Below w3.heap.size w3 W → Lists W (.slice pp P.length cp) P) := Lib.hid fun W hW => hP0.below hW
      clear hP0 hPl hx0 hx1
      have x0 := HX0.out _ HB23.out
      have x1 := HX1.out _ HB23.out
      have hck := check5_any (V : Int) _ F _ P w3 HV64.out HFI.out (HL.out _ HB23.out) HPI.out (HPL.out _ (Below.refl _ _)) (by omega) (by omega) (HT.out.below HB3.out)
      rw [checkA_ok HCK.out HPE.out] at hck
      go_wp2_with fail
      refine hck.mono ?_
      rintro e w4 ⟨rfl, hb4⟩
      have HB34 := Lib.hid hb4
      have HB24 := Lib.hid (HB23.out.trans (hb4.mono HB23.out.size))
      have HB4 := Lib.hid (HB3.out.trans (hb4.mono HB3.out.size))
      obtain ⟨hr1, hr2⟩ := checkR_rng F P
      clear hck hb4 x0 x1
      obtain ⟨R, hR⟩ : ∃ R, checkR F P = R := ⟨_, rfl⟩
      rw [hR] at hr1 hr2
      simp only [hR]
      have HR := Lib.hid hR
      clear hR
      have hg1 : decide (R < -1) = false := decide_eq_false (by omega)
      have hg2 : decide ((P.length : Int) < R) = false := decide_eq_false (by omega)
      have x0 := HX0.out _ HB24.out
      have x1 := HX1.out _ HB24.out
      have hcf := copyf_any (V : Int) _ F w4 (HL.out _ HB24.out)
      go_wp2_with fail
      refine hcf.mono ?_
      rintro e w5 ⟨v5, rfl, hown5, hb5⟩
      clear hcf x0 x1 hg1 hg2
      have hot := OwnL.typed hown5 (fun j hj => by have := HFL.out _ (mem_getDL hj); omega)
      obtain ⟨pg, cg, rfl⟩ : ∃ p c, v5 = .slice p F.length c := by
        obtain ⟨us, h1, h2, h3⟩ := hown5
        exact owns_shape h2
      obtain ⟨w6, hw6⟩ : ∃ W : World, w5.alloc (.cells #[.int .i64 V, .slice pg F.length cg] 26) = W := ⟨_, rfl⟩
      have hst : PSt w5.heap.size w4.heap.size w4 V w6 F pg cg := by
        rw [← hw6]
        exact ⟨Box.new _ _ _, hot.below ((Below.refl _ _).alloc (Nat.le_refl _) _) (Nat.le_refl _), hb5.alloc hb5.size _, hb5.size⟩
      have HST := Lib.hid hst
      have HPC : Hid (0 < P.length → ∃ g, pp = some ⟨g, 0, none⟩ ∧ P.length ≤ cp ∧ ∀ j, j < P.length → ∃ u, w4.cell? ⟨g, 0 + j, none⟩ = some u ∧ Ints w4 u (P.getD j []) ∧ TypedI w4 u) := Lib.hid fun h0 => by
        obtain ⟨g, c, e, hc, h⟩ := OwnT.rows (OwnT.below HPT.out HB34.out (Nat.le_refl _)) h0
        injection e with e1 e2 e3
        subst e1 e3
        exact ⟨g, rfl, hc, h⟩
      clear hown5 hb5 hot hst
      go_wp2
      clear hw6
      go_loopw [13, 14, 15] (fun i _ _ wr => ∃ (k : Nat) (pg : Option Addr) (cg : Nat), k ≤ P.length ∧ i = .int .i64 k ∧ (∀ j, j < k → Imp (F ++ P.take j) (P.getD j [])) ∧ PSt w5.heap.size w4.heap.size w4 V wr (F ++ P.take k) pg cg) (fun i _ _ _ => P.length - (intOf i).toNat)
      case atStart => exact ⟨0, pg, cg, Nat.zero_le _, rfl, fun j hj => absurd hj (Nat.not_lt_zero _), by rw [List.take_zero, List.append_nil]; exact HST.out⟩
      case round =>
        clear HST
        obtain ⟨k, pg, cg, hk, rfl, himp, hst⟩ := hrel
        have HI := Lib.hid himp
        have HST := Lib.hid hst
        have hb := hst.2.2.1
        have HB := Lib.hid hb
        clear himp
        by_cases hlt : k < P.length
        · obtain ⟨bp, rfl, hcp, e1⟩ := HPC.out (by omega)
          obtain ⟨u, hu, hui, hut⟩ := e1 k hlt
          have hmem := mem_getDL hlt
          have HTS := Lib.hid (take_snoc' hlt)
          have hPk := firstE_all HPE.out _ hmem
          have hGc : checkF (V : Int) (F ++ P.take k) = 0 := checkF_of HCK.out (by rw [List.length_append, List.length_take]; omega) (firstE_of fun c hc => (List.mem_append.1 hc).elim (fun h => firstE_all (checkF_first HCK.out) c h) fun h => firstE_all HPE.out c (List.mem_of_mem_take h))
          have hGi : ∀ c ∈ F ++ P.take k, ∀ x ∈ c, I64 x := fun c hc => (List.mem_append.1 hc).elim (fun h => HFI.out c h) fun h => HPI.out c (List.mem_of_mem_take h)
          have hGl : (F ++ P.take k).length ≤ 1000 := by rw [List.length_append, List.length_take]; omega
          obtain ⟨q, hq, hqi⟩ := impliedR_ok hGc hPk
          have HAT : Hid (q = false → R = k) := Lib.hid fun h => by
            rw [← HR.out]
            unfold checkR
            rw [firstNot_at hlt HI.out (fun hi => by rw [hqi.2 hi] at h; cases h)]
          have HNA : Hid (q = true → R ≠ k) := Lib.hid fun h e => by
            rw [← HR.out] at e
            rcases firstNot_spec F P with ⟨h1, _⟩ | ⟨i, h1, _, _, h4⟩
            · unfold checkR at e
              rw [h1] at e
              simp only at e
              split at e <;> omega
            · unfold checkR at e
              rw [h1] at e
              simp only at e
              have e2 : i = k := by omega
              subst e2
              exact h4 (hqi.1 h)
          have HQI := Lib.hid hqi.1
          generalize hG : F ++ P.take k = G at *
          have HG := Lib.hid hG
          clear hG
          have hsz := HPN.out _ hmem
          have HPI' := Lib.hid (HPI.out _ hmem)
          generalize hc0 : P.getD k [] = c0 at *
          have HC0 := Lib.hid hc0
          clear hc0
          have HC1 : Hid (∀ W, Below wr.heap.size wr W → Calls Tryd.prog 14 #[_, u] W _) := Lib.hid fun W hW => by
            have := implied_any (V : Int) _ G u c0 W HV64.out hGi ((HST.out.later hW).2.1.lists (by omega)) HPI'.out (hui.below (HB.out.trans (hW.mono HB.out.size))) (by omega) (by omega)
            rw [hq] at this
            exact this
          have HUI := Lib.hid hui
          have HUT := Lib.hid hut
          obtain ⟨pu', cu', rfl, _⟩ := hui
          have HU := Lib.hid hu
          have HBS : Hid (w4.heap.size ≤ wr.heap.size) := Lib.hid hb.size
          have d1 : ∀ x : Later wr.heap.size wr, x.W.cell? ⟨bp, 0 + k, none⟩ = some (.slice pu' c0.length cu') := fun x => ((HB.out.trans (x.ok.mono HB.out.size)).cell (p := ⟨bp, 0 + k, none⟩) (World.block_lt_of_cell? _ _ HU.out)).trans HU.out
          have k0 : ∀ x : Later wr.heap.size wr, x.W.cell? ⟨w5.heap.size, 0, none⟩ = some (.int .i64 V) := fun x => (HST.out.later x.ok).1.cell 0
          have k1 : ∀ x : Later wr.heap.size wr, x.W.cell? ⟨w5.heap.size, 1, none⟩ = some (.slice pg G.length cg) := fun x => (HST.out.later x.ok).1.cell 1
          obtain ⟨ln, hln⟩ : ∃ n, c0.length = n := ⟨_, rfl⟩
          simp only [hln] at d1
          rw [hln] at HC1 HU HUI HUT
          simp only [Nat.zero_add] at d1
          have HU' : Hid (w4.cell? ⟨bp, k, none⟩ = some (.slice pu' ln cu')) := Lib.hid (by have := HU.out; rwa [Nat.zero_add] at this)
          clear hb hln hst hq hqi hGc hGi hPk e1 hu hut hmem HU
          go_wp2
          refine wp_region_later (B := wr.heap.size) (w0 := wr) (by kernel_rfl) (by kernel_rfl) (Below.refl _ _) ?_
          repeat (go_big_quiet_step ((go_at_call 14; exact later_mono _ (Nat.le_refl _) (HC1.out _ (Later.ok _)))))
          refine wpQuiet_nil ?_
          rintro _ ⟨x, rfl⟩
          have HBX := Lib.hid (HB.out.trans (x.ok.mono HB.out.size))
          have HSX := Lib.hid (HST.out.later x.ok)
          clear d1 k0 k1
          generalize x.W = wx at *
          clear x HB HST HC1
          cases q with
          | false =>
            have hRk := HAT.out rfl
            subst hRk
            clear HAT HNA HQI hr1 hr2
            have hkk : ((k : Int) != (k : Int)) = false := by simp
            have hk1 : decide ((k : Int) < 0) = false := decide_eq_false (by omega)
            have hk2 : ((k : Int) == (P.length : Int)) = false := beq_eq_false_iff_ne.2 (by omega)
            have hk3 : (k : Int) + 1 ≤ (cp : Int) := by omega
            have HCK2 : Hid (∀ W, Below w4.heap.size w4 W → Calls Tryd.prog 18 #[_, .slice (some ⟨bp, 0, none⟩) (k + 1) cp] W _) := Lib.hid fun W hW => by
              have hfn : firstNot F P = some k := by
                have h := HR.out
                unfold checkR at h
                cases hf : firstNot F P with
                | some i => rw [hf] at h; simp only at h; congr 1; omega
                | none => rw [hf] at h; simp only at h; split at h <;> omega
              have h := check5_any (V : Int) _ F _ (P.take (k + 1)) W HV64.out HFI.out (HL.out _ (HB24.out.trans (hW.mono HB24.out.size))) (fun c hc => HPI.out c (List.mem_of_mem_take hc)) ((HPL.out _ (HB34.out.trans (hW.mono HB34.out.size))).take (k + 1) (by omega)) (by omega) (by rw [List.length_take]; omega) (HT.out.below (HB4.out.trans (hW.mono HB4.out.size)))
              rw [checkA_ok HCK.out (firstE_of fun c hc => firstE_all HPE.out c (List.mem_of_mem_take hc))] at h
              have hcr : checkR F (P.take (k + 1)) = k := by unfold checkR; rw [firstNot_take hfn]
              rw [hcr] at h
              exact h
            have k0 : ∀ x : Later wx.heap.size wx, x.W.cell? ⟨w1.heap.size, 0, none⟩ = some (.int .i64 V) := fun x => HX0.out _ (HB24.out.trans ((HBX.out.trans (x.ok.mono HBX.out.size)).mono HB24.out.size))
            have k1 : ∀ x : Later wx.heap.size wx, x.W.cell? ⟨w1.heap.size, 1, none⟩ = some (.slice pv F.length cv) := fun x => HX1.out _ (HB24.out.trans ((HBX.out.trans (x.ok.mono HBX.out.size)).mono HB24.out.size))
            go_wp2
            refine wp_region_later (B := wx.heap.size) (w0 := wx) (by kernel_rfl) (by kernel_rfl) (Below.refl _ _) ?_
            repeat (go_big_quiet_step ((go_at_call 18; exact later_mono _ (Nat.le_refl _) (HCK2.out _ (HBX.out.trans ((Later.ok _).mono HBX.out.size))))))
            refine wpQuiet_nil ?_
            rintro _ ⟨x, rfl⟩
            have HBY := Lib.hid (HB4.out.trans ((HBX.out.trans (x.ok.mono HBX.out.size)).mono HB4.out.size))
            clear k0 k1 HBX HSX
            generalize x.W = wy at *
            clear x
            have hkn := HK.out _ HBY.out
            go_wp2_with fail
            refine hkn.mono ?_
            rintro e w9 ⟨rfl, hbk⟩
            refine Hid.out ?_
            refine Lib.hid ?_
            have HBK := Lib.hid (HBY.out.trans (hbk.mono HBY.out.size))
            clear hbk hkn
            go_wp2
            go_ret
            exact ⟨rfl, HBK.out⟩
          | true =>
            have hRk := HNA.out rfl
            have hRb : (R == (k : Int)) = false := beq_eq_false_iff_ne.2 hRk
            have HIM := Lib.hid (HQI.out rfl)
            clear HAT HNA HQI
            have HAPP := Lib.hid (fun ty => run_append_pst (bb := wx.heap.size) (W := (wx.alloc (.cells #[.slice pu' ln cu'] 23)).drew) HSX.out (HUI.out.below HBX.out) (TypedI.below HUT.out HBX.out (Nat.le_refl _)) ((Below.refl _ _).alloc (Nat.le_refl _) _).drew ((Box.new _ _ _).heap rfl) (by omega) ty)
            have q0 := (HBX.out.cell (p := ⟨bp, k, none⟩) (World.block_lt_of_cell? _ _ HU'.out)).trans HU'.out
            have q1 := HSX.out.1.cell 1
            have q1f := HSX.out.1.frozen 1
            have hba : Below wx.heap.size wx (wx.alloc (.cells #[.slice pu' ln cu'] 23)) := (Below.refl _ _).alloc (Nat.le_refl _) _
            have q0a := (hba.cell (p := ⟨bp, k, none⟩) (World.block_lt_of_cell? _ _ q0)).trans q0
            have q1a := ((HSX.out.later hba).1).cell 1
            simp only [List.getElem?_toArray, List.getElem?_cons_zero, List.getElem?_cons_succ] at q1 q1a
            clear hba
            go_wp2
            go_region_law (first
              | (refine step_append_by (by rfl) _ _ 24 24 (by rfl) _ _ (by rfl) (by rfl) _ (HAPP.out _) ?_
                 intro v7 w7 hpa
                 obtain ⟨hxB, g7, cap7, e7, hst7⟩ := hpa
                 cases e7
                 have k7 := hxB.cell 1
                 have k7f := hxB.frozen 1))
            all_goals
              have HS7 := Lib.hid hst7
              have HNX : Hid (∀ j, j < k + 1 → Imp (F ++ P.take j) (P.getD j [])) := Lib.hid fun j hj => by
                by_cases hjk : j = k
                · subst hjk; rw [HC0.out, HG.out]; exact HIM.out
                · exact HI.out j (by omega)
              have hnext : F ++ P.take (k + 1) = G ++ [c0] := by rw [HTS.out, ← List.append_assoc, HG.out]
              have HNEXT := Lib.hid hnext
              clear hst7 hxB k7 k7f q0 q1 q1f q0a q1a HAPP hRk hRb hnext
              go_wp2
              go_roundw
              case rel => exact ⟨k + 1, _, _, by omega, by go_num, HNX.out, by rw [HNEXT.out]; exact HS7.out⟩
              case measure => simp [intOf]; omega
        · obtain rfl : k = P.length := by omega
          have hfn := firstNot_none HI.out
          have hRR : R = if P.getLast? = some [] then -1 else (P.length : Int) := by
            rw [← HR.out]
            unfold checkR
            rw [hfn]
          have HBZ := Lib.hid (HB4.out.trans (HB.out.mono HB4.out.size))
          have d0 : 0 < P.length → ∃ b q l pu cu, pp = some ⟨b, 0, none⟩ ∧ P.length = q + 1 ∧ P.getLast? = some l ∧ wr.cell? ⟨b, q, none⟩ = some (.slice pu l.length cu) := fun h0 => by
            obtain ⟨b, e, _, e1⟩ := HPC.out h0
            obtain ⟨u, hu, hui, _⟩ := e1 (P.length - 1) (by omega)
            obtain ⟨pu, cu, rfl, _⟩ := hui
            refine ⟨b, P.length - 1, _, pu, cu, e, by omega, last_getD h0, ?_⟩
            rw [Nat.zero_add] at hu
            exact (HB.out.cell (p := ⟨b, P.length - 1, none⟩) (World.block_lt_of_cell? _ _ hu)).trans hu
          clear hfn hst hb hlt hk HPC HST HI
          by_cases h0 : P.length = 0
          · have hp0 : P = [] := List.eq_nil_of_length_eq_zero h0
            subst hp0
            have hR0 : R = 0 := by rw [hRR]; rfl
            subst hR0
            clear hRR d0 hr1 hr2 h0
            have hkn := HK.out _ HBZ.out
            go_wp2_with fail
            refine hkn.mono ?_
            rintro e w9 ⟨rfl, hbk⟩
            refine Hid.out ?_
            refine Lib.hid ?_
            have HBK := Lib.hid (HBZ.out.trans (hbk.mono HBZ.out.size))
            clear hbk hkn
            go_wp2
            go_ret
            exact ⟨rfl, HBK.out⟩
          · obtain ⟨b, q, l, pu, cu, rfl, hq, hlg, d1⟩ := d0 (by omega)
            rw [hlg] at hRR
            clear d0 hlg
            have hne0 : (((q : Int) + 1) == 0) = false := beq_eq_false_iff_ne.2 (by omega)
            have HQ := Lib.hid hq
            have hql : q ≤ 1000 := by omega
            by_cases hl0 : l.length = 0
            · have hln : l = [] := List.eq_nil_of_length_eq_zero hl0
              subst hln
              have hR0 : R = -1 := by rw [hRR]; simp
              subst hR0
              clear hRR hr1 hr2 h0 hq hl0
              rw [HQ.out]
              have hkn := HK.out _ HBZ.out
              go_wp2_with fail
              refine hkn.mono ?_
              rintro e w9 ⟨rfl, hbk⟩
              refine Hid.out ?_
              refine Lib.hid ?_
              have HBK := Lib.hid (HBZ.out.trans (hbk.mono HBZ.out.size))
              clear hbk hkn
              go_wp2
              go_ret
              exact ⟨rfl, HBK.out⟩
            · have hR0 : R = (q : Int) + 1 := by rw [hRR, if_neg (by intro h; injection h with h; exact hl0 (by rw [h]; rfl)), hq]; simp
              have hpos : (0 : Int) < (l.length : Int) := by omega
              have hlz : ((l.length : Int) == 0) = false := beq_eq_false_iff_ne.2 (by omega)
              have hq1 : decide (((q : Int) + 1) < 0) = false := decide_eq_false (by omega)
              have hq2 : ((q : Int) + 1 == -1) = false := beq_eq_false_iff_ne.2 (by omega)
              subst hR0
              clear hRR hr1 hr2 h0 hq
              rw [HQ.out]
              have hkn := HK.out _ HBZ.out
              go_wp2_with fail
              refine hkn.mono ?_
              rintro e w9 ⟨rfl, hbk⟩
              refine Hid.out ?_
              refine Lib.hid ?_
              have HBK := Lib.hid (HBZ.out.trans (hbk.mono HBZ.out.size))
              clear hbk hkn
              go_wp2
              go_ret
              exact ⟨rfl, HBK.out⟩
    · clear hok hcl hb3 hx0 hx1
      have hkn := HK.out _ HB3.out
      go_wp2_with fail
      refine hkn.mono ?_
      rintro e w9 ⟨rfl, hbk⟩
      refine Hid.out ?_
      refine Lib.hid ?_
      have HBK := Lib.hid (HB3.out.trans (hbk.mono HB3.out.size))
      clear hbk hkn
      go_wp2
      go_ret
      exact ⟨rfl, HBK.out⟩
  · have HB1 := Lib.hid (hb1.alloc hb1.size (.cells #[.int .i64 0, .slice none 0 0] 26))
    clear hok hfit hb1
    have hkn := HK.out _ HB1.out
    go_wp2_with fail
    refine hkn.mono ?_
    rintro e w9 ⟨rfl, hbk⟩
    refine Hid.out ?_
    refine Lib.hid ?_
    have HBK := Lib.hid (HB1.out.trans (hbk.mono HB1.out.size))
    clear hbk hkn
    go_wp2
    go_ret
    exact ⟨rfl, HBK.out⟩
end L
end Go.Proofs.YtfhodbnhaaiceaaDoor
