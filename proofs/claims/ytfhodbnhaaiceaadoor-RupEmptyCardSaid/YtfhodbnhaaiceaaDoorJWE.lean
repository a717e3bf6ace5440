/- RupEmpty: the walk. -/
import Derived.Test.YtfhodbnhaaiceaaDoorJVE
import Derived.Test.YtfhodbnhaaiceaaDoorQ27
import Derived.Test.YtfhodbnhaaiceaaDoorQ26
import Derived.Test.YtfhodbnhaaiceaaDoorQ20
import Derived.Test.YtfhodbnhaaiceaaDoorQ21
import Derived.Test.YtfhodbnhaaiceaaDoorQ19
import Derived.Deep.RegionHeld3
import Derived.Deep.RegionLaw
import Derived.BigRegion
namespace Go.Proofs.YtfhodbnhaaiceaaDoor
open Go.RowKit RA
namespace L
open K
set_option maxRecDepth 100000

set_option maxHeartbeats 16000000 in
theorem empty_walk5 (n : Int) (v : Value) (L8 : List (List Int)) (kk : Int) (w : World) (ht : Tab w) (hn0 : (Lit.int .u8 n).wf = true) (hW : ListsW .i8 w v L8) (hk0 : (Lit.int .u8 kk).wf = true) :
    Calls Tryd.prog 11 #[.int .u8 n, v, .int .u8 kk] w fun e w' => e = .returned (.bool true) ∧ Below w.heap.size w w' := by
  have hfit := fit_any n v L8 w hn0 hW
  obtain ⟨p, c, rfl⟩ : ∃ p c, v = .slice p L8.length c := by obtain ⟨p, c, h, _⟩ := hW; exact ⟨p, c, h⟩
  have hkk : 0 ≤ kk ∧ kk ≤ 255 := by simpa [Lit.wf, IntKind.min, IntKind.max, IntKind.signed, IntKind.bits] using hk0
  obtain ⟨hkk1, hkk2⟩ := hkk
  obtain ⟨i0, hi, hz0, hz1, hz2⟩ := info_parts info3
  obtain ⟨V, hVd⟩ : ∃ V : Nat, (V : Int) = 1 + n % 12 := ⟨(1 + n % 12).toNat, by omega⟩
  have hV : 1 ≤ V ∧ V ≤ 12 := by omega
  rw [← hVd] at hfit
  have HT := Lib.hid ht
  have HK : Hid (∀ W, Below w.heap.size w W → Calls Tryd.prog 13 #[] W fun e w' => e = .returned (.bool true) ∧ Below W.heap.size W w') := Lib.hid fun W hb => known5_any W (ht.below hb)
  clear hVd hn0 hW ht hk0
  go_enter Tryd.func11, Tryd.ntmps11
  go_wp2_with fail
  refine hfit.mono ?_
  rintro e w1 ⟨r, rfl, hpost, hb1⟩
  refine Hid.out ?_
  refine Lib.hid ?_
  rcases hpost with ⟨hok, v', rfl, hown⟩ | ⟨hok, rfl⟩
  · have hL0 := fit_own hok hown
    have hF := fit_len (V := V) hok
    have HCK := Lib.hid (fit_check (V := V) (L := L8) (by omega) (by omega) hok)
    have HVL := Lib.hid (val_fitL hV L8)
    clear hok hfit hown
    generalize fitL V L8 = F at *
    obtain ⟨pv, cv, ev, hcv⟩ : ∃ p c, v' = .slice p F.length c ∧ F.length ≤ c := by obtain ⟨p, c, h, h1, _⟩ := hL0; exact ⟨p, c, h, h1⟩
    subst ev
    have HCV := Lib.hid hcv
    clear hcv
    have hF1 := hF.1
    have HFL := Lib.hid hF.2
    obtain ⟨w2, hw2⟩ : ∃ W : World, w1.alloc (.cells #[.int .i64 V, .slice pv F.length cv] 26) = W := ⟨_, rfl⟩
    have hb12 : Below w1.heap.size w1 w2 := by rw [← hw2]; exact (Below.refl _ _).alloc (Nat.le_refl _) _
    have hb2 : Below w.heap.size w w2 := hb1.trans (hb12.mono hb1.size)
    have hx0 : w2.cell? ⟨w1.heap.size, 0, none⟩ = some (.int .i64 V) := by rw [← hw2]; simp
    have hx1 : w2.cell? ⟨w1.heap.size, 1, none⟩ = some (.slice pv F.length cv) := by rw [← hw2]; simp
    have hs2 : w1.heap.size < w2.heap.size := World.block_lt_of_cell? _ _ hx0
    have HX0 : Hid (∀ W, Below w2.heap.size w2 W → W.cell? ⟨w1.heap.size, 0, none⟩ = some (.int .i64 V)) := Lib.hid fun W hb => (hb.cell (p := ⟨w1.heap.size, 0, none⟩) hs2).trans hx0
    have HX1 : Hid (∀ W, Below w2.heap.size w2 W → W.cell? ⟨w1.heap.size, 1, none⟩ = some (.slice pv F.length cv)) := Lib.hid fun W hb => (hb.cell (p := ⟨w1.heap.size, 1, none⟩) hs2).trans hx1
    have HL : Hid (∀ W, Below w2.heap.size w2 W → Lists W (.slice pv F.length cv) F) := Lib.hid fun W hW => (hL0.below hb12).below hW
    have HV64 : Hid (I64 (V : Int)) := Lib.hid (by unfold I64; omega)
    have HFI : Hid (∀ c ∈ F, ∀ x ∈ c, I64 x) := Lib.hid fun c hc => val_i64 (n := V) (by omega) (HVL.out c hc)
    have HB2 := Lib.hid hb2
    clear hL0 hF hb12 hb1 hb2
    obtain ⟨q, hq⟩ : ∃ q : Bool, q = true ↔ U.Bad F [] := by
      by_cases h : U.Bad F []
      · exact ⟨true, by simp [h]⟩
      · exact ⟨false, by simp [h]⟩
    have HQ := Lib.hid hq
    have hcu := punits_q (V : Int) _ F (.slice none 0 0) [] w2 HV64.out HFI.out (HL.out _ (Below.refl _ _)) (by simp) (ints_nil _) rfl (checkU_valid HCK.out (by intro x hx; cases hx)) hq
    clear hq
    go_wp2_with fail
    clear hw2
    refine hcu.mono ?_
    rintro e w3 ⟨vl, rfl, hb3⟩
    have HB23 := Lib.hid hb3
    clear hcu hb3 hx0 hx1
    have x0 := HX0.out _ HB23.out
    have x1 := HX1.out _ HB23.out
    have him := implied_any (V : Int) _ F (.slice none 0 0) [] w3 HV64.out HFI.out (HL.out _ HB23.out) (by simp) (ints_nil _) (by omega) (by simp)
    have hiq : impliedR (V : Int) F [] = (q, 0) := by
      obtain ⟨q', h1, h2⟩ := impliedR_ok HCK.out (checkE_nil hV.2)
      rw [h1, show q' = q from Bool.eq_iff_iff.2 (h2.trans HQ.out.symm)]
    rw [hiq] at him
    clear hiq
    go_wp2_with fail
    refine him.mono ?_
    rintro e w4 ⟨rfl, hb4⟩
    have HB24 := Lib.hid (HB23.out.trans (hb4.mono HB23.out.size))
    clear him hb4 x0 x1
    have hba : Below w4.heap.size w4 (w4.alloc (.cells #[.slice none 0 0] 23)) := (Below.refl _ _).alloc (Nat.le_refl _) _
    have HB24a := Lib.hid (HB24.out.trans (hba.mono HB24.out.size))
    have x0 := HX0.out _ HB24.out
    have x1 := HX1.out _ HB24.out
    have hln : Lists (w4.alloc (.cells #[.slice none 0 0] 23)) (.slice (some ⟨w4.heap.size, 0, none⟩) 1 1) [[]] := ⟨_, 1, rfl, Nat.le_refl _, by simp, fun _ => ⟨w4.heap.size, 0, rfl, fun j hj => by
      obtain rfl : j = 0 := by simp at hj; exact hj
      exact ⟨.slice none 0 0, by simp, ints_nil _⟩⟩⟩
    have hck := check5_any (V : Int) _ F (.slice (some ⟨w4.heap.size, 0, none⟩) 1 1) [[]] (w4.alloc (.cells #[.slice none 0 0] 23)) HV64.out HFI.out (HL.out _ HB24a.out) (by simp) hln (by omega) (by simp) (HT.out.below (HB2.out.trans (HB24a.out.mono HB2.out.size)))
    rw [checkA_ok HCK.out (firstE_nil hV.2)] at hck
    have hRq := (checkR_empty HQ.out).1
    generalize checkR F [[]] = R at *
    clear hba hln
    go_wp2_with fail
    refine hck.mono ?_
    rintro e w5 ⟨rfl, hb5⟩
    have HB25 := Lib.hid (HB24a.out.trans (hb5.mono HB24a.out.size))
    have HB5 := Lib.hid (HB2.out.trans (HB25.out.mono HB2.out.size))
    clear hck hb5 x0 x1
    have x0 := HX0.out _ HB25.out
    have x1 := HX1.out _ HB25.out
    by_cases h0 : F.length = 0
    · have hz : ((F.length : Int) == 0) = true := by simp [h0]
      clear HQ
      have hkn := HK.out _ HB5.out
      go_wp2_with fail
      refine hkn.mono ?_
      rintro e w9 ⟨rfl, hbk⟩
      refine Hid.out ?_
      refine Lib.hid ?_
      have HBK := Lib.hid (HB5.out.trans (hbk.mono HB5.out.size))
      clear hbk hkn
      go_wp2
      go_ret
      exact ⟨rfl, HBK.out⟩
    · have hz : ((F.length : Int) == 0) = false := beq_eq_false_iff_ne.2 (by omega)
      obtain ⟨b, off, rfl, HROWS⟩ : ∃ b off, pv = some ⟨b, off, none⟩ ∧ Hid (∀ j, j < F.length → ∃ u, w2.cell? ⟨b, off + j, none⟩ = some u ∧ Ints w2 u (F.getD j [])) := by
        obtain ⟨p', c', e, _, _, h⟩ := HL.out _ (Below.refl _ _)
        injection e with e1 e2 e3
        subst e1
        obtain ⟨b, off, e, h⟩ := h (by omega)
        exact ⟨b, off, e, Lib.hid h⟩
      obtain ⟨i, hid⟩ : ∃ i : Nat, (i : Int) = kk % (F.length : Int) := ⟨(kk % (F.length : Int)).toNat, by have := Int.emod_nonneg kk (show (F.length : Int) ≠ 0 by omega); omega⟩
      have hiF : i < F.length := by have := Int.emod_lt_of_pos kk (show 0 < (F.length : Int) by omega); omega
      have hti : kk.tmod (F.length : Int) = (i : Int) := by rw [hid]; exact Int.tmod_eq_emod_of_nonneg hkk1
      clear hid
      have HIF := Lib.hid hiF
      have hic : (i : Int) ≤ (cv : Int) := by have := HCV.out; omega
      have hi1 : (i : Int) + 1 ≤ (F.length : Int) := by omega
      have hi1c : (F.length : Int) ≤ (cv : Int) := by have := HCV.out; omega
      have hi250 : i ≤ 1000 := by omega
      obtain ⟨w6, hw6⟩ : ∃ W : World, w5.alloc (.cells #[.int .i64 V, .slice none 0 0] 26) = W := ⟨_, rfl⟩
      obtain ⟨w7, hw7⟩ : ∃ W : World, w6.setCell ⟨w5.heap.size, 1, none⟩ (.slice none 0 0) = W := ⟨_, rfl⟩
      have HBx7 : Hid (Box w7 w5.heap.size 26 #[.int .i64 V, .slice none 0 0]) := Lib.hid (by rw [← hw7, ← hw6]; exact (Box.new _ _ _).set 1 _)
      have HB57 : Hid (Below w5.heap.size w5 w7) := Lib.hid (by rw [← hw7, ← hw6]; exact ((Below.refl _ _).alloc (Nat.le_refl _) _).setCell (Nat.le_refl _) _)
      have hx6 : Box w6 w5.heap.size 26 #[.int .i64 V, .slice none 0 0] := by rw [← hw6]; exact Box.new _ _ _
      have k61 := hx6.cell 1
      have k61f := hx6.frozen 1
      simp only [List.getElem?_toArray, List.getElem?_cons_zero, List.getElem?_cons_succ] at k61
      clear hx6
      obtain ⟨G1, hG1⟩ : ∃ G, F.take i = G := ⟨_, rfl⟩
      have HG1l : Hid (G1.length = i) := Lib.hid (by rw [← hG1, List.length_take]; omega)
      have HG1 := Lib.hid hG1
      have hL1 : Lists w5 (.slice (some ⟨b, off, none⟩) i cv) G1 := by rw [← hG1]; exact (HL.out _ HB25.out).take i (Nat.le_of_lt hiF)
      have HAPP1 := Lib.hid (fun ty => run_append_lists (w0 := w5) (W := w7.drew) (RowO.nil _ _) HB57.out.drew hL1 (by have := HG1l.out; simp; omega) ty)
      clear hG1 hL1
      have y0 := HX0.out _ (HB25.out.trans (HB57.out.mono HB25.out.size))
      have y1 := HX1.out _ (HB25.out.trans (HB57.out.mono HB25.out.size))
      have z1 := HBx7.out.cell 1
      have z1f := HBx7.out.frozen 1
      simp only [List.getElem?_toArray, List.getElem?_cons_zero, List.getElem?_cons_succ] at z1
      go_wp2
      clear hw6 hw7 k61 k61f
      go_region_law (first
        | (refine step_append_by (by rfl) _ _ 24 24 (by rfl) _ _ (by rfl) (by rfl) _ (HAPP1.out _) ?_
           intro v8 w8 hgo
           obtain ⟨p8, c8, rfl⟩ : ∃ p c, v8 = .slice p G1.length c := hgo.2.1
           have hxB := GrownO.box hgo (HBx7.out.heap rfl) (by decide)
           have k8 := hxB.cell 1
           have k8f := hxB.frozen 1))
      all_goals
        have HGO := Lib.hid hgo
        have HXB := Lib.hid hxB
        clear hgo hxB k8 k8f y0 y1 z1 z1f HAPP1 hti hz
        rw [List.nil_append] at HGO
        obtain ⟨w9, hw9⟩ : ∃ W : World, w8.setCell ⟨w5.heap.size, 1, none⟩ (.slice p8 G1.length c8) = W := ⟨_, rfl⟩
        have HX9 : Hid (Box w9 w5.heap.size 26 #[.int .i64 V, .slice p8 G1.length c8]) := Lib.hid (by rw [← hw9]; exact HXB.out.set 1 _)
        have HR9 : Hid (RowO w5 w9 (.slice p8 G1.length c8) G1) := Lib.hid (by rw [← hw9]; exact HGO.out.1.set HXB.out (by decide) 1 _)
        have HB59 : Hid (Below w5.heap.size w5 w9) := Lib.hid (by rw [← hw9]; exact (HGO.out.below HB57.out.drew).setCell (Nat.le_refl _) _)
        rw [hw9]
        clear hw9 HGO HXB HBx7 HB57
        obtain ⟨G2, hG2⟩ : ∃ G, F.drop (i + 1) = G := ⟨_, rfl⟩
        have HG2l : Hid (G2.length = F.length - (i + 1)) := Lib.hid (by rw [← hG2, List.length_drop])
        have HG2 := Lib.hid hG2
        obtain ⟨pd, hpd⟩ : ∃ p : Option Addr, (if cv = i + 1 then some ⟨b, off, none⟩ else some ⟨b, off + (i + 1), none⟩) = p := ⟨_, rfl⟩
        have hL2 : Lists w5 (.slice pd (F.length - (i + 1)) (cv - (i + 1))) G2 := by
          have h := (HL.out _ HB25.out).drop (i + 1) (by omega)
          rw [hG2] at h
          rw [← hpd]
          split
          · have h3 : G2.length = 0 := by have := HCV.out; have := HG2l.out; omega
            obtain ⟨p', c', e1, e2, e3, _⟩ := h
            injection e1 with e4 e5 e6
            exact ⟨_, c', by rw [e5, e6], e2, e3, fun h0 => by omega⟩
          · exact h
        have hwr : IntKind.i64.wrap ((i : Int) + 1) = (i : Int) + 1 := by simp only [IntKind.wrap_i64]; omega
        have htn : ((i : Int) + 1).toNat = i + 1 := by omega
        have hnn : (0 : Int) ≤ (i : Int) + 1 := by omega
        obtain ⟨G, hG⟩ : ∃ G, G1 ++ G2 = G := ⟨_, rfl⟩
        have HAPP2 := Lib.hid (fun ty => run_append_lists (w0 := w5) (W := w9.drew) (HR9.out.heap rfl) HB59.out.drew hL2 (by have := HG1l.out; have := HG2l.out; omega) ty)
        rw [hG] at HAPP2
        have HGl : Hid (G.length ≤ 1000) := Lib.hid (by rw [← hG, List.length_append]; have := HG1l.out; have := HG2l.out; omega)
        have HGF : Hid (∀ c ∈ G, c ∈ F) := Lib.hid fun c hc => by
          rw [← hG] at hc
          rcases List.mem_append.1 hc with hc | hc
          · rw [← HG1.out] at hc; exact List.mem_of_mem_take hc
          · rw [← hG2] at hc; exact List.mem_of_mem_drop hc
        clear hG
        clear hG2 hL2
        have y0 := HX0.out _ (HB25.out.trans (HB59.out.mono HB25.out.size))
        have y1 := HX1.out _ (HB25.out.trans (HB59.out.mono HB25.out.size))
        have z1 := HX9.out.cell 1
        have z1f := HX9.out.frozen 1
        simp only [List.getElem?_toArray, List.getElem?_cons_zero, List.getElem?_cons_succ] at z1
        go_wp2
        go_region_law (first
          | (refine step_append_by (by rfl) _ _ 24 24 (by rfl) _ _ (by rfl) (by rfl) _ (HAPP2.out _) ?_
             intro v10 w10 hgo
             obtain ⟨p10, c10, rfl⟩ : ∃ p c, v10 = .slice p G.length c := hgo.2.1
             have hxB := GrownO.box hgo (HX9.out.heap rfl) (by decide)
             have k8 := hxB.cell 1
             have k8f := hxB.frozen 1))
        all_goals
          have HGO := Lib.hid hgo
          have HXB := Lib.hid hxB
          clear hgo hxB k8 k8f y0 y1 z1 z1f HAPP2 hwr htn hnn hpd
          obtain ⟨w11, hw11⟩ : ∃ W : World, w10.setCell ⟨w5.heap.size, 1, none⟩ (.slice p10 G.length c10) = W := ⟨_, rfl⟩
          have HX11 : Hid (Box w11 w5.heap.size 26 #[.int .i64 V, .slice p10 G.length c10]) := Lib.hid (by rw [← hw11]; exact HXB.out.set 1 _)
          have HB511 : Hid (Below w5.heap.size w5 w11) := Lib.hid (by rw [← hw11]; exact (HGO.out.below HB59.out.drew).setCell (Nat.le_refl _) _)
          have HLG : Hid (∀ W, Below w11.heap.size w11 W → Lists W (.slice p10 G.length c10) G) := Lib.hid fun W hW => by
            have h : RowO w5 w11 (.slice p10 G.length c10) G := by rw [← hw11]; exact HGO.out.1.set HXB.out (by decide) 1 _
            exact (h.lists HB511.out (by have := HGl.out; omega)).below hW
          rw [hw11]
          clear hw11 HGO HXB HX9 HR9 HB59
          have HB211 := Lib.hid (HB25.out.trans (HB511.out.mono HB25.out.size))
          have HS11 := Lib.hid HX11.out.lt
          obtain ⟨u, hu, hui⟩ := HROWS.out i hiF
          have hmem : F.getD i [] ∈ F := mem_getDL hiF
          generalize F.getD i [] = c0 at *
          have HMEM := Lib.hid hmem
          have HUI := Lib.hid hui
          have hc20 := HFL.out _ hmem
          obtain ⟨pu, cu, rfl, _, _, hcell⟩ := hui
          have HU := Lib.hid hu
          have HCELL := Lib.hid hcell
          clear hu hcell hmem
          go_wp2
          go_loopw [18, 19] (fun nv j wr => ∃ m : Nat, m ≤ c0.length ∧ j = .int .i64 m ∧ wr.ownsRow w11.heap.size 3 1 nv m ((negL (c0.take m)).map (Value.int .i64)) ∧ Below w11.heap.size w11 wr) (fun _ j _ => c0.length - (intOf j).toNat)
          case atStart => exact ⟨0, Nat.zero_le _, rfl, World.ownsRow_nil _ _ _ _, Below.refl _ _⟩
          case round =>
            obtain ⟨m, hm, rfl, hown, hb⟩ := hrel
            have HB := Lib.hid hb
            have x1 := HX1.out _ (HB211.out.trans (hb.mono HB211.out.size))
            have d1 := ((HB211.out.trans (hb.mono HB211.out.size)).cell (p := ⟨b, off + i, none⟩) (World.block_lt_of_cell? _ _ HU.out)).trans HU.out
            by_cases hlt : m < c0.length
            · obtain ⟨b1, o1, rfl, e1⟩ := HCELL.out (by omega)
              have d2 := ((HB211.out.trans (hb.mono HB211.out.size)).cell (p := ⟨b1, o1 + m, none⟩) (World.block_lt_of_cell? _ _ (e1 m hlt))).trans (e1 m hlt)
              have HT := Lib.hid (neg_succ c0 m hlt)
              have hxm := (HVL.out _ HMEM.out (c0.getD m 0) (by rw [List.getD_eq_getElem?_getD, List.getElem?_eq_getElem hlt]; exact List.getElem_mem hlt)).2
              generalize hx1 : c0.getD m 0 = y1 at d2 HT hxm
              have HY1 := Lib.hid hx1
              have hw : wrap64 (-y1) = -y1 := by unfold wrap64; omega
              clear hx1 hxm e1
              obtain ⟨ln, hln⟩ : ∃ k, c0.length = k := ⟨_, rfl⟩
              have HLN := Lib.hid hln
              rw [hln] at d1 hlt hc20
              clear hln hm
              go_wp2_with (at_builtin; refine wpList_append_own _ rfl _ _ 23 rfl w11.heap.size 3 i0 (.int .i64 0) 1 8 Tryd.underlying23 hi hz0 hz1 hz2 rfl (by decide) _ _ _ rfl (hown.alloc _) ⟨wr.heap.size, 0, none⟩ 1 1 [.int .i64 (-y1)] rfl rfl ?c1 ?c2 ?c3 ?c4 ?c5 ?_)
              case c1 =>
                intro j u hj
                match j, hj with
                | 0, hj => simp at hj; subst hj; simp [Addr.add]
              case c2 => intro u hu; simp at hu; subst hu; rfl
              case c3 => unfold maxLen; omega
              case c4 => omega
              case c5 => have := hb.size; simp; omega
              intro v' wq hown' hgrow _
              have hlt2 := fun k hk => (hown.lt k hk).1
              have hb' := (hb.alloc hb.size (.cells #[.int .i64 (-y1)] 3)).grown (by first | exact hgrow | (rw [hw] at hgrow; exact hgrow)) (by have := hb.size; simp; omega) hlt2
              clear hown hgrow x1 d1 d2
              go_wp2
              go_roundw
              case rel => exact ⟨m + 1, by have := HLN.out; omega, by go_num, by rw [HT.out]; simpa using hown', hb'⟩
              case measure => have := HLN.out; simp [intOf]; omega
            · obtain rfl : m = c0.length := by omega
              obtain ⟨po, co, rfl⟩ := owns_shape hown
              have hfin : OwnI wr w11.heap.size (.slice po c0.length co) (negL c0) := by
                rw [List.take_length] at hown
                unfold OwnI
                rw [negL_len]
                exact hown
              have hin := hfin.ints (by rw [negL_len]; omega)
              clear hown hfin
              obtain ⟨q2, hq2⟩ : ∃ q : Bool, q = true ↔ Imp G c0 := by
                by_cases h : Imp G c0
                · exact ⟨true, by simp [h]⟩
                · exact ⟨false, by simp [h]⟩
              have hcg : checkF (V : Int) G = 0 := checkF_of HCK.out (by have := HGl.out; omega) (firstE_of fun c hc => firstE_all (checkF_first HCK.out) c (HGF.out c hc))
              have hgi : ∀ c ∈ G, ∀ x ∈ c, I64 x := fun c hc => HFI.out c (HGF.out c hc)
              have hvn := negL_val (HVL.out _ HMEM.out)
              have hpu := punits_q (V : Int) _ G _ (negL c0) wr HV64.out hgi (HLG.out _ hb) (val_i64 (n := V) (by omega) hvn) hin rfl (checkU_valid hcg hvn) hq2
              have HIMP : Hid (∀ W, Below w11.heap.size w11 W → Calls Tryd.prog 14 #[.agg #[.int .i64 V, .slice p10 G.length c10], .slice pu c0.length cu] W fun e w' => e = .returned (.tuple #[.bool q2, .int .i64 0]) ∧ Below W.heap.size W w') := Lib.hid fun W hW => by
                have h := implied_any (V : Int) _ G _ c0 W HV64.out hgi (HLG.out _ hW) (HFI.out _ HMEM.out) (HUI.out.below (HB211.out.trans (hW.mono HB211.out.size))) (by have := HGl.out; omega) (by omega)
                obtain ⟨q', h1, h2⟩ := impliedR_ok hcg (firstE_all (checkF_first HCK.out) c0 HMEM.out)
                rw [h1, show q' = q2 from Bool.eq_iff_iff.2 (h2.trans hq2.symm)] at h
                exact h
              have y0 := (HX11.out.below hb HS11.out).cell 0
              have y1 := (HX11.out.below hb HS11.out).cell 1
              simp only [List.getElem?_toArray, List.getElem?_cons_zero, List.getElem?_cons_succ] at y0 y1
              obtain ⟨ln, hln⟩ : ∃ k, c0.length = k := ⟨_, rfl⟩
              rw [hln] at d1 HIMP hpu HU
              clear hin hcg hgi hvn hq2 hb hm hlt
              go_wp2_with fail
              refine hpu.mono ?_
              rintro e w12 ⟨vl2, rfl, hb12⟩
              have HB12 := Lib.hid (HB.out.trans (hb12.mono HB.out.size))
              clear hpu hb12 y0 y1 x1 d1
              have k0 : ∀ x : Later w12.heap.size w12, x.W.cell? ⟨w5.heap.size, 0, none⟩ = some (.int .i64 V) := fun x => (HX11.out.below (HB12.out.trans (x.ok.mono HB12.out.size)) HS11.out).cell 0
              have k1 : ∀ x : Later w12.heap.size w12, x.W.cell? ⟨w5.heap.size, 1, none⟩ = some (.slice p10 G.length c10) := fun x => (HX11.out.below (HB12.out.trans (x.ok.mono HB12.out.size)) HS11.out).cell 1
              have k2 : ∀ x : Later w12.heap.size w12, x.W.cell? ⟨w1.heap.size, 1, none⟩ = some (.slice (some ⟨b, off, none⟩) F.length cv) := fun x => HX1.out _ (HB211.out.trans ((HB12.out.trans (x.ok.mono HB12.out.size)).mono HB211.out.size))
              have k3 : ∀ x : Later w12.heap.size w12, x.W.cell? ⟨b, off + i, none⟩ = some (.slice pu ln cu) := fun x => ((HB211.out.trans ((HB12.out.trans (x.ok.mono HB12.out.size)).mono HB211.out.size)).cell (p := ⟨b, off + i, none⟩) (World.block_lt_of_cell? _ _ HU.out)).trans HU.out
              go_wp2
              refine wp_region_later (B := w12.heap.size) (w0 := w12) (by kernel_rfl) (by kernel_rfl) (Below.refl _ _) ?_
              repeat (go_big_quiet_step ((go_at_call 14; exact later_mono _ (Nat.le_refl _) (HIMP.out _ (HB12.out.trans ((Later.ok _).mono HB12.out.size))))))
              refine wpQuiet_nil ?_
              rintro _ ⟨x, rfl⟩
              have HBZ := Lib.hid (HB5.out.trans ((HB511.out.trans ((HB12.out.trans (x.ok.mono HB12.out.size)).mono HB511.out.size)).mono HB5.out.size))
              clear k0 k1 k2 k3
              generalize x.W = wz at *
              clear x
              have hkn := HK.out _ HBZ.out
              go_wp2_with fail
              refine hkn.mono ?_
              rintro e wk ⟨rfl, hbk⟩
              refine Hid.out ?_
              refine Lib.hid ?_
              have HBK := Lib.hid (HBZ.out.trans (hbk.mono HBZ.out.size))
              clear hbk hkn
              go_wp2
              go_ret
              exact ⟨rfl, HBK.out⟩
  · have HB1 := Lib.hid (hb1.alloc hb1.size (.cells #[.int .i64 0, .slice none 0 0] 26))
    clear hok hfit hb1
    have hkn := HK.out _ HB1.out
    go_wp2_with fail
    refine hkn.mono ?_
    rintro e w9 ⟨rfl, hbk⟩
    refine Hid.out ?_
    refine Lib.hid ?_
    have HBK := Lib.hid (HB1.out.trans (hbk.mono HB1.out.size))
    clear hbk hkn
    go_wp2
    go_ret
    exact ⟨rfl, HBK.out⟩
end L
end Go.Proofs.YtfhodbnhaaiceaaDoor
