/- RupOwn: the walk. -/
import Derived.Test.YtfhodbnhaaiceaaDoorJVO
import Derived.Test.YtfhodbnhaaiceaaDoorQ26
import Derived.Test.YtfhodbnhaaiceaaDoorQ20
import Derived.Test.YtfhodbnhaaiceaaDoorQ21
import Derived.Test.YtfhodbnhaaiceaaDoorQ19
import Derived.Deep.RegionHeld3
import Derived.BigRegion
import Derived.Deep.QuietTactic
namespace Go.Proofs.YtfhodbnhaaiceaaDoor
open Go.RowKit RA
namespace L
open K
set_option maxRecDepth 100000

set_option maxHeartbeats 16000000 in
theorem own_walk5 (n : Int) (v : Value) (L8 : List (List Int)) (u : Value) (l : List Int) (w : World) (ht : Tab w) (hn0 : (Lit.int .u8 n).wf = true) (hW : ListsW .i8 w v L8) (hl8 : IntsW .i8 w u l) :
    Calls Tryd.prog 8 #[.int .u8 n, v, u] w fun e w' => e = .returned (.bool true) ∧ Below w.heap.size w w' := by
  have hfit := fit_any n v L8 w hn0 hW
  obtain ⟨p, c, rfl⟩ : ∃ p c, v = .slice p L8.length c := by obtain ⟨p, c, h, _⟩ := hW; exact ⟨p, c, h⟩
  obtain ⟨i0, hi, hz0, hz1, hz2⟩ := info_parts info3
  obtain ⟨pu, cu, rfl⟩ : ∃ p c, u = .slice p l.length c := by obtain ⟨p, c, h, _⟩ := hl8; exact ⟨p, c, h⟩
  obtain ⟨V, hVd⟩ : ∃ V : Nat, (V : Int) = 1 + n % 12 := ⟨(1 + n % 12).toNat, by omega⟩
  have hV : 1 ≤ V ∧ V ≤ 12 := by omega
  rw [← hVd] at hfit
  have HL8 := Lib.hid hl8
  have HT := Lib.hid ht
  have HK : Hid (∀ W, Below w.heap.size w W → Calls Tryd.prog 13 #[] W fun e w' => e = .returned (.bool true) ∧ Below W.heap.size W w') := Lib.hid fun W hb => known5_any W (ht.below hb)
  clear hVd hn0 hW ht hl8
  go_enter Tryd.func8, Tryd.ntmps8
  go_wp2_with fail
  refine hfit.mono ?_
  rintro e w1 ⟨r, rfl, hpost, hb1⟩
  refine Hid.out ?_
  refine Lib.hid ?_
  rcases hpost with ⟨hok, v', rfl, hown⟩ | ⟨hok, rfl⟩
  · have hL0 := fit_own hok hown
    have hF := fit_len (V := V) hok
    have HCK := Lib.hid (fit_check (V := V) (L := L8) (by omega) (by omega) hok)
    have HVL := Lib.hid (val_fitL hV L8)
    clear hok hfit hown
    generalize fitL V L8 = F at *
    obtain ⟨pv, cv, ev⟩ : ∃ p c, v' = .slice p F.length c := by obtain ⟨p, c, h, _⟩ := hL0; exact ⟨p, c, h⟩
    subst ev
    have hF1 := hF.1
    have HFL := Lib.hid hF.2
    obtain ⟨w2, hw2⟩ : ∃ W : World, w1.alloc (.cells #[.int .i64 V, .slice pv F.length cv] 26) = W := ⟨_, rfl⟩
    have hb12 : Below w1.heap.size w1 w2 := by rw [← hw2]; exact (Below.refl _ _).alloc (Nat.le_refl _) _
    have hb2 : Below w.heap.size w w2 := hb1.trans (hb12.mono hb1.size)
    have hx0 : w2.cell? ⟨w1.heap.size, 0, none⟩ = some (.int .i64 V) := by rw [← hw2]; simp
    have hx1 : w2.cell? ⟨w1.heap.size, 1, none⟩ = some (.slice pv F.length cv) := by rw [← hw2]; simp
    have hs2 : w1.heap.size < w2.heap.size := World.block_lt_of_cell? _ _ hx0
    have HX0 : Hid (∀ W, Below w2.heap.size w2 W → W.cell? ⟨w1.heap.size, 0, none⟩ = some (.int .i64 V)) := Lib.hid fun W hb => (hb.cell (p := ⟨w1.heap.size, 0, none⟩) hs2).trans hx0
    have HX1 : Hid (∀ W, Below w2.heap.size w2 W → W.cell? ⟨w1.heap.size, 1, none⟩ = some (.slice pv F.length cv)) := Lib.hid fun W hb => (hb.cell (p := ⟨w1.heap.size, 1, none⟩) hs2).trans hx1
    have HL : Hid (∀ W, Below w2.heap.size w2 W → Lists W (.slice pv F.length cv) F) := Lib.hid fun W hW => (hL0.below hb12).below hW
    have HV64 : Hid (I64 (V : Int)) := Lib.hid (by unfold I64; omega)
    have HFI : Hid (∀ c ∈ F, ∀ x ∈ c, I64 x) := Lib.hid fun c hc => val_i64 (n := V) (by omega) (HVL.out c hc)
    have HB2 := Lib.hid hb2
    clear hL0 hF hb12 hb1 hb2
    by_cases h20 : l.length ≤ 20
    · have h20' : (l.length : Int) ≤ 20 := by omega
      obtain ⟨HWF, HCELL⟩ : Hid (∀ x ∈ l, (Lit.int .i8 x).wf = true) ∧ Hid (0 < l.length → ∃ b off, pu = some ⟨b, off, none⟩ ∧ ∀ j, j < l.length → w2.cell? ⟨b, off + j, none⟩ = some (.int .i8 (l.getD j 0))) := by
        obtain ⟨p', c', e, _, _, h1, h2⟩ := HL8.out
        injection e with e1 e2 e3
        subst e1
        refine ⟨Lib.hid h1, Lib.hid fun h0 => ?_⟩
        obtain ⟨b, off, e, h3⟩ := h2 h0
        exact ⟨b, off, e, fun j hj => (HB2.out.cell (p := ⟨b, off + j, none⟩) (World.block_lt_of_cell? _ _ (h3 j hj))).trans (h3 j hj)⟩
      clear hx0 hx1
      go_wp2
      clear hw2
      go_loopw [9, 10, 11] (fun o i _ wr => ∃ k : Nat, k ≤ l.length ∧ i = .int .i64 k ∧ OwnI wr w2.heap.size o (fitC V (l.take k)) ∧ Below w2.heap.size w2 wr) (fun _ i _ _ => l.length - (intOf i).toNat)
      case atStart => exact ⟨0, Nat.zero_le _, rfl, by simpa [fitC] using OwnI.nil _ _, Below.refl _ _⟩
      case round =>
        obtain ⟨k, hk, rfl, hown, hb⟩ := hrel
        have HB := Lib.hid hb
        by_cases hlt : k < l.length
        · have hlt' : (k : Int) < (l.length : Int) := by omega
          obtain ⟨b1, o1, rfl, e1⟩ := HCELL.out (by omega)
          have d1 := (hb.cell (p := ⟨b1, o1 + k, none⟩) (World.block_lt_of_cell? _ _ (e1 k hlt))).trans (e1 k hlt)
          have x0 := HX0.out _ hb
          have hzwf := HWF.out _ (mem_getD hlt)
          have HSK := Lib.hid (fun h => fitC_skip (V := V) hlt h)
          have HPU := Lib.hid (fun h => fitC_push (V := V) hlt h)
          have hcl : (fitC V (l.take k)).length ≤ 20 := Nat.le_trans fitC_len (by simp; omega)
          obtain ⟨acc, eacc⟩ : ∃ acc, fitC V (l.take k) = acc := ⟨_, rfl⟩
          rw [eacc] at hown hcl HSK HPU
          obtain ⟨pc, nc, ecs⟩ := owns_shape hown
          have HCI : Hid (∀ W : World, W.heap = wr.heap → OwnI W w2.heap.size (.slice pc acc.length nc) acc) := Lib.hid (fun W hW => by rw [← ecs]; exact owns_heap hown hW)
          subst ecs
          clear e1 hown eacc
          generalize l.getD k 0 = z at *
          have hzb : -128 ≤ z ∧ z ≤ 127 := by simpa [Lit.wf, IntKind.min, IntKind.max, IntKind.signed, IntKind.bits] using hzwf
          obtain ⟨hzb1, hzb2⟩ := hzb
          have hdv : ((V : Int) + 1 == 0) = false := beq_eq_false_iff_ne.2 (by omega)
          have hkl : ((acc.length : Nat) : Int) ≤ 20 := by omega
          clear hzwf
          by_cases hzz : z.tmod ((V : Int) + 1) = 0
          · have hzd : (z.tmod ((V : Int) + 1) != 0) = false := by simp [hzz]
            have HZ := Lib.hid hzz
            clear hzz
            go_wp2
            go_quiet (fail)
            go_wp2
            go_roundw
            case rel => exact ⟨k + 1, by omega, by go_num, by rw [HSK.out HZ.out]; exact HCI.out _ rfl, below_drewN hb _⟩
            case measure => simp [intOf]; omega
          · have hzd : (z.tmod ((V : Int) + 1) != 0) = true := by simp [hzz]
            have HZ := Lib.hid hzz
            clear hzz
            go_wp2
            go_quiet (fail)
            have HB3 : Hid (Below w2.heap.size w2 (wr.drewN nq)) := Lib.hid (below_drewN hb _)
            have HC3 := Lib.hid (HCI.out (wr.drewN nq) rfl)
            go_wp2_with (at_builtin; refine wpList_append_own _ rfl _ _ 23 rfl w2.heap.size 3 i0 (.int .i64 0) 1 8 Tryd.underlying23 hi hz0 hz1 hz2 rfl (by decide) _ _ _ rfl (HC3.out.alloc _) ⟨(wr.drewN nq).heap.size, 0, none⟩ 1 1 [.int .i64 (z.tmod ((V : Int) + 1))] rfl rfl ?c1 ?c2 ?c3 ?c4 ?c5 ?_)
            case c1 =>
              intro j u hj
              match j, hj with
              | 0, hj => simp at hj; subst hj; exact cell_new (by simp) rfl
            case c2 => intro u hu; simp at hu; subst hu; rfl
            case c3 => unfold maxLen; omega
            case c4 => omega
            case c5 => have := hb.size; simp; omega
            intro v' w3 hown' hgrow _
            have hlt2 := fun k hk => (HC3.out.lt k hk).1
            have hb' := (HB3.out.alloc HB3.out.size (.cells #[.int .i64 (z.tmod ((V : Int) + 1))] 3)).grown hgrow (by have := HB3.out.size; simp at this ⊢; omega) hlt2
            have HB' := Lib.hid hb'
            have HO' := Lib.hid hown'
            clear hgrow hb' hown' hlt2 hb
            go_wp2
            go_roundw
            case rel => exact ⟨k + 1, by omega, by go_num, by rw [HPU.out HZ.out]; unfold OwnI; simpa using HO'.out, HB'.out⟩
            case measure => simp [intOf]; omega
        · obtain rfl : k = l.length := by omega
          rw [List.take_length] at hown
          have HCV := Lib.hid (val_fitC hV l)
          have HCl : Hid ((fitC V l).length ≤ 20) := Lib.hid (Nat.le_trans fitC_len h20)
          generalize fitC V l = C at *
          have HCI := Lib.hid (hown.ints (by have := HCl.out; omega))
          obtain ⟨pc, nc, rfl⟩ := owns_shape hown
          have HC64 : Hid (∀ x ∈ C, I64 x) := Lib.hid (val_i64 (n := V) (by omega) HCV.out)
          clear hown hb hk hlt HCELL HWF
          generalize wr = w3 at *
          clear wr
          go_wp2
          go_loopw [12, 13, 14, 15, 16] (fun i _ _ _ _ wr => ∃ k : Nat, k ≤ F.length ∧ i = .int .i64 k ∧ Below w3.heap.size w3 wr) (fun i _ _ _ _ _ => F.length - (intOf i).toNat)
          case atStart => exact ⟨0, Nat.zero_le _, rfl, Below.refl _ _⟩
          case round =>
            obtain ⟨k, hk, rfl, hbq⟩ := hrel
            have HBQ := Lib.hid (HB.out.trans (hbq.mono HB.out.size))
            have HBQ' := Lib.hid hbq
            have x0 := HX0.out _ HBQ.out
            have x1 := HX1.out _ HBQ.out
            by_cases hlt : k < F.length
            · obtain ⟨b, off, rfl, HROWS⟩ : ∃ b off, pv = some ⟨b, off, none⟩ ∧ Hid (∀ j, j < F.length → ∃ u, w2.cell? ⟨b, off + j, none⟩ = some u ∧ Ints w2 u (F.getD j [])) := by
                obtain ⟨p', c', e, _, _, h⟩ := HL.out _ (Below.refl _ _)
                injection e with e1 e2 e3
                subst e1
                obtain ⟨b, off, e, h⟩ := h (by omega)
                exact ⟨b, off, e, Lib.hid h⟩
              obtain ⟨u, hu, hui⟩ := HROWS.out k hlt
              have hmem : F.getD k [] ∈ F := mem_getDL hlt
              generalize F.getD k [] = c0 at *
              have HMEM := Lib.hid hmem
              have HUI := Lib.hid hui
              have hc20 := HFL.out _ hmem
              obtain ⟨p0, c0c, rfl, _⟩ := hui
              have HU := Lib.hid hu
              have HIM1 : Hid (∀ W, Below w2.heap.size w2 W → Calls Tryd.prog 14 #[.agg #[.int .i64 V, .slice (some ⟨b, off, none⟩) F.length cv], .slice p0 c0.length c0c] W fun e w' => e = .returned (.tuple #[.bool true, .int .i64 0]) ∧ Below W.heap.size W w') := Lib.hid fun W hW => by
                have h := implied_any (V : Int) _ F _ c0 W HV64.out HFI.out (HL.out _ hW) (HFI.out _ HMEM.out) (HUI.out.below hW) (by omega) (by omega)
                rw [impliedR_yes HCK.out (firstE_all (checkF_first HCK.out) c0 HMEM.out) (imp_own HMEM.out fun _ hx => hx)] at h
                exact h
              have HIM2 : Hid (∀ W v', Below w2.heap.size w2 W → Ints W v' (C ++ c0) → Calls Tryd.prog 14 #[.agg #[.int .i64 V, .slice (some ⟨b, off, none⟩) F.length cv], v'] W fun e w' => e = .returned (.tuple #[.bool true, .int .i64 0]) ∧ Below W.heap.size W w') := Lib.hid fun W v' hW hv' => by
                have hval : U.Val V (C ++ c0) := fun x hx => (List.mem_append.1 hx).elim (HCV.out x) fun h => HVL.out _ HMEM.out x h
                have h := implied_any (V : Int) _ F _ (C ++ c0) W HV64.out HFI.out (HL.out _ hW) (val_i64 (n := V) (by omega) hval) hv' (by omega) (by rw [List.length_append]; have := HCl.out; omega)
                rw [impliedR_yes HCK.out (checkE_val hV.2 (by rw [List.length_append]; have := HCl.out; omega) hval) (imp_own HMEM.out fun _ hx => List.mem_append_right _ hx)] at h
                exact h
              have HUW : Hid (∀ W, Below w2.heap.size w2 W → Ints W (.slice p0 c0.length c0c) c0) := Lib.hid fun W hW => HUI.out.below hW
              obtain ⟨ln, hln⟩ : ∃ k, c0.length = k := ⟨_, rfl⟩
              have HLN := Lib.hid hln
              rw [hln] at HIM1 HU HUW hc20
              have k0 : ∀ x : Later wr.heap.size wr, x.W.cell? ⟨w1.heap.size, 0, none⟩ = some (.int .i64 V) := fun x => HX0.out _ (HBQ.out.trans (x.ok.mono HBQ.out.size))
              have k1 : ∀ x : Later wr.heap.size wr, x.W.cell? ⟨w1.heap.size, 1, none⟩ = some (.slice (some ⟨b, off, none⟩) F.length cv) := fun x => HX1.out _ (HBQ.out.trans (x.ok.mono HBQ.out.size))
              have k2 : ∀ x : Later wr.heap.size wr, x.W.cell? ⟨b, off + k, none⟩ = some (.slice p0 ln c0c) := fun x => ((HBQ.out.trans (x.ok.mono HBQ.out.size)).cell (p := ⟨b, off + k, none⟩) (World.block_lt_of_cell? _ _ HU.out)).trans HU.out
              clear hu hmem hln HROWS hbq
              have x1' := x1
              go_wp2
              refine wp_region_later (B := wr.heap.size) (w0 := wr) (by kernel_rfl) (by kernel_rfl) (Below.refl _ _) ?_
              repeat (go_big_quiet_step ((go_at_call 14; exact later_mono _ (Nat.le_refl _) (HIM1.out _ (HBQ.out.trans ((Later.ok _).mono HBQ.out.size))))))
              refine wpQuiet_nil ?_
              rintro _ ⟨x, rfl⟩
              have HBX := Lib.hid (HBQ.out.trans (x.ok.mono HBQ.out.size))
              have HBX' := Lib.hid (HBQ'.out.trans (x.ok.mono HBQ'.out.size))
              clear k0 k1 k2 x0 x1 x1'
              generalize x.W = wx at *
              clear x HIM1 HBQ HBQ'
              have x0 := HX0.out _ HBX.out
              have x1 := HX1.out _ HBX.out
              have d1 := (HBX.out.cell (p := ⟨b, off + k, none⟩) (World.block_lt_of_cell? _ _ HU.out)).trans HU.out
              have hb2x := HBX.out
              have hbrx := HBX'.out
              go_wp2
              go_region_held3 (fun w' => w'.cell? ⟨w1.heap.size, 0, none⟩ = some (.int .i64 V) ∧ w'.cell? ⟨w1.heap.size, 1, none⟩ = some (.slice (some ⟨b, off, none⟩) F.length cv) ∧ w'.cell? ⟨b, off + k, none⟩ = some (.slice p0 ln c0c))
                (first
                  | go_keep
                  | (exact ⟨HX0.out _ (HBX.out.trans (hb5.mono HBX.out.size)), HX1.out _ (HBX.out.trans (hb5.mono HBX.out.size)), ((HBX.out.trans (hb5.mono HBX.out.size)).cell (p := ⟨b, off + k, none⟩) (World.block_lt_of_cell? _ _ HU.out)).trans HU.out⟩)
                  | (exact ⟨HX0.out _ (HBX.out.trans (hgo.2.2.mono HBX.out.size)), HX1.out _ (HBX.out.trans (hgo.2.2.mono HBX.out.size)), ((HBX.out.trans (hgo.2.2.mono HBX.out.size)).cell (p := ⟨b, off + k, none⟩) (World.block_lt_of_cell? _ _ HU.out)).trans HU.out⟩)
                  | (exact ⟨HX0.out _ (HBX.out.trans ((hgo.2.2.trans (hb8.mono hgo.2.2.size)).mono HBX.out.size)), HX1.out _ (HBX.out.trans ((hgo.2.2.trans (hb8.mono hgo.2.2.size)).mono HBX.out.size)), ((HBX.out.trans ((hgo.2.2.trans (hb8.mono hgo.2.2.size)).mono HBX.out.size)).cell (p := ⟨b, off + k, none⟩) (World.block_lt_of_cell? _ _ HU.out)).trans HU.out⟩))
                (first
                  | (go_at_call 15
                     refine (copy_any _ C _ (HCI.out.below hbrx.drew)).mono ?_
                     rintro e w5 ⟨vc, rfl, hoc, hb5'⟩
                     have hb5 : Below wx.heap.size wx w5 := (Below.refl _ wx).drew.trans hb5')
                  | (go_at_call 14
                     refine (HIM2.out _ _ (HBX.out.trans (hgo.2.2.mono HBX.out.size)) hgo.1).mono ?_
                     rintro e w8 ⟨rfl, hb8⟩)
                  | (refine step_append_by (by rfl) _ _ 23 23 (by rfl) _ _ (by rfl) (by rfl) _ (run_append_ints (B := wx.heap.size) (w0 := wx) hoc (HUW.out _ (HBX.out.trans (hb5.mono HBX.out.size))) hb5 (Nat.le_refl _) hb5.size (by have := HCl.out; have := HLN.out; omega) _) ?_
                     intro v7 w7 hgo))
              have HB8 := Lib.hid (HBX'.out.trans ((hgo.2.2.trans (hb8.mono hgo.2.2.size)).mono HBX'.out.size))
              clear hgo hb8 hb5 hoc hb5' x0 x1 d1 hb2x hbrx
              go_wp2
              go_roundw
              case rel => exact ⟨k + 1, by omega, by go_num, HB8.out⟩
              case measure => simp [intOf]; omega
            · obtain rfl : k = F.length := by omega
              clear hk hlt
              have HTAUT : Hid (∀ W v', Below w2.heap.size w2 W → Ints W v' (C ++ [1, -1]) → Calls Tryd.prog 14 #[.agg #[.int .i64 V, .slice pv F.length cv], v'] W fun e w' => e = .returned (.tuple #[.bool true, .int .i64 0]) ∧ Below W.heap.size W w') := Lib.hid fun W v' hW hv' => by
                have hval : U.Val V (C ++ [1, -1]) := fun x hx => (List.mem_append.1 hx).elim (HCV.out x) fun h => by
                  simp at h
                  rcases h with rfl | rfl <;> omega
                have h := implied_any (V : Int) _ F _ (C ++ [1, -1]) W HV64.out HFI.out (HL.out _ hW) (val_i64 (n := V) (by omega) hval) hv' (by omega) (by rw [List.length_append]; have := HCl.out; simp; omega)
                rw [impliedR_yes HCK.out (checkE_val hV.2 (by rw [List.length_append]; have := HCl.out; simp; omega) hval) (imp_taut (x := 1) (by simp) (by simp))] at h
                exact h
              have hbrx := HBQ'.out
              clear hbq
              have hA4 : ∀ (w5 : World) (vc : Value), Below wr.drew.heap.size wr.drew w5 → w5.ownsRow wr.drew.heap.size 3 1 vc C.length (List.map (Value.int .i64) C) → ∀ ty, ∃ v' w', (Builtin.append_ #[23, 23] ty #[vc, .slice (some ⟨w5.heap.size, 0, none⟩) 2 2]).run Tryd.prog (w5.alloc (.cells #[.int .i64 1, .int .i64 (-1)] 3)) = .ok v' w' ∧ GrownI wr.heap.size wr (C ++ [1, -1]) v' w' := fun w5 vc hb ho ty => by
                have hb5 : Below wr.heap.size wr w5 := (Below.refl _ wr).drew.trans hb
                have ho' : OwnI w5 wr.heap.size vc C := ho
                have ho2 : OwnI (w5.alloc (.cells #[.int .i64 1, .int .i64 (-1)] 3)) wr.heap.size vc C := ho'.alloc _
                exact run_append_ints ho2 (ints_pm (Box.new w5 3 #[.int .i64 1, .int .i64 (-1)])) (hb5.alloc hb5.size _) (Nat.le_refl _) (hb5.alloc hb5.size _).size (by have := HCl.out; simp; omega) ty
              have hA5 : ∀ (w5 : World) (vc : Value), Below (wr.alloc (.cells #[.int .i64 1, .int .i64 (-1)] 3)).drew.heap.size (wr.alloc (.cells #[.int .i64 1, .int .i64 (-1)] 3)).drew w5 → w5.ownsRow (wr.alloc (.cells #[.int .i64 1, .int .i64 (-1)] 3)).drew.heap.size 3 1 vc C.length (List.map (Value.int .i64) C) → ∀ ty, ∃ v' w', (Builtin.append_ #[23, 23] ty #[vc, .slice (some ⟨wr.heap.size, 0, none⟩) 2 2]).run Tryd.prog w5 = .ok v' w' ∧ GrownI wr.heap.size wr (C ++ [1, -1]) v' w' := fun w5 vc hb ho ty => by
                have hlt := Box.lt (Box.new wr 3 #[.int .i64 1, .int .i64 (-1)])
                have hb5 : Below wr.heap.size wr w5 := ((Below.refl _ wr).alloc (Nat.le_refl _) (.cells #[.int .i64 1, .int .i64 (-1)] 3)).drew.trans (hb.mono (Nat.le_of_lt hlt))
                have hx : Box (wr.alloc (.cells #[.int .i64 1, .int .i64 (-1)] 3)).drew wr.heap.size 3 #[.int .i64 1, .int .i64 (-1)] := Box.heap (Box.new wr 3 #[.int .i64 1, .int .i64 (-1)]) rfl
                have ho' : OwnI w5 (wr.alloc (.cells #[.int .i64 1, .int .i64 (-1)] 3)).drew.heap.size vc C := ho
                exact run_append_ints ho' (ints_pm (hx.below hb hlt)) hb5 (Nat.le_of_lt hlt) hb.size (by have := HCl.out; simp; omega) ty
              have hci1 : Ints wr.drew (.slice pc C.length nc) C := HCI.out.below hbrx.drew
              have hci2 : Ints (wr.alloc (.cells #[.int .i64 1, .int .i64 (-1)] 3)).drew (.slice pc C.length nc) C := HCI.out.below (hbrx.alloc hbrx.size _).drew
              have hu1 : ∀ W5, Below wr.drew.heap.size wr.drew W5 → Below wr.heap.size wr W5 := fun W5 h => (Below.refl _ wr).drew.trans h
              have hu2 : ∀ W5, Below (wr.alloc (.cells #[.int .i64 1, .int .i64 (-1)] 3)).drew.heap.size (wr.alloc (.cells #[.int .i64 1, .int .i64 (-1)] 3)).drew W5 → Below wr.heap.size wr W5 := fun W5 h => ((Below.refl _ wr).alloc (Nat.le_refl _) (.cells #[.int .i64 1, .int .i64 (-1)] 3)).drew.trans (h.mono (Nat.le_of_lt (Box.lt (Box.new wr 3 #[.int .i64 1, .int .i64 (-1)]))))
              go_wp2
              go_region_held3 (fun w' => w'.cell? ⟨w1.heap.size, 0, none⟩ = some (.int .i64 V) ∧ w'.cell? ⟨w1.heap.size, 1, none⟩ = some (.slice pv F.length cv))
                (first
                  | go_keep
                  | (exact ⟨HX0.out _ (HBQ.out.trans (hb5.mono HBQ.out.size)), HX1.out _ (HBQ.out.trans (hb5.mono HBQ.out.size))⟩)
                  | (exact ⟨HX0.out _ (HBQ.out.trans (hgo.2.2.mono HBQ.out.size)), HX1.out _ (HBQ.out.trans (hgo.2.2.mono HBQ.out.size))⟩)
                  | (exact ⟨HX0.out _ (HBQ.out.trans ((hgo.2.2.trans (hb8.mono hgo.2.2.size)).mono HBQ.out.size)), HX1.out _ (HBQ.out.trans ((hgo.2.2.trans (hb8.mono hgo.2.2.size)).mono HBQ.out.size))⟩))
                (first
                  | (go_at_call 15
                     refine (copy_any (.slice pc C.length nc) C _ (by with_reducible assumption)).mono ?_
                     rintro e w5 ⟨vc, rfl, hoc, hb5'⟩
                     have hb5 : Below wr.heap.size wr w5 := by with_reducible first | exact hu1 _ hb5' | exact hu2 _ hb5')
                  | (go_at_call 14
                     refine (HTAUT.out _ _ (HBQ.out.trans (hgo.2.2.mono HBQ.out.size)) hgo.1).mono ?_
                     rintro e w8 ⟨rfl, hb8⟩)
                  | (refine step_append_by (by rfl) _ _ 23 23 (by rfl) _ _ (by rfl) (by rfl) (fun v' W' => GrownI wr.heap.size wr (C ++ [1, -1]) v' W') (by
                       first
                         | (have h := hA4 _ _ hb5' hoc
                            exact h _)
                         | (have h := hA5 _ _ hb5' hoc
                            exact h _)) ?_
                     intro v7 w7 hgo))
              all_goals
                have HB8 := Lib.hid (HB2.out.trans ((HBQ.out.trans ((hgo.2.2.trans (hb8.mono hgo.2.2.size)).mono HBQ.out.size)).mono HB2.out.size))
                clear hgo hb8 hb5 hoc hb5' x0 x1 hbrx hci1 hci2 hu1 hu2 hA4 hA5
                have hkn := HK.out _ HB8.out
                go_wp2_with fail
                refine hkn.mono ?_
                rintro e w9 ⟨rfl, hbk⟩
                refine Hid.out ?_
                refine Lib.hid ?_
                have HBK := Lib.hid (HB8.out.trans (hbk.mono HB8.out.size))
                clear hbk hkn
                go_wp2
                go_ret
                exact ⟨rfl, HBK.out⟩
    · have h20' : (20 : Int) < (l.length : Int) := by omega
      have hkn := HK.out _ HB2.out
      go_wp2_with fail
      refine hkn.mono ?_
      rintro e w9 ⟨rfl, hbk⟩
      refine Hid.out ?_
      refine Lib.hid ?_
      have HBK := Lib.hid (HB2.out.trans (hbk.mono HB2.out.size))
      clear hbk hkn
      go_wp2
      go_ret
      exact ⟨rfl, HBK.out⟩
  · have HB1 := Lib.hid (hb1.alloc hb1.size (.cells #[.int .i64 0, .slice none 0 0] 26))
    clear hok hfit hb1
    have hkn := HK.out _ HB1.out
    go_wp2_with fail
    refine hkn.mono ?_
    rintro e w9 ⟨rfl, hbk⟩
    refine Hid.out ?_
    refine Lib.hid ?_
    have HBK := Lib.hid (HB1.out.trans (hbk.mono HB1.out.size))
    clear hbk hkn
    go_wp2
    go_ret
    exact ⟨rfl, HBK.out⟩
end L
end Go.Proofs.YtfhodbnhaaiceaaDoor
