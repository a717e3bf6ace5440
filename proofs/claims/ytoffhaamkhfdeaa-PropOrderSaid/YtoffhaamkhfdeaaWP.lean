/- PropOrder: the walk. -/
import Derived.Test.YtoffhaamkhfdeaaVP
import Derived.Test.YtoffhaamkhfdeaaXI
import Derived.Laws.AppendOwnNone
import Derived.Deep.RegionHeld3
import Derived.BigRegion
namespace Go.Proofs.Ytoffhaamkhfdeaa
open Go.RowKit Go.Conc
namespace L
open K

set_option maxRecDepth 100000 in
set_option maxHeartbeats 16000000 in
theorem order_walk (n : Int) (v : Value) (L8 : List (List Int)) (u : Value) (l8 : List Int) (w : World) (hn0 : (Lit.int .u8 n).wf = true) (hW : ListsW .i8 w v L8) (hA8 : IntsW .i8 w u l8) :
    Calls Try.prog 10 #[.int .u8 n, v, u] w fun e w' => e = .returned (.bool true) ∧ Below w.heap.size w w' := by
  obtain ⟨i0, hi, h0z, h1z, h2z⟩ := info_parts info36
  obtain ⟨i3, hi3, hz30, hz31, hz32⟩ := info_parts info3
  have hfit := fit_any n v L8 w hn0 hW
  obtain ⟨p, c, rfl⟩ : ∃ p c, v = .slice p L8.length c := by obtain ⟨p, c, h, _⟩ := hW; exact ⟨p, c, h⟩
  obtain ⟨pu, cu, rfl⟩ : ∃ p c, u = .slice p l8.length c := by obtain ⟨p, c, h, _⟩ := hA8; exact ⟨p, c, h⟩
  obtain ⟨V, hVd⟩ : ∃ V : Nat, (V : Int) = 1 + n % 12 := ⟨(1 + n % 12).toNat, by omega⟩
  have hV : 1 ≤ V ∧ V ≤ 12 := by omega
  rw [← hVd] at hfit
  have HA8 := Lib.hid hA8
  clear hVd hn0 hW hA8
  go_enter Try.func10, Try.ntmps10
  go_wp2_with fail
  refine hfit.mono ?_
  rintro e w1 ⟨r, rfl, hpost, hb1⟩
  refine Hid.out ?_
  refine Lib.hid ?_
  rcases hpost with ⟨hok, v', rfl, hown⟩ | ⟨hok, rfl⟩
  · have hL0 := fit_own hok hown
    have hF := fit_len (V := V) hok
    have HCK := Lib.hid (fit_check (V := V) (L := L8) (by omega) (by omega) hok)
    have HVL := Lib.hid (val_fitL hV L8)
    have hRT := rowsT_own hown (fun j hj => by have := hF.2 _ (mem_getDL hj); omega)
    clear hok hfit hown
    generalize fitL V L8 = F at *
    obtain ⟨pv, cv, ev⟩ : ∃ p c, v' = .slice p F.length c := by obtain ⟨p, c, h, _⟩ := hL0; exact ⟨p, c, h⟩
    subst ev
    have hF1 := hF.1
    obtain ⟨w2, hw2⟩ : ∃ W : World, w1.alloc (.cells #[.int .i64 V, .slice pv F.length cv] 26) = W := ⟨_, rfl⟩
    have hb12 : Below w1.heap.size w1 w2 := by rw [← hw2]; exact (Below.refl _ _).alloc (Nat.le_refl _) _
    have hb2 : Below w.heap.size w w2 := hb1.trans (hb12.mono hb1.size)
    have hx0 : w2.cell? ⟨w1.heap.size, 0, none⟩ = some (.int .i64 V) := by rw [← hw2]; simp
    have hx1 : w2.cell? ⟨w1.heap.size, 1, none⟩ = some (.slice pv F.length cv) := by rw [← hw2]; simp
    have hs2 : w1.heap.size < w2.heap.size := World.block_lt_of_cell? _ _ hx0
    have HL : Hid (∀ W, Below w2.heap.size w2 W → Lists W (.slice pv F.length cv) F) := Lib.hid fun W hW => (hL0.below hb12).below hW
    have has := assumed_any V hV pv F.length cv (.slice pu l8.length cu) l8 w2 (HA8.out.below hb2)
    have HF20 := Lib.hid hF.2
    have HRT2 := Lib.hid (hRT.below hb12)
    have HB2 := Lib.hid hb2
    clear hL0 hF hb12 hb1 hb2 hRT
    go_wp2_with fail
    clear hw2
    refine has.mono ?_
    rintro e w3 ⟨va, rfl, hoA, hb3⟩
    refine Hid.out ?_
    refine Lib.hid ?_
    have HVA := Lib.hid (val_fitC hV (l8.take 12))
    have hAl : (fitC (V : Int) (l8.take 12)).length ≤ 12 := Nat.le_trans fitC_len (by simp; omega)
    generalize fitC (V : Int) (l8.take 12) = A at *
    have HB3 := Lib.hid (HB2.out.trans (hb3.mono HB2.out.size))
    have HB23 := Lib.hid hb3
    have hy0 := (hb3.cell (p := ⟨w1.heap.size, 0, none⟩) hs2).trans hx0
    have hy1 := (hb3.cell (p := ⟨w1.heap.size, 1, none⟩) hs2).trans hx1
    have hs3 : w1.heap.size < w3.heap.size := World.block_lt_of_cell? _ _ hy0
    have HIA := Lib.hid (hoA.ints (by omega))
    obtain ⟨pa, ca, eva⟩ : ∃ pa ca, va = .slice pa A.length ca := by obtain ⟨p, c, h, _⟩ := HIA.out; exact ⟨p, c, h⟩
    subst eva
    clear hoA hb3 hx0 hx1 has hs2
    have HV64 : Hid (I64 (V : Int)) := Lib.hid (by unfold I64; omega)
    have HFI : Hid (∀ c ∈ F, ∀ x ∈ c, I64 x) := Lib.hid fun c hc => val_i64 (n := V) (by omega) (HVL.out c hc)
    have HAI : Hid (∀ x ∈ A, I64 x) := Lib.hid (val_i64 (n := V) (by omega) HVA.out)
    have hc1 := punits_any (V : Int) _ F _ A w3 HV64.out HFI.out (HL.out w3 HB23.out) HAI.out HIA.out
    have hU := units_cases (checkU_valid HCK.out HVA.out)
    go_wp2_with fail
    refine hc1.mono ?_
    rintro e w4 ⟨r, rfl, hp1, hb4⟩
    refine Hid.out ?_
    refine Lib.hid ?_
    obtain ⟨vl, rfl, ho1, hlen1⟩ := upost_r hp1
    have HB4 := Lib.hid (HB3.out.trans (hb4.mono HB3.out.size))
    have HB24 := Lib.hid (HB23.out.trans (hb4.mono HB23.out.size))
    have hz0 := (hb4.cell (p := ⟨w1.heap.size, 0, none⟩) hs3).trans hy0
    have hz1 := (hb4.cell (p := ⟨w1.heap.size, 1, none⟩) hs3).trans hy1
    have hs4 : w1.heap.size < w4.heap.size := World.block_lt_of_cell? _ _ hz0
    have hO := ho1.ints (by omega)
    have HIA4 := Lib.hid (HIA.out.below hb4)
    obtain ⟨R1, R2, e1⟩ : ∃ R1 R2, unitsR (V : Int) F A = (R1, R2, 0) := by
      rcases hU with ⟨_, e⟩ | ⟨_, e⟩
      · exact ⟨_, _, e⟩
      · exact ⟨_, _, e⟩
    rw [e1] at hO hlen1
    simp only [e1]
    dsimp only at hO hlen1
    have HE1 := Lib.hid e1
    have hRT4 := (HRT2.out.below HB23.out).below hb4
    obtain ⟨pl, cl, evl⟩ : ∃ p c, vl = .slice p R1.length c := by obtain ⟨p, c, h, _⟩ := hO; exact ⟨p, c, h⟩
    subst evl
    have HO4 := Lib.hid hO
    have HRT4 := Lib.hid hRT4
    clear hp1 ho1 hb4 hc1 hy0 hy1 hs3 hU e1 hO hRT4 HRT2
    have HS4 := Lib.hid hs4
    have HZ1 := Lib.hid hz1
    go_wp2
    go_loopw [14] (fun i wr => ∃ (x : Int) (m : Nat) (G : List (List Int)) (pg : Option Addr) (cg : Nat), x = (m : Int) - 1 ∧ i = .int .i64 x ∧ m ≤ F.length ∧ GR F m G ∧ G.length + 2 * m ≤ 2 * F.length ∧ GSt w4.heap.size w4 V wr G pg cg) (fun i _ => (intOf i + 1).toNat)
    case atStart => exact ⟨_, F.length, [], none, 0, rfl, rfl, Nat.le_refl _, GR.init _, by simp, Box.new _ _ _, OwnT.nil _ _, (Below.refl _ _).alloc (Nat.le_refl _) _, by simp⟩
    case round =>
      clear hz0 hz1 hs4
      obtain ⟨x, m, G, pg, cg, hx, rfl, hm, hgr, hgl, hst⟩ := hrel
      have q1 := (hst.2.2.1.cell (p := ⟨w1.heap.size, 1, none⟩) HS4.out).trans HZ1.out
      have HGR := Lib.hid hgr
      have HST := Lib.hid hst
      clear hgr hst
      rename World => w6
      by_cases hpos : 0 < m
      · obtain ⟨i, rfl⟩ : ∃ i, m = i + 1 := ⟨m - 1, by omega⟩
        obtain rfl : x = (i : Int) := by omega
        have hge : (0 : Int) ≤ (i : Int) := by omega
        have hiF : i < F.length := by omega
        have hiF' : (i : Int) < (F.length : Int) := by omega
        obtain ⟨pf, cf, ep, e0⟩ := HRT4.out
        simp only [Value.slice.injEq] at ep
        obtain ⟨ep, ep2, ep3⟩ := ep
        clear ep2 ep3
        obtain ⟨fb, fo, epf, e1⟩ := e0 (by omega)
        rw [epf] at ep
        subst ep
        obtain ⟨pc, cc, hrow4, hCI4, hCT4, hsh⟩ := e1 i hiF
        have hClen : (F.getD i []).length ≤ 20 := HF20.out _ (mem_getDL hiF)
        obtain ⟨C, eC⟩ : ∃ C, F.getD i [] = C := ⟨_, rfl⟩
        rw [eC] at hrow4 hCI4 hCT4 hsh hClen
        have hrow := (HST.out.2.2.1.cell (p := ⟨fb, fo + i, none⟩) (World.block_lt_of_cell? _ _ hrow4)).trans hrow4
        have HEC := Lib.hid eC
        have HROW4 := Lib.hid hrow4
        have HCI := Lib.hid (hCI4.below HST.out.2.2.1)
        have HCI4 := Lib.hid hCI4
        have HCT4 := Lib.hid hCT4
        have HSH := Lib.hid hsh
        have hq6 : w1.heap.size < w6.heap.size := World.block_lt_of_cell? _ _ q1
        have hr6 : fb < w6.heap.size := World.block_lt_of_cell? _ _ hrow
        clear e0 e1 epf hx eC hCI4 hCT4 hsh hpos hrow4
        go_wp2
        go_loopw [15, 16] (fun s k wr => ∃ (y : Int) (kk : Nat) (acc : List Int), y = (kk : Int) - 1 ∧ k = .int .i64 y ∧ kk ≤ C.length ∧ (∀ x ∈ acc, x ∈ C) ∧ acc.length + kk = C.length ∧ OwnI wr w6.heap.size s acc ∧ Below w6.heap.size w6 wr) (fun _ k _ => (intOf k + 1).toNat)
        case atStart => exact ⟨_, C.length, [], rfl, rfl, Nat.le_refl _, by simp, by simp, OwnI.nil _ _, Below.refl _ _⟩
        case round =>
          obtain ⟨y, kk, acc, hy, rfl, hkk, hsub, hal, hown, hb⟩ := hrel
          have q1' := (hb.cell (p := ⟨w1.heap.size, 1, none⟩) hq6).trans q1
          have hrow' := (hb.cell (p := ⟨fb, fo + i, none⟩) hr6).trans hrow
          have hsz := hb.size
          have HB := Lib.hid hb
          have HSUB := Lib.hid hsub
          obtain ⟨pc2, nc2, rfl⟩ := owns_shape hown
          unfold OwnI at hown
          have HOWN := Lib.hid hown
          clear q1 hrow hsub hown
          by_cases hkp : 0 < kk
          · obtain ⟨k, rfl⟩ : ∃ k, kk = k + 1 := ⟨kk - 1, by omega⟩
            obtain rfl : y = (k : Int) := by omega
            have hgek : (0 : Int) ≤ (k : Int) := by omega
            have hlk : k < C.length := by omega
            have hlk' : (k : Int) < (C.length : Int) := by omega
            obtain ⟨_, _, ep, _, _, e0⟩ := HCI.out
            simp only [Value.slice.injEq] at ep
            obtain ⟨ep, ep2, ep3⟩ := ep
            clear ep2 ep3
            obtain ⟨b1, o1, epp, e1⟩ := e0 (by omega)
            rw [epp] at ep
            subst ep
            have d1 := (hb.cell (p := ⟨b1, o1 + k, none⟩) (World.block_lt_of_cell? _ _ (e1 k hlk))).trans (e1 k hlk)
            have hxm := mem_getD hlk
            generalize C.getD k 0 = x at *
            have HXM := Lib.hid hxm
            clear e0 e1 epp hxm hb hkp hy
            go_wp2_with (at_builtin; refine wpList_append_own _ rfl _ _ 23 rfl w6.heap.size 3 i3 (.int .i64 0) 1 8 Try.underlying23 hi3 hz30 hz31 hz32 rfl (by decide) _ _ _ rfl (HOWN.out.alloc _) ⟨wr.heap.size, 0, none⟩ 1 1 [.int .i64 x] rfl rfl ?c1 ?c2 ?c3 ?c4 ?c5 ?_)
            case c1 =>
              intro j u hj
              match j, hj with
              | 0, hj => simp at hj; subst hj; exact cell_new (by simp) rfl
            case c2 => intro u hu; simp at hu; subst hu; rfl
            case c3 => unfold maxLen; omega
            case c4 => omega
            case c5 => simp; omega
            intro v' w7 hown' hgrow _
            have hlt2 := fun k hk => (HOWN.out.lt k hk).1
            have HB' := Lib.hid ((HB.out.alloc HB.out.size (.cells #[.int .i64 x] 3)).grown hgrow (by have := HB.out.size; simp at this ⊢; omega) hlt2)
            have HO' := Lib.hid hown'
            clear hgrow hlt2 hown'
            go_wp2
            go_roundw
            case rel => exact ⟨(k : Int) - 1, k, acc ++ [x], by omega, by go_num, by omega, fun z hz => by
              rcases List.mem_append.1 hz with h | h
              · exact HSUB.out z h
              · simp at h; subst h; exact HXM.out, by simp; omega, by unfold OwnI; simpa using HO'.out, HB'.out⟩
            case measure => simp [intOf]
          · obtain rfl : kk = 0 := by omega
            obtain rfl : y = -1 := by omega
            have HAL : Hid (acc.length = C.length) := Lib.hid (by omega)
            have HCS : Hid (SameL C (acc ++ C)) := Lib.hid fun z => ⟨fun h => List.mem_append_right _ h, fun h => (List.mem_append.1 h).elim (HSUB.out z) id⟩
            clear hkp hy
            rcases HSH.out with ⟨rfl, rfl, hC0⟩ | ⟨kb, rfl⟩
            · subst hC0
              obtain ⟨hbox, ⟨us, hus, how, hin⟩, hbw, hsw⟩ := HST.out.later HB.out
              have k1 : wr.cell? ⟨w4.heap.size, 1, none⟩ = some (.slice pg G.length cg) := hbox.cell 1
              have HBX := Lib.hid hbox
              have HUS := Lib.hid hus
              have HHOW := Lib.hid how
              have HIN := Lib.hid hin
              have HBW := Lib.hid hbw
              have HSW := Lib.hid hsw
              clear hbox hus how hin hbw hsw
              have HROW : Hid (OwnI wr w6.heap.size (.slice pc2 acc.length nc2) (acc ++ [])) := Lib.hid (by unfold OwnI; simpa using HOWN.out)
              have HRWI := Lib.hid (HROW.out.ints (by have := HAL.out; simp at this ⊢; omega))
              clear hal hkk
              go_wp2_with (at_builtin; first | refine wpList_append_own_none rfl _ _ 23 rfl w6.heap.size 3 i3 1 Try.underlying23 hi3 _ _ _ rfl HOWN.out rfl ?_ | refine wpList_append_own _ rfl _ _ 24 rfl (w4.heap.size + 1) 23 i0 (.slice none 0 0) 1 24 Try.underlying24 hi h0z h1z h2z rfl (by decide) _ _ _ rfl (HHOW.out.alloc _) ⟨wr.heap.size, 0, none⟩ 1 1 [.slice pc2 acc.length nc2] rfl rfl ?f1 ?f2 ?f3 ?f4 ?f5 ?_)
              case f2 => rfl
              case f3 => unfold maxLen; omega
              case f4 => omega
              case f5 => have := HSW.out; omega
              intro v8 w8 hown8 hgrow8 _
              obtain ⟨hxB, g8, cap8, e8, hst8⟩ := GSt.push (c := acc ++ []) HBX.out HUS.out HHOW.out HIN.out HBW.out HSW.out (HRWI.out) (fun k hk => owns_typed HROW.out k hk) ((Below.refl _ _).alloc (Nat.le_refl _) _) hown8 hgrow8
              subst e8
              have k8 := hxB.cell 1
              have k8f := hxB.frozen 1
              have HST8 := Lib.hid hst8
              clear hgrow8 hown8 hxB hst8 k1 HBX HUS HHOW HIN HBW HSW
              obtain ⟨r, hr⟩ : ∃ r : Int, (i : Int).tmod 2 = r := ⟨_, rfl⟩
              have hr2 : (i : Int) % 2 = r := by rw [← hr]; exact (Int.tmod_eq_emod_of_nonneg (by omega)).symm
              have HGR1 : Hid (GR F i (G ++ [acc ++ []])) := Lib.hid (HGR.out.step hiF (by rw [List.length_append, HAL.out]; (first | omega | simp)) (by rw [HEC.out]; exact HCS.out))
              by_cases hr0 : r = 0
              · have er : (r == (0 : Int)) = true := by simp [hr0]
                clear hr0
                go_wp2
                obtain ⟨G1, hG1⟩ : ∃ G1, G ++ [acc ++ []] = G1 := ⟨_, rfl⟩
                have HGL : Hid (G1.length = G.length + 1) := Lib.hid (by rw [← hG1]; simp)
                have hG61 : G1.length ≤ 61 := by have := HGL.out; omega
                rw [hG1] at HST8 HGR1
                clear hG1 k8 k8f hr hr2 er
                generalize w8.setCell ⟨w4.heap.size, 1, none⟩ _ = w9 at *
                obtain ⟨hbox, ⟨us9, hus, how, hin⟩, hbw, hsw⟩ := HST8.out
                have q9 := (hbw.cell (p := ⟨w1.heap.size, 1, none⟩) HS4.out).trans HZ1.out
                have r9 := (hbw.cell (p := ⟨fb, fo + i, none⟩) (World.block_lt_of_cell? _ _ HROW4.out)).trans HROW4.out
                have k9 : w9.cell? ⟨w4.heap.size, 1, none⟩ = some (.slice (some ⟨g8, 0, none⟩) G1.length cap8) := hbox.cell 1
                have HCI9 := Lib.hid (HCI4.out.below hbw)
                have HCT9 := Lib.hid (TypedI.below HCT4.out hbw (Nat.le_refl _))
                have HBX := Lib.hid hbox
                have HUS := Lib.hid hus
                have HHOW := Lib.hid how
                have HIN := Lib.hid hin
                have HBW := Lib.hid hbw
                have HSW := Lib.hid hsw
                have hsw9 := hsw
                have hba9 : Below w9.heap.size w9 (w9.alloc (.cells #[.slice none 0 0] 23)) := (Below.refl _ _).alloc (Nat.le_refl _) _
                have q9a := (hba9.cell (p := ⟨w1.heap.size, 1, none⟩) (World.block_lt_of_cell? _ _ q9)).trans q9
                have r9a := (hba9.cell (p := ⟨fb, fo + i, none⟩) (World.block_lt_of_cell? _ _ r9)).trans r9
                have k9a := (hba9.cell (p := ⟨w4.heap.size, 1, none⟩) (World.block_lt_of_cell? _ _ k9)).trans k9
                clear hbox hus how hin hbw hsw HST8 hba9
                go_region_law (first
                  | (refine step_append_lies _ (by rfl) _ _ _ (by rfl) (w4.heap.size + 1) 23 i0 _ 1 24 Try.underlying24 hi h0z h1z h2z rfl (by omega) (.slice (some ⟨g8, 0, none⟩) G1.length cap8) G1.length _ (by rfl) (owns_heap (HHOW.out.alloc (.cells #[.slice none 0 0] 23)) (by rfl))
                      ⟨w9.heap.size, 0, none⟩ 1 1 [.slice none 0 0] (by rfl) (by rfl) (World.news_of_block (cs := #[.slice none 0 0]) (t := 23) (fr := (0, 0)) (heap_alloc_new w9 _)) (by simp [Value.oneCell'])
                      (by omega) (by unfold maxLen; omega) (by omega) (by simp; omega) (w9.heap.size + 1) (by simp) ?_
                     intro gg cap10 w10 hown10 hgrow10 _ _
                     obtain ⟨hxB10, g10, cap10', e10, hst10⟩ := GSt.push (c := []) HBX.out HUS.out HHOW.out HIN.out HBW.out HSW.out HCI9.out HCT9.out ((Below.refl _ w9).alloc (Nat.le_refl _) (.cells #[.slice none 0 0] 23)).drew hown10 hgrow10
                     cases e10
                     have k10 := hxB10.cell 1
                     have k10f := hxB10.frozen 1))
                all_goals
                  have HST10 := Lib.hid hst10
                  clear hst10 hown10 hgrow10 hxB10 k10 k10f q9 r9 k9 q9a r9a k9a HBX HUS HHOW HIN HBW HSW HCI9 HCT9
                  go_wp2
                  go_roundw
                  case rel => exact ⟨(i : Int) - 1, i, _, _, _, rfl, by go_num, by omega, HGR1.out.more hiF (by omega) (by rw [HEC.out]; exact fun _ => Iff.rfl), by have := HGL.out; simp; omega, HST10.out⟩
                  case measure => simp [intOf]
              · have er : (r == (0 : Int)) = false := by simp [hr0]
                clear hr0
                go_wp2
                go_roundw
                case rel => exact ⟨(i : Int) - 1, i, _, _, _, rfl, by go_num, by omega, HGR1.out, by simp; omega, HST8.out⟩
                case measure => simp [intOf]
            · have HROW6 := Lib.hid hrow'
              go_wp2_with (at_builtin; refine wpList_append_own _ rfl _ _ 23 rfl w6.heap.size 3 i3 (.int .i64 0) 1 8 Try.underlying23 hi3 hz30 hz31 hz32 rfl (by decide) _ _ _ rfl HOWN.out ⟨kb, 0, none⟩ C.length cc (C.map (Value.int .i64)) rfl (by simp) ?c1 ?c2 ?c3 ?c4 ?c5 ?_)
              case c1 =>
                intro j u hj
                obtain ⟨_, _, ep, _, _, e0⟩ := HCI.out.below HB.out
                rw [List.getElem?_map, Option.map_eq_some_iff] at hj
                obtain ⟨x, hx, rfl⟩ := hj
                obtain ⟨hjl, hx2⟩ := List.getElem?_eq_some_iff.1 hx
                simp only [Value.slice.injEq] at ep
                obtain ⟨ep, ep2, ep3⟩ := ep
                obtain ⟨b1, o1, epp, e1⟩ := e0 (by omega)
                rw [epp] at ep
                cases ep
                have h1 := e1 j hjl
                rw [show C.getD j 0 = x by simp [List.getD, hx]] at h1
                by_cases hj0 : j = 0
                · subst hj0; simpa [Addr.add] using h1
                · simpa [Addr.add, hj0] using h1
              case c2 => intro u hu; simp at hu; obtain ⟨z, _, rfl⟩ := hu; rfl
              case c3 => unfold maxLen; omega
              case c4 => omega
              case c5 => exact HB.out.size
              intro v7 w7 hown7 hgrow7 _
              obtain ⟨p7, c7, rfl⟩ := owns_shape hown7
              have HROW : Hid (OwnI w7 w6.heap.size (.slice p7 (acc.length + C.length) c7) (acc ++ C)) := Lib.hid (by unfold OwnI; simpa using hown7)
              have HRWI := Lib.hid (HROW.out.ints (by simp; omega))
              have HB7 := Lib.hid (HB.out.grown hgrow7 HB.out.size (fun k hk => (HOWN.out.lt k hk).1))
              clear hown7 hgrow7
              obtain ⟨hbox, ⟨us, hus, how, hin⟩, hbw, hsw⟩ := HST.out.later HB7.out
              have k1 : w7.cell? ⟨w4.heap.size, 1, none⟩ = some (.slice pg G.length cg) := hbox.cell 1
              have HBX := Lib.hid hbox
              have HUS := Lib.hid hus
              have HHOW := Lib.hid how
              have HIN := Lib.hid hin
              have HBW := Lib.hid hbw
              have HSW := Lib.hid hsw
              clear hbox hus how hin hbw hsw
              go_wp2_with (at_builtin; refine wpList_append_own _ rfl _ _ 24 rfl (w4.heap.size + 1) 23 i0 (.slice none 0 0) 1 24 Try.underlying24 hi h0z h1z h2z rfl (by decide) _ _ _ rfl (HHOW.out.alloc _) ⟨w7.heap.size, 0, none⟩ 1 1 [.slice p7 (acc.length + C.length) c7] rfl rfl ?d1 ?d2 ?d3 ?d4 ?d5 ?_)
              case d1 =>
                intro j u hj
                match j, hj with
                | 0, hj => simp at hj; subst hj; exact cell_new (by simp) rfl
              case d2 => intro u hu; simp at hu; subst hu; rfl
              case d3 => unfold maxLen; omega
              case d4 => omega
              case d5 => have := HSW.out; simp; omega
              intro v8 w8 hown8 hgrow8 _
              obtain ⟨hxB, g8, cap8, e8, hst8⟩ := GSt.push (c := acc ++ C) HBX.out HUS.out HHOW.out HIN.out HBW.out HSW.out (HRWI.out) (fun k hk => owns_typed HROW.out k hk) ((Below.refl _ _).alloc (Nat.le_refl _) _) hown8 hgrow8
              subst e8
              have k8 := hxB.cell 1
              have k8f := hxB.frozen 1
              have HST8 := Lib.hid hst8
              clear hgrow8 hown8 hxB hst8 k1 HBX HUS HHOW HIN HBW HSW
              obtain ⟨r, hr⟩ : ∃ r : Int, (i : Int).tmod 2 = r := ⟨_, rfl⟩
              have hr2 : (i : Int) % 2 = r := by rw [← hr]; exact (Int.tmod_eq_emod_of_nonneg (by omega)).symm
              have HGR1 : Hid (GR F i (G ++ [acc ++ C])) := Lib.hid (HGR.out.step hiF (by rw [List.length_append, HAL.out]; (first | omega | simp)) (by rw [HEC.out]; exact HCS.out))
              by_cases hr0 : r = 0
              · have er : (r == (0 : Int)) = true := by simp [hr0]
                clear hr0
                go_wp2
                obtain ⟨G1, hG1⟩ : ∃ G1, G ++ [acc ++ C] = G1 := ⟨_, rfl⟩
                have HGL : Hid (G1.length = G.length + 1) := Lib.hid (by rw [← hG1]; simp)
                have hG61 : G1.length ≤ 61 := by have := HGL.out; omega
                rw [hG1] at HST8 HGR1
                clear hG1 k8 k8f hr hr2 er
                generalize w8.setCell ⟨w4.heap.size, 1, none⟩ _ = w9 at *
                obtain ⟨hbox, ⟨us9, hus, how, hin⟩, hbw, hsw⟩ := HST8.out
                have q9 := (hbw.cell (p := ⟨w1.heap.size, 1, none⟩) HS4.out).trans HZ1.out
                have r9 := (hbw.cell (p := ⟨fb, fo + i, none⟩) (World.block_lt_of_cell? _ _ HROW4.out)).trans HROW4.out
                have k9 : w9.cell? ⟨w4.heap.size, 1, none⟩ = some (.slice (some ⟨g8, 0, none⟩) G1.length cap8) := hbox.cell 1
                have HCI9 := Lib.hid (HCI4.out.below hbw)
                have HCT9 := Lib.hid (TypedI.below HCT4.out hbw (Nat.le_refl _))
                have HBX := Lib.hid hbox
                have HUS := Lib.hid hus
                have HHOW := Lib.hid how
                have HIN := Lib.hid hin
                have HBW := Lib.hid hbw
                have HSW := Lib.hid hsw
                have hsw9 := hsw
                have hba9 : Below w9.heap.size w9 (w9.alloc (.cells #[.slice (some ⟨kb, 0, none⟩) C.length cc] 23)) := (Below.refl _ _).alloc (Nat.le_refl _) _
                have q9a := (hba9.cell (p := ⟨w1.heap.size, 1, none⟩) (World.block_lt_of_cell? _ _ q9)).trans q9
                have r9a := (hba9.cell (p := ⟨fb, fo + i, none⟩) (World.block_lt_of_cell? _ _ r9)).trans r9
                have k9a := (hba9.cell (p := ⟨w4.heap.size, 1, none⟩) (World.block_lt_of_cell? _ _ k9)).trans k9
                clear hbox hus how hin hbw hsw HST8 hba9
                go_region_law (first
                  | (refine step_append_lies _ (by rfl) _ _ _ (by rfl) (w4.heap.size + 1) 23 i0 _ 1 24 Try.underlying24 hi h0z h1z h2z rfl (by omega) (.slice (some ⟨g8, 0, none⟩) G1.length cap8) G1.length _ (by rfl) (owns_heap (HHOW.out.alloc (.cells #[.slice (some ⟨kb, 0, none⟩) C.length cc] 23)) (by rfl))
                      ⟨w9.heap.size, 0, none⟩ 1 1 [.slice (some ⟨kb, 0, none⟩) C.length cc] (by rfl) (by rfl) (World.news_of_block (cs := #[.slice (some ⟨kb, 0, none⟩) C.length cc]) (t := 23) (fr := (0, 0)) (heap_alloc_new w9 _)) (by simp [Value.oneCell'])
                      (by omega) (by unfold maxLen; omega) (by omega) (by simp; omega) (w9.heap.size + 1) (by simp) ?_
                     intro gg cap10 w10 hown10 hgrow10 _ _
                     obtain ⟨hxB10, g10, cap10', e10, hst10⟩ := GSt.push (c := C) HBX.out HUS.out HHOW.out HIN.out HBW.out HSW.out HCI9.out HCT9.out ((Below.refl _ w9).alloc (Nat.le_refl _) (.cells #[.slice (some ⟨kb, 0, none⟩) C.length cc] 23)).drew hown10 hgrow10
                     cases e10
                     have k10 := hxB10.cell 1
                     have k10f := hxB10.frozen 1))
                all_goals
                  have HST10 := Lib.hid hst10
                  clear hst10 hown10 hgrow10 hxB10 k10 k10f q9 r9 k9 q9a r9a k9a HBX HUS HHOW HIN HBW HSW HCI9 HCT9
                  go_wp2
                  go_roundw
                  case rel => exact ⟨(i : Int) - 1, i, _, _, _, rfl, by go_num, by omega, HGR1.out.more hiF (by omega) (by rw [HEC.out]; exact fun _ => Iff.rfl), by have := HGL.out; simp; omega, HST10.out⟩
                  case measure => simp [intOf]
              · have er : (r == (0 : Int)) = false := by simp [hr0]
                clear hr0
                go_wp2
                go_roundw
                case rel => exact ⟨(i : Int) - 1, i, _, _, _, rfl, by go_num, by omega, HGR1.out, by simp; omega, HST8.out⟩
                case measure => simp [intOf]
      · obtain rfl : m = 0 := by omega
        obtain rfl : x = -1 := by omega
        have hG60 : G.length ≤ 60 := by omega
        have HB6 := Lib.hid (HB4.out.trans (HST.out.2.2.1.mono HB4.out.size))
        have HIA6 := Lib.hid (HIA4.out.below HST.out.2.2.1)
        clear hpos hx hgl hm q1
        go_wp2
        go_loopw [17, 18] (fun s k wr => ∃ (y : Int) (kk : Nat) (acc : List Int), y = (kk : Int) - 1 ∧ k = .int .i64 y ∧ kk ≤ A.length ∧ (∀ x ∈ acc, x ∈ A) ∧ (∀ j, kk ≤ j → j < A.length → A.getD j 0 ∈ acc) ∧ acc.length + 2 * kk = 2 * A.length ∧ OwnI wr w6.heap.size s acc ∧ Below w6.heap.size w6 wr) (fun _ k _ => (intOf k + 1).toNat)
        case atStart => exact ⟨_, A.length, [], rfl, rfl, Nat.le_refl _, by simp, fun j h1 h2 => absurd h2 (by omega), by simp, OwnI.nil _ _, Below.refl _ _⟩
        case round =>
          obtain ⟨y, kk, acc, hy, rfl, hkk, hsub, hcov, hal, hown, hb⟩ := hrel
          have hsz := hb.size
          have HB := Lib.hid hb
          have HSUB := Lib.hid hsub
          have HCOV := Lib.hid hcov
          have HAL := Lib.hid hal
          have hac : acc.length ≤ 24 := by omega
          obtain ⟨pc2, nc2, rfl⟩ := owns_shape hown
          have HOWN := Lib.hid hown
          clear hsub hcov hown hal
          by_cases hkp : 0 < kk
          · obtain ⟨k, rfl⟩ : ∃ k, kk = k + 1 := ⟨kk - 1, by omega⟩
            obtain rfl : y = (k : Int) := by omega
            have hgek : (0 : Int) ≤ (k : Int) := by omega
            have hlk : k < A.length := by omega
            have hlk' : (k : Int) < (A.length : Int) := by omega
            obtain ⟨_, _, ep, _, _, e0⟩ := HIA6.out
            simp only [Value.slice.injEq] at ep
            obtain ⟨ep, ep2, ep3⟩ := ep
            clear ep2 ep3
            obtain ⟨b1, o1, epp, e1⟩ := e0 (by omega)
            rw [epp] at ep
            subst ep
            have d1 := (hb.cell (p := ⟨b1, o1 + k, none⟩) (World.block_lt_of_cell? _ _ (e1 k hlk))).trans (e1 k hlk)
            have hxm := mem_getD hlk
            obtain ⟨x, ex⟩ : ∃ x, A.getD k 0 = x := ⟨_, rfl⟩
            rw [ex] at d1 hxm
            have HEX := Lib.hid ex
            have HXM := Lib.hid hxm
            have d1a := (((Below.refl wr.heap.size wr).alloc (Nat.le_refl _) (.cells #[.int .i64 x, .int .i64 x] 3)).cell (p := ⟨b1, o1 + k, none⟩) (World.block_lt_of_cell? _ _ d1)).trans d1
            clear e0 e1 epp hxm hb hkp hy ex
            go_wp2
            go_region_law (first
              | (refine step_append_lies _ (by rfl) _ _ _ (by rfl) w6.heap.size 3 i3 _ 1 8 Try.underlying23 hi3 hz30 hz31 hz32 rfl (by omega) (.slice pc2 acc.length nc2) acc.length _ (by rfl) (owns_heap (World.ownsRow.alloc HOWN.out (.cells #[.int .i64 x, .int .i64 x] 3)) (by rfl))
                  ⟨wr.heap.size, 0, none⟩ 2 2 [.int .i64 x, .int .i64 x] (by rfl) (by rfl) (World.news_of_block (cs := #[.int .i64 x, .int .i64 x]) (t := 3) (fr := (0, 0)) (heap_alloc_new wr _)) (by simp [Value.oneCell'])
                  (by omega) (by unfold maxLen; omega) (by omega) (by simp; omega) (wr.heap.size + 1) (by simp) ?_
                 intro gg cap7 w7 hown7 hgrow7 _ _))
            all_goals
              have HB' := Lib.hid ((HB.out.alloc HB.out.size (.cells #[.int .i64 x, .int .i64 x] 3)).drew.grown hgrow7 (by have := HB.out.size; simp at this ⊢; omega) (fun k hk => (World.ownsRow.lt HOWN.out k hk).1))
              have HO' : Hid (OwnI w7 w6.heap.size (.slice (some ⟨gg, 0, none⟩) (acc.length + 2) cap7) (acc ++ [x, x])) := Lib.hid (by unfold OwnI; simpa using hown7)
              clear hgrow7 hown7 d1 d1a
              go_wp2
              go_roundw
              case rel =>
                refine ⟨(k : Int) - 1, k, acc ++ [x, x], rfl, by go_num, by omega, fun z hz => ?_, fun j h1 h2 => ?_, by have := HAL.out; simp; omega, HO'.out, HB'.out⟩
                · rcases List.mem_append.1 hz with h | h
                  · exact HSUB.out z h
                  · have : z = x := by simpa using h
                    rw [this]; exact HXM.out
                · by_cases hjk : j = k
                  · rw [hjk, HEX.out]; simp
                  · exact List.mem_append_left _ (HCOV.out j (by omega) h2)
              case measure => simp [intOf]
          · obtain rfl : kk = 0 := by omega
            obtain rfl : y = -1 := by omega
            have hsame : SameL A acc := fun z => ⟨fun h => by
              obtain ⟨j, hj, e⟩ := U.mem_at h
              rw [← e]; exact HCOV.out j (Nat.zero_le _) hj, HSUB.out z⟩
            have hvacc : U.Val V acc := fun z hz => HVA.out z (HSUB.out z hz)
            have hvG := HGR.out.valid HVL.out
            have hck2 : checkF (V : Int) G = 0 := checkF_intro (by omega) (by omega) fun c hc => ⟨hvG c hc, by have := (HGR.out.1 c hc).1; omega⟩
            have e2 : unitsR (V : Int) G acc = (R1, R2, 0) := by
              rw [unitsR_same (checkU_valid HCK.out HVA.out) (checkU_valid hck2 hvacc) HGR.out.cover (fun d hd => by
                obtain ⟨_, c, hc, hs⟩ := HGR.out.1 d hd
                exact ⟨c, hc, hs⟩) hsame]
              exact HE1.out
            obtain ⟨hbox, hot, hbw, hsw⟩ := HST.out.later HB.out
            have k0 : wr.cell? ⟨w4.heap.size, 0, none⟩ = some (.int .i64 V) := hbox.cell 0
            have k1 : wr.cell? ⟨w4.heap.size, 1, none⟩ = some (.slice pg G.length cg) := hbox.cell 1
            have hc2 := punits_any (V : Int) _ G _ acc wr HV64.out (fun c hc => val_i64 (n := V) (by omega) (hvG c hc)) (hot.lists (by omega)) (val_i64 (n := V) (by omega) hvacc) (HOWN.out.ints (by omega))
            have HE2 := Lib.hid e2
            have HO5 := Lib.hid (HO4.out.below hbw)
            have HB7 := Lib.hid (HB6.out.trans (HB.out.mono HB6.out.size))
            clear hsame hvacc hvG hck2 e2 hbox hot hbw hsw hb hkp hy
            go_wp2_with fail
            refine hc2.mono ?_
            rintro e w8 ⟨r, rfl, hp2, hb8⟩
            refine Hid.out ?_
            refine Lib.hid ?_
            obtain ⟨vl2, rfl, ho2, hlen2⟩ := upost_r hp2
            have hO2 := ho2.ints (by omega)
            rw [HE2.out] at hO2
            simp only [HE2.out]
            have he := equal_any _ vl2 R1 R1 w8 (HO5.out.below hb8) hO2
            rw [decide_eq_true rfl] at he
            have e3 : (R2 == R2) = true := by simp
            have HB8 := Lib.hid (HB7.out.trans (hb8.mono HB7.out.size))
            clear hp2 ho2 hlen2 hO2 hb8 hc2 k0 k1
            go_wp2_with fail
            refine he.mono ?_
            rintro e w9 ⟨rfl, hb9⟩
            refine Hid.out ?_
            refine Lib.hid ?_
            have HB9 := Lib.hid (HB8.out.trans (hb9.mono HB8.out.size))
            clear hb9 he
            go_wp2_with fail
            refine (known4_any _).mono ?_
            rintro e wz ⟨rfl, hbz⟩
            refine Hid.out ?_
            refine Lib.hid ?_
            have HBz := Lib.hid (HB9.out.trans (hbz.mono HB9.out.size))
            clear hbz
            go_wp2
            go_ret
            exact ⟨rfl, HBz.out⟩
  · have HB1 := Lib.hid (hb1.alloc hb1.size (.cells #[.int .i64 0, .slice none 0 0] 26))
    clear hok hfit hb1
    go_wp2_with fail
    refine (known4_any _).mono ?_
    rintro e w7 ⟨rfl, hb7⟩
    refine Hid.out ?_
    refine Lib.hid ?_
    have HB7 := Lib.hid (HB1.out.trans (hb7.mono HB1.out.size))
    clear hb7
    go_wp2
    go_ret
    exact ⟨rfl, HB7.out⟩
end L
end Go.Proofs.Ytoffhaamkhfdeaa
