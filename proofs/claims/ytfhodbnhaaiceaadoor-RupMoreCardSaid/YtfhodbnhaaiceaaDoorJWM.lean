/- RupMore: the walk. -/
import Derived.Test.YtfhodbnhaaiceaaDoorJVQ
import Derived.Test.YtfhodbnhaaiceaaDoorQ26
import Derived.Test.YtfhodbnhaaiceaaDoorQ20
import Derived.Test.YtfhodbnhaaiceaaDoorQ21
import Derived.Test.YtfhodbnhaaiceaaDoorQ19
import Derived.Deep.RegionHeld3
import Derived.BigRegion
namespace Go.Proofs.YtfhodbnhaaiceaaDoor
open Go.RowKit RA
namespace L
open K
set_option maxRecDepth 100000

theorem checkR_neg {F p : List (List Int)} : checkR F p = -1 ↔ firstNot F p = none ∧ p.getLast? = some [] := by
  unfold checkR
  cases firstNot F p with
  | some i => simp
  | none =>
    simp only [true_and]
    split
    · rename_i h; simp [h]
    · rename_i h; constructor
      · intro h2; omega
      · intro h2; exact absurd h2 h
theorem checkR_mono {F G p : List (List Int)} (h : ∀ c ∈ F, c ∈ G) (hn : checkR F p = -1) : checkR G p = -1 := by
  rw [checkR_neg] at hn ⊢
  exact ⟨firstNot_mono h hn.1, hn.2⟩
theorem checkR_before {F before p : List (List Int)} (hb : ∀ c ∈ before, Imp F c) (hn : checkR F p = -1) : checkR F (before ++ p) = -1 := by
  rw [checkR_neg] at hn ⊢
  refine ⟨firstNot_before hb hn.1, ?_⟩
  cases p with
  | nil => cases hn.2
  | cons a r => rw [List.getLast?_append, hn.2]; rfl
theorem impliedR_ok {n : Int} {F : List (List Int)} {c : List Int} (h1 : checkF n F = 0) (h2 : checkE n c = 0) : ∃ q : Bool, impliedR n F c = (q, 0) ∧ (q = true ↔ Imp F c) := by
  unfold impliedR
  rw [if_neg (by simp [h1]), if_neg (by simp [h2])]
  exact ⟨_, rfl, by simp⟩
theorem checkA_ok {n : Int} {F p : List (List Int)} (h1 : checkF n F = 0) (h2 : firstE n p = 0) : checkA n F p = (checkR F p, 0) := by
  unfold checkA; rw [if_neg (by simp [h1]), if_neg (by simp [h2])]

set_option maxHeartbeats 16000000 in
theorem more_walk5 (n : Int) (v : Value) (L8 : List (List Int)) (u : Value) (P8 : List (List Int)) (cut : Int) (w : World) (ht : Tab w) (hn0 : (Lit.int .u8 n).wf = true) (hW : ListsW .i8 w v L8) (hP8 : ListsW .i8 w u P8) (hc0 : (Lit.int .u8 cut).wf = true) :
    Calls Tryd.prog 9 #[.int .u8 n, v, u, .int .u8 cut] w fun e w' => e = .returned (.bool true) ∧ Below w.heap.size w w' := by
  have hfit := fit_any n v L8 w hn0 hW
  obtain ⟨p, c, rfl⟩ : ∃ p c, v = .slice p L8.length c := by obtain ⟨p, c, h, _⟩ := hW; exact ⟨p, c, h⟩
  obtain ⟨pu, cu, rfl⟩ : ∃ p c, u = .slice p P8.length c := by obtain ⟨p, c, h, _⟩ := hP8; exact ⟨p, c, h⟩
  have hcut : 0 ≤ cut ∧ cut ≤ 255 := by simpa [Lit.wf, IntKind.min, IntKind.max, IntKind.signed, IntKind.bits] using hc0
  obtain ⟨hcut1, hcut2⟩ := hcut
  obtain ⟨V, hVd⟩ : ∃ V : Nat, (V : Int) = 1 + n % 12 := ⟨(1 + n % 12).toNat, by omega⟩
  have hV : 1 ≤ V ∧ V ≤ 12 := by omega
  rw [← hVd] at hfit
  have HP8 := Lib.hid hP8
  have HT := Lib.hid ht
  have HK : Hid (∀ W, Below w.heap.size w W → Calls Tryd.prog 13 #[] W fun e w' => e = .returned (.bool true) ∧ Below W.heap.size W w') := Lib.hid fun W hb => known5_any W (ht.below hb)
  clear hVd hn0 hW ht hP8 hc0
  go_enter Tryd.func9, Tryd.ntmps9
  go_wp2_with fail
  refine hfit.mono ?_
  rintro e w1 ⟨r, rfl, hpost, hb1⟩
  refine Hid.out ?_
  refine Lib.hid ?_
  rcases hpost with ⟨hok, v', rfl, hown⟩ | ⟨hok, rfl⟩
  · have hL0 := fit_own hok hown
    have hsh := hown.shape
    have hF := fit_len (V := V) hok
    have HCK := Lib.hid (fit_check (V := V) (L := L8) (by omega) (by omega) hok)
    have HVL := Lib.hid (val_fitL hV L8)
    clear hok hfit hown
    generalize fitL V L8 = F at *
    obtain ⟨pv, cv, ev, hcv⟩ : ∃ p c, v' = .slice p F.length c ∧ F.length ≤ c := by obtain ⟨p, c, h, h1, _⟩ := hL0; exact ⟨p, c, h, h1⟩
    subst ev
    have HPVV : Hid ((pv = none ∧ F.length = 0) ∨ ∃ g, pv = some ⟨g, 0, none⟩) := Lib.hid (by
      rcases hsh with ⟨h1, h2⟩ | ⟨g, c, h⟩
      · simp only [Value.slice.injEq] at h1; exact .inl ⟨h1.1, h2⟩
      · simp only [Value.slice.injEq] at h; exact .inr ⟨g, h.1⟩)
    clear hsh
    have hF1 := hF.1
    have HFL := Lib.hid hF.2
    obtain ⟨w2, hw2⟩ : ∃ W : World, w1.alloc (.cells #[.int .i64 V, .slice pv F.length cv] 26) = W := ⟨_, rfl⟩
    have hb12 : Below w1.heap.size w1 w2 := by rw [← hw2]; exact (Below.refl _ _).alloc (Nat.le_refl _) _
    have hb2 : Below w.heap.size w w2 := hb1.trans (hb12.mono hb1.size)
    have hx0 : w2.cell? ⟨w1.heap.size, 0, none⟩ = some (.int .i64 V) := by rw [← hw2]; simp
    have hx1 : w2.cell? ⟨w1.heap.size, 1, none⟩ = some (.slice pv F.length cv) := by rw [← hw2]; simp
    have hs2 : w1.heap.size < w2.heap.size := World.block_lt_of_cell? _ _ hx0
    have HX0 : Hid (∀ W, Below w2.heap.size w2 W → W.cell? ⟨w1.heap.size, 0, none⟩ = some (.int .i64 V)) := Lib.hid fun W hb => (hb.cell (p := ⟨w1.heap.size, 0, none⟩) hs2).trans hx0
    have HX1 : Hid (∀ W, Below w2.heap.size w2 W → W.cell? ⟨w1.heap.size, 1, none⟩ = some (.slice pv F.length cv)) := Lib.hid fun W hb => (hb.cell (p := ⟨w1.heap.size, 1, none⟩) hs2).trans hx1
    have HL : Hid (∀ W, Below w2.heap.size w2 W → Lists W (.slice pv F.length cv) F) := Lib.hid fun W hW => (hL0.below hb12).below hW
    have HV64 : Hid (I64 (V : Int)) := Lib.hid (by unfold I64; omega)
    have HFI : Hid (∀ c ∈ F, ∀ x ∈ c, I64 x) := Lib.hid fun c hc => val_i64 (n := V) (by omega) (HVL.out c hc)
    have HB2 := Lib.hid hb2
    clear hL0 hF hb12 hb1 hb2
    have hcl := clauses_any V (by omega) pv F.length cv (.slice pu P8.length cu) P8 w2 (HP8.out.below HB2.out)
    go_wp2_with fail
    clear hw2
    refine hcl.mono ?_
    rintro e w3 ⟨r, rfl, hpost, hb3⟩
    have HB23 := Lib.hid hb3
    have HB3 := Lib.hid (HB2.out.trans (hb3.mono HB2.out.size))
    rcases hpost with ⟨hok, vp, rfl, hown⟩ | ⟨hok, rfl⟩
    · have hP0 := fit_own hok hown
      have hPl := fit_len (V := V) hok
      have HPE : Hid (firstE V (fitL V P8) = 0) := Lib.hid (checkF_first (fit_check (V := V) (L := P8) (by omega) (by omega) hok))
      have HPV := Lib.hid (val_fitL hV P8)
      clear hok hown hcl hb3
      generalize fitL V P8 = P at *
      obtain ⟨pp, cp, ev⟩ : ∃ p c, vp = .slice p P.length c := by obtain ⟨p, c, h, _⟩ := hP0; exact ⟨p, c, h⟩
      subst ev
      have hP1 := hPl.1
      have HPN := Lib.hid hPl.2
      have HPI : Hid (∀ c ∈ P, ∀ x ∈ c, I64 x) := Lib.hid fun c hc => val_i64 (n := V) (by omega) (HPV.out c hc)
      have HPL : Hid (∀ W, Below w3.heap.size w3 W → Lists W (.slice pp P.length cp) P) := Lib.hid fun W hW => hP0.below hW
      clear hP0 hPl hx0 hx1
      have hy0 := HX0.out _ HB23.out
      have hy1 := HX1.out _ HB23.out
      obtain ⟨d, hd⟩ : ∃ k : Nat, (k : Int) = cut % ((F.length : Int) + 1) := ⟨(cut % ((F.length : Int) + 1)).toNat, by have := Int.emod_nonneg cut (show ((F.length : Int) + 1) ≠ 0 by omega); omega⟩
      have hdF : d ≤ F.length := by have := Int.emod_lt_of_pos cut (show 0 < ((F.length : Int) + 1) by omega); omega
      have ht2 : cut.tmod ((F.length : Int) + 1) = (d : Int) := by rw [hd]; exact Int.tmod_eq_emod_of_nonneg hcut1
      have hd' := hd.symm
      have hzF : ((F.length : Int) + 1 == 0) = false := beq_eq_false_iff_ne.2 (by omega)
      have hdc : (d : Int) ≤ (cv : Int) := by omega
      clear hd
      have hn1 := World.new_ne w3 ⟨w1.heap.size, 0, none⟩ hy0
      have hn2 := World.new_ne w3 ⟨w1.heap.size, 1, none⟩ hy1
      have HDF := Lib.hid hdF
      have hs3 : w1.heap.size < w3.heap.size := World.block_lt_of_cell? _ _ hy0
      have HSZ3 := Lib.hid hs3
      obtain ⟨vF, hvF⟩ : ∃ x, x = Value.slice pv F.length cv := ⟨_, rfl⟩
      have HVF : Hid (∀ W : World, W.cell? ⟨w1.heap.size, 1, none⟩ = some (.slice pv F.length cv) → W.cell? ⟨w1.heap.size, 1, none⟩ = some vF) := Lib.hid fun W h => by rw [hvF]; exact h
      have HLF : Hid (∀ W, Below w2.heap.size w2 W → Lists W vF F) := Lib.hid fun W hW => by rw [hvF]; exact HL.out W hW
      clear hvF
      rcases HPVV.out with ⟨rfl, hF0⟩ | ⟨gf, rfl⟩
      all_goals
        go_wp2
        go_region
      all_goals first
        | (have HLd : Hid (∀ W, Below w3.heap.size w3 W → Lists W (.slice none 0 cv) (F.take d)) := Lib.hid fun W hW => by rw [List.length_eq_zero_iff.1 hF0]; simpa using Lists.nil W cv none
           obtain ⟨w4, hw4⟩ : ∃ W, W = (w3.alloc (.cells #[.int .i64 V, .slice none 0 cv] 26)).drew := ⟨_, rfl⟩
           rw [← hw4]
           have hz0 : w4.cell? ⟨w3.heap.size, 0, none⟩ = some (.int .i64 V) := by rw [hw4]; simp
           have hz1 : w4.cell? ⟨w3.heap.size, 1, none⟩ = some (.slice none 0 cv) := by rw [hw4]; simp
           have hb34 : Below w3.heap.size w3 w4 := by rw [hw4]; exact ((Below.refl _ _).alloc (Nat.le_refl _) _).drew
           clear hw4)
        | (have HLd : Hid (∀ W, Below w3.heap.size w3 W → Lists W (.slice (some ⟨gf, 0, none⟩) d cv) (F.take d)) := Lib.hid fun W hW => by exact (HL.out W (HB23.out.trans (hW.mono HB23.out.size))).take d HDF.out
           obtain ⟨w4, hw4⟩ : ∃ W, W = (w3.alloc (.cells #[.int .i64 V, .slice (some ⟨gf, 0, none⟩) d cv] 26)).drew := ⟨_, rfl⟩
           rw [← hw4]
           have hz0 : w4.cell? ⟨w3.heap.size, 0, none⟩ = some (.int .i64 V) := by rw [hw4]; simp
           have hz1 : w4.cell? ⟨w3.heap.size, 1, none⟩ = some (.slice (some ⟨gf, 0, none⟩) d cv) := by rw [hw4]; simp
           have hb34 : Below w3.heap.size w3 w4 := by rw [hw4]; exact ((Below.refl _ _).alloc (Nat.le_refl _) _).drew
           clear hw4)
      all_goals
        have HZ0 := Lib.hid hz0
        have HZ1 := Lib.hid hz1
        have HB34 := Lib.hid hb34
        have HB24 := Lib.hid (HB23.out.trans (hb34.mono HB23.out.size))
        have HB4 := Lib.hid (HB3.out.trans (hb34.mono HB3.out.size))
        have HSZ4 : Hid (w3.heap.size < w4.heap.size) := Lib.hid (World.block_lt_of_cell? _ _ hz0)
        have HCKD : Hid (checkF (V : Int) (F.take d) = 0) := Lib.hid (checkF_of HCK.out (by rw [List.length_take]; omega) (firstE_of fun c hc => firstE_all (checkF_first HCK.out) c (List.mem_of_mem_take hc)))
        have HFID : Hid (∀ c ∈ F.take d, ∀ x ∈ c, I64 x) := Lib.hid fun c hc => HFI.out c (List.mem_of_mem_take hc)
        have HFDl : Hid ((F.take d).length ≤ 1000) := Lib.hid (by rw [List.length_take]; omega)
        have HMON : Hid (∀ c, Imp (F.take d) c → Imp F c) := Lib.hid fun c h => h.mono (fun a ha => List.mem_of_mem_take ha) fun _ hx => hx
        have HX : Hid (checkR (F.take d) P = -1 → checkR F P = -1) := Lib.hid fun h => checkR_mono (fun a ha => List.mem_of_mem_take ha) h
        have HPC : Hid (0 < P.length → ∃ b off, pp = some ⟨b, off, none⟩ ∧ ∀ j, j < P.length → ∃ u, w4.cell? ⟨b, off + j, none⟩ = some u ∧ Ints w4 u (P.getD j [])) := by
          obtain ⟨pp', cc', he, _, _, h⟩ := HPL.out _ hb34
          injection he with he1 he2 he3
          subst he1
          exact Lib.hid h
        generalize F.take d = Fd at *
        clear hz0 hz1 hb34 hy0 hy1 hn1 hn2 ht2 hd' hzF hdc hdF
        clear hs2 hs3
        try clear hF0
        go_wp2
        go_loopw [13, 14, 15, 16, 17, 18] (fun bf i _ _ _ _ wr => ∃ (k : Nat) (B : List (List Int)), k ≤ P.length ∧ i = .int .i64 k ∧ B.length ≤ k ∧ (∀ c ∈ B, c ∈ P ∧ Imp F c) ∧ RowO w4 wr bf B ∧ Below w4.heap.size w4 wr) (fun _ i _ _ _ _ _ => P.length - (intOf i).toNat)
        case atStart => exact ⟨0, [], Nat.zero_le _, rfl, Nat.le_refl _, fun c hc => absurd hc (by simp), RowO.nil _ _, Below.refl _ _⟩
        case round =>
          obtain ⟨k, B, hk, rfl, hBk, hBP, hrow, hb⟩ := hrel
          obtain ⟨bp, bc, rfl⟩ := hrow.shape
          have HROW := Lib.hid hrow
          have HB := Lib.hid hb
          have HBP := Lib.hid hBP
          clear hrow hBP
          by_cases hlt : k < P.length
          · obtain ⟨b, off, rfl, e1⟩ := HPC.out (by omega)
            obtain ⟨u, hu, hui⟩ := e1 k hlt
            have hmem := mem_getDL hlt
            obtain ⟨q1, hq1, hi1⟩ := impliedR_ok HCKD.out (firstE_all HPE.out _ hmem)
            obtain ⟨q2, hq2, hi2⟩ := impliedR_ok HCK.out (firstE_all HPE.out _ hmem)
            have hsz := HPN.out _ hmem
            have HC1 : Hid (∀ W, Below w4.heap.size w4 W → Calls Tryd.prog 14 #[_, u] W _) := Lib.hid fun W hW => by
              have := implied_any (V : Int) _ Fd u (P.getD k []) W HV64.out HFID.out (HLd.out _ (HB34.out.trans (hW.mono HB34.out.size))) (HPI.out _ hmem) (hui.below hW) (by have := HFDl.out; omega) (by omega)
              rw [hq1] at this
              exact this
            have HC2 : Hid (∀ W, Below w4.heap.size w4 W → Calls Tryd.prog 14 #[_, u] W _) := Lib.hid fun W hW => by
              have := implied_any (V : Int) _ F u (P.getD k []) W HV64.out HFI.out (HL.out _ (HB24.out.trans (hW.mono HB24.out.size))) (HPI.out _ hmem) (hui.below hW) (by omega) (by omega)
              rw [hq2] at this
              exact this
            have HUI := Lib.hid hui
            obtain ⟨pu', cu', rfl, _⟩ := hui
            have HU := Lib.hid hu
            have HQ12 : Hid (q1 = true → q2 = true) := Lib.hid fun h => hi2.2 (HMON.out _ (hi1.1 h))
            have HQ2 : Hid (q2 = true → Imp F (P.getD k [])) := Lib.hid hi2.1
            have HMEM := Lib.hid hmem
            clear hq1 hq2 hi1 hi2 e1 hu hmem hsz
            have d1 : ∀ x : Later wr.heap.size wr, x.W.cell? ⟨b, off + k, none⟩ = some (.slice pu' (P.getD k []).length cu') := fun x => ((HB.out.trans (x.ok.mono HB.out.size)).cell (p := ⟨b, off + k, none⟩) (World.block_lt_of_cell? _ _ HU.out)).trans HU.out
            have k0 : ∀ x : Later wr.heap.size wr, x.W.cell? ⟨w3.heap.size, 0, none⟩ = some (.int .i64 V) := fun x => ((HB.out.trans (x.ok.mono HB.out.size)).cell (p := ⟨w3.heap.size, 0, none⟩) HSZ4.out).trans HZ0.out
            have k1 : ∀ x : Later wr.heap.size wr, x.W.cell? ⟨w3.heap.size, 1, none⟩ = some _ := fun x => ((HB.out.trans (x.ok.mono HB.out.size)).cell (p := ⟨w3.heap.size, 1, none⟩) HSZ4.out).trans HZ1.out
            generalize P.getD k [] = c0 at *
            obtain ⟨ln, hln⟩ : ∃ n, c0.length = n := ⟨_, rfl⟩
            simp only [hln] at d1 HC1 HC2 HU
            rw [hln] at HUI
            clear hb hln
            go_wp2
            refine wp_region_later (B := wr.heap.size) (w0 := wr) (by kernel_rfl) (by kernel_rfl) (Below.refl _ _) ?_
            repeat (go_big_quiet_step ((go_at_call 14; exact later_mono _ (Nat.le_refl _) (HC1.out _ (HB.out.trans ((Later.ok _).mono HB.out.size))))))
            refine wpQuiet_nil ?_
            rintro _ ⟨x, rfl⟩
            have HBX := Lib.hid (HB.out.trans (x.ok.mono HB.out.size))
            have HRX := Lib.hid (HROW.out.grow x.ok)
            clear d1 k0 k1
            generalize x.W = wx at *
            clear x HB HROW HC1
            have d1 : ∀ x : Later wx.heap.size wx, x.W.cell? ⟨b, off + k, none⟩ = some (.slice pu' ln cu') := fun x => ((HBX.out.trans (x.ok.mono HBX.out.size)).cell (p := ⟨b, off + k, none⟩) (World.block_lt_of_cell? _ _ HU.out)).trans HU.out
            have k0 : ∀ x : Later wx.heap.size wx, x.W.cell? ⟨w1.heap.size, 0, none⟩ = some (.int .i64 V) := fun x => HX0.out _ (HB24.out.trans ((HBX.out.trans (x.ok.mono HBX.out.size)).mono HB24.out.size))
            have k1 : ∀ x : Later wx.heap.size wx, x.W.cell? ⟨w1.heap.size, 1, none⟩ = some _ := fun x => HX1.out _ (HB24.out.trans ((HBX.out.trans (x.ok.mono HBX.out.size)).mono HB24.out.size))
            go_wp2
            refine wp_region_later (B := wx.heap.size) (w0 := wx) (by kernel_rfl) (by kernel_rfl) (Below.refl _ _) ?_
            repeat (go_big_quiet_step ((go_at_call 14; exact later_mono _ (Nat.le_refl _) (HC2.out _ (HBX.out.trans ((Later.ok _).mono HBX.out.size))))))
            refine wpQuiet_nil ?_
            rintro _ ⟨x, rfl⟩
            have HBY := Lib.hid (HBX.out.trans (x.ok.mono HBX.out.size))
            have HRY := Lib.hid (HRX.out.grow x.ok)
            clear d1 k0 k1
            generalize x.W = wy at *
            clear x HBX HRX HC2
            have dy := (HBY.out.cell (p := ⟨b, off + k, none⟩) (World.block_lt_of_cell? _ _ HU.out)).trans HU.out
            cases q2 with
            | false =>
              obtain rfl : q1 = false := by cases q1 with
                | false => rfl
                | true => exact absurd (HQ12.out rfl) (by decide)
              clear dy
              go_wp2
              go_roundw
              case rel => exact ⟨k + 1, B, by omega, by go_num, by omega, HBP.out, HRY.out, HBY.out⟩
              case measure => simp [intOf]; omega
            | true =>
              have HIMP := Lib.hid (HQ2.out rfl)
              cases q1
              all_goals
                go_wp2_with (at_builtin; refine wpList_append_by rfl _ _ 24 24 rfl _ _ rfl rfl _ (run_append_one HRY.out HBY.out HUI.out (by omega) _) ?_)
                rintro v5 w5 hgo
                have HGO := Lib.hid hgo
                obtain ⟨_, ⟨p5, c5, rfl⟩, _⟩ := hgo
                have HB5 := Lib.hid (HGO.out.below (HBY.out.alloc HBY.out.size _))
                clear dy
                go_wp2
                go_roundw
                case rel =>
                  refine ⟨k + 1, B ++ [c0], by omega, by go_num, by simp; omega, fun c hc => ?_, HGO.out.1, HB5.out⟩
                  rcases List.mem_append.1 hc with hc | hc
                  · exact HBP.out c hc
                  · obtain rfl : c = c0 := by simpa using hc
                    exact ⟨HMEM.out, HIMP.out⟩
                case measure => simp [intOf]; omega
          · obtain rfl : k = P.length := by omega
            clear hlt hk HPC
            have z0 := (HB.out.cell (p := ⟨w3.heap.size, 0, none⟩) HSZ4.out).trans HZ0.out
            have z1 := (HB.out.cell (p := ⟨w3.heap.size, 1, none⟩) HSZ4.out).trans HZ1.out
            have hck := check5_any (V : Int) _ Fd _ P wr HV64.out HFID.out (HLd.out _ (HB34.out.trans (HB.out.mono HB34.out.size))) HPI.out (HPL.out _ (HB34.out.trans (HB.out.mono HB34.out.size))) (by have := HFDl.out; omega) (by omega) (HT.out.below (HB4.out.trans (HB.out.mono HB4.out.size)))
            rw [checkA_ok HCKD.out HPE.out] at hck
            clear hb
            go_wp2_with fail
            refine hck.mono ?_
            rintro e w5 ⟨rfl, hb5⟩
            have HB5 := Lib.hid (HB.out.trans (hb5.mono HB.out.size))
            have HR5 := Lib.hid (HROW.out.grow hb5)
            clear hck hb5 z0 z1
            have z0 := HX0.out _ (HB24.out.trans (HB5.out.mono HB24.out.size))
            have z1 := HX1.out _ (HB24.out.trans (HB5.out.mono HB24.out.size))
            have hck := check5_any (V : Int) _ F _ P w5 HV64.out HFI.out (HL.out _ (HB24.out.trans (HB5.out.mono HB24.out.size))) HPI.out (HPL.out _ (HB34.out.trans (HB5.out.mono HB34.out.size))) (by omega) (by omega) (HT.out.below (HB4.out.trans (HB5.out.mono HB4.out.size)))
            rw [checkA_ok HCK.out HPE.out] at hck
            go_wp2_with fail
            refine hck.mono ?_
            rintro e w6 ⟨rfl, hb6⟩
            have HB6 := Lib.hid (HB5.out.trans (hb6.mono HB5.out.size))
            have HR6 := Lib.hid (HR5.out.grow hb6)
            clear hck hb6 z0 z1
            have z0 := HX0.out _ (HB24.out.trans (HB6.out.mono HB24.out.size))
            have z1 := HX1.out _ (HB24.out.trans (HB6.out.mono HB24.out.size))
            have HBPl : Hid ((B ++ P).length ≤ 1000) := Lib.hid (by rw [List.length_append]; omega)
            have HEBP : Hid (firstE (V : Int) (B ++ P) = 0) := Lib.hid (firstE_of fun c hc => (List.mem_append.1 hc).elim (fun h => firstE_all HPE.out c (HBP.out c h).1) fun h => firstE_all HPE.out c h)
            have HIBP : Hid (∀ c ∈ B ++ P, ∀ x ∈ c, I64 x) := Lib.hid fun c hc => (List.mem_append.1 hc).elim (fun h => HPI.out c (HBP.out c h).1) fun h => HPI.out c h
            have HZ : Hid (checkR F P = -1 → checkR F (B ++ P) = -1) := Lib.hid fun h => checkR_before (fun c hc => (HBP.out c hc).2) h
            have hb6' := HB6.out
            have HAPP := Lib.hid (fun ty => run_append_lists (w0 := w4) (W := w6.drew) (F := P) (HR6.out.heap rfl) HB6.out.drew (HPL.out _ HB34.out) (by have := HBPl.out; rw [List.length_append] at this; omega) ty)
            have HCL := Lib.hid (fun v5 W (hgo : GrownO w4 w6.drew (B ++ P) v5 W) => by
              have hb7 := hgo.below HB6.out.drew
              have h := check5_any (V : Int) vF F v5 (B ++ P) W HV64.out HFI.out (HLF.out _ (HB24.out.trans (hb7.mono HB24.out.size))) HIBP.out (hgo.1.lists hb7 (by have := HBPl.out; omega)) (by omega) (by have := HBPl.out; omega) (HT.out.below (HB4.out.trans (hb7.mono HB4.out.size)))
              rw [checkA_ok HCK.out HEBP.out] at h
              exact h)
            replace z1 := HVF.out _ z1
            go_wp2
            go_region_held3 (fun w' => w'.cell? ⟨w1.heap.size, 0, none⟩ = some (.int .i64 V) ∧ w'.cell? ⟨w1.heap.size, 1, none⟩ = some vF)
              (first
                | go_keep
                | (exact ⟨HX0.out _ (HB24.out.trans ((hgo.below HB6.out.drew).mono HB24.out.size)), HVF.out _ (HX1.out _ (HB24.out.trans ((hgo.below HB6.out.drew).mono HB24.out.size)))⟩)
                | (exact ⟨HX0.out _ (HB24.out.trans (((hgo.below HB6.out.drew).trans (hb8.mono (hgo.below HB6.out.drew).size)).mono HB24.out.size)), HVF.out _ (HX1.out _ (HB24.out.trans (((hgo.below HB6.out.drew).trans (hb8.mono (hgo.below HB6.out.drew).size)).mono HB24.out.size)))⟩))
              (first
                | (go_at_call 18
                   refine (HCL.out _ _ hgo).mono ?_
                   rintro e w8 ⟨rfl, hb8⟩)
                | (refine step_append_by (by rfl) _ _ 24 24 (by rfl) _ _ (by rfl) (by rfl) _ (HAPP.out _) ?_
                   intro v7 w7 hgo))
            have hb7 := hgo.below HB6.out.drew
            have HB8 := Lib.hid (HB4.out.trans ((hb7.trans (hb8.mono hb7.size)).mono HB4.out.size))
            have HXX := HX.out
            have HZZ := HZ.out
            clear hb7 hb8 hgo z0 z1 hb6'
            generalize checkR Fd P = X at *
            generalize checkR F P = Y at *
            generalize checkR F (B ++ P) = Z at *
            by_cases hX : X = -1
            · have hY := HXX hX
              have hZ := HZZ hY
              subst hX hY hZ
              clear HXX HZZ HX HZ
              have hkn := HK.out _ HB8.out
              go_wp2_with fail
              refine hkn.mono ?_
              rintro e w9 ⟨rfl, hbk⟩
              refine Hid.out ?_
              refine Lib.hid ?_
              have HBK := Lib.hid (HB8.out.trans (hbk.mono HB8.out.size))
              clear hbk hkn
              go_wp2
              go_ret
              exact ⟨rfl, HBK.out⟩
            · have hX' : (X != -1) = true := by simp [hX]
              by_cases hY : Y = -1
              · have hZ := HZZ hY
                subst hY hZ
                clear HXX HZZ HX HZ
                have hkn := HK.out _ HB8.out
                go_wp2_with fail
                refine hkn.mono ?_
                rintro e w9 ⟨rfl, hbk⟩
                refine Hid.out ?_
                refine Lib.hid ?_
                have HBK := Lib.hid (HB8.out.trans (hbk.mono HB8.out.size))
                clear hbk hkn
                go_wp2
                go_ret
                exact ⟨rfl, HBK.out⟩
              · have hY' : (Y != -1) = true := by simp [hY]
                clear HXX HZZ HX HZ
                have hkn := HK.out _ HB8.out
                go_wp2_with fail
                refine hkn.mono ?_
                rintro e w9 ⟨rfl, hbk⟩
                refine Hid.out ?_
                refine Lib.hid ?_
                have HBK := Lib.hid (HB8.out.trans (hbk.mono HB8.out.size))
                clear hbk hkn
                go_wp2
                go_ret
                exact ⟨rfl, HBK.out⟩
    · clear hok hcl hb3 hx0 hx1
      have hkn := HK.out _ HB3.out
      go_wp2_with fail
      refine hkn.mono ?_
      rintro e w9 ⟨rfl, hbk⟩
      refine Hid.out ?_
      refine Lib.hid ?_
      have HBK := Lib.hid (HB3.out.trans (hbk.mono HB3.out.size))
      clear hbk hkn
      go_wp2
      go_ret
      exact ⟨rfl, HBK.out⟩
  · have HB1 := Lib.hid (hb1.alloc hb1.size (.cells #[.int .i64 0, .slice none 0 0] 26))
    clear hok hfit hb1
    have hkn := HK.out _ HB1.out
    go_wp2_with fail
    refine hkn.mono ?_
    rintro e w9 ⟨rfl, hbk⟩
    refine Hid.out ?_
    refine Lib.hid ?_
    have HBK := Lib.hid (HB1.out.trans (hbk.mono HB1.out.size))
    clear hbk hkn
    go_wp2
    go_ret
    exact ⟨rfl, HBK.out⟩
end L
end Go.Proofs.YtfhodbnhaaiceaaDoor
