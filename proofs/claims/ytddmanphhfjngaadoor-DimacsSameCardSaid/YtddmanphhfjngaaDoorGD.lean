/- DimacsSame: the walk. -/
import Derived.Test.YtddmanphhfjngaaDoorGB
namespace Go.Proofs.YtddmanphhfjngaaDoor
open Go.RowKit PA
namespace L
open K

theorem text_same {V W : Int} {F G : List (List Int)} (h1 : Good V F) (h2 : Good W G) : decide (textT V F = textT W G) = eqF V F W G := by
  unfold eqF
  rw [Bool.eq_iff_iff]
  simp only [decide_eq_true_eq, Bool.and_eq_true]
  constructor
  · intro h
    have := h1.prs
    rw [h, h2.prs] at this
    simp only [Prod.mk.injEq] at this
    exact ⟨this.1.symm, this.2.1.symm⟩
  · rintro ⟨rfl, rfl⟩; rfl
theorem str_same (a b : List UInt8) : ((⟨a.toArray⟩ : ByteArray).toList == (⟨b.toArray⟩ : ByteArray).toList) = decide (a = b) := by
  rw [ByteArray.toList_eq, ByteArray.toList_eq, Bool.eq_iff_iff]; simp
set_option maxRecDepth 100000 in
set_option maxHeartbeats 4000000 in
theorem same_walk (n m : Int) (v : Value) (L8 : List (List Int)) (v2 : Value) (M8 : List (List Int)) (w : World) (ht : Tab w) (hn0 : (Lit.int .u8 n).wf = true) (hm0 : (Lit.int .u8 m).wf = true) (hW : ListsW .i8 w v L8) (hW2 : ListsW .i8 w v2 M8) :
    Calls Tryd.prog 9 #[.int .u8 n, .int .u8 m, v, v2] w fun e w' => e = .returned (.bool true) ∧ Below w.heap.size w w' := by
  have hfit := fit_any n v L8 w hn0 hW
  have hV : 1 ≤ 1 + n % 12 ∧ 1 + n % 12 ≤ 12 := by omega
  have hV2 : 1 ≤ 1 + m % 12 ∧ 1 + m % 12 ≤ 12 := by omega
  have hv : ∃ p c, v = .slice p L8.length c := by obtain ⟨p, c, h, _⟩ := hW; exact ⟨p, c, h⟩
  obtain ⟨p, c, rfl⟩ := hv
  have hv2 : ∃ p c, v2 = .slice p M8.length c := by obtain ⟨p, c, h, _⟩ := hW2; exact ⟨p, c, h⟩
  obtain ⟨p2, c2, rfl⟩ := hv2
  have hfit2 := fun W (hb : Below w.heap.size w W) => fit_any m (.slice p2 M8.length c2) M8 W hm0 (hW2.below hb)
  obtain ⟨V, hVd⟩ : ∃ V : Nat, (V : Int) = 1 + n % 12 := ⟨(1 + n % 12).toNat, by omega⟩
  obtain ⟨U, hUd⟩ : ∃ U : Nat, (U : Int) = 1 + m % 12 := ⟨(1 + m % 12).toNat, by omega⟩
  rw [← hVd] at hfit hV
  rw [← hUd] at hfit2 hV2
  have HT := Lib.hid ht
  have HF2 := Lib.hid hfit2
  clear hVd hUd hn0 hm0 hW hW2 ht hfit2
  go_enter Tryd.func9, Tryd.ntmps9
  go_wp2_with fail
  refine hfit.mono ?_
  rintro e w1 ⟨r, rfl, hpost, hb1⟩
  rcases hpost with ⟨hok, v', rfl, hown⟩ | ⟨hok, rfl⟩
  · have hg := good_fit (L := L8) hV.1 (by omega) hok
    have hB0 := hb1.alloc hb1.size (.cells #[.int .i64 V, v'] 24)
    have hX0 := Box.new w1 24 #[.int .i64 V, v']
    have hL0 := fit_own hok (hown.alloc (.cells #[.int .i64 V, v'] 24))
    clear hown hok hfit
    generalize fitL V L8 = F at *
    obtain ⟨pv, cv, hv'⟩ : ∃ p c, v' = .slice p F.length c := by obtain ⟨p, c, h, _⟩ := hL0; exact ⟨p, c, h⟩
    subst hv'
    have x0 := hX0.cell 0
    have x1 := hX0.cell 1
    have xs := hX0.lt
    simp only [List.getElem?_toArray, List.getElem?_cons_zero, List.getElem?_cons_succ] at x0 x1
    have HG := Lib.hid hg
    have HB0 := Lib.hid hB0
    have HL0 := Lib.hid hL0
    clear hg hB0 hL0 hX0
    go_wp2_with (go_at_call 18; refine (HF2.out _ HB0.out).mono ?_; rintro e w2 ⟨r2, rfl, hpost2, hb2⟩; refine Hid.out ?_)
    refine Lib.hid ?_
    have y0 := (hb2.cell (p := ⟨w1.heap.size, 0, none⟩) xs).trans x0
    have y1 := (hb2.cell (p := ⟨w1.heap.size, 1, none⟩) xs).trans x1
    have ys := Nat.lt_of_lt_of_le xs hb2.size
    have hB2 := HB0.out.trans (hb2.mono HB0.out.size)
    have HL2 := Lib.hid (HL0.out.below hb2)
    clear x0 x1 xs hb2 HB0 HL0
    rcases hpost2 with ⟨hok2, v3, rfl, hown2⟩ | ⟨hok2, rfl⟩
    · have hg2 := good_fit (L := M8) hV2.1 (by omega) hok2
      have hal : Below w2.heap.size w2 (w2.alloc (.cells #[.int .i64 U, v3] 24)) := (Below.refl _ _).alloc (Nat.le_refl _) _
      have hB3 := hB2.trans (hal.mono hB2.size)
      have hX3 := Box.new w2 24 #[.int .i64 U, v3]
      have hL3 := fit_own hok2 (hown2.alloc (.cells #[.int .i64 U, v3] 24))
      have hLF := HL2.out.below hal
      have y0' := (hal.cell (p := ⟨w1.heap.size, 0, none⟩) ys).trans y0
      have y1' := (hal.cell (p := ⟨w1.heap.size, 1, none⟩) ys).trans y1
      have ys' := Nat.lt_of_lt_of_le ys hal.size
      clear hown2 hok2 hal hB2 y0 y1 ys HL2
      generalize fitL U M8 = G at *
      obtain ⟨pg, cg, hv3⟩ : ∃ p c, v3 = .slice p G.length c := by obtain ⟨p, c, h, _⟩ := hL3; exact ⟨p, c, h⟩
      subst hv3
      have z0 := hX3.cell 0
      have z1 := hX3.cell 1
      have zs := hX3.lt
      simp only [List.getElem?_toArray, List.getElem?_cons_zero, List.getElem?_cons_succ] at z0 z1
      have hf1 := fun W (hb : Below (w2.alloc (.cells #[.int .i64 U, .slice pg G.length cg] 24)).heap.size (w2.alloc (.cells #[.int .i64 U, .slice pg G.length cg] 24)) W) => format_any V (.slice pv F.length cv) F W (by unfold I64; omega) HG.out.i64 (hLF.below hb) (HT.out.below (hB3.trans (hb.mono hB3.size)))
      have hf2 := fun W (hb : Below (w2.alloc (.cells #[.int .i64 U, .slice pg G.length cg] 24)).heap.size (w2.alloc (.cells #[.int .i64 U, .slice pg G.length cg] 24)) W) => format_any U (.slice pg G.length cg) G W (by unfold I64; omega) hg2.i64 (hL3.below hb) (HT.out.below (hB3.trans (hb.mono hB3.size)))
      have hq := fun W (hb : Below (w2.alloc (.cells #[.int .i64 U, .slice pg G.length cg] 24)).heap.size (w2.alloc (.cells #[.int .i64 U, .slice pg G.length cg] 24)) W) => keqf_any V U (.slice pv F.length cv) (.slice pg G.length cg) F G W (hLF.below hb) (hL3.below hb)
      have hkn := fun W (hb : Below (w2.alloc (.cells #[.int .i64 U, .slice pg G.length cg] 24)).heap.size (w2.alloc (.cells #[.int .i64 U, .slice pg G.length cg] 24)) W) => known_any W (HT.out.below (hB3.trans (hb.mono hB3.size)))
      rw [HG.out.fmt] at hf1
      rw [hg2.fmt] at hf2
      rw [← text_same HG.out hg2] at hq
      simp only at hf1 hf2
      have hbe : ∀ b : Bool, (b == b) = true := fun b => by simp
      have hss := str_same (textT V F) (textT U G)
      have HB3 := Lib.hid hB3
      have HF1 := Lib.hid hf1
      have HF3 := Lib.hid hf2
      have HQ := Lib.hid hq
      have HK := Lib.hid hkn
      clear hf1 hf2 hq hkn hB3 hLF hL3 hX3 hg2 HG
      generalize textT V F = T1 at *
      generalize textT U G = T2 at *
      generalize decide (T1 = T2) = bq at *
      generalize (⟨T1.toArray⟩ : ByteArray) = S1 at *
      generalize (⟨T2.toArray⟩ : ByteArray) = S2 at *
      go_wp2_with (go_at_call 13; refine (HF1.out _ (Below.refl _ _)).mono ?_; rintro e w5 ⟨rfl, hb5⟩; refine Hid.out ?_)
      refine Lib.hid ?_
      have a0 := (hb5.cell (p := ⟨w1.heap.size, 0, none⟩) ys').trans y0'
      have a1 := (hb5.cell (p := ⟨w1.heap.size, 1, none⟩) ys').trans y1'
      have b0 := (hb5.cell (p := ⟨w2.heap.size, 0, none⟩) zs).trans z0
      have b1 := (hb5.cell (p := ⟨w2.heap.size, 1, none⟩) zs).trans z1
      have asz := Nat.lt_of_lt_of_le ys' hb5.size
      have bsz := Nat.lt_of_lt_of_le zs hb5.size
      have HB5 := Lib.hid hb5
      clear y0' y1' z0 z1 ys' zs hb5
      go_wp2_with (go_at_call 13; refine (HF3.out _ HB5.out).mono ?_; rintro e w6 ⟨rfl, hb6⟩; refine Hid.out ?_)
      refine Lib.hid ?_
      have c0 := (hb6.cell (p := ⟨w1.heap.size, 0, none⟩) asz).trans a0
      have c1 := (hb6.cell (p := ⟨w1.heap.size, 1, none⟩) asz).trans a1
      have d0 := (hb6.cell (p := ⟨w2.heap.size, 0, none⟩) bsz).trans b0
      have d1 := (hb6.cell (p := ⟨w2.heap.size, 1, none⟩) bsz).trans b1
      have HB6 := Lib.hid (HB5.out.trans (hb6.mono HB5.out.size))
      clear a0 a1 b0 b1 asz bsz hb6 HB5
      go_wp2_with (first
        | (go_at_call 17; refine (HQ.out _ HB6.out).mono ?_; rintro e w7 ⟨rfl, hb7⟩; have HB7 := Lib.hid (HB6.out.trans (hb7.mono HB6.out.size)); clear hb7)
        | (go_at_call 12; refine (HK.out _ HB7.out).mono ?_; rintro e w8 ⟨rfl, hb8⟩))
      have hB8 := HB3.out.trans ((HB7.out.trans (hb8.mono HB7.out.size)).mono HB3.out.size)
      go_ret
      exact ⟨rfl, hB8⟩
    · have hb3 := hB2.alloc hB2.size (.cells #[.int .i64 0, .slice none 0 0] 24)
      go_wp2_with (go_at_call 12; refine (known_any _ (HT.out.below hb3)).mono ?_; rintro e w6 ⟨rfl, hb6⟩)
      have hB6 := hb3.trans (hb6.mono hb3.size)
      go_ret
      exact ⟨rfl, hB6⟩
  · have hb2 := hb1.alloc hb1.size (.cells #[.int .i64 0, .slice none 0 0] 24)
    have HB2 := Lib.hid hb2
    clear hb2
    go_wp2_with (go_at_call 18; refine (HF2.out _ HB2.out).mono ?_; rintro e w2 ⟨r2, rfl, hpost2, hb2⟩; refine Hid.out ?_)
    refine Lib.hid ?_
    have hb3 := HB2.out.trans (hb2.mono HB2.out.size)
    rcases hpost2 with ⟨hok2, v3, rfl, hown2⟩ | ⟨hok2, rfl⟩
    · have hb4 := hb3.alloc hb3.size (.cells #[.int .i64 U, v3] 24)
      obtain ⟨p3, c3, hv3⟩ : ∃ p c, v3 = .slice p (fitL U M8).length c := by obtain ⟨p, c, h, _⟩ := fit_own hok2 hown2; exact ⟨p, c, h⟩
      subst hv3
      have HB4 := Lib.hid hb4
      clear hb4 hown2 hok2
      go_wp2_with (go_at_call 12; refine (known_any _ (HT.out.below HB4.out)).mono ?_; rintro e w6 ⟨rfl, hb6⟩)
      have hB6 := HB4.out.trans (hb6.mono HB4.out.size)
      go_ret
      exact ⟨rfl, hB6⟩
    · have hb4 := hb3.alloc hb3.size (.cells #[.int .i64 0, .slice none 0 0] 24)
      have HB4 := Lib.hid hb4
      clear hb4
      go_wp2_with (go_at_call 12; refine (known_any _ (HT.out.below HB4.out)).mono ?_; rintro e w6 ⟨rfl, hb6⟩)
      have hB6 := HB4.out.trans (hb6.mono HB4.out.size)
      go_ret
      exact ⟨rfl, hB6⟩
end L
end Go.Proofs.YtddmanphhfjngaaDoor
