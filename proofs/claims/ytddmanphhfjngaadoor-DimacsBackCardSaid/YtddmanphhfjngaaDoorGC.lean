/- DimacsBack: the walk. -/
import Derived.Test.YtddmanphhfjngaaDoorGB
namespace Go.Proofs.YtddmanphhfjngaaDoor
open Go.RowKit PA
namespace L
open K

set_option maxRecDepth 100000 in
set_option maxHeartbeats 4000000 in
theorem back_walk (n : Int) (v : Value) (L8 : List (List Int)) (w : World) (ht : Tab w) (hn0 : (Lit.int .u8 n).wf = true) (hW : ListsW .i8 w v L8) :
    Calls Tryd.prog 6 #[.int .u8 n, v] w fun e w' => e = .returned (.bool true) ∧ Below w.heap.size w w' := by
  have hfit := fit_any n v L8 w hn0 hW
  have hV : 1 ≤ 1 + n % 12 ∧ 1 + n % 12 ≤ 12 := by omega
  have hv : ∃ p c, v = .slice p L8.length c := by obtain ⟨p, c, h, _⟩ := hW; exact ⟨p, c, h⟩
  obtain ⟨p, c, rfl⟩ := hv
  obtain ⟨V, hVd⟩ : ∃ V : Nat, (V : Int) = 1 + n % 12 := ⟨(1 + n % 12).toNat, by omega⟩
  rw [← hVd] at hfit hV
  have HT := Lib.hid ht
  clear hVd hn0 hW ht
  go_enter Tryd.func6, Tryd.ntmps6
  go_wp2_with fail
  refine hfit.mono ?_
  rintro e w1 ⟨r, rfl, hpost, hb1⟩
  rcases hpost with ⟨hok, v', rfl, hown⟩ | ⟨hok, rfl⟩
  · have hg := good_fit (L := L8) hV.1 (by omega) hok
    have hB0 := hb1.alloc hb1.size (.cells #[.int .i64 V, v'] 24)
    have hX0 := Box.new w1 24 #[.int .i64 V, v']
    have hL0 := fit_own hok (hown.alloc (.cells #[.int .i64 V, v'] 24))
    clear hown hok hfit
    generalize fitL V L8 = F at *
    obtain ⟨pv, cv, hv'⟩ : ∃ p c, v' = .slice p F.length c := by obtain ⟨p, c, h, _⟩ := hL0; exact ⟨p, c, h⟩
    subst hv'
    have x0 := hX0.cell 0
    have x1 := hX0.cell 1
    have xs := hX0.lt
    simp only [List.getElem?_toArray, List.getElem?_cons_zero, List.getElem?_cons_succ] at x0 x1
    have hf := format_any V (.slice pv F.length cv) F _ (by unfold I64; omega) hg.i64 hL0 (HT.out.below hB0)
    rw [hg.fmt] at hf
    have hp := fun W => parse_any ⟨(textT V F).toArray⟩ W (by have := hg.len; show (textT V F).toArray.size ≤ _; simp; omega)
    have hpd : (⟨(textT V F).toArray⟩ : ByteArray).data.toList = textT V F := by simp
    rw [hpd, hg.prs] at hp
    have hF30 := hg.sm
    have HG := Lib.hid hg
    have HP := Lib.hid hp
    have HB0 := Lib.hid hB0
    have HL0 := Lib.hid hL0
    have HX0 := Lib.hid hX0
    clear hg hp hpd hB0 hb1 hL0 hX0
    simp only at hf
    generalize textT V F = TX at *
    go_wp2_with (go_at_call 13; refine hf.mono ?_; rintro e w2 ⟨rfl, hb2⟩; refine Hid.out ?_)
    refine Lib.hid ?_
    have x0' := (hb2.cell (p := ⟨w1.heap.size, 0, none⟩) xs).trans x0
    have x1' := (hb2.cell (p := ⟨w1.heap.size, 1, none⟩) xs).trans x1
    have xs' := Nat.lt_of_lt_of_le xs hb2.size
    have hB2 := HB0.out.trans (hb2.mono HB0.out.size)
    have hL2 := HL0.out.below hb2
    have HB2 := Lib.hid hB2
    have HL2 := Lib.hid hL2
    clear hf x0 x1 xs hB2 hL2 hb2 HL0 HX0 HB0
    go_wp2_with (go_at_call 15; refine (HP.out _).mono ?_; rintro e w3 ⟨v3, B3, rfl, hb3, hB3, ho3⟩; refine Hid.out ?_)
    refine Lib.hid ?_
    have y0 := (hb3.cell (p := ⟨w1.heap.size, 0, none⟩) xs').trans x0'
    have y1 := (hb3.cell (p := ⟨w1.heap.size, 1, none⟩) xs').trans x1'
    have ys := Nat.lt_of_lt_of_le xs' hb3.size
    have hl3 : Lists w3 v3 F := ho3.lists (by omega) (fun j hj => by have := HG.out.smc _ (mem_getDL hj); omega)
    obtain ⟨p3, c3, rfl, _⟩ := id hl3
    have hal : Below w3.heap.size w3 (w3.alloc (.cells #[.int .i64 V, .slice p3 F.length c3] 24)) := (Below.refl _ _).alloc (Nat.le_refl _) _
    have hB3' := HB2.out.trans (hb3.mono HB2.out.size)
    have HB4 := Lib.hid (hB3'.trans (hal.mono hB3'.size))
    have HQ := Lib.hid (keqf_any V V (.slice pv F.length cv) (.slice p3 F.length c3) F F _ ((HL2.out.below hb3).below hal) (hl3.below hal))
    have hkn := fun W (hb : Below w.heap.size w W) => known_any W (HT.out.below hb)
    have HK := Lib.hid hkn
    have hee : eqF V F V F = true := by simp [eqF]
    rw [hee] at HQ
    clear hal hB3' hb3 hl3 ho3 x0' x1' xs' hkn hee
    go_wp2_with (first
      | (go_at_call 17; refine HQ.out.mono ?_; rintro e w5 ⟨rfl, hb5⟩; have HB5 := Lib.hid (HB4.out.trans (hb5.mono HB4.out.size)); clear hb5)
      | (go_at_call 12; refine (HK.out _ HB5.out).mono ?_; rintro e w6 ⟨rfl, hb6⟩))
    have hB6 := HB5.out.trans (hb6.mono HB5.out.size)
    go_ret
    exact ⟨rfl, hB6⟩
  · have hb2 := hb1.alloc hb1.size (.cells #[.int .i64 0, .slice none 0 0] 24)
    go_wp2_with (go_at_call 12; refine (known_any _ (HT.out.below hb2)).mono ?_; rintro e w6 ⟨rfl, hb6⟩)
    have hB6 := hb2.trans (hb6.mono hb2.size)
    go_ret
    exact ⟨rfl, hB6⟩
end L
end Go.Proofs.YtddmanphhfjngaaDoor
