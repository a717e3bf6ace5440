/- RupNames: the walk. -/
import Derived.Test.YtfhodbnhaaiceaaDoorJVN
import Derived.Test.YtfhodbnhaaiceaaDoorQ19
import Derived.Deep.RegionHeld3
import Derived.BigRegion
namespace Go.Proofs.YtfhodbnhaaiceaaDoor
open Go.RowKit RA
namespace L
open K
set_option maxRecDepth 100000

set_option maxHeartbeats 16000000 in
theorem names_walk5 (w : World) (ht : Tab w) :
    Calls Tryd.prog 6 #[] w fun e w' => e = .returned (.bool true) ∧ Below w.heap.size w w' := by
  have HT := Lib.hid ht
  have HK : Hid (∀ W, Below w.heap.size w W → Calls Tryd.prog 13 #[] W fun e w' => e = .returned (.bool true) ∧ Below W.heap.size W w') := Lib.hid fun W hb => known5_any W (ht.below hb)
  clear ht
  go_enter Tryd.func6, Tryd.ntmps6
  go_wp2_with fail
  refine (four_any _).mono ?_
  rintro e w1 ⟨v1, rfl, hL1, hb1⟩
  have hL1' := four_lists hL1
  obtain ⟨g, c, rfl, hc⟩ : ∃ g c, v1 = .slice (some ⟨g, 0, none⟩) 4 c ∧ 4 ≤ c := by
    rcases hL1.shape with ⟨_, h2⟩ | ⟨g, c, h⟩
    · simp [fourL] at h2
    · refine ⟨g, c, h, ?_⟩
      obtain ⟨_, _, e, hl, _⟩ := hL1'
      rw [h] at e
      injection e with _ _ e3
      subst e3
      exact hl
  have hc3 : (3 : Int) ≤ (c : Int) := by omega
  obtain ⟨w2, hw2⟩ : ∃ W : World, w1.alloc (.cells #[.int .i64 2, .slice (some ⟨g, 0, none⟩) 4 c] 26) = W := ⟨_, rfl⟩
  have hx2 : Box w2 w1.heap.size 26 #[.int .i64 2, .slice (some ⟨g, 0, none⟩) 4 c] := by rw [← hw2]; exact Box.new _ _ _
  have k20 := hx2.cell 0
  have k21 := hx2.cell 1
  have k21f := hx2.frozen 1
  simp only [List.getElem?_toArray, List.getElem?_cons_zero, List.getElem?_cons_succ] at k20 k21
  obtain ⟨w3, hw3⟩ : ∃ W : World, w2.setCell ⟨w1.heap.size, 1, none⟩ (.slice (some ⟨g, 0, none⟩) 3 c) = W := ⟨_, rfl⟩
  have hx3 : Box w3 w1.heap.size 26 #[.int .i64 2, .slice (some ⟨g, 0, none⟩) 3 c] := by rw [← hw3]; exact hx2.set 1 _
  have hb13 : Below w1.heap.size w1 w3 := by rw [← hw3, ← hw2]; exact ((Below.refl _ _).alloc (Nat.le_refl _) _).setCell (Nat.le_refl _) _
  have HB3 := Lib.hid (hb1.trans (hb13.mono hb1.size))
  have HG : Hid (∀ W, Below w3.heap.size w3 W → Lists W (.slice (some ⟨g, 0, none⟩) 3 c) gL) := Lib.hid fun W hW => ((hL1'.below hb13).below hW).take 3 (by simp [fourL])
  have k30 := hx3.cell 0
  have k31 := hx3.cell 1
  simp only [List.getElem?_toArray, List.getElem?_cons_zero, List.getElem?_cons_succ] at k30 k31
  have HX3 := Lib.hid hx3
  clear hL1 hL1' hb1 hb13 hx2 hx3 hc
  go_wp2
  clear hw2 hw3 k20 k21 k21f hc3
  have HKP : Hid (∀ W, Below w3.heap.size w3 W → W.cell? ⟨w1.heap.size, 0, none⟩ = some (.int .i64 2) ∧ W.cell? ⟨w1.heap.size, 1, none⟩ = some (.slice (some ⟨g, 0, none⟩) 3 c)) := Lib.hid fun W hW => ⟨(hW.cell (p := ⟨w1.heap.size, 0, none⟩) HX3.out.lt).trans k30, (hW.cell (p := ⟨w1.heap.size, 1, none⟩) HX3.out.lt).trans k31⟩
  go_region_held3 (fun w' => w'.cell? ⟨w1.heap.size, 0, none⟩ = some (.int .i64 2) ∧ w'.cell? ⟨w1.heap.size, 1, none⟩ = some (.slice (some ⟨g, 0, none⟩) 3 c))
    (first
      | go_keep
      | (exact HKP.out _ (hu1.trans (hbB.mono hu1.size)))
      | (exact HKP.out _ hu1))
    (first
      | (go_at_call 22
         with_reducible refine (four_any w3.drew).mono ?_
         rintro e wA ⟨vA, rfl, hLA, hbA⟩
         have hu1 : Below w3.heap.size w3 wA := (Below.refl _ w3).drew.trans hbA)
      | (go_at_call 22
         with_reducible refine (four_any wA).mono ?_
         rintro e wB ⟨vB, rfl, hLB, hbB⟩))
  have hLA' := four_lists hLA
  have hLB' := four_lists hLB
  have HLA : Hid (∀ W, Below wB.heap.size wB W → Lists W vA fourL) := Lib.hid fun W hW => (hLA'.below hbB).below hW
  have HLB : Hid (∀ W, Below wB.heap.size wB W → Lists W vB fourL) := Lib.hid fun W hW => hLB'.below hW
  have HC3B := Lib.hid (hu1.trans (hbB.mono hu1.size))
  clear hLA hLB hLA' hLB' hu1 hbA hbB
  obtain ⟨w5, hw5⟩ : ∃ W : World, ((((((wB.alloc (.cells #[.int .i64 2, vA, .int .i64 2, vB, .int .i64 2, .slice (some ⟨g, 0, none⟩) 3 c, .int .i64 2, .slice (some ⟨g, 0, none⟩) 3 c, .int .i64 2, .slice (some ⟨g, 0, none⟩) 3 c] 26)).alloc (.cells #[.int .i64 1] 3)).alloc (.cells #[.int .i64 (-1)] 3)).alloc (.cells #[.int .i64 1, .int .i64 (-1)] 3)).alloc (.cells #[.int .i64 2] 3)).alloc (.cells #[.slice (some ⟨wB.heap.size + 1, 0, none⟩) 1 1, .slice none 0 0, .slice (some ⟨wB.heap.size + 1 + 1, 0, none⟩) 1 1, .slice (some ⟨wB.heap.size + 1 + 1 + 1, 0, none⟩) 2 2, .slice (some ⟨wB.heap.size + 1 + 1 + 1 + 1, 0, none⟩) 1 1] 23)).alloc (.cells #[.bool true, .bool false, .bool false, .bool true, .bool true] 4) = W := ⟨_, rfl⟩
  have HY0 : Hid (Box w5 (wB.heap.size) 26 #[.int .i64 2, vA, .int .i64 2, vB, .int .i64 2, .slice (some ⟨g, 0, none⟩) 3 c, .int .i64 2, .slice (some ⟨g, 0, none⟩) 3 c, .int .i64 2, .slice (some ⟨g, 0, none⟩) 3 c]) := Lib.hid (by rw [← hw5]; exact (((((((Box.at _ _ _ (by simp)).alloc _).alloc _).alloc _).alloc _).alloc _).alloc _))
  have HY1 : Hid (Box w5 (wB.heap.size + 1) 3 #[.int .i64 1]) := Lib.hid (by rw [← hw5]; exact ((((((Box.at _ _ _ (by simp)).alloc _).alloc _).alloc _).alloc _).alloc _))
  have HY2 : Hid (Box w5 (wB.heap.size + 1 + 1) 3 #[.int .i64 (-1)]) := Lib.hid (by rw [← hw5]; exact (((((Box.at _ _ _ (by simp)).alloc _).alloc _).alloc _).alloc _))
  have HY3 : Hid (Box w5 (wB.heap.size + 1 + 1 + 1) 3 #[.int .i64 1, .int .i64 (-1)]) := Lib.hid (by rw [← hw5]; exact ((((Box.at _ _ _ (by simp)).alloc _).alloc _).alloc _))
  have HY4 : Hid (Box w5 (wB.heap.size + 1 + 1 + 1 + 1) 3 #[.int .i64 2]) := Lib.hid (by rw [← hw5]; exact (((Box.at _ _ _ (by simp)).alloc _).alloc _))
  have HY5 : Hid (Box w5 (wB.heap.size + 1 + 1 + 1 + 1 + 1) 23 #[.slice (some ⟨wB.heap.size + 1, 0, none⟩) 1 1, .slice none 0 0, .slice (some ⟨wB.heap.size + 1 + 1, 0, none⟩) 1 1, .slice (some ⟨wB.heap.size + 1 + 1 + 1, 0, none⟩) 2 2, .slice (some ⟨wB.heap.size + 1 + 1 + 1 + 1, 0, none⟩) 1 1]) := Lib.hid (by rw [← hw5]; exact ((Box.at _ _ _ (by simp)).alloc _))
  have HY6 : Hid (Box w5 (wB.heap.size + 1 + 1 + 1 + 1 + 1 + 1) 4 #[.bool true, .bool false, .bool false, .bool true, .bool true]) := Lib.hid (by rw [← hw5]; exact (Box.at _ _ _ (by simp)))
  have HBB5 : Hid (Below wB.heap.size wB w5) := Lib.hid (by rw [← hw5]; exact ((((((((Below.refl _ wB).alloc (Nat.le_refl _) _).alloc (by simp; try omega) _).alloc (by simp; try omega) _).alloc (by simp; try omega) _).alloc (by simp; try omega) _).alloc (by simp; try omega) _).alloc (by simp; try omega) _))
  go_wp2
  try rw [hw5]
  clear hw5 k30 k31
  have HC5 := Lib.hid (HC3B.out.trans (HBB5.out.mono HC3B.out.size))
  go_loopw [5, 6, 7] (fun i _ _ wr => ∃ k : Nat, k ≤ 5 ∧ i = .int .i64 k ∧ Below w5.heap.size w5 wr) (fun i _ _ _ => 5 - (intOf i).toNat)
  case atStart => exact ⟨0, by omega, rfl, Below.refl _ _⟩
  case round =>
    obtain ⟨k, hk, hi, hb⟩ := hrel
    have hcase : k = 0 ∨ k = 1 ∨ k = 2 ∨ k = 3 ∨ k = 4 ∨ k = 5 := by omega
    have HB := Lib.hid hb
    clear hk hb
    rcases hcase with rfl | rfl | rfl | rfl | rfl | rfl
    · replace hi : _ = Value.int .i64 0 := hi
      subst hi
      have HC : Hid (∀ W, Below w5.heap.size w5 W → Calls Tryd.prog 14 #[.agg #[.int .i64 2, vA], (.slice (some ⟨wB.heap.size + 1, 0, none⟩) 1 1)] W fun e w' => e = .returned (.tuple #[.bool true, .int .i64 0]) ∧ Below W.heap.size W w') := Lib.hid fun W hW => by
        have h := implied_any 2 vA fourL (.slice (some ⟨wB.heap.size + 1, 0, none⟩) 1 1) [1] W (by simp [I64]) fourL_i64 (HLA.out _ (HBB5.out.trans (hW.mono HBB5.out.size))) (by simp [I64]) (ints_box (l := [1]) (HY1.out.below hW HY1.out.lt) (by simp)) (by simp [fourL]) (by simp)
        rw [im_1] at h
        exact h
      have k0 : ∀ x : Later wr.heap.size wr, x.W.cell? ⟨wB.heap.size, 0, none⟩ = some (.int .i64 2) := fun x => (HY0.out.below (HB.out.trans (x.ok.mono HB.out.size)) HY0.out.lt).cell 0
      have k1 : ∀ x : Later wr.heap.size wr, x.W.cell? ⟨wB.heap.size, 1, none⟩ = some vA := fun x => (HY0.out.below (HB.out.trans (x.ok.mono HB.out.size)) HY0.out.lt).cell 1
      have k2 : ∀ x : Later wr.heap.size wr, x.W.cell? ⟨wB.heap.size + 1 + 1 + 1 + 1 + 1, 0, none⟩ = some (.slice (some ⟨wB.heap.size + 1, 0, none⟩) 1 1) := fun x => (HY5.out.below (HB.out.trans (x.ok.mono HB.out.size)) HY5.out.lt).cell 0
      go_wp2
      refine wp_region_later (B := wr.heap.size) (w0 := wr) (by kernel_rfl) (by kernel_rfl) (Below.refl _ _) ?_
      repeat (go_big_quiet_step ((go_at_call 14; exact later_mono _ (Nat.le_refl _) (HC.out _ (HB.out.trans ((Later.ok _).mono HB.out.size))))))
      refine wpQuiet_nil ?_
      rintro _ ⟨x, rfl⟩
      have HBX := Lib.hid (HB.out.trans (x.ok.mono HB.out.size))
      clear k0 k1 k2
      generalize x.W = wx at *
      clear x HB HC
      have k3 : wx.cell? ⟨wB.heap.size + 1 + 1 + 1 + 1 + 1 + 1, 0, none⟩ = some (.bool true) := (HY6.out.below HBX.out HY6.out.lt).cell 0
      go_wp2
      go_roundw
      case rel => exact ⟨1, by omega, by go_num, HBX.out⟩
      case measure => simp [intOf]
    · replace hi : _ = Value.int .i64 1 := hi
      subst hi
      have HC : Hid (∀ W, Below w5.heap.size w5 W → Calls Tryd.prog 14 #[.agg #[.int .i64 2, vB], (.slice none 0 0)] W fun e w' => e = .returned (.tuple #[.bool false, .int .i64 0]) ∧ Below W.heap.size W w') := Lib.hid fun W hW => by
        have h := implied_any 2 vB fourL (.slice none 0 0) [] W (by simp [I64]) fourL_i64 (HLB.out _ (HBB5.out.trans (hW.mono HBB5.out.size))) (by simp [I64]) (ints_none _) (by simp [fourL]) (by simp)
        rw [im_2] at h
        exact h
      have k0 : ∀ x : Later wr.heap.size wr, x.W.cell? ⟨wB.heap.size, 2, none⟩ = some (.int .i64 2) := fun x => (HY0.out.below (HB.out.trans (x.ok.mono HB.out.size)) HY0.out.lt).cell 2
      have k1 : ∀ x : Later wr.heap.size wr, x.W.cell? ⟨wB.heap.size, 3, none⟩ = some vB := fun x => (HY0.out.below (HB.out.trans (x.ok.mono HB.out.size)) HY0.out.lt).cell 3
      have k2 : ∀ x : Later wr.heap.size wr, x.W.cell? ⟨wB.heap.size + 1 + 1 + 1 + 1 + 1, 1, none⟩ = some (.slice none 0 0) := fun x => (HY5.out.below (HB.out.trans (x.ok.mono HB.out.size)) HY5.out.lt).cell 1
      go_wp2
      refine wp_region_later (B := wr.heap.size) (w0 := wr) (by kernel_rfl) (by kernel_rfl) (Below.refl _ _) ?_
      repeat (go_big_quiet_step ((go_at_call 14; exact later_mono _ (Nat.le_refl _) (HC.out _ (HB.out.trans ((Later.ok _).mono HB.out.size))))))
      refine wpQuiet_nil ?_
      rintro _ ⟨x, rfl⟩
      have HBX := Lib.hid (HB.out.trans (x.ok.mono HB.out.size))
      clear k0 k1 k2
      generalize x.W = wx at *
      clear x HB HC
      have k3 : wx.cell? ⟨wB.heap.size + 1 + 1 + 1 + 1 + 1 + 1, 1, none⟩ = some (.bool false) := (HY6.out.below HBX.out HY6.out.lt).cell 1
      go_wp2
      go_roundw
      case rel => exact ⟨2, by omega, by go_num, HBX.out⟩
      case measure => simp [intOf]
    · replace hi : _ = Value.int .i64 2 := hi
      subst hi
      have HC : Hid (∀ W, Below w5.heap.size w5 W → Calls Tryd.prog 14 #[.agg #[.int .i64 2, (.slice (some ⟨g, 0, none⟩) 3 c)], (.slice (some ⟨wB.heap.size + 1 + 1, 0, none⟩) 1 1)] W fun e w' => e = .returned (.tuple #[.bool false, .int .i64 0]) ∧ Below W.heap.size W w') := Lib.hid fun W hW => by
        have h := implied_any 2 (.slice (some ⟨g, 0, none⟩) 3 c) gL (.slice (some ⟨wB.heap.size + 1 + 1, 0, none⟩) 1 1) [-1] W (by simp [I64]) gL_i64 (HG.out _ (HC5.out.trans (hW.mono HC5.out.size))) (by simp [I64]) (ints_box (l := [-1]) (HY2.out.below hW HY2.out.lt) (by simp)) (by simp [gL]) (by simp)
        rw [im_3] at h
        exact h
      have k0 : ∀ x : Later wr.heap.size wr, x.W.cell? ⟨wB.heap.size, 4, none⟩ = some (.int .i64 2) := fun x => (HY0.out.below (HB.out.trans (x.ok.mono HB.out.size)) HY0.out.lt).cell 4
      have k1 : ∀ x : Later wr.heap.size wr, x.W.cell? ⟨wB.heap.size, 5, none⟩ = some (.slice (some ⟨g, 0, none⟩) 3 c) := fun x => (HY0.out.below (HB.out.trans (x.ok.mono HB.out.size)) HY0.out.lt).cell 5
      have k2 : ∀ x : Later wr.heap.size wr, x.W.cell? ⟨wB.heap.size + 1 + 1 + 1 + 1 + 1, 2, none⟩ = some (.slice (some ⟨wB.heap.size + 1 + 1, 0, none⟩) 1 1) := fun x => (HY5.out.below (HB.out.trans (x.ok.mono HB.out.size)) HY5.out.lt).cell 2
      go_wp2
      refine wp_region_later (B := wr.heap.size) (w0 := wr) (by kernel_rfl) (by kernel_rfl) (Below.refl _ _) ?_
      repeat (go_big_quiet_step ((go_at_call 14; exact later_mono _ (Nat.le_refl _) (HC.out _ (HB.out.trans ((Later.ok _).mono HB.out.size))))))
      refine wpQuiet_nil ?_
      rintro _ ⟨x, rfl⟩
      have HBX := Lib.hid (HB.out.trans (x.ok.mono HB.out.size))
      clear k0 k1 k2
      generalize x.W = wx at *
      clear x HB HC
      have k3 : wx.cell? ⟨wB.heap.size + 1 + 1 + 1 + 1 + 1 + 1, 2, none⟩ = some (.bool false) := (HY6.out.below HBX.out HY6.out.lt).cell 2
      go_wp2
      go_roundw
      case rel => exact ⟨3, by omega, by go_num, HBX.out⟩
      case measure => simp [intOf]
    · replace hi : _ = Value.int .i64 3 := hi
      subst hi
      have HC : Hid (∀ W, Below w5.heap.size w5 W → Calls Tryd.prog 14 #[.agg #[.int .i64 2, (.slice (some ⟨g, 0, none⟩) 3 c)], (.slice (some ⟨wB.heap.size + 1 + 1 + 1, 0, none⟩) 2 2)] W fun e w' => e = .returned (.tuple #[.bool true, .int .i64 0]) ∧ Below W.heap.size W w') := Lib.hid fun W hW => by
        have h := implied_any 2 (.slice (some ⟨g, 0, none⟩) 3 c) gL (.slice (some ⟨wB.heap.size + 1 + 1 + 1, 0, none⟩) 2 2) [1, -1] W (by simp [I64]) gL_i64 (HG.out _ (HC5.out.trans (hW.mono HC5.out.size))) (by simp [I64]) (ints_box (l := [1, -1]) (HY3.out.below hW HY3.out.lt) (by simp)) (by simp [gL]) (by simp)
        rw [im_4] at h
        exact h
      have k0 : ∀ x : Later wr.heap.size wr, x.W.cell? ⟨wB.heap.size, 6, none⟩ = some (.int .i64 2) := fun x => (HY0.out.below (HB.out.trans (x.ok.mono HB.out.size)) HY0.out.lt).cell 6
      have k1 : ∀ x : Later wr.heap.size wr, x.W.cell? ⟨wB.heap.size, 7, none⟩ = some (.slice (some ⟨g, 0, none⟩) 3 c) := fun x => (HY0.out.below (HB.out.trans (x.ok.mono HB.out.size)) HY0.out.lt).cell 7
      have k2 : ∀ x : Later wr.heap.size wr, x.W.cell? ⟨wB.heap.size + 1 + 1 + 1 + 1 + 1, 3, none⟩ = some (.slice (some ⟨wB.heap.size + 1 + 1 + 1, 0, none⟩) 2 2) := fun x => (HY5.out.below (HB.out.trans (x.ok.mono HB.out.size)) HY5.out.lt).cell 3
      go_wp2
      refine wp_region_later (B := wr.heap.size) (w0 := wr) (by kernel_rfl) (by kernel_rfl) (Below.refl _ _) ?_
      repeat (go_big_quiet_step ((go_at_call 14; exact later_mono _ (Nat.le_refl _) (HC.out _ (HB.out.trans ((Later.ok _).mono HB.out.size))))))
      refine wpQuiet_nil ?_
      rintro _ ⟨x, rfl⟩
      have HBX := Lib.hid (HB.out.trans (x.ok.mono HB.out.size))
      clear k0 k1 k2
      generalize x.W = wx at *
      clear x HB HC
      have k3 : wx.cell? ⟨wB.heap.size + 1 + 1 + 1 + 1 + 1 + 1, 3, none⟩ = some (.bool true) := (HY6.out.below HBX.out HY6.out.lt).cell 3
      go_wp2
      go_roundw
      case rel => exact ⟨4, by omega, by go_num, HBX.out⟩
      case measure => simp [intOf]
    · replace hi : _ = Value.int .i64 4 := hi
      subst hi
      have HC : Hid (∀ W, Below w5.heap.size w5 W → Calls Tryd.prog 14 #[.agg #[.int .i64 2, (.slice (some ⟨g, 0, none⟩) 3 c)], (.slice (some ⟨wB.heap.size + 1 + 1 + 1 + 1, 0, none⟩) 1 1)] W fun e w' => e = .returned (.tuple #[.bool true, .int .i64 0]) ∧ Below W.heap.size W w') := Lib.hid fun W hW => by
        have h := implied_any 2 (.slice (some ⟨g, 0, none⟩) 3 c) gL (.slice (some ⟨wB.heap.size + 1 + 1 + 1 + 1, 0, none⟩) 1 1) [2] W (by simp [I64]) gL_i64 (HG.out _ (HC5.out.trans (hW.mono HC5.out.size))) (by simp [I64]) (ints_box (l := [2]) (HY4.out.below hW HY4.out.lt) (by simp)) (by simp [gL]) (by simp)
        rw [im_5] at h
        exact h
      have k0 : ∀ x : Later wr.heap.size wr, x.W.cell? ⟨wB.heap.size, 8, none⟩ = some (.int .i64 2) := fun x => (HY0.out.below (HB.out.trans (x.ok.mono HB.out.size)) HY0.out.lt).cell 8
      have k1 : ∀ x : Later wr.heap.size wr, x.W.cell? ⟨wB.heap.size, 9, none⟩ = some (.slice (some ⟨g, 0, none⟩) 3 c) := fun x => (HY0.out.below (HB.out.trans (x.ok.mono HB.out.size)) HY0.out.lt).cell 9
      have k2 : ∀ x : Later wr.heap.size wr, x.W.cell? ⟨wB.heap.size + 1 + 1 + 1 + 1 + 1, 4, none⟩ = some (.slice (some ⟨wB.heap.size + 1 + 1 + 1 + 1, 0, none⟩) 1 1) := fun x => (HY5.out.below (HB.out.trans (x.ok.mono HB.out.size)) HY5.out.lt).cell 4
      go_wp2
      refine wp_region_later (B := wr.heap.size) (w0 := wr) (by kernel_rfl) (by kernel_rfl) (Below.refl _ _) ?_
      repeat (go_big_quiet_step ((go_at_call 14; exact later_mono _ (Nat.le_refl _) (HC.out _ (HB.out.trans ((Later.ok _).mono HB.out.size))))))
      refine wpQuiet_nil ?_
      rintro _ ⟨x, rfl⟩
      have HBX := Lib.hid (HB.out.trans (x.ok.mono HB.out.size))
      clear k0 k1 k2
      generalize x.W = wx at *
      clear x HB HC
      have k3 : wx.cell? ⟨wB.heap.size + 1 + 1 + 1 + 1 + 1 + 1, 4, none⟩ = some (.bool true) := (HY6.out.below HBX.out HY6.out.lt).cell 4
      go_wp2
      go_roundw
      case rel => exact ⟨5, by omega, by go_num, HBX.out⟩
      case measure => simp [intOf]
    · replace hi : _ = Value.int .i64 5 := hi
      subst hi
      have HC6 := Lib.hid (HC5.out.trans (HB.out.mono HC5.out.size))
      clear HB HY0 HY1 HY2 HY3 HY4 HY5 HY6 HLA HLB HC5 HC3B HBB5
      go_wp2_with fail
      refine (four_any _).mono ?_
      rintro e wa1 ⟨va1, rfl, hla, hba⟩
      have HA1 := Lib.hid (HC6.out.trans (hba.mono HC6.out.size))
      have hlf := four_lists hla
      clear hla hba
      obtain ⟨W1, hW⟩ : ∃ X : World, wa1.alloc (.cells #[.slice none 0 0] 23) = X := ⟨_, rfl⟩
      have hbW : Below wa1.heap.size wa1 W1 := by rw [← hW]; exact ((Below.refl _ wa1).alloc (by simp; try omega) _)
      have hxr : Box W1 (wa1.heap.size) 23 ([.slice none 0 0] : List Value).toArray := by rw [← hW]; exact Box.at _ _ _ (by simp)
      have hp : Lists W1 (.slice (some ⟨wa1.heap.size, 0, none⟩) 1 1) [[]] := lists_box (us := [.slice none 0 0]) (L := [[]]) hxr rfl (by simp) (fun j hj => by
        have hj' : j = 0 := by simp at hj; omega
        subst hj'
        exact ints_none _)
      have HW1 := Lib.hid (HA1.out.trans (hbW.mono HA1.out.size))
      have hck := check5_any 2 va1 fourL (.slice (some ⟨wa1.heap.size, 0, none⟩) 1 1) [[]] W1 (by simp [I64]) fourL_i64 (hlf.below hbW) (by simp [I64]) hp (by simp [fourL]) (by simp) (HT.out.below (HB3.out.trans (HW1.out.mono HB3.out.size)))
      rw [ck_1] at hck
      rw [← hW] at hck HW1
      clear hlf hbW hxr hp hW
      go_wp2_with fail
      refine hck.mono ?_
      rintro e w11 ⟨rfl, hbx⟩
      have HC11 := Lib.hid (HW1.out.trans (hbx.mono HW1.out.size))
      clear hck hbx HW1 HA1
      go_wp2_with fail
      refine (four_any _).mono ?_
      rintro e wa2 ⟨va2, rfl, hla, hba⟩
      have HA2 := Lib.hid (HC11.out.trans (hba.mono HC11.out.size))
      have hlf := four_lists hla
      clear hla hba
      obtain ⟨W2, hW⟩ : ∃ X : World, (wa2.alloc (.cells #[.int .i64 1] 3)).alloc (.cells #[.slice (some ⟨wa2.heap.size, 0, none⟩) 1 1] 23) = X := ⟨_, rfl⟩
      have hbW : Below wa2.heap.size wa2 W2 := by rw [← hW]; exact (((Below.refl _ wa2).alloc (by simp; try omega) _).alloc (by simp; try omega) _)
      have hi0 : Ints W2 (.slice (some ⟨wa2.heap.size, 0, none⟩) 1 1) [1] := ints_box (l := [1]) (by rw [← hW]; exact ((Box.at _ _ _ (by simp)).alloc _)) (by simp)
      have hxr : Box W2 (wa2.heap.size + 1) 23 ([.slice (some ⟨wa2.heap.size, 0, none⟩) 1 1] : List Value).toArray := by rw [← hW]; exact Box.at _ _ _ (by simp)
      have hp : Lists W2 (.slice (some ⟨wa2.heap.size + 1, 0, none⟩) 1 1) [[1]] := lists_box (us := [.slice (some ⟨wa2.heap.size, 0, none⟩) 1 1]) (L := [[1]]) hxr rfl (by simp) (fun j hj => by
        have hj' : j = 0 := by simp at hj; omega
        subst hj'
        exact hi0)
      have HW2 := Lib.hid (HA2.out.trans (hbW.mono HA2.out.size))
      have hck := check5_any 2 va2 fourL (.slice (some ⟨wa2.heap.size + 1, 0, none⟩) 1 1) [[1]] W2 (by simp [I64]) fourL_i64 (hlf.below hbW) (by simp [I64]) hp (by simp [fourL]) (by simp) (HT.out.below (HB3.out.trans (HW2.out.mono HB3.out.size)))
      rw [ck_2] at hck
      rw [← hW] at hck HW2
      clear hlf hbW hi0 hxr hp hW
      go_wp2_with fail
      refine hck.mono ?_
      rintro e w12 ⟨rfl, hbx⟩
      have HC12 := Lib.hid (HW2.out.trans (hbx.mono HW2.out.size))
      clear hck hbx HW2 HA2
      go_wp2_with fail
      refine (four_any _).mono ?_
      rintro e wa3 ⟨va3, rfl, hla, hba⟩
      have HA3 := Lib.hid (HC12.out.trans (hba.mono HC12.out.size))
      have hlf := four_lists hla
      clear hla hba
      obtain ⟨W3, hW⟩ : ∃ X : World, wa3 = X := ⟨_, rfl⟩
      have hbW : Below wa3.heap.size wa3 W3 := by rw [← hW]; exact (Below.refl _ wa3)
      have HW3 := Lib.hid (HA3.out.trans (hbW.mono HA3.out.size))
      have hck := check5_any 2 va3 fourL (.slice none 0 0) [] W3 (by simp [I64]) fourL_i64 (hlf.below hbW) (by simp [I64]) (Lists.nil _ _ _) (by simp [fourL]) (by simp) (HT.out.below (HB3.out.trans (HW3.out.mono HB3.out.size)))
      rw [ck_3] at hck
      rw [← hW] at hck HW3
      clear hlf hbW hW
      go_wp2_with fail
      refine hck.mono ?_
      rintro e w13 ⟨rfl, hbx⟩
      have HC13 := Lib.hid (HW3.out.trans (hbx.mono HW3.out.size))
      clear hck hbx HW3 HA3
      have kx := HKP.out _ HC13.out
      obtain ⟨kx0, kx1⟩ := kx
      have hlf := HG.out _ HC13.out
      obtain ⟨W4, hW⟩ : ∃ X : World, (w13.alloc (.cells #[.int .i64 1] 3)).alloc (.cells #[.slice (some ⟨w13.heap.size, 0, none⟩) 1 1, .slice none 0 0] 23) = X := ⟨_, rfl⟩
      have hbW : Below w13.heap.size w13 W4 := by rw [← hW]; exact (((Below.refl _ w13).alloc (by simp; try omega) _).alloc (by simp; try omega) _)
      have hi0 : Ints W4 (.slice (some ⟨w13.heap.size, 0, none⟩) 1 1) [1] := ints_box (l := [1]) (by rw [← hW]; exact ((Box.at _ _ _ (by simp)).alloc _)) (by simp)
      have hxr : Box W4 (w13.heap.size + 1) 23 ([.slice (some ⟨w13.heap.size, 0, none⟩) 1 1, .slice none 0 0] : List Value).toArray := by rw [← hW]; exact Box.at _ _ _ (by simp)
      have hp : Lists W4 (.slice (some ⟨w13.heap.size + 1, 0, none⟩) 2 2) [[1], []] := lists_box (us := [.slice (some ⟨w13.heap.size, 0, none⟩) 1 1, .slice none 0 0]) (L := [[1], []]) hxr rfl (by simp) (fun j hj => by
        have hj' : j = 0 ∨ j = 1 := by simp at hj; omega
        rcases hj' with rfl | rfl
        · exact hi0
        · exact ints_none _)
      have HW4 := Lib.hid (HC13.out.trans (hbW.mono HC13.out.size))
      have hck := check5_any 2 (.slice (some ⟨g, 0, none⟩) 3 c) gL (.slice (some ⟨w13.heap.size + 1, 0, none⟩) 2 2) [[1], []] W4 (by simp [I64]) gL_i64 (hlf.below hbW) (by simp [I64]) hp (by simp [gL]) (by simp) (HT.out.below (HB3.out.trans (HW4.out.mono HB3.out.size)))
      rw [ck_4] at hck
      rw [← hW] at hck HW4
      clear hlf hbW hi0 hxr hp hW
      go_wp2_with fail
      refine hck.mono ?_
      rintro e w14 ⟨rfl, hbx⟩
      have HC14 := Lib.hid (HW4.out.trans (hbx.mono HW4.out.size))
      clear hck hbx HW4 kx0 kx1
      go_wp2_with fail
      refine (four_any _).mono ?_
      rintro e wa5 ⟨va5, rfl, hla, hba⟩
      have HA5 := Lib.hid (HC14.out.trans (hba.mono HC14.out.size))
      have hlf := four_lists hla
      clear hla hba
      obtain ⟨W5, hW⟩ : ∃ X : World, (wa5.alloc (.cells #[.int .i64 3] 3)).alloc (.cells #[.slice (some ⟨wa5.heap.size, 0, none⟩) 1 1] 23) = X := ⟨_, rfl⟩
      have hbW : Below wa5.heap.size wa5 W5 := by rw [← hW]; exact (((Below.refl _ wa5).alloc (by simp; try omega) _).alloc (by simp; try omega) _)
      have hi0 : Ints W5 (.slice (some ⟨wa5.heap.size, 0, none⟩) 1 1) [3] := ints_box (l := [3]) (by rw [← hW]; exact ((Box.at _ _ _ (by simp)).alloc _)) (by simp)
      have hxr : Box W5 (wa5.heap.size + 1) 23 ([.slice (some ⟨wa5.heap.size, 0, none⟩) 1 1] : List Value).toArray := by rw [← hW]; exact Box.at _ _ _ (by simp)
      have hp : Lists W5 (.slice (some ⟨wa5.heap.size + 1, 0, none⟩) 1 1) [[3]] := lists_box (us := [.slice (some ⟨wa5.heap.size, 0, none⟩) 1 1]) (L := [[3]]) hxr rfl (by simp) (fun j hj => by
        have hj' : j = 0 := by simp at hj; omega
        subst hj'
        exact hi0)
      have HW5 := Lib.hid (HA5.out.trans (hbW.mono HA5.out.size))
      have hck := check5_any 2 va5 fourL (.slice (some ⟨wa5.heap.size + 1, 0, none⟩) 1 1) [[3]] W5 (by simp [I64]) fourL_i64 (hlf.below hbW) (by simp [I64]) hp (by simp [fourL]) (by simp) (HT.out.below (HB3.out.trans (HW5.out.mono HB3.out.size)))
      rw [ck_5] at hck
      rw [← hW] at hck HW5
      clear hlf hbW hi0 hxr hp hW
      go_wp2_with fail
      refine hck.mono ?_
      rintro e w15 ⟨rfl, hbx⟩
      have HC15 := Lib.hid (HW5.out.trans (hbx.mono HW5.out.size))
      clear hck hbx HW5 HA5
      go_wp2_with fail
      refine (four_any _).mono ?_
      rintro e wa6 ⟨va6, rfl, hla, hba⟩
      have HA6 := Lib.hid (HC15.out.trans (hba.mono HC15.out.size))
      have hlf := four_lists hla
      clear hla hba
      obtain ⟨W6, hW⟩ : ∃ X : World, wa6.alloc (.cells #[.int .i64 0] 3) = X := ⟨_, rfl⟩
      have hbW : Below wa6.heap.size wa6 W6 := by rw [← hW]; exact ((Below.refl _ wa6).alloc (by simp; try omega) _)
      have hi0 : Ints W6 (.slice (some ⟨wa6.heap.size, 0, none⟩) 1 1) [0] := ints_box (l := [0]) (by rw [← hW]; exact (Box.at _ _ _ (by simp))) (by simp)
      have HW6 := Lib.hid (HA6.out.trans (hbW.mono HA6.out.size))
      have hck := implied_any 2 va6 fourL (.slice (some ⟨wa6.heap.size, 0, none⟩) 1 1) [0] W6 (by simp [I64]) fourL_i64 (hlf.below hbW) (by simp [I64]) hi0 (by simp [fourL]) (by simp)
      rw [im_0] at hck
      rw [← hW] at hck HW6
      clear hlf hbW hi0 hW
      go_wp2_with fail
      refine hck.mono ?_
      rintro e w16 ⟨rfl, hbx⟩
      have HC16 := Lib.hid (HW6.out.trans (hbx.mono HW6.out.size))
      clear hck hbx HW6 HA6
      go_wp2_with fail
      refine (four_any _).mono ?_
      rintro e wa7 ⟨va7, rfl, hla, hba⟩
      have HA7 := Lib.hid (HC16.out.trans (hba.mono HC16.out.size))
      have hlf := four_lists hla
      clear hla hba
      obtain ⟨W7, hW⟩ : ∃ X : World, ((wa7.alloc (.cells #[.int .i64 (-2)] 3)).alloc (.cells #[.int .i64 0] 3)).alloc (.cells #[.slice (some ⟨wa7.heap.size, 0, none⟩) 1 1, .slice none 0 0, .slice (some ⟨wa7.heap.size + 1, 0, none⟩) 1 1] 23) = X := ⟨_, rfl⟩
      have hbW : Below wa7.heap.size wa7 W7 := by rw [← hW]; exact ((((Below.refl _ wa7).alloc (by simp; try omega) _).alloc (by simp; try omega) _).alloc (by simp; try omega) _)
      have hi0 : Ints W7 (.slice (some ⟨wa7.heap.size, 0, none⟩) 1 1) [-2] := ints_box (l := [-2]) (by rw [← hW]; exact (((Box.at _ _ _ (by simp)).alloc _).alloc _)) (by simp)
      have hi1 : Ints W7 (.slice (some ⟨wa7.heap.size + 1, 0, none⟩) 1 1) [0] := ints_box (l := [0]) (by rw [← hW]; exact ((Box.at _ _ _ (by simp)).alloc _)) (by simp)
      have hxr : Box W7 (wa7.heap.size + 1 + 1) 23 ([.slice (some ⟨wa7.heap.size, 0, none⟩) 1 1, .slice none 0 0, .slice (some ⟨wa7.heap.size + 1, 0, none⟩) 1 1] : List Value).toArray := by rw [← hW]; exact Box.at _ _ _ (by simp)
      have hp : Lists W7 (.slice (some ⟨wa7.heap.size + 1 + 1, 0, none⟩) 3 3) [[-2], [], [0]] := lists_box (us := [.slice (some ⟨wa7.heap.size, 0, none⟩) 1 1, .slice none 0 0, .slice (some ⟨wa7.heap.size + 1, 0, none⟩) 1 1]) (L := [[-2], [], [0]]) hxr rfl (by simp) (fun j hj => by
        have hj' : j = 0 ∨ j = 1 ∨ j = 2 := by simp at hj; omega
        rcases hj' with rfl | rfl | rfl
        · exact hi0
        · exact ints_none _
        · exact hi1)
      have HW7 := Lib.hid (HA7.out.trans (hbW.mono HA7.out.size))
      have hck := check5_any 2 va7 fourL (.slice (some ⟨wa7.heap.size + 1 + 1, 0, none⟩) 3 3) [[-2], [], [0]] W7 (by simp [I64]) fourL_i64 (hlf.below hbW) (by simp [I64]) hp (by simp [fourL]) (by simp) (HT.out.below (HB3.out.trans (HW7.out.mono HB3.out.size)))
      rw [ck_6] at hck
      rw [← hW] at hck HW7
      clear hlf hbW hi0 hi1 hxr hp hW
      go_wp2_with fail
      refine hck.mono ?_
      rintro e w17 ⟨rfl, hbx⟩
      have HC17 := Lib.hid (HW7.out.trans (hbx.mono HW7.out.size))
      clear hck hbx HW7 HA7
      have HBZ := Lib.hid (HB3.out.trans (HC17.out.mono HB3.out.size))
      have hkn := HK.out _ HBZ.out
      go_wp2_with fail
      refine hkn.mono ?_
      rintro e wz ⟨rfl, hbk⟩
      refine Hid.out ?_
      refine Lib.hid ?_
      have HBK := Lib.hid (HBZ.out.trans (hbk.mono HBZ.out.size))
      clear hbk hkn
      go_wp2
      go_ret
      exact ⟨rfl, HBK.out⟩
end L
end Go.Proofs.YtfhodbnhaaiceaaDoor
