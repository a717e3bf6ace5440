/- LitNames: the walk. -/
import Derived.Test.YtfpojpiajggncaaLMeans
namespace Go.Proofs.Ytfpojpiajggncaa
open Go.RowKit
namespace L
open K

theorem check_b (n : Int) (v : Value) (l : List Int) (w : World) (hn : I64 n) (hl : ∀ x ∈ l, I64 x) (h : Ints w v l) :
    Calls Try.prog 13 #[.int .i64 n, v] w fun e w' => e = .returned (.int .i64 (checkE n l)) ∧ Below w.heap.size w w' := (check_any n v l w hn hl h).mono fun _ _ ⟨he, hw⟩ => ⟨he, hw ▸ Below.refl _ _⟩
theorem holds_b (vm v : Value) (m : List Bool) (l : List Int) (w : World) (hl : ∀ x ∈ l, I64 x) (hM : Bools w vm m) (h : Ints w v l) :
    Calls Try.prog 21 #[vm, v] w fun e w' => e = .returned (.bool (holdsB m l)) ∧ Below w.heap.size w w' := (holds_any vm v m l w hl hM h).mono fun _ _ ⟨he, hw⟩ => ⟨he, hw ▸ Below.refl _ _⟩
theorem less_b (a b : Int) (w : World) (ha : I64 a) (hb : I64 b) :
    Calls Try.prog 19 #[.int .i64 a, .int .i64 b] w fun e w' => e = .returned (.bool (lessB a b)) ∧ Below w.heap.size w w' := (less_any a b ha hb w).mono fun _ _ ⟨he, hw⟩ => ⟨he, hw ▸ Below.refl _ _⟩
theorem ints_nil (w : World) : Ints w (.slice none 0 0) [] := ⟨none, 0, rfl, Nat.le_refl _, by simp, fun h => by simp at h⟩
theorem names_n1 : normR [1, 2, -1] = none := by
  simp [normR, sortI, List.mergeSort, List.MergeSort.Internal.splitInTwo, lessB, av, normGo]
theorem names_n2 : normR [] = some [] := by simp [normR, sortI, normGo]
theorem names_n3 : normR [0, 0] = some [] := by
  simp [normR, sortI, List.mergeSort, List.MergeSort.Internal.splitInTwo, lessB, av, normGo]
theorem names_n4 : normR [-9223372036854775808, 5, -9223372036854775808] = some [5, -9223372036854775808] := by
  simp [normR, sortI, List.mergeSort, List.MergeSort.Internal.splitInTwo, lessB, av, normGo]
theorem check_long {l : List Int} (h : 4096 < l.length) : checkE 1 l = 5 := by simp [checkE, h]
theorem check_ones {l : List Int} (h : l.length ≤ 4096) (h1 : ∀ x ∈ l, x = 1) : checkE 1 l = 0 := by
  have h2 : ¬ 4096 < l.length := by omega
  have h3 : l.any (fun x => decide (x = 0) || decide (1 < av x)) = false := by
    rw [List.any_eq_false]; intro x hx; rw [h1 x hx]; decide
  simp [checkE, h2, h3]
theorem check_zero {l : List Int} (h : l.length ≤ 4096) (h1 : (0 : Int) ∈ l) : checkE 1 l = 3 := by
  have h2 : ¬ 4096 < l.length := by omega
  have h3 : l.any (fun x => decide (x = 0) || decide (1 < av x)) = true := List.any_eq_true.2 ⟨0, h1, by decide⟩
  simp [checkE, h2, h3]

set_option maxRecDepth 100000 in
set_option maxHeartbeats 8000000 in
theorem names_walk (w : World) : Calls Try.prog 6 #[] w fun e w' => e = .returned (.bool true) ∧ Below w.heap.size w w' := by
  have hbw := Below.refl w.heap.size w
  go_enter Try.func6, Try.ntmps6
  go_wp2_with fail
  have hal := (Below.refl w.heap.size w).alloc (Nat.le_refl _) (.cells #[.int .i64 1, .int .i64 2, .int .i64 (-1)] 3)
  have hK := norm_any _ [1, 2, -1] (w.alloc (.cells #[.int .i64 1, .int .i64 2, .int .i64 (-1)] 3)) (by intro x hx; unfold I64; simp at hx; omega) (ints_lit w [1, 2, -1] _ 3 _ rfl rfl rfl (by decide))
  rw [names_n1] at hK
  refine hK.mono ?_
  rintro e w1 ⟨vA, rfl, hIA, hb⟩
  have hbw := hbw.trans ((hal.trans (hb.mono (by simp))).mono hbw.size)
  clear hal hb hK
  simp only [Option.getD_some, Option.getD_none] at hIA
  rw [Option.isNone_none]
  obtain ⟨pA, cA, rfl, _, _, _⟩ := hIA
  go_wp2_with fail
  have hal := Below.refl w1.heap.size w1
  have hK := norm_any _ [] w1 (by intro x hx; simp at hx) (ints_nil _)
  rw [names_n2] at hK
  refine hK.mono ?_
  rintro e w2 ⟨vB, rfl, hIB, hb⟩
  have hbw := hbw.trans ((hal.trans (hb.mono (by simp))).mono hbw.size)
  clear hal hb hK
  simp only [Option.getD_some, Option.getD_none] at hIB
  rw [Option.isNone_some]
  obtain ⟨pB, cB, rfl, _, _, _⟩ := hIB
  go_wp2_with fail
  have hal := (Below.refl w2.heap.size w2).alloc (Nat.le_refl _) (.cells #[.int .i64 0, .int .i64 0] 3)
  have hK := norm_any _ [0, 0] (w2.alloc (.cells #[.int .i64 0, .int .i64 0] 3)) (by intro x hx; unfold I64; simp at hx; omega) (ints_lit w2 [0, 0] _ 2 _ rfl rfl rfl (by decide))
  rw [names_n3] at hK
  refine hK.mono ?_
  rintro e w3 ⟨vC, rfl, hIC, hb⟩
  have hbw := hbw.trans ((hal.trans (hb.mono (by simp))).mono hbw.size)
  clear hal hb hK
  simp only [Option.getD_some, Option.getD_none] at hIC
  rw [Option.isNone_some]
  obtain ⟨pC, cC, rfl, _, _, _⟩ := hIC
  go_wp2_with fail
  have hal := Below.refl w3.heap.size w3
  have hK := check_b 3 _ [] w3 (by unfold I64; omega) (by intro x hx; simp at hx) (ints_nil _)
  rw [show checkE 3 [] = 0 from by decide] at hK
  refine hK.mono ?_
  rintro e w4 ⟨rfl, hb⟩
  have hbw := hbw.trans ((hal.trans (hb.mono (by simp))).mono hbw.size)
  clear hal hb hK
  go_wp2_with fail
  have hal := (Below.refl w4.heap.size w4).alloc (Nat.le_refl _) (.cells #[.int .i64 4] 3)
  have hK := check_b 3 _ [4] (w4.alloc (.cells #[.int .i64 4] 3)) (by unfold I64; omega) (by intro x hx; unfold I64; simp at hx; omega) (ints_lit w4 [4] _ 1 _ rfl rfl rfl (by decide))
  rw [show checkE 3 [4] = 3 from by decide] at hK
  refine hK.mono ?_
  rintro e w5 ⟨rfl, hb⟩
  have hbw := hbw.trans ((hal.trans (hb.mono (by simp))).mono hbw.size)
  clear hal hb hK
  go_wp2_with fail
  have hal := (Below.refl w5.heap.size w5).alloc (Nat.le_refl _) (.cells #[.int .i64 0] 3)
  have hK := check_b 3 _ [0] (w5.alloc (.cells #[.int .i64 0] 3)) (by unfold I64; omega) (by intro x hx; unfold I64; simp at hx; omega) (ints_lit w5 [0] _ 1 _ rfl rfl rfl (by decide))
  rw [show checkE 3 [0] = 3 from by decide] at hK
  refine hK.mono ?_
  rintro e w6 ⟨rfl, hb⟩
  have hbw := hbw.trans ((hal.trans (hb.mono (by simp))).mono hbw.size)
  clear hal hb hK
  go_wp2_with fail
  have hal := Below.refl w6.heap.size w6
  have hK := check_b (-1) _ [] w6 (by unfold I64; omega) (by intro x hx; simp at hx) (ints_nil _)
  rw [show checkE (-1) [] = 3 from by decide] at hK
  refine hK.mono ?_
  rintro e w7 ⟨rfl, hb⟩
  have hbw := hbw.trans ((hal.trans (hb.mono (by simp))).mono hbw.size)
  clear hal hb hK
  go_wp2_with fail
  have hal := (Below.refl w7.heap.size w7).alloc (Nat.le_refl _) (.cells #[.int .i64 1] 3)
  have hK := check_b 0 _ [1] (w7.alloc (.cells #[.int .i64 1] 3)) (by unfold I64; omega) (by intro x hx; unfold I64; simp at hx; omega) (ints_lit w7 [1] _ 1 _ rfl rfl rfl (by decide))
  rw [show checkE 0 [1] = 3 from by decide] at hK
  refine hK.mono ?_
  rintro e w8 ⟨rfl, hb⟩
  have hbw := hbw.trans ((hal.trans (hb.mono (by simp))).mono hbw.size)
  clear hal hb hK
  go_wp2_with fail
  have hal := Below.refl w8.heap.size w8
  have hK := check_b 1048577 _ [] w8 (by unfold I64; omega) (by intro x hx; simp at hx) (ints_nil _)
  rw [show checkE 1048577 [] = 3 from by decide] at hK
  refine hK.mono ?_
  rintro e w9 ⟨rfl, hb⟩
  have hbw := hbw.trans ((hal.trans (hb.mono (by simp))).mono hbw.size)
  clear hal hb hK
  go_wp2_with fail
  have hal := (Below.refl w9.heap.size w9).alloc (Nat.le_refl _) (.cells #[.int .i64 (-1048576)] 3)
  have hK := check_b 1048576 _ [-1048576] (w9.alloc (.cells #[.int .i64 (-1048576)] 3)) (by unfold I64; omega) (by intro x hx; unfold I64; simp at hx; omega) (ints_lit w9 [-1048576] _ 1 _ rfl rfl rfl (by decide))
  rw [show checkE 1048576 [-1048576] = 0 from by decide] at hK
  refine hK.mono ?_
  rintro e w10 ⟨rfl, hb⟩
  have hbw := hbw.trans ((hal.trans (hb.mono (by simp))).mono hbw.size)
  clear hal hb hK
  obtain ⟨i3, hi3, hz30, hz31, hz32⟩ := info_parts info3
  go_wp2_with (at_make; refine wpList_make_full _ rfl _ _ 22 rfl w10.heap.size 3 i3 (.int .i64 0) 1 Try.underlying22 hi3 hz30 hz31 .i64 .i64 _ _ 4097 rfl rfl rfl rfl (by rw [hz32]; omega) (by unfold maxLen; omega) (Nat.le_refl _) ?_)
  intro wm hown hgrow
  have hbm := (Below.refl w10.heap.size w10).grown hgrow (Nat.le_refl _) (fun k h => by cases h)
  rw [toList_madeCells_one, ← List.map_replicate (f := Value.int .i64) (a := (0 : Int))] at hown
  have hlr : (List.replicate 4097 (0 : Int)).length = 4097 := by rw [List.length_replicate]
  generalize List.replicate 4097 (0 : Int) = xs0 at hown hlr
  have HLR := Lib.hid hlr
  clear hgrow hlr
  go_wp2
  go_loopw [8] (fun i wr => ∃ (k : Nat) (xs : List Int), k ≤ 4097 ∧ i = .int .i64 k ∧ xs.length = 4097 ∧ (∀ j, j < k → xs.getD j 0 = 1) ∧ wr.ownsRow w10.heap.size 3 1 (.slice (some ⟨w10.heap.size, 0, none⟩) 4097 4097) 4097 (xs.map (Value.int .i64)) ∧ Below w10.heap.size w10 wr) (fun i _ => 4097 - (intOf i).toNat)
  case atStart => exact ⟨0, xs0, Nat.zero_le _, rfl, HLR.out, fun j hj => absurd hj (Nat.not_lt_zero _), hown, hbm⟩
  case round =>
    clear hown hbm
    obtain ⟨k, xs, hk, rfl, hxl, hones, hown, hbm⟩ := hrel
    have HXL := Lib.hid hxl
    have HONES := Lib.hid hones
    by_cases hlt : k < 4097
    · have dS := cell_of hown (j := k) (by omega)
      have fS := hown.frozenAt k
      have HO := Lib.hid (hown.stored k (.int .i64 1)).1
      have HSET := Lib.hid (List.map_set (f := Value.int .i64) (l := xs) (i := k) (a := (1 : Int)))
      have HON2 : Hid (∀ j, j < k + 1 → (xs.set k 1).getD j 0 = 1) := fun j hj => by
        by_cases hjk : j = k
        · subst hjk; exact getD_set_same (by omega)
        · rw [getD_set_other (by omega)]; exact HONES.out j (by omega)
      generalize xs.getD k 0 = z at dS
      clear hown hxl hones
      go_wp2
      go_roundw
      case rel => exact ⟨k + 1, xs.set k 1, by omega, by go_num, by rw [List.length_set]; exact HXL.out, HON2.out, by rw [HSET.out]; exact HO.out, hbm.setCell (p := ⟨w10.heap.size, k, none⟩) (Nat.le_refl _) _⟩
      case measure => simp [intOf]; omega
    · obtain rfl : k = 4097 := by omega
      obtain ⟨wl, rfl⟩ : ∃ wl : World, wl = wr := ⟨_, rfl⟩
      have dS := cell_of hown (j := 4096) (by omega)
      have fS := hown.frozenAt 4096
      have HO0 := (hown.stored 4096 (.int .i64 0)).1
      rw [← List.map_set] at HO0
      have HO := Lib.hid HO0
      have hys : (xs.set 4096 0).length = 4097 := by rw [List.length_set]; exact hxl
      have hyz : (xs.set 4096 0).getD 4096 0 = 0 := getD_set_same (by omega)
      have hy1 : ∀ j, j < 4096 → (xs.set 4096 0).getD j 0 = 1 := fun j hj => by rw [getD_set_other (by omega)]; exact hones j (by omega)
      generalize xs.set 4096 0 = ys at HO hys hyz hy1
      generalize xs.getD 4096 0 = z at dS
      have HYS := Lib.hid hys
      have HYZ := Lib.hid hyz
      have HY1 := Lib.hid hy1
      have hbm2 := hbm.setCell (p := ⟨w10.heap.size, 4096, none⟩) (Nat.le_refl _) (.int .i64 0)
      clear hown hxl hones hbm HO0 hys hyz hy1

      have hbw := hbw.trans (hbm2.mono hbw.size)
      have hgz : w10.heap.size = w10.heap.size := rfl
      have hI1 : Ints (wl.setCell ⟨w10.heap.size, 4096, none⟩ (.int .i64 0)) (.slice (some ⟨w10.heap.size, 0, none⟩) 4097 4097) ys := owns_ints (base := w10.heap.size) (by rw [HYS.out]; exact HO.out) (by rw [HYS.out]; omega)
      have hcl := fun (j : Nat) (hj : j < 4097) => cell_of HO.out (j := j) (by rw [HYS.out]; exact hj)
      have hI2 : Ints (wl.setCell ⟨w10.heap.size, 4096, none⟩ (.int .i64 0)) (.slice (some ⟨w10.heap.size, 0, none⟩) 4096 4097) (ys.take 4096) := by
        have hl4 : (ys.take 4096).length = 4096 := by rw [List.length_take, HYS.out]; rfl
        refine ⟨_, 4097, by rw [hl4], by rw [hl4]; omega, by rw [hl4]; omega, fun _ => ⟨_, 0, rfl, fun j hj => ?_⟩⟩
        rw [hl4] at hj
        rw [Nat.zero_add, hcl j (by omega)]
        simp only [List.getD, List.getElem?_take, if_pos hj]
      have hI3 : Ints (wl.setCell ⟨w10.heap.size, 4096, none⟩ (.int .i64 0)) (.slice (some ⟨w10.heap.size, 1, none⟩) 4096 4096) (ys.drop 1) := by
        have hl4 : (ys.drop 1).length = 4096 := by rw [List.length_drop, HYS.out]
        refine ⟨_, 4096, by rw [hl4], by rw [hl4]; omega, by rw [hl4]; omega, fun _ => ⟨_, 1, rfl, fun j hj => ?_⟩⟩
        rw [hl4] at hj
        rw [hcl (1 + j) (by omega)]
        simp only [List.getD, List.getElem?_drop]
      have HK1 : Hid (checkE 1 ys = 5) := check_long (by rw [HYS.out]; omega)
      have HK2 : Hid (checkE 1 (ys.take 4096) = 0) := check_ones (by rw [List.length_take]; omega) (fun x hx => by
        obtain ⟨j, hj, rfl⟩ := List.mem_iff_getElem.1 hx
        have hj2 : j < 4096 := by rw [List.length_take] at hj; omega
        have h1 := HY1.out j hj2
        rw [List.getD, List.getElem?_eq_getElem (by rw [HYS.out]; omega)] at h1
        rw [List.getElem_take]; exact h1)
      have HK3 : Hid (checkE 1 (ys.drop 1) = 3) := check_zero (by rw [List.length_drop, HYS.out]; omega) (by
        have h1 : (ys.drop 1)[4095]? = some 0 := by
          have h2 := HYZ.out
          rw [List.getD, List.getElem?_eq_getElem (by rw [HYS.out]; omega)] at h2
          rw [List.getElem?_drop, List.getElem?_eq_getElem (by rw [HYS.out]; omega)]
          exact congrArg some h2
        exact List.mem_of_getElem? h1)
      have HI64 : Hid (∀ x ∈ ys, I64 x) := fun x hx => by
        obtain ⟨j, hj, rfl⟩ := List.mem_iff_getElem.1 hx
        have hj2 : j < 4097 := by rw [HYS.out] at hj; exact hj
        by_cases h4 : j = 4096
        · subst h4
          have h2 := HYZ.out
          rw [List.getD, List.getElem?_eq_getElem hj] at h2
          simp only [Option.getD_some] at h2
          rw [h2]; unfold I64; omega
        · have h2 := HY1.out j (by omega)
          rw [List.getD, List.getElem?_eq_getElem hj] at h2
          simp only [Option.getD_some] at h2
          rw [h2]; unfold I64; omega
      clear hcl hbm2 HO
      go_wp2_with fail
      have hal := Below.refl (wl.setCell ⟨w10.heap.size, 4096, none⟩ (.int .i64 0)).heap.size (wl.setCell ⟨w10.heap.size, 4096, none⟩ (.int .i64 0))
      have hI1 := hI1.below hal
      have hI2 := hI2.below hal
      have hI3 := hI3.below hal
      have hK := check_b 1 _ ys (wl.setCell ⟨w10.heap.size, 4096, none⟩ (.int .i64 0)) (by unfold I64; omega) HI64.out hI1
      rw [HK1.out] at hK
      refine hK.mono ?_
      rintro e w11 ⟨rfl, hb⟩
      have hI1 := hI1.below hb
      have hI2 := hI2.below hb
      have hI3 := hI3.below hb
      have hbw := hbw.trans ((hal.trans (hb.mono (by simp))).mono hbw.size)
      clear hal hb hK
      clear hI1
      go_wp2_with fail
      have hal := Below.refl w11.heap.size w11
      have hI2 := hI2.below hal
      have hI3 := hI3.below hal
      have hK := check_b 1 _ (ys.take 4096) w11 (by unfold I64; omega) (fun x hx => HI64.out x (List.mem_of_mem_take hx)) hI2
      rw [HK2.out] at hK
      refine hK.mono ?_
      rintro e w12 ⟨rfl, hb⟩
      have hI2 := hI2.below hb
      have hI3 := hI3.below hb
      have hbw := hbw.trans ((hal.trans (hb.mono (by simp))).mono hbw.size)
      clear hal hb hK
      clear hI2
      go_wp2_with fail
      have hal := Below.refl w12.heap.size w12
      have hI3 := hI3.below hal
      have hK := check_b 1 _ (ys.drop 1) w12 (by unfold I64; omega) (fun x hx => HI64.out x (List.mem_of_mem_drop hx)) hI3
      rw [HK3.out] at hK
      refine hK.mono ?_
      rintro e w13 ⟨rfl, hb⟩
      have hI3 := hI3.below hb
      have hbw := hbw.trans ((hal.trans (hb.mono (by simp))).mono hbw.size)
      clear hal hb hK
      clear hI3
      go_wp2_with fail
      have hal := ((Below.refl w13.heap.size w13).alloc (Nat.le_refl _) (.cells #[.bool false, .bool true] 4)).alloc (by simp) (.cells #[.int .i64 1, .int .i64 2] 3)
      have hB := (bools_lit w13 [false, true] _ 2 _ 4 rfl rfl rfl (by decide)).below ((Below.refl (w13.alloc (.cells #[.bool false, .bool true] 4)).heap.size _).alloc (Nat.le_refl _) (.cells #[.int .i64 1, .int .i64 2] 3))
      have hK := holds_b _ _ [false, true] [1, 2] ((w13.alloc (.cells #[.bool false, .bool true] 4)).alloc (.cells #[.int .i64 1, .int .i64 2] 3)) (by intro x hx; unfold I64; simp at hx; omega) hB (ints_lit (w13.alloc (.cells #[.bool false, .bool true] 4)) [1, 2] _ 2 (w13.heap.size + 1) (by simp) rfl rfl (by decide))
      rw [show holdsB [false, true] [1, 2] = true from by decide] at hK
      refine hK.mono ?_
      rintro e w14 ⟨rfl, hb⟩
      have hB := hB.below hb
      have hbw := hbw.trans ((hal.trans (hb.mono (by simp; omega))).mono hbw.size)
      clear hal hb hK
      go_wp2_with fail
      have hal := (Below.refl w14.heap.size w14).alloc (Nat.le_refl _) (.cells #[.int .i64 1, .int .i64 (-2)] 3)
      have hB := hB.below hal
      have hK := holds_b _ _ [false, true] [1, -2] (w14.alloc (.cells #[.int .i64 1, .int .i64 (-2)] 3)) (by intro x hx; unfold I64; simp at hx; omega) hB (ints_lit w14 [1, -2] _ 2 _ rfl rfl rfl (by decide))
      rw [show holdsB [false, true] [1, -2] = false from by decide] at hK
      refine hK.mono ?_
      rintro e w15 ⟨rfl, hb⟩
      have hB := hB.below hb
      have hbw := hbw.trans ((hal.trans (hb.mono (by simp))).mono hbw.size)
      clear hal hb hK
      go_wp2_with fail
      have hal := (Below.refl w15.heap.size w15).alloc (Nat.le_refl _) (.cells #[.int .i64 3, .int .i64 (-3)] 3)
      have hB := hB.below hal
      have hK := holds_b _ _ [false, true] [3, -3] (w15.alloc (.cells #[.int .i64 3, .int .i64 (-3)] 3)) (by intro x hx; unfold I64; simp at hx; omega) hB (ints_lit w15 [3, -3] _ 2 _ rfl rfl rfl (by decide))
      rw [show holdsB [false, true] [3, -3] = false from by decide] at hK
      refine hK.mono ?_
      rintro e w16 ⟨rfl, hb⟩
      have hB := hB.below hb
      have hbw := hbw.trans ((hal.trans (hb.mono (by simp))).mono hbw.size)
      clear hal hb hK
      go_wp2_with fail
      have hal := Below.refl w16.heap.size w16
      have hB := hB.below hal
      have hK := holds_b _ _ [false, true] [] w16 (by intro x hx; simp at hx) hB (ints_nil _)
      rw [show holdsB [false, true] [] = false from by decide] at hK
      refine hK.mono ?_
      rintro e w17 ⟨rfl, hb⟩
      have hB := hB.below hb
      have hbw := hbw.trans ((hal.trans (hb.mono (by simp))).mono hbw.size)
      clear hal hb hK
      go_wp2_with fail
      have hal := (Below.refl w17.heap.size w17).alloc (Nat.le_refl _) (.cells #[.int .i64 0, .int .i64 (-9223372036854775808)] 3)
      have hB := hB.below hal
      have hK := holds_b _ _ [false, true] [0, -9223372036854775808] (w17.alloc (.cells #[.int .i64 0, .int .i64 (-9223372036854775808)] 3)) (by intro x hx; unfold I64; simp at hx; omega) hB (ints_lit w17 [0, -9223372036854775808] _ 2 _ rfl rfl rfl (by decide))
      rw [show holdsB [false, true] [0, -9223372036854775808] = false from by decide] at hK
      refine hK.mono ?_
      rintro e w18 ⟨rfl, hb⟩
      have hB := hB.below hb
      have hbw := hbw.trans ((hal.trans (hb.mono (by simp))).mono hbw.size)
      clear hal hb hK
      clear hB
      go_wp2_with fail
      have hal := (Below.refl w18.heap.size w18).alloc (Nat.le_refl _) (.cells #[.int .i64 (-9223372036854775808), .int .i64 5, .int .i64 (-9223372036854775808)] 3)
      have hK := norm_any _ [-9223372036854775808, 5, -9223372036854775808] (w18.alloc (.cells #[.int .i64 (-9223372036854775808), .int .i64 5, .int .i64 (-9223372036854775808)] 3)) (by intro x hx; unfold I64; simp at hx; omega) (ints_lit w18 [-9223372036854775808, 5, -9223372036854775808] _ 3 _ rfl rfl rfl (by decide))
      rw [names_n4] at hK
      refine hK.mono ?_
      rintro e w19 ⟨vD, rfl, hID, hb⟩
      have hbw := hbw.trans ((hal.trans (hb.mono (by simp))).mono hbw.size)
      clear hal hb hK
      simp only [Option.getD_some, Option.getD_none] at hID
      rw [Option.isNone_some]
      go_wp2_with fail
      have hal := (Below.refl w19.heap.size w19).alloc (Nat.le_refl _) (.cells #[.int .i64 5, .int .i64 (-9223372036854775808)] 3)
      have hID := hID.below hal
      have hK := equal_any _ _ [5, -9223372036854775808] [5, -9223372036854775808] (w19.alloc (.cells #[.int .i64 5, .int .i64 (-9223372036854775808)] 3)) hID (ints_lit w19 [5, -9223372036854775808] _ 2 _ rfl rfl rfl (by decide))
      rw [show decide (([5, -9223372036854775808] : List Int) = [5, -9223372036854775808]) = true from by simp] at hK
      refine hK.mono ?_
      rintro e w20 ⟨rfl, hb⟩
      have hID := hID.below hb
      have hbw := hbw.trans ((hal.trans (hb.mono (by simp))).mono hbw.size)
      clear hal hb hK
      clear hID
      go_wp2_with fail
      have hal := Below.refl w20.heap.size w20
      have hK := less_b 1 (-1) w20 (by unfold I64; omega) (by unfold I64; omega)
      rw [show lessB 1 (-1) = true from by decide] at hK
      refine hK.mono ?_
      rintro e w21 ⟨rfl, hb⟩
      have hbw := hbw.trans ((hal.trans (hb.mono (by simp))).mono hbw.size)
      clear hal hb hK
      go_wp2_with fail
      have hal := Below.refl w21.heap.size w21
      have hK := less_b (-1) 2 w21 (by unfold I64; omega) (by unfold I64; omega)
      rw [show lessB (-1) 2 = true from by decide] at hK
      refine hK.mono ?_
      rintro e w22 ⟨rfl, hb⟩
      have hbw := hbw.trans ((hal.trans (hb.mono (by simp))).mono hbw.size)
      clear hal hb hK
      go_wp2_with fail
      have hal := Below.refl w22.heap.size w22
      have hK := less_b 2 2 w22 (by unfold I64; omega) (by unfold I64; omega)
      rw [show lessB 2 2 = false from by decide] at hK
      refine hK.mono ?_
      rintro e w23 ⟨rfl, hb⟩
      have hbw := hbw.trans ((hal.trans (hb.mono (by simp))).mono hbw.size)
      clear hal hb hK
      go_wp2_with fail
      have hal := Below.refl w23.heap.size w23
      have hK := less_b (-2) 2 w23 (by unfold I64; omega) (by unfold I64; omega)
      rw [show lessB (-2) 2 = false from by decide] at hK
      refine hK.mono ?_
      rintro e w24 ⟨rfl, hb⟩
      have hbw := hbw.trans ((hal.trans (hb.mono (by simp))).mono hbw.size)
      clear hal hb hK
      go_wp2_with fail
      have hal := Below.refl w24.heap.size w24
      have hK := less_b 9223372036854775807 (-9223372036854775808) w24 (by unfold I64; omega) (by unfold I64; omega)
      rw [show lessB 9223372036854775807 (-9223372036854775808) = true from by decide] at hK
      refine hK.mono ?_
      rintro e w25 ⟨rfl, hb⟩
      have hbw := hbw.trans ((hal.trans (hb.mono (by simp))).mono hbw.size)
      clear hal hb hK
      go_wp2_with fail
      have hal := Below.refl w25.heap.size w25
      have hK := less_b 0 1 w25 (by unfold I64; omega) (by unfold I64; omega)
      rw [show lessB 0 1 = true from by decide] at hK
      refine hK.mono ?_
      rintro e w26 ⟨rfl, hb⟩
      have hbw := hbw.trans ((hal.trans (hb.mono (by simp))).mono hbw.size)
      clear hal hb hK
      go_wp2_with (go_at_call 12; refine (known_any _).mono ?_; rintro e w' ⟨rfl, hbk⟩)
      go_ret
      exact ⟨rfl, hbw.trans ((by assumption : Below w26.heap.size w26 _).mono hbw.size)⟩
end L
end Go.Proofs.Ytfpojpiajggncaa
