/- PropNames: the walk. -/
import Derived.Test.YtoffhaamkhfdeaaLU
namespace Go.Proofs.Ytoffhaamkhfdeaa
open Go.RowKit Go.Conc
namespace L
open K

theorem ints_nil (w : World) : Ints w (.slice none 0 0) [] := ⟨none, 0, rfl, by simp, by simp, fun h => absurd h (by simp)⟩
/-- A row of numbers that was laid last. -/
theorem ints_new {w : World} {b : Nat} {l : List Int} {cs : Array Value} (hb : b = w.heap.size) (hcs : cs = (l.map (Value.int .i64)).toArray) (hl : l.length ≤ 1000 := by decide) : Ints (w.alloc (.cells cs 3)) (.slice (some ⟨b, 0, none⟩) l.length l.length) l := by
  subst hcs
  refine ⟨_, l.length, rfl, Nat.le_refl _, by omega, fun _ => ⟨b, 0, rfl, fun j hj => ?_⟩⟩
  refine cell_new hb ?_
  simp [List.getD, hj]
theorem okU_of {n : Nat} {cs : List (List Int)} {A l : List Int} (h : checkU n cs A = 0) (h2 : U.unitsOf n cs A = some l) : okU n cs A l = true := by
  unfold okU
  rw [unitsR_ok h h2]
  simp
theorem okF_of {n : Nat} {cs : List (List Int)} {A : List Int} (h : checkU n cs A = 0) (h2 : U.unitsOf n cs A = none) : okF n cs A = true := by
  unfold okF
  rw [unitsR_fails h h2]
  simp
theorem ok1 : okU 3 U.threeL [] [] = true := okU_of (n := 3) (by decide) (U.unitsOf_run 3 0 _ _ (by decide))
theorem ok2 : okU 3 U.threeL [-1] [-1, 2, -3] = true := okU_of (n := 3) (by decide) (U.unitsOf_run 3 3 _ _ (by decide))
theorem ok3 : okU 3 U.threeL [-2, 3] [1, -2, 3] = true := okU_of (n := 3) (by decide) (U.unitsOf_run 3 3 _ _ (by decide))
theorem ok4 : okU 3 U.threeL [1, 1] [1, -2, 3] = true := okU_of (n := 3) (by decide) (U.unitsOf_run 3 3 _ _ (by decide))
theorem ok5 : okF 3 U.threeL [1, 2] = true := okF_of (n := 3) (by decide) (U.unitsOf_fails 3 3 _ _ (by decide))
theorem ok6 : okF 3 U.threeL [1, -1] = true := okF_of (n := 3) (by decide) (U.unitsOf_fails 3 0 _ _ (by decide))
theorem ok7 : okF 1 [[1, 1], [-1, -1]] [] = true := okF_of (n := 1) (by decide) (U.unitsOf_fails 1 2 _ _ (by decide))
theorem ok8 : okF 0 [[]] [] = true := okF_of (n := 0) (by decide) (U.unitsOf_fails 0 0 _ _ (by decide))
theorem ok9 : okU 2 [[1, -1]] [-2] [-2] = true := okU_of (n := 2) (by decide) (U.unitsOf_run 2 2 _ _ (by decide))
theorem er1 : unitsR 3 U.threeL [4] = ([], false, 3) := unitsR_bad (by decide) (by decide)
theorem er2 : unitsR 3 U.threeL [0] = ([], false, 3) := unitsR_bad (by decide) (by decide)
theorem er3 : unitsR 3 U.threeL [1, -1, -9223372036854775808] = ([], false, 3) := unitsR_bad (by decide) (by decide)

set_option maxRecDepth 100000 in
set_option maxHeartbeats 8000000 in
theorem names_walk (w : World) :
    Calls Try.prog 5 #[] w fun e w' => e = .returned (.bool true) ∧ Below w.heap.size w w' := by
  have HB0 := Lib.hid (Below.refl w.heap.size w)
  go_enter Try.func5, Try.ntmps5
  go_wp2_with fail
  refine (three4_any _).mono ?_
  rintro e w1 ⟨v1, rfl, hL1, hb1⟩
  refine Hid.out ?_
  refine Lib.hid ?_
  have HB1 := Lib.hid (HB0.out.trans (hb1.mono HB0.out.size))
  clear hb1
  have hc := units_any 3 v1 U.threeL (.slice none 0 0) [] (.slice none 0 0) [] w1 (by simp [I64]) threeL_i64 hL1 (by simp) (ints_nil _) (ints_nil _)
  rw [ok1] at hc
  clear hL1
  go_wp2_with fail
  refine hc.mono ?_
  rintro e w2 ⟨rfl, hb2⟩
  refine Hid.out ?_
  refine Lib.hid ?_
  have HB2 := Lib.hid (HB1.out.trans (hb2.mono HB1.out.size))
  clear hb2 hc  HB1
  go_wp2_with fail
  refine (three4_any _).mono ?_
  rintro e w3 ⟨v3, rfl, hL3, hb3⟩
  refine Hid.out ?_
  refine Lib.hid ?_
  have HB3 := Lib.hid (HB2.out.trans (hb3.mono HB2.out.size))
  clear hb3
  have hbb : Below w3.heap.size w3 ((w3.alloc (.cells #[.int .i64 (-1), .int .i64 2, .int .i64 (-3)] 3)).alloc (.cells #[.int .i64 (-1)] 3)) := ((Below.refl _ _).alloc (Nat.le_refl _) _).alloc (by simp) _
  have hc := units_any 3 v3 U.threeL (.slice (some ⟨w3.heap.size, 0, none⟩) 3 3) [-1, 2, -3] (.slice (some ⟨w3.heap.size + 1, 0, none⟩) 1 1) [-1] ((w3.alloc (.cells #[.int .i64 (-1), .int .i64 2, .int .i64 (-3)] 3)).alloc (.cells #[.int .i64 (-1)] 3)) (by simp [I64]) threeL_i64 (hL3.below hbb) (by simp [I64]) (ints_new (l := [-1]) (by simp) rfl) ((ints_new (w := w3) (l := [-1, 2, -3]) rfl rfl).below ((Below.refl _ _).alloc (Nat.le_refl _) _))
  rw [ok2] at hc
  have HBB := Lib.hid (HB3.out.trans (hbb.mono HB3.out.size))
  clear hL3 hbb
  go_wp2_with fail
  refine hc.mono ?_
  rintro e w4 ⟨rfl, hb4⟩
  refine Hid.out ?_
  refine Lib.hid ?_
  have HB4 := Lib.hid (HBB.out.trans (hb4.mono HBB.out.size))
  clear hb4 hc HBB HB3
  go_wp2_with fail
  refine (three4_any _).mono ?_
  rintro e w5 ⟨v5, rfl, hL5, hb5⟩
  refine Hid.out ?_
  refine Lib.hid ?_
  have HB5 := Lib.hid (HB4.out.trans (hb5.mono HB4.out.size))
  clear hb5
  have hbb : Below w5.heap.size w5 ((w5.alloc (.cells #[.int .i64 1, .int .i64 (-2), .int .i64 3] 3)).alloc (.cells #[.int .i64 (-2), .int .i64 3] 3)) := ((Below.refl _ _).alloc (Nat.le_refl _) _).alloc (by simp) _
  have hc := units_any 3 v5 U.threeL (.slice (some ⟨w5.heap.size, 0, none⟩) 3 3) [1, -2, 3] (.slice (some ⟨w5.heap.size + 1, 0, none⟩) 2 2) [-2, 3] ((w5.alloc (.cells #[.int .i64 1, .int .i64 (-2), .int .i64 3] 3)).alloc (.cells #[.int .i64 (-2), .int .i64 3] 3)) (by simp [I64]) threeL_i64 (hL5.below hbb) (by simp [I64]) (ints_new (l := [-2, 3]) (by simp) rfl) ((ints_new (w := w5) (l := [1, -2, 3]) rfl rfl).below ((Below.refl _ _).alloc (Nat.le_refl _) _))
  rw [ok3] at hc
  have HBB := Lib.hid (HB5.out.trans (hbb.mono HB5.out.size))
  clear hL5 hbb
  go_wp2_with fail
  refine hc.mono ?_
  rintro e w6 ⟨rfl, hb6⟩
  refine Hid.out ?_
  refine Lib.hid ?_
  have HB6 := Lib.hid (HBB.out.trans (hb6.mono HBB.out.size))
  clear hb6 hc HBB HB5
  go_wp2_with fail
  refine (three4_any _).mono ?_
  rintro e w7 ⟨v7, rfl, hL7, hb7⟩
  refine Hid.out ?_
  refine Lib.hid ?_
  have HB7 := Lib.hid (HB6.out.trans (hb7.mono HB6.out.size))
  clear hb7
  have hbb : Below w7.heap.size w7 ((w7.alloc (.cells #[.int .i64 1, .int .i64 (-2), .int .i64 3] 3)).alloc (.cells #[.int .i64 1, .int .i64 1] 3)) := ((Below.refl _ _).alloc (Nat.le_refl _) _).alloc (by simp) _
  have hc := units_any 3 v7 U.threeL (.slice (some ⟨w7.heap.size, 0, none⟩) 3 3) [1, -2, 3] (.slice (some ⟨w7.heap.size + 1, 0, none⟩) 2 2) [1, 1] ((w7.alloc (.cells #[.int .i64 1, .int .i64 (-2), .int .i64 3] 3)).alloc (.cells #[.int .i64 1, .int .i64 1] 3)) (by simp [I64]) threeL_i64 (hL7.below hbb) (by simp [I64]) (ints_new (l := [1, 1]) (by simp) rfl) ((ints_new (w := w7) (l := [1, -2, 3]) rfl rfl).below ((Below.refl _ _).alloc (Nat.le_refl _) _))
  rw [ok4] at hc
  have HBB := Lib.hid (HB7.out.trans (hbb.mono HB7.out.size))
  clear hL7 hbb
  go_wp2_with fail
  refine hc.mono ?_
  rintro e w8 ⟨rfl, hb8⟩
  refine Hid.out ?_
  refine Lib.hid ?_
  have HB8 := Lib.hid (HBB.out.trans (hb8.mono HBB.out.size))
  clear hb8 hc HBB HB7
  go_wp2_with fail
  refine (three4_any _).mono ?_
  rintro e w9 ⟨v9, rfl, hL9, hb9⟩
  refine Hid.out ?_
  refine Lib.hid ?_
  have HB9 := Lib.hid (HB8.out.trans (hb9.mono HB8.out.size))
  clear hb9
  have hbb : Below w9.heap.size w9 (w9.alloc (.cells #[.int .i64 1, .int .i64 2] 3)) := (Below.refl _ _).alloc (Nat.le_refl _) _
  have hc := fails_any 3 v9 U.threeL (.slice (some ⟨w9.heap.size, 0, none⟩) 2 2) [1, 2] (w9.alloc (.cells #[.int .i64 1, .int .i64 2] 3)) (by simp [I64]) threeL_i64 (hL9.below hbb) (by simp [I64]) (ints_new (l := [1, 2]) rfl rfl)
  rw [ok5] at hc
  have HBB := Lib.hid (HB9.out.trans (hbb.mono HB9.out.size))
  clear hL9 hbb
  go_wp2_with fail
  refine hc.mono ?_
  rintro e w10 ⟨rfl, hb10⟩
  refine Hid.out ?_
  refine Lib.hid ?_
  have HB10 := Lib.hid (HBB.out.trans (hb10.mono HBB.out.size))
  clear hb10 hc HBB HB9
  go_wp2_with fail
  refine (three4_any _).mono ?_
  rintro e w11 ⟨v11, rfl, hL11, hb11⟩
  refine Hid.out ?_
  refine Lib.hid ?_
  have HB11 := Lib.hid (HB10.out.trans (hb11.mono HB10.out.size))
  clear hb11
  have hbb : Below w11.heap.size w11 (w11.alloc (.cells #[.int .i64 1, .int .i64 (-1)] 3)) := (Below.refl _ _).alloc (Nat.le_refl _) _
  have hc := fails_any 3 v11 U.threeL (.slice (some ⟨w11.heap.size, 0, none⟩) 2 2) [1, -1] (w11.alloc (.cells #[.int .i64 1, .int .i64 (-1)] 3)) (by simp [I64]) threeL_i64 (hL11.below hbb) (by simp [I64]) (ints_new (l := [1, -1]) rfl rfl)
  rw [ok6] at hc
  have HBB := Lib.hid (HB11.out.trans (hbb.mono HB11.out.size))
  clear hL11 hbb
  go_wp2_with fail
  refine hc.mono ?_
  rintro e w12 ⟨rfl, hb12⟩
  refine Hid.out ?_
  refine Lib.hid ?_
  have HB12 := Lib.hid (HBB.out.trans (hb12.mono HBB.out.size))
  clear hb12 hc HBB HB11
  have hbb : Below w12.heap.size w12 (((w12.alloc (.cells #[.int .i64 1, .int .i64 1] 3)).alloc (.cells #[.int .i64 (-1), .int .i64 (-1)] 3)).alloc (.cells #[.slice (some ⟨w12.heap.size, 0, none⟩) 2 2, .slice (some ⟨w12.heap.size + 1, 0, none⟩) 2 2] 23)) := (((Below.refl _ _).alloc (by simp <;> omega) _).alloc (by simp <;> omega) _).alloc (by simp <;> omega) _
  have hl : Lists (((w12.alloc (.cells #[.int .i64 1, .int .i64 1] 3)).alloc (.cells #[.int .i64 (-1), .int .i64 (-1)] 3)).alloc (.cells #[.slice (some ⟨w12.heap.size, 0, none⟩) 2 2, .slice (some ⟨w12.heap.size + 1, 0, none⟩) 2 2] 23)) (.slice (some ⟨w12.heap.size + 1 + 1, 0, none⟩) 2 2) [[1, 1], [-1, -1]] := by
    refine ⟨_, 2, rfl, by simp, by simp, fun _ => ⟨w12.heap.size + 1 + 1, 0, rfl, fun j hj => ?_⟩⟩
    have h3 : j = 0 ∨ j = 1 := by simp at hj; omega
    rcases h3 with rfl | rfl
    · exact ⟨.slice (some ⟨w12.heap.size, 0, none⟩) 2 2, cell_new (by simp) rfl, (ints_new (l := [1, 1]) (by simp) rfl).below (((Below.refl _ _).alloc (by simp <;> omega) _).alloc (by simp <;> omega) _)⟩
    · exact ⟨.slice (some ⟨w12.heap.size + 1, 0, none⟩) 2 2, cell_new (by simp) rfl, (ints_new (l := [-1, -1]) (by simp) rfl).below ((Below.refl _ _).alloc (by simp <;> omega) _)⟩
  have hc := fails_any 1 _ [[1, 1], [-1, -1]] (.slice none 0 0) [] (((w12.alloc (.cells #[.int .i64 1, .int .i64 1] 3)).alloc (.cells #[.int .i64 (-1), .int .i64 (-1)] 3)).alloc (.cells #[.slice (some ⟨w12.heap.size, 0, none⟩) 2 2, .slice (some ⟨w12.heap.size + 1, 0, none⟩) 2 2] 23)) (by simp [I64]) (by simp [I64]) hl (by simp) (ints_nil _)
  rw [ok7] at hc
  have HBB := Lib.hid (HB12.out.trans (hbb.mono HB12.out.size))
  clear hl hbb
  go_wp2_with fail
  refine hc.mono ?_
  rintro e w13 ⟨rfl, hb13⟩
  refine Hid.out ?_
  refine Lib.hid ?_
  have HB13 := Lib.hid (HBB.out.trans (hb13.mono HBB.out.size))
  clear hb13 hc HBB HB12
  have hbb : Below w13.heap.size w13 ((w13.alloc (.cells #[] 3)).alloc (.cells #[.slice (some ⟨w13.heap.size, 0, none⟩) 0 0] 23)) := ((Below.refl _ _).alloc (by simp <;> omega) _).alloc (by simp <;> omega) _
  have hl : Lists ((w13.alloc (.cells #[] 3)).alloc (.cells #[.slice (some ⟨w13.heap.size, 0, none⟩) 0 0] 23)) (.slice (some ⟨w13.heap.size + 1, 0, none⟩) 1 1) [[]] := by
    refine ⟨_, 1, rfl, by simp, by simp, fun _ => ⟨w13.heap.size + 1, 0, rfl, fun j hj => ?_⟩⟩
    have h3 : j = 0 := by simp at hj; omega
    rcases h3 with rfl
    · exact ⟨.slice (some ⟨w13.heap.size, 0, none⟩) 0 0, cell_new (by simp) rfl, _, 0, rfl, by simp, by simp, fun h => absurd h (by simp)⟩
  have hc := fails_any 0 _ [[]] (.slice none 0 0) [] ((w13.alloc (.cells #[] 3)).alloc (.cells #[.slice (some ⟨w13.heap.size, 0, none⟩) 0 0] 23)) (by simp [I64]) (by simp [I64]) hl (by simp) (ints_nil _)
  rw [ok8] at hc
  have HBB := Lib.hid (HB13.out.trans (hbb.mono HB13.out.size))
  clear hl hbb
  go_wp2_with fail
  refine hc.mono ?_
  rintro e w14 ⟨rfl, hb14⟩
  refine Hid.out ?_
  refine Lib.hid ?_
  have HB14 := Lib.hid (HBB.out.trans (hb14.mono HBB.out.size))
  clear hb14 hc HBB HB13
  go_wp2_with fail
  refine (three4_any _).mono ?_
  rintro e w15 ⟨v15, rfl, hL15, hb15⟩
  refine Hid.out ?_
  refine Lib.hid ?_
  have HB15 := Lib.hid (HB14.out.trans (hb15.mono HB14.out.size))
  clear hb15
  have hbb : Below w15.heap.size w15 (w15.alloc (.cells #[.int .i64 4] 3)) := (Below.refl _ _).alloc (Nat.le_refl _) _
  have hc := punits_any 3 v15 U.threeL (.slice (some ⟨w15.heap.size, 0, none⟩) 1 1) [4] (w15.alloc (.cells #[.int .i64 4] 3)) (by simp [I64]) threeL_i64 (hL15.below hbb) (by simp [I64]) (ints_new (l := [4]) rfl rfl)
  have HBB := Lib.hid (HB15.out.trans (hbb.mono HB15.out.size))
  clear hL15 hbb
  go_wp2_with fail
  refine hc.mono ?_
  rintro e w16 ⟨r, rfl, hp, hb16⟩
  obtain ⟨vl16, rfl, _, _⟩ := upost_r hp
  simp only [er1]
  refine Hid.out ?_
  refine Lib.hid ?_
  have HB16 := Lib.hid (HBB.out.trans (hb16.mono HBB.out.size))
  clear hb16 hc HBB HB15 hp
  go_wp2_with fail
  refine (three4_any _).mono ?_
  rintro e w17 ⟨v17, rfl, hL17, hb17⟩
  refine Hid.out ?_
  refine Lib.hid ?_
  have HB17 := Lib.hid (HB16.out.trans (hb17.mono HB16.out.size))
  clear hb17
  have hbb : Below w17.heap.size w17 (w17.alloc (.cells #[.int .i64 0] 3)) := (Below.refl _ _).alloc (Nat.le_refl _) _
  have hc := punits_any 3 v17 U.threeL (.slice (some ⟨w17.heap.size, 0, none⟩) 1 1) [0] (w17.alloc (.cells #[.int .i64 0] 3)) (by simp [I64]) threeL_i64 (hL17.below hbb) (by simp [I64]) (ints_new (l := [0]) rfl rfl)
  have HBB := Lib.hid (HB17.out.trans (hbb.mono HB17.out.size))
  clear hL17 hbb
  go_wp2_with fail
  refine hc.mono ?_
  rintro e w18 ⟨r, rfl, hp, hb18⟩
  obtain ⟨vl18, rfl, _, _⟩ := upost_r hp
  simp only [er2]
  refine Hid.out ?_
  refine Lib.hid ?_
  have HB18 := Lib.hid (HBB.out.trans (hb18.mono HBB.out.size))
  clear hb18 hc HBB HB17 hp
  go_wp2_with fail
  refine (three4_any _).mono ?_
  rintro e w19 ⟨v19, rfl, hL19, hb19⟩
  refine Hid.out ?_
  refine Lib.hid ?_
  have HB19 := Lib.hid (HB18.out.trans (hb19.mono HB18.out.size))
  clear hb19
  have hbb : Below w19.heap.size w19 (w19.alloc (.cells #[.int .i64 1, .int .i64 (-1), .int .i64 (-9223372036854775808)] 3)) := (Below.refl _ _).alloc (Nat.le_refl _) _
  have hc := punits_any 3 v19 U.threeL (.slice (some ⟨w19.heap.size, 0, none⟩) 3 3) [1, -1, -9223372036854775808] (w19.alloc (.cells #[.int .i64 1, .int .i64 (-1), .int .i64 (-9223372036854775808)] 3)) (by simp [I64]) threeL_i64 (hL19.below hbb) (by simp [I64]) (ints_new (l := [1, -1, -9223372036854775808]) rfl rfl)
  have HBB := Lib.hid (HB19.out.trans (hbb.mono HB19.out.size))
  clear hL19 hbb
  go_wp2_with fail
  refine hc.mono ?_
  rintro e w20 ⟨r, rfl, hp, hb20⟩
  obtain ⟨vl20, rfl, _, _⟩ := upost_r hp
  simp only [er3]
  refine Hid.out ?_
  refine Lib.hid ?_
  have HB20 := Lib.hid (HBB.out.trans (hb20.mono HBB.out.size))
  clear hb20 hc HBB HB19 hp
  have hb01 : Below w20.heap.size w20 ((w20.alloc (.cells #[.int .i64 1, .int .i64 (-1)] 3)).alloc (.cells #[.slice (some ⟨w20.heap.size, 0, none⟩) 2 2] 23)) := ((Below.refl _ _).alloc (by simp <;> omega) _).alloc (by simp <;> omega) _
  have hb13 : Below ((w20.alloc (.cells #[.int .i64 1, .int .i64 (-1)] 3)).alloc (.cells #[.slice (some ⟨w20.heap.size, 0, none⟩) 2 2] 23)).heap.size ((w20.alloc (.cells #[.int .i64 1, .int .i64 (-1)] 3)).alloc (.cells #[.slice (some ⟨w20.heap.size, 0, none⟩) 2 2] 23)) ((((w20.alloc (.cells #[.int .i64 1, .int .i64 (-1)] 3)).alloc (.cells #[.slice (some ⟨w20.heap.size, 0, none⟩) 2 2] 23)).alloc (.cells #[.int .i64 (-2)] 3)).alloc (.cells #[.int .i64 (-2)] 3)) := ((Below.refl _ _).alloc (Nat.le_refl _) _).alloc (by simp <;> omega) _
  have hbb : Below w20.heap.size w20 ((((w20.alloc (.cells #[.int .i64 1, .int .i64 (-1)] 3)).alloc (.cells #[.slice (some ⟨w20.heap.size, 0, none⟩) 2 2] 23)).alloc (.cells #[.int .i64 (-2)] 3)).alloc (.cells #[.int .i64 (-2)] 3)) := hb01.trans (hb13.mono hb01.size)
  have hl : Lists ((w20.alloc (.cells #[.int .i64 1, .int .i64 (-1)] 3)).alloc (.cells #[.slice (some ⟨w20.heap.size, 0, none⟩) 2 2] 23)) (.slice (some ⟨w20.heap.size + 1, 0, none⟩) 1 1) [[1, -1]] := by
    refine ⟨_, 1, rfl, by simp, by simp, fun _ => ⟨w20.heap.size + 1, 0, rfl, fun j hj => ?_⟩⟩
    obtain rfl : j = 0 := by simp at hj; omega
    exact ⟨.slice (some ⟨w20.heap.size, 0, none⟩) 2 2, cell_new (by simp) rfl, (ints_new (l := [1, -1]) (by simp) rfl).below ((Below.refl _ _).alloc (Nat.le_refl _) _)⟩
  have hc := units_any 2 _ [[1, -1]] (.slice (some ⟨w20.heap.size + 1 + 1, 0, none⟩) 1 1) [-2] (.slice (some ⟨w20.heap.size + 1 + 1 + 1, 0, none⟩) 1 1) [-2] ((((w20.alloc (.cells #[.int .i64 1, .int .i64 (-1)] 3)).alloc (.cells #[.slice (some ⟨w20.heap.size, 0, none⟩) 2 2] 23)).alloc (.cells #[.int .i64 (-2)] 3)).alloc (.cells #[.int .i64 (-2)] 3)) (by simp [I64]) (by simp [I64]) (hl.below hb13) (by simp [I64]) (ints_new (l := [-2]) (by simp) rfl) ((ints_new (l := [-2]) (w := ((w20.alloc (.cells #[.int .i64 1, .int .i64 (-1)] 3)).alloc (.cells #[.slice (some ⟨w20.heap.size, 0, none⟩) 2 2] 23))) (by simp) rfl).below ((Below.refl _ _).alloc (Nat.le_refl _) _))
  rw [ok9] at hc
  have HBB := Lib.hid (HB20.out.trans (hbb.mono HB20.out.size))
  clear hl hbb hb01 hb13
  go_wp2_with fail
  refine hc.mono ?_
  rintro e w21 ⟨rfl, hb21⟩
  refine Hid.out ?_
  refine Lib.hid ?_
  have HB21 := Lib.hid (HBB.out.trans (hb21.mono HBB.out.size))
  clear hb21 hc HBB HB20
  go_wp2_with fail
  refine (known4_any _).mono ?_
  rintro e wz ⟨rfl, hbz⟩
  refine Hid.out ?_
  refine Lib.hid ?_
  have HBz := Lib.hid (HB21.out.trans (hbz.mono HB21.out.size))
  clear hbz
  go_wp2
  go_ret
  exact ⟨rfl, HBz.out⟩
end L
end Go.Proofs.Ytoffhaamkhfdeaa
