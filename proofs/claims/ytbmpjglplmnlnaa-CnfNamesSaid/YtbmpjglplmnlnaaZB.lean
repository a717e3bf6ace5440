/- CnfNames: the walk. -/
import Derived.Test.YtbmpjglplmnlnaaZA
import Derived.Test.YtbmpjglplmnlnaaXM
import Derived.Deep.RegionHeld3
namespace Go.Proofs.Ytbmpjglplmnlnaa
open Go.RowKit
namespace L
open K

theorem ownL_small {w : World} {base : Nat} {v : Value} {L : List (List Int)} (h : OwnL w base v L) (h1 : L.length ≤ 60) (h2 : ∀ l ∈ L, l.length ≤ 60) : Lists w v L :=
  h.lists (by omega) fun j hj => by have := h2 _ (mem_getDL hj); omega
theorem n_c1 : checkF 2 [[1, 2], [-1, 3], [-2, -3]] = 3 := by decide
theorem n_c2 : checkF 3 [[1, 2], [0], [-2, -3]] = 3 := by decide
theorem n_f1 : firstF 3 [[1, 2], [-1, 3], [-2, -3]] [false, false, false] = (0, 0) := by decide
theorem n_f2 : firstF 3 [[1, 2], [-1, 3], [-2, -3]] [true, true, true] = (2, 0) := by decide
theorem n_f3 : firstF 3 [[1, 2], [-1, 3], [-2, -3]] [true] = (0, 2) := by decide
theorem n_f4 : firstF 0 [] [] = (-1, 0) := by decide
theorem n_e1 : eqF 3 [[2, 1], [-1, 3], [-2, -3]] 3 [[1, 2], [-1, 3], [-2, -3]] = false := by decide
theorem n_e2 : eqF 3 [[1, 2], [-1, 3], [-2, -3]] 3 [[1, 2], [-1, 3], [-2, -3]] = true := by decide
theorem n_m1 : checkF 0 (List.replicate 1048577 []) = 5 := by
  unfold checkF
  rw [if_neg (by omega), if_pos (by rw [List.length_replicate]; omega)]
theorem n_m2 : checkF 0 (List.replicate 1048576 []) = 0 := by
  unfold checkF
  rw [if_neg (by omega), if_neg (by rw [List.length_replicate]; omega)]
  exact firstE_zero fun l hl => by rw [(List.mem_replicate.1 hl).2]; decide
theorem n_m3 (L : List (List Int)) : checkF (-1) L = 3 := by
  unfold checkF
  rw [if_pos (by omega)]
theorem n_m4 : checkF 1048577 [] = 3 := by decide
theorem rep_i64 (n : Nat) : ∀ l ∈ List.replicate n ([] : List Int), ∀ x ∈ l, I64 x := fun l hl x hx => by
  rw [(List.mem_replicate.1 hl).2] at hx
  cases hx
theorem rep_lists {w : World} {base g n m k : Nat} (h : w.ownsRow base 36 1 (.slice (some ⟨g, 0, none⟩) m m) m (List.replicate m (.slice none 0 0))) (hk : k + n ≤ m) (hn : n ≤ 1048577) (c : Nat) (hc : n ≤ c) :
    Lists w (.slice (some ⟨g, k, none⟩) n c) (List.replicate n []) := by
  have hl : (List.replicate n ([] : List Int)).length = n := List.length_replicate
  refine ⟨some ⟨g, k, none⟩, c, by rw [hl], by rw [hl]; exact hc, by rw [hl]; omega, fun _ => ⟨g, k, rfl, fun j hj => ?_⟩⟩
  rw [hl] at hj
  refine ⟨.slice none 0 0, ?_, ?_⟩
  · rw [h.cellAt (k + j) (by omega), List.getElem?_replicate, if_pos (by omega)]
  · have e : (List.replicate n ([] : List Int)).getD j [] = [] := by rw [List.getD_eq_getElem?_getD, List.getElem?_replicate, if_pos hj]; rfl
    rw [e]
    exact ⟨none, 0, rfl, Nat.le_refl _, by simp, fun h => by simp at h⟩

set_option maxRecDepth 100000 in
set_option maxHeartbeats 2000000 in
theorem names_walk (w : World) : Calls Try.prog 6 #[] w fun e w' => e = .returned (.bool true) ∧ Below w.heap.size w w' := by
  go_enter Try.func6, Try.ntmps6
  go_wp2_with fail
  refine (three_own _).mono ?_
  rintro e w1 ⟨v1, rfl, hO1, hb1⟩
  have hB1 := hb1.alloc hb1.size (.cells #[.int .i64 2, v1] 24)
  have hF1 := Box.new w1 24 #[.int .i64 2, v1]
  have hL1 := (ownL_small hO1 (by simp) (by simp)).below ((Below.refl _ _).alloc (Nat.le_refl _) (.cells #[.int .i64 2, v1] 24))
  obtain ⟨p1, c1, rfl⟩ : ∃ p c, v1 = .slice p 3 c := by obtain ⟨p, c, h, _⟩ := hL1; exact ⟨p, c, h⟩
  clear hO1 hb1
  go_wp2_with fail
  refine (three_own _).mono ?_
  rintro e w2 ⟨v2, rfl, hO2, hb2⟩
  have hB2 := hB1.trans (hb2.mono hB1.size)
  have hF2 := hF1.below hb2 hF1.lt
  have hL1' := hL1.below hb2
  obtain ⟨us, hus, howns, hin⟩ := hO2
  obtain ⟨g2, c2, rfl, hg2, hg2'⟩ := owns_form howns (by simp)
  have hbal : Below w2.heap.size w2 ((w2.alloc (.cells #[.int .i64 3, .slice (some ⟨g2, 0, none⟩) 3 c2] 24)).alloc (.cells #[.int .i64 0] 3)) := ((Below.refl _ _).alloc (Nat.le_refl _) _).alloc (by simp) _
  have howns' := owns_below howns hbal (Nat.le_refl _)
  have d1 : ((w2.alloc (.cells #[.int .i64 3, .slice (some ⟨g2, 0, none⟩) 3 c2] 24)).alloc (.cells #[.int .i64 0] 3)).cell? ⟨g2, 1, none⟩ = some (us.getD 1 (.slice none 0 0)) := by
    rw [World.ownsRow.cellAt howns' 1 (by simp)]
    simp at hus
    simp [List.getD, show 1 < us.length by omega]
  have d1f := World.ownsRow.frozenAt howns' 1
  have hnew : OwnI ((w2.alloc (.cells #[.int .i64 3, .slice (some ⟨g2, 0, none⟩) 3 c2] 24)).alloc (.cells #[.int .i64 0] 3)) (w1.alloc (.cells #[.int .i64 2, .slice p1 3 c1] 24)).heap.size (.slice (some ⟨w2.heap.size + 1, 0, none⟩) 1 1) [0] :=
    owns_of_box (Box.at _ _ _ (by simp)) (by have := hb2.size; omega) rfl rfl (by simp [maxLen])
  have hput := OwnL.put (i := 1) hus howns' (fun j hj => owns_below (hin j hj) hbal (Nat.le_refl _)) hnew
  have hG : Box ((w2.alloc (.cells #[.int .i64 3, .slice (some ⟨g2, 0, none⟩) 3 c2] 24)).alloc (.cells #[.int .i64 0] 3)) w2.heap.size 24 #[.int .i64 3, .slice (some ⟨g2, 0, none⟩) 3 c2] := (Box.new _ _ _).alloc _
  have hLg := ownL_small hput (by simp) (by simp)
  have hG' := hG.setOther ⟨g2, 1, none⟩ (by simp; omega) (.slice (some ⟨w2.heap.size + 1, 0, none⟩) 1 1)
  have hF3 := (hF2.below hbal hF2.lt).setOther ⟨g2, 1, none⟩ (by have := hg2; simp at this ⊢; omega) (.slice (some ⟨w2.heap.size + 1, 0, none⟩) 1 1)
  have hB3 := (hB2.trans (hbal.mono hB2.size)).setCell (p := ⟨g2, 1, none⟩) (by have := hB1.size; simp at this hg2 ⊢; omega) (.slice (some ⟨w2.heap.size + 1, 0, none⟩) 1 1)
  have hLf : Lists (((w2.alloc (.cells #[.int .i64 3, .slice (some ⟨g2, 0, none⟩) 3 c2] 24)).alloc (.cells #[.int .i64 0] 3)).setCell ⟨g2, 1, none⟩ (.slice (some ⟨w2.heap.size + 1, 0, none⟩) 1 1)) (.slice p1 3 c1) [[1, 2], [-1, 3], [-2, -3]] :=
    hL1.below ((hb2.trans (hbal.mono hb2.size)).setCell (p := ⟨g2, 1, none⟩) hg2 _)
  clear hg2'
  clear hnew hput howns howns' hin hus hbal hG hF2 hL1' hL1 hF1 hB2 hB1 hb2
  have x0 := hF3.cell 0
  have x1 := hF3.cell 1
  have hq1 := fcheck_any 2 _ _ _ (by simp [I64]) three_i64 hLf
  rw [n_c1] at hq1
  simp only [List.getElem?_toArray, List.getElem?_cons_zero, List.getElem?_cons_succ] at x0 x1
  go_wp2_with fail
  refine hq1.mono ?_
  rintro e w3 ⟨rfl, hb3⟩
  have hG3 := hG'.below hb3 hG'.lt
  have y0 : w3.cell? ⟨w2.heap.size, 0, none⟩ = some (.int .i64 3) := hG3.cell 0
  have y1 : w3.cell? ⟨w2.heap.size, 1, none⟩ = some (.slice (some ⟨g2, 0, none⟩) 3 c2) := hG3.cell 1
  have hq2 := fcheck_any 3 _ _ _ (by simp [I64]) (by simp [I64]) (hLg.below hb3)
  have hset : List.set [[1, 2], [-1, 3], [-2, -3]] 1 [0] = [[1, 2], [0], [-2, -3]] := rfl
  rw [hset, n_c2] at hq2
  have hB3' := hB3.trans (hb3.mono hB3.size)
  clear hset hq1 hG3 hG' hF3 hB3 hLf hLg hb3 x0 x1 d1 d1f
  go_wp2_with fail
  refine hq2.mono ?_
  rintro e w4 ⟨rfl, hb4⟩
  have hB4 := hB3'.trans (hb4.mono hB3'.size)
  clear hq2 hB3' hb4 y0 y1
  go_wp2_with fail
  refine (three_any _).mono ?_
  rintro e a7 ⟨u7, rfl, hT7, hc7⟩
  have hb7 := hB4.trans (hc7.mono hB4.size)
  have hM7 := bools_lit a7 [false, false, false] #[.bool false, .bool false, .bool false] 3 a7.heap.size 4 rfl rfl rfl (by simp)
  have hal7 : Below a7.heap.size a7 (a7.alloc (.cells #[.bool false, .bool false, .bool false] 4)) := (Below.refl _ _).alloc (Nat.le_refl _) _
  have hf7 := first_any 3 u7 _ _ _ _ (by simp [I64]) three_i64 (hT7.below hal7) hM7
  rw [n_f1] at hf7
  go_wp2_with fail
  refine hf7.mono ?_
  rintro e b7 ⟨rfl, hd7⟩
  have hB7 := (hb7.trans (hal7.mono hb7.size)).trans (hd7.mono (by have := hb7.size; simp; omega))
  clear hT7 hc7 hb7 hM7 hal7 hf7 hd7 hB4
  go_wp2_with fail
  refine (three_any _).mono ?_
  rintro e a8 ⟨u8, rfl, hT8, hc8⟩
  have hb8 := hB7.trans (hc8.mono hB7.size)
  have hM8 := bools_lit a8 [true, true, true] #[.bool true, .bool true, .bool true] 3 a8.heap.size 4 rfl rfl rfl (by simp)
  have hal8 : Below a8.heap.size a8 (a8.alloc (.cells #[.bool true, .bool true, .bool true] 4)) := (Below.refl _ _).alloc (Nat.le_refl _) _
  have hf8 := first_any 3 u8 _ _ _ _ (by simp [I64]) three_i64 (hT8.below hal8) hM8
  rw [n_f2] at hf8
  go_wp2_with fail
  refine hf8.mono ?_
  rintro e b8 ⟨rfl, hd8⟩
  have hB8 := (hb8.trans (hal8.mono hb8.size)).trans (hd8.mono (by have := hb8.size; simp; omega))
  clear hT8 hc8 hb8 hM8 hal8 hf8 hd8 hB7
  go_wp2_with fail
  refine (three_any _).mono ?_
  rintro e a9 ⟨u9, rfl, hT9, hc9⟩
  have hb9 := hB8.trans (hc9.mono hB8.size)
  have hM9 := bools_lit a9 [true] #[.bool true] 1 a9.heap.size 4 rfl rfl rfl (by simp)
  have hal9 : Below a9.heap.size a9 (a9.alloc (.cells #[.bool true] 4)) := (Below.refl _ _).alloc (Nat.le_refl _) _
  have hf9 := first_any 3 u9 _ _ _ _ (by simp [I64]) three_i64 (hT9.below hal9) hM9
  rw [n_f3] at hf9
  go_wp2_with fail
  refine hf9.mono ?_
  rintro e b9 ⟨rfl, hd9⟩
  have hB9 := (hb9.trans (hal9.mono hb9.size)).trans (hd9.mono (by have := hb9.size; simp; omega))
  clear hT9 hc9 hb9 hM9 hal9 hf9 hd9 hB8
  have hf10 := first_any 0 (.slice none 0 0) (.slice none 0 0) [] [] b9 (by simp [I64]) (by simp) (Lists.nil _ _ _) ⟨none, 0, rfl, Nat.le_refl _, by simp, fun h => by simp at h⟩
  rw [n_f4] at hf10
  go_wp2_with fail
  refine hf10.mono ?_
  rintro e b10 ⟨rfl, hd10⟩
  have hB10 := hB9.trans (hd10.mono hB9.size)
  clear hf10 hd10 hB9
  go_wp2_with fail
  refine (three_own _).mono ?_
  rintro e w5 ⟨v5, rfl, hO5, hb5⟩
  have hB5 := hB10.trans (hb5.mono hB10.size)
  obtain ⟨us, hus, howns, hin⟩ := hO5
  obtain ⟨g5, c5, rfl, hg5, hg5'⟩ := owns_form howns (by simp)
  have hbal : Below w5.heap.size w5 ((w5.alloc (.cells #[.int .i64 3, .slice (some ⟨g5, 0, none⟩) 3 c5] 24)).alloc (.cells #[.int .i64 2, .int .i64 1] 3)) := ((Below.refl _ _).alloc (Nat.le_refl _) _).alloc (by simp) _
  have howns' := owns_below howns hbal (Nat.le_refl _)
  have d1 : ((w5.alloc (.cells #[.int .i64 3, .slice (some ⟨g5, 0, none⟩) 3 c5] 24)).alloc (.cells #[.int .i64 2, .int .i64 1] 3)).cell? ⟨g5, 0, none⟩ = some (us.getD 0 (.slice none 0 0)) := by
    rw [World.ownsRow.cellAt howns' 0 (by simp)]
    simp at hus
    simp [List.getD, show 0 < us.length by omega]
  have d1f := World.ownsRow.frozenAt howns' 0
  have hnew : OwnI ((w5.alloc (.cells #[.int .i64 3, .slice (some ⟨g5, 0, none⟩) 3 c5] 24)).alloc (.cells #[.int .i64 2, .int .i64 1] 3)) b10.heap.size (.slice (some ⟨w5.heap.size + 1, 0, none⟩) 2 2) [2, 1] :=
    owns_of_box (Box.at _ _ _ (by simp)) (by have := hb5.size; omega) rfl rfl (by simp [maxLen])
  have hput := OwnL.put (i := 0) hus howns' (fun j hj => owns_below (hin j hj) hbal (Nat.le_refl _)) hnew
  have hG : Box ((w5.alloc (.cells #[.int .i64 3, .slice (some ⟨g5, 0, none⟩) 3 c5] 24)).alloc (.cells #[.int .i64 2, .int .i64 1] 3)) w5.heap.size 24 #[.int .i64 3, .slice (some ⟨g5, 0, none⟩) 3 c5] := (Box.new _ _ _).alloc _
  have hLt := ownL_small hput (by simp) (by simp)
  have hG5 := hG.setOther ⟨g5, 0, none⟩ (by simp; omega) (.slice (some ⟨w5.heap.size + 1, 0, none⟩) 2 2)
  have hB6 := (hB5.trans (hbal.mono hB5.size)).setCell (p := ⟨g5, 0, none⟩) (by have := hB10.size; simp at this hg5 ⊢; omega) (.slice (some ⟨w5.heap.size + 1, 0, none⟩) 2 2)
  have hset : List.set [[1, 2], [-1, 3], [-2, -3]] 0 [2, 1] = [[2, 1], [-1, 3], [-2, -3]] := rfl
  rw [hset] at hLt
  clear hg5'
  clear hset hnew hput howns howns' hin hus hbal hG hB5 hB10 hb5
  go_wp2_with fail
  generalize ((w5.alloc (.cells #[.int .i64 3, .slice (some ⟨g5, 0, none⟩) 3 c5] 24)).alloc (.cells #[.int .i64 2, .int .i64 1] 3)).setCell ⟨g5, 0, none⟩ (.slice (some ⟨w5.heap.size + 1, 0, none⟩) 2 2) = w6 at *
  have x0 : w6.cell? ⟨w5.heap.size, 0, none⟩ = some (.int .i64 3) := hG5.cell 0
  have x1 : w6.cell? ⟨w5.heap.size, 1, none⟩ = some (.slice (some ⟨g5, 0, none⟩) 3 c5) := hG5.cell 1
  have xs := hG5.lt
  have HLT := Lib.hid hLt
  have HB6 := Lib.hid hB6
  have HG5 := Lib.hid hG5
  clear hLt hB6 hG5 d1 d1f
  go_region_held3 (fun w' => w'.cell? ⟨w5.heap.size, 0, none⟩ = some (.int .i64 3) ∧ w'.cell? ⟨w5.heap.size, 1, none⟩ = some (.slice (some ⟨g5, 0, none⟩) 3 c5) ∧ Below w6.heap.size w6 w')
    (first
      | (exact ⟨x0, x1, (Below.refl _ _).drew⟩)
      | (go_split_ands
         have hbz := Below.trans (by assumption : Below w6.heap.size w6 _) (hbA.mono (Below.size (by assumption : Below w6.heap.size w6 _)))
         exact ⟨(hbz.cell (p := ⟨w5.heap.size, 0, none⟩) xs).trans x0, (hbz.cell (p := ⟨w5.heap.size, 1, none⟩) xs).trans x1, hbz⟩))
    (first
      | (go_at_call 21
         refine (three_any _).mono ?_
         rintro e wA ⟨vA, rfl, hLA, hbA⟩)
      | (go_at_call 19
         go_split_ands
         with_reducible refine (ceqf_any 3 3 (.slice (some ⟨g5, 0, none⟩) 3 c5) _ [[2, 1], [-1, 3], [-2, -3]] [[1, 2], [-1, 3], [-2, -3]] _ ?h1 ?h2).mono ?_
         · exact HLT.out.below (by assumption)
         · assumption
         rw [n_e1]
         rintro e wA ⟨rfl, hbA⟩)
      | (go_at_call 19
         go_split_ands
         with_reducible refine (ceqf_any 3 3 _ _ [[1, 2], [-1, 3], [-2, -3]] [[1, 2], [-1, 3], [-2, -3]] _ ?h3 ?h4).mono ?_
         · first | assumption | exact Lists.below (by assumption) (by assumption)
         · first | assumption | exact Lists.below (by assumption) (by assumption)
         rw [n_e2]
         rintro e wA ⟨rfl, hbA⟩))
  all_goals
    rename_i hHeld
    obtain ⟨-, -, hBz⟩ := hHeld
    have hB7 := HB6.out.trans (hBz.mono HB6.out.size)
    clear hBz hbA x0 x1 xs
    obtain ⟨i0, hi, hz0, hz1, hz2⟩ := info_parts info36
    go_wp2_with (at_make; refine wpList_make_full _ rfl _ _ 22 rfl w.heap.size 36 i0 (.slice none 0 0) 1 Try.underlying22 hi hz0 hz1 .i64 .i64 _ _ 1048577 rfl rfl rfl rfl (by rw [hz2]; omega) (by unfold maxLen; omega) hB7.size ?_)
    intro w8 hown8 hgrow8
    rw [toList_madeCells_one] at hown8
    have hB8 := hB7.grown hgrow8 hB7.size (fun k h => by cases h)
    have hg8 := (hown8.lt _ rfl).2
    generalize wA.heap.size = gm at *
    have hown9 := hown8.alloc (.cells #[.int .i64 0, .slice (some ⟨gm, 0, none⟩) 1048577 1048577] 24)
    have hX9 := Box.new w8 24 #[.int .i64 0, .slice (some ⟨gm, 0, none⟩) 1048577 1048577]
    have hB9 := hB8.alloc hB8.size (.cells #[.int .i64 0, .slice (some ⟨gm, 0, none⟩) 1048577 1048577] 24)
    have hq1 := fcheck_any 0 _ _ _ (by simp [I64]) (rep_i64 _) (rep_lists (n := 1048577) (k := 0) hown9 (by omega) (by omega) 1048577 (by omega))
    rw [n_m1] at hq1
    have hs8 := hB8.size
    clear hown8 hgrow8 hB7 hB8
    go_wp2_with fail
    refine hq1.mono ?_
    rintro e w10 ⟨rfl, hb10⟩
    have hX10 := hX9.below hb10 hX9.lt
    have hown10 := owns_below hown9 hb10 (Nat.le_refl _)
    have hB11 := hB9.trans (hb10.mono hB9.size)
    have y0 : w10.cell? ⟨w8.heap.size, 0, none⟩ = some (.int .i64 0) := hX10.cell 0
    have y1 : w10.cell? ⟨w8.heap.size, 1, none⟩ = some (.slice (some ⟨gm, 0, none⟩) 1048577 1048577) := hX10.cell 1
    have y1f := hX10.frozen 1
    have hne : gm ≠ w8.heap.size := by omega
    have hX11 := hX10.set 1 (.slice (some ⟨gm, 1, none⟩) 1048576 1048576)
    have hown11 : (w10.setCell ⟨w8.heap.size, 1, none⟩ (.slice (some ⟨gm, 1, none⟩) 1048576 1048576)).ownsRow w.heap.size 36 1 (.slice (some ⟨gm, 0, none⟩) 1048577 1048577) 1048577 (List.replicate 1048577 (.slice none 0 0)) := owns_of_block hown10 fun k hk => Deep.blk_setCell_other w10 _ _ k (by simp only [Value.ownBlock, Option.some.injEq] at hk; subst hk; exact hne)
    have hB12 := hB11.setCell (p := ⟨w8.heap.size, 1, none⟩) hs8 (.slice (some ⟨gm, 1, none⟩) 1048576 1048576)
    clear hq1 hb10 hown9 hown10 hX9 hX10 hB9 hB11 hne hg8
    have hLM := rep_lists (n := 1048576) (k := 1) hown11 (by omega) (by omega) 1048576 (by omega)
    have hq2 := fcheck_any 0 _ _ _ (by simp [I64]) (rep_i64 _) hLM
    rw [n_m2] at hq2
    go_wp2_with fail
    refine hq2.mono ?_
    rintro e w11 ⟨rfl, hb11⟩
    have hX12 := hX11.below hb11 hX11.lt
    have hB13 := hB12.trans (hb11.mono hB12.size)
    have hLM2 := hLM.below hb11
    have hq3 := fcheck_any 1048577 (.slice none 0 0) [] w11 (by simp [I64]) (by simp) (Lists.nil _ _ _)
    rw [n_m4] at hq3
    clear hq2 hb11 hX11 hB12 hLM hown11 y0 y1 y1f
    go_wp2_with fail
    refine hq3.mono ?_
    rintro e w12 ⟨rfl, hb12⟩
    have hX13 := hX12.below hb12 hX12.lt
    have hB14 := hB13.trans (hb12.mono hB13.size)
    have z1 : w12.cell? ⟨w8.heap.size, 1, none⟩ = some (.slice (some ⟨gm, 1, none⟩) 1048576 1048576) := hX13.cell 1
    have hq4 := fcheck_any (-1) _ _ _ (by simp [I64]) (rep_i64 _) (hLM2.below hb12)
    rw [n_m3] at hq4
    clear hq3 hb12 hX12 hB13 hLM2 hX13
    go_wp2_with fail
    refine hq4.mono ?_
    rintro e w13 ⟨rfl, hb13⟩
    have hB15 := hB14.trans (hb13.mono hB14.size)
    clear hq4 hb13 hB14 z1
    go_wp2_with fail
    refine (known_any _).mono ?_
    rintro e w14 ⟨rfl, hb14⟩
    go_wp2
    go_ret
    exact ⟨rfl, hB15.trans (hb14.mono hB15.size)⟩
end L
end Go.Proofs.Ytbmpjglplmnlnaa
