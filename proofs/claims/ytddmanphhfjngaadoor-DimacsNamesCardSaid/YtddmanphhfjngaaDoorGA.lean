/- Contracts of the law's two and known. -/
import Derived.Test.YtddmanphhfjngaaDoorXM
import Derived.Test.YtddmanphhfjngaaDoorRK
import Derived.Test.YtddmanphhfjngaaDoorFC
namespace Go.Proofs.YtddmanphhfjngaaDoor
open Go.RowKit PA
namespace L
open K

def twoL : List (List Int) := [[1, -3], []]
theorem two_lists (w : World) (b c d : Nat) (h1 : Box w c 34 #[.slice (some ⟨b, 0, none⟩) 2 2, .slice (some ⟨d, 0, none⟩) 0 0]) (h2 : Box w b 3 #[.int .i64 1, .int .i64 (-3)]) : Lists w (.slice (some ⟨c, 0, none⟩) 2 2) twoL := by
  refine ⟨_, 2, rfl, by decide, by decide, fun _ => ⟨c, 0, rfl, fun j hj => ?_⟩⟩
  have hj2 : j < 2 := hj
  match j, hj2 with
  | 0, _ => exact ⟨_, h1.cell 0, _, 2, rfl, by decide, by decide, fun _ => ⟨b, 0, rfl, fun i hi => by
      have hi2 : i < 2 := hi
      match i, hi2 with
      | 0, _ => exact h2.cell 0
      | 1, _ => exact h2.cell 1⟩⟩
  | 1, _ => exact ⟨_, h1.cell 1, some ⟨d, 0, none⟩, 0, rfl, by decide, by decide, fun h => absurd h (by decide)⟩
set_option maxHeartbeats 1000000 in
theorem two_any (w : World) : Calls Tryd.prog 21 #[] w fun e w' => ∃ v, e = .returned (.agg #[.int .i64 3, v]) ∧ Lists w' v twoL ∧ Below w.heap.size w w' := by
  go_enter Tryd.func21, Tryd.ntmps21
  go_wp2
  refine bodyPost_ret (res_cell rfl rfl (by simp [go_sem]; rfl)) rfl ?_
  refine ⟨_, rfl, two_lists _ (w.heap.size + 1) _ _ (Box.at _ _ _ (by simp)) (((Box.at _ _ _ (by simp)).alloc _).alloc _), ?_⟩
  exact ((((Below.refl _ _).alloc (Nat.le_refl _) _).alloc (by simp) _).alloc (by simp; omega) _).alloc (by simp; omega) _
def twoT : List UInt8 := [112, 32, 99, 110, 102, 32, 51, 32, 50, 10, 49, 32, 45, 51, 32, 48, 10, 48, 10]
theorem two_fmt : fmtS 3 twoL = (twoT, 0) := by decide +kernel
theorem two_parse : parseS twoT = (3, twoL, 0, 0) := by decide +kernel

set_option maxRecDepth 100000 in
set_option maxHeartbeats 4000000 in
theorem known_any (w : World) (ht : Tab w) : Calls Tryd.prog 12 #[] w fun e w' => e = .returned (.bool true) ∧ Below w.heap.size w w' := by
  have HT := Lib.hid ht
  have hp := fun W => parse_any ⟨twoT.toArray⟩ W (by decide)
  have hpd : (⟨twoT.toArray⟩ : ByteArray).data.toList = twoT := rfl
  rw [hpd, two_parse] at hp
  have HP := Lib.hid hp
  clear hp hpd ht
  go_enter Tryd.func12, Tryd.ntmps12
  go_wp2_with (go_at_call 21; refine (two_any _).mono ?_; rintro e w1 ⟨v1, rfl, hl1, hb1⟩; refine Hid.out ?_)
  refine Lib.hid ?_
  have hf := format_any 3 v1 twoL w1 (by unfold I64; omega) (by simp [twoL, I64]) hl1 (HT.out.below hb1)
  rw [two_fmt] at hf
  have hb1' := Lib.hid hb1
  clear hl1 hb1
  go_wp2_with (go_at_call 13; refine hf.mono ?_; rintro e w2 ⟨rfl, hb2⟩; refine Hid.out ?_)
  refine Lib.hid ?_
  have hB2 := hb1'.out.trans (hb2.mono hb1'.out.size)
  have HB2 := Lib.hid hB2
  clear hb1' hb2 hf hB2
  go_wp2_with (go_at_call 15; refine (HP.out _).mono ?_; rintro e w3 ⟨v3, B3, rfl, hb3, hB3, ho3⟩; refine Hid.out ?_)
  refine Lib.hid ?_
  have hl3 : Lists w3 v3 twoL := ho3.lists (by decide) (by decide)
  have hB3' := HB2.out.trans (hb3.mono HB2.out.size)
  have HB3 := Lib.hid hB3'
  have HL3 := Lib.hid hl3
  clear hl3 hB3' hb3 ho3 hB3
  obtain ⟨p3, c3, rfl, _⟩ := HL3.out
  have hbx := Box.new w3 24 #[.int .i64 3, .slice p3 twoL.length c3]
  have hal : Below w3.heap.size w3 (w3.alloc (.cells #[.int .i64 3, .slice p3 twoL.length c3] 24)) := (Below.refl _ _).alloc (Nat.le_refl _) _
  have HL4 := Lib.hid (HL3.out.below hal)
  have HB4 := Lib.hid (HB3.out.trans (hal.mono HB3.out.size))
  clear hal
  go_wp2
  have x0 := hbx.cell 0
  have x1 := hbx.cell 1
  have xs := hbx.lt
  simp only [List.getElem?_toArray, List.getElem?_cons_zero, List.getElem?_cons_succ] at x0 x1
  generalize hW4 : w3.alloc (.cells #[.int .i64 3, .slice p3 twoL.length c3] 24) = w4 at *
  clear hW4 hbx
  generalize hG3 : w3.heap.size = g3 at *
  clear hG3
  have HP3 : Hid True := Lib.hid trivial
  rw [show twoT.toArray = #[112, 32, 99, 110, 102, 32, 51, 32, 50, 10, 49, 32, 45, 51, 32, 48, 10, 48, 10] from rfl]
  go_region_held3 (fun w' => w'.cell? ⟨g3, 0, none⟩ = some (.int .i64 3) ∧ w'.cell? ⟨g3, 1, none⟩ = some (.slice p3 twoL.length c3) ∧ Below w4.heap.size w4 w')
    (first
      | (exact ⟨x0, x1, (Below.refl _ _).drew⟩)
      | (go_split_ands
         have hbz := Below.trans (by assumption : Below w4.heap.size w4 _) (hbA.mono (Below.size (by assumption : Below w4.heap.size w4 _)))
         exact ⟨(hbz.cell (p := ⟨g3, 0, none⟩) xs).trans x0, (hbz.cell (p := ⟨g3, 1, none⟩) xs).trans x1, hbz⟩))
    (first
      | (go_at_call 21
         refine (two_any _).mono ?_
         rintro e wA ⟨vA, rfl, hLA, hbA⟩)
      | (go_at_call 17
         go_split_ands
         with_reducible refine (keqf_any 3 3 (.slice p3 twoL.length c3) _ twoL twoL _ ?h1 ?h2).mono ?_
         · exact HL4.out.below (by assumption)
         · assumption
         rw [show eqF 3 twoL 3 twoL = true by decide]
         rintro e wA ⟨rfl, hbA⟩))
  all_goals
    rename_i hHeld
    obtain ⟨-, -, hBz⟩ := hHeld
    have hB7 := HB4.out.trans (hBz.mono HB4.out.size)
    go_wp2
    go_ret
    exact ⟨rfl, hB7⟩
end L
end Go.Proofs.YtddmanphhfjngaaDoor
