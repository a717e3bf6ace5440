/- The queue's copy. -/
import Derived.Test.YtenmgkomffnjaaaHP
import Derived.Deep.RegionHeld3
import Derived.Laws.EntriesVeiled
namespace Go.Proofs.Ytenmgkomffnjaaa
open Go.RowKit
namespace L
open K HP
set_option maxRecDepth 100000

/-- Three rows of a copy, from block b on. -/
structure Rows3 (b : Nat) (w : World) (s : Spot) (A : List Int) (R : List Nat) (Q : List Int) : Prop where
  all : w.ownsRow b 57 2 (.slice (some ⟨s.ga, 0, none⟩) A.length s.ca) A.length (vcells A)
  tree : w.ownsRow b 3 1 (.slice (some ⟨s.gt, 0, none⟩) R.length s.ct) R.length (ncells R)
  place : w.ownsRow b 3 1 (.slice (some ⟨s.gp, 0, none⟩) A.length s.cp) A.length (icells Q)
  ne_at : s.ga ≠ s.gt
  ne_ap : s.ga ≠ s.gp
  ne_tp : s.gt ≠ s.gp

theorem vcells_one (A : List Int) : ∀ u ∈ vcells A, u.oneCell' = true := by
  have key : ∀ k, ∀ u ∈ vcellsF k A, u.oneCell' = true := by
    induction A with
    | nil => intro k u hu; cases hu
    | cons a l ih =>
      intro k u hu
      simp only [vcellsF, List.mem_cons] at hu
      rcases hu with rfl | rfl | hu
      · rfl
      · rfl
      · exact ih (k + 1) u hu
  exact key 0
theorem ncells_one (R : List Nat) : ∀ u ∈ ncells R, u.oneCell' = true := by intro u hu; simp only [ncells, List.mem_map] at hu; obtain ⟨x, _, rfl⟩ := hu; rfl
theorem icells_one (R : List Int) : ∀ u ∈ icells R, u.oneCell' = true := by intro u hu; simp only [icells, List.mem_map] at hu; obtain ⟨x, _, rfl⟩ := hu; rfl

abbrev copyQ (s : Spot) (n m : Nat) : Value := .agg #[.slice (some ⟨s.ga, 0, none⟩) n s.ca, .func (.func 30) #[] #[], .slice (some ⟨s.gt, 0, none⟩) m s.ct, .slice (some ⟨s.gp, 0, none⟩) n s.cp]

theorem box_next {W w' : World} {b : Nat} {T : TypeId} {cs : Array Value} (hb : Below W.heap.size W w') (h : Box W b T cs) : Box w' b T cs := h.below hb h.lt
set_option maxHeartbeats 8000000 in
theorem copyQ_any {T : TypeId} {lo hi : Nat} {w : World} {s : Spot} {A : List Int} {R : List Nat} {Q : List Int} (h : Mem T lo hi w s A R Q) (hR : R.length ≤ 1048576) :
    Calls Try.prog 36 #[.pointer (some ⟨s.g, 0, none⟩)] w fun e w' => ∃ s', e = .returned (copyQ s' A.length R.length) ∧ Rows3 w.heap.size w' s' A R Q ∧ Below w.heap.size w w' := by
  have hsm := h.small
  have hw := h.hi_w
  have hg := h.hi_g
  have hb1 : Below w.heap.size w (w.alloc (.cells #[.slice none 0 0, .nilFunc, .slice none 0 0, .slice none 0 0] 60)) := (Below.refl _ _).alloc (Nat.le_refl _) _
  have hx1 : Box (w.alloc (.cells #[.slice none 0 0, .nilFunc, .slice none 0 0, .slice none 0 0] 60)) w.heap.size 60 #[.slice none 0 0, .nilFunc, .slice none 0 0, .slice none 0 0] := Box.new _ _ _
  have HM : Hid (∀ W, Below w.heap.size (w.alloc (.cells #[.slice none 0 0, .nilFunc, .slice none 0 0, .slice none 0 0] 60)) W → Mem T lo hi W s A R Q) := Lib.hid fun W hb => h.below (hb1.trans hb) hw
  have HB1 := Lib.hid hb1
  have HX1 := Lib.hid hx1
  have hs1 : w.heap.size < (w.alloc (.cells #[.slice none 0 0, .nilFunc, .slice none 0 0, .slice none 0 0] 60)).heap.size := by simp
  clear h hb1 hx1
  obtain ⟨sg, sga, sgt, sgp, ca, ct, cp⟩ := s
  simp only at *
  go_enter Try.func36, Try.ntmps36
  go_wp2
  generalize w.alloc (.cells #[.slice none 0 0, .nilFunc, .slice none 0 0, .slice none 0 0] 60) = w1 at *
  have hm1 := HM.out _ (Below.refl _ w1)
  have g0 := hm1.box.cell 0
  have g1 := hm1.box.cell 1
  have g2 := hm1.box.cell 2
  have g3 := hm1.box.cell 3
  simp only [List.getElem?_toArray, List.getElem?_cons_zero, List.getElem?_cons_succ] at g0 g1 g2 g3
  have hne : sg ≠ w.heap.size := by omega
  clear hm1
  go_region_held3 (fun w' => w'.cell? ⟨sg, 0, none⟩ = some (.slice (some ⟨sga, 0, none⟩) A.length ca) ∧ w'.cell? ⟨sg, 1, none⟩ = some (.func (.func 30) #[] #[]) ∧ w'.cell? ⟨sg, 2, none⟩ = some (.slice (some ⟨sgt, 0, none⟩) R.length ct) ∧ w'.cell? ⟨sg, 3, none⟩ = some (.slice (some ⟨sgp, 0, none⟩) A.length cp) ∧ Below w.heap.size w1 w')
    (first
      | (exact ⟨g0, g1, g2, g3, (Below.refl _ _).drew⟩)
      | (go_split_ands
         have hbz := Below.trans (by assumption : Below w.heap.size w1 _) (hbP.mono (Nat.le_trans (Nat.le_of_lt hs1) (Below.size (by assumption : Below w.heap.size w1 _))))
         have hmz := (HM.out _ hbz).box
         exact ⟨hmz.cell 0, hmz.cell 1, hmz.cell 2, hmz.cell 3, hbz⟩)
      | (go_split_ands
         have hbz := Below.trans (by assumption : Below w.heap.size w1 _) (hbT.mono (Nat.le_trans (Nat.le_of_lt hs1) (Below.size (by assumption : Below w.heap.size w1 _))))
         have hmz := (HM.out _ hbz).box
         exact ⟨hmz.cell 0, hmz.cell 1, hmz.cell 2, hmz.cell 3, hbz⟩)
      | (go_split_ands
         have hbz := Below.trans (by assumption : Below w.heap.size w1 _) (hbV.mono (Nat.le_trans (Nat.le_of_lt hs1) (Below.size (by assumption : Below w.heap.size w1 _))))
         have hmz := (HM.out _ hbz).box
         exact ⟨hmz.cell 0, hmz.cell 1, hmz.cell 2, hmz.cell 3, hbz⟩)
      | (go_split_ands
         exact ⟨(World.cell?_of_block (four_other hne)).trans (by assumption), (World.cell?_of_block (four_other hne)).trans (by assumption), (World.cell?_of_block (four_other hne)).trans (by assumption), (World.cell?_of_block (four_other hne)).trans (by assumption), four_below (by assumption) (Nat.le_refl _)⟩))
    (first
      | (go_at_call 40
         go_split_ands
         with_reducible refine (clone_var (HM.out _ (by assumption)).all hsm (vcells_one A)).mono ?_
         rintro e wV ⟨gA, cA, rfl, hoA, hbV⟩
         have hbq := box_next hbV (by first | assumption | exact Box.drew HX1.out : Box _ w.heap.size 60 #[.slice none 0 0, .nilFunc, .slice none 0 0, .slice none 0 0])
         have y0 := hbq.cell 0
         have y1 := hbq.cell 1
         have y2 := hbq.cell 2
         have y3 := hbq.cell 3
         have z0 := hbq.frozen 0
         have z1 := hbq.frozen 1
         have z2 := hbq.frozen 2
         have z3 := hbq.frozen 3
         simp only [List.getElem?_toArray, List.getElem?_cons_zero, List.getElem?_cons_succ] at y0 y1 y2 y3)
      | (go_at_call 41
         go_split_ands
         with_reducible refine (clone_int (HM.out _ (by assumption)).tree hR (ncells_one R)).mono ?_
         rintro e wT ⟨gT, cT, rfl, hoT, hbT⟩
         have hbq := box_next hbT (by first | assumption | exact Box.drew HX1.out : Box _ w.heap.size 60 #[.slice none 0 0, .nilFunc, .slice none 0 0, .slice none 0 0])
         have y0 := hbq.cell 0
         have y1 := hbq.cell 1
         have y2 := hbq.cell 2
         have y3 := hbq.cell 3
         have z0 := hbq.frozen 0
         have z1 := hbq.frozen 1
         have z2 := hbq.frozen 2
         have z3 := hbq.frozen 3
         simp only [List.getElem?_toArray, List.getElem?_cons_zero, List.getElem?_cons_succ] at y0 y1 y2 y3)
      | (go_at_call 41
         go_split_ands
         with_reducible refine (clone_int (HM.out _ (by assumption)).place hsm (icells_one Q)).mono ?_
         rintro e wP ⟨gP, cP, rfl, hoP, hbP⟩
         have hbq := box_next hbP (by first | assumption | exact Box.drew HX1.out : Box _ w.heap.size 60 #[.slice none 0 0, .nilFunc, .slice none 0 0, .slice none 0 0])
         have y0 := hbq.cell 0
         have y1 := hbq.cell 1
         have y2 := hbq.cell 2
         have y3 := hbq.cell 3
         have z0 := hbq.frozen 0
         have z1 := hbq.frozen 1
         have z2 := hbq.frozen 2
         have z3 := hbq.frozen 3
         simp only [List.getElem?_toArray, List.getElem?_cons_zero, List.getElem?_cons_succ] at y0 y1 y2 y3))
  have e1 : w1.heap.size ≤ w1.drew.heap.size := Nat.le_refl _
  have lA : w1.drew.heap.size ≤ gA ∧ gA < wV.heap.size := hoA.lt _ rfl
  have lT : wV.heap.size ≤ gT ∧ gT < wT.heap.size := hoT.lt _ rfl
  have lP : wT.heap.size ≤ gP ∧ gP < wP.heap.size := hoP.lt _ rfl
  have oA := owns_below (owns_below hoA hbT (Nat.le_refl _)) hbP (Nat.le_refl _)
  have oT := owns_below hoT hbP (Nat.le_refl _)
  have hbe : Below w.heap.size w wP := HB1.out.trans ((Below.refl w.heap.size w1).drew.trans ((hbV.mono (by omega)).trans ((hbT.mono (by omega)).trans (hbP.mono (by omega)))))
  have hbx := box4 (d0 := .slice (some ⟨gA, 0, none⟩) A.length cA) (d1 := .func (.func 30) #[] #[]) (d2 := .slice (some ⟨gT, 0, none⟩) R.length cT) (d3 := .slice (some ⟨gP, 0, none⟩) A.length cP) hbq
  have q0 := hbx.cell 0
  have q1 := hbx.cell 1
  have q2 := hbx.cell 2
  have q3 := hbx.cell 3
  simp only [List.getElem?_toArray, List.getElem?_cons_zero, List.getElem?_cons_succ] at q0 q1 q2 q3
  have HR3 : Hid (Rows3 w.heap.size ((((wP.setCell ⟨w.heap.size, 0, none⟩ (.slice (some ⟨gA, 0, none⟩) A.length cA)).setCell ⟨w.heap.size, 1, none⟩ (.func (.func 30) #[] #[])).setCell ⟨w.heap.size, 2, none⟩ (.slice (some ⟨gT, 0, none⟩) R.length cT)).setCell ⟨w.heap.size, 3, none⟩ (.slice (some ⟨gP, 0, none⟩) A.length cP)) ⟨0, gA, gT, gP, cA, cT, cP⟩ A R Q) := Lib.hid
    ⟨owns_of_block (owns_base oA (by omega)) fun k hk => by cases hk; exact four_other (show gA ≠ w.heap.size by omega),
     owns_of_block (owns_base oT (by omega)) fun k hk => by cases hk; exact four_other (show gT ≠ w.heap.size by omega),
     owns_of_block (owns_base hoP (by omega)) fun k hk => by cases hk; exact four_other (show gP ≠ w.heap.size by omega),
     by show gA ≠ gT; omega, by show gA ≠ gP; omega, by show gT ≠ gP; omega⟩
  have HBE := Lib.hid (four_below (b := w.heap.size) (d0 := .slice (some ⟨gA, 0, none⟩) A.length cA) (d1 := .func (.func 30) #[] #[]) (d2 := .slice (some ⟨gT, 0, none⟩) R.length cT) (d3 := .slice (some ⟨gP, 0, none⟩) A.length cP) hbe (Nat.le_refl _))
  clear hoA hoT hoP hbV hbT hbP oA oT hbe hbx hbq g0 g1 g2 g3
  go_wp2
  (try simp only [Exit.inBlock, Exit.then])
  refine bodyPost_ret (res_cell rfl rfl (by simp [go_sem, q0, q1, q2, q3]; rfl)) rfl ?_
  exact ⟨⟨0, gA, gT, gP, cA, cT, cP⟩, rfl, HR3.out, HBE.out⟩
end L
end Go.Proofs.Ytenmgkomffnjaaa
