/- Several texts, joined. -/
import Derived.Test.YtfhodbnhaaiceaaDoorQ28
import Derived.Test.YtfhodbnhaaiceaaDoorQ19
import Derived.Test.YtfhodbnhaaiceaaDoorRows
import Derived.Test.YtfhodbnhaaiceaaDoorQ05
import Derived.LaidMore
import Derived.LaidLaws
import Derived.LaidHandle
import Derived.MakeChecks
import Derived.Lib.LaidTab
import Derived.Stop.LaidErr
import Derived.Stop.Joined

/- Contracts of slices.Equal, slices.EqualFunc, the kit's EqualLists and EqualFormula, cnf.Equal. -/
section
namespace Go.Proofs.YtfhodbnhaaiceaaDoor
open Go.RowKit
namespace L
open K

theorem listsEq_of {L1 L2 : List (List Int)} (h : ∀ j, j < L1.length → L1.getD j [] = L2.getD j []) (hl : L1.length = L2.length) : L1 = L2 :=
  List.ext_getElem hl fun i h1 h2 => by
    have := h i h1
    simpa [List.getD, h1, h2] using this
theorem listsNe_at {L1 L2 : List (List Int)} {k : Nat} (hne : L1.getD k [] ≠ L2.getD k []) : L1 ≠ L2 := by
  rintro rfl; exact hne rfl

set_option maxHeartbeats 1000000 in
theorem equall_any (v1 v2 : Value) (L1 L2 : List (List Int)) (w : World) (h1 : Lists w v1 L1) (h2 : Lists w v2 L2) :
    Calls Tryd.prog 20 #[v1, v2] w fun e w' => e = .returned (.bool (decide (L1 = L2))) ∧ Below w.heap.size w w' := by
  obtain ⟨p1, c1, rfl, g1, m1, hc1⟩ := h1
  obtain ⟨p2, c2, rfl, g2, m2, hc2⟩ := h2
  by_cases hl : L1.length = L2.length
  · have hl1 : ((L1.length : Int) != L2.length) = false := by simp [hl]
    have HL := Lib.hid hl
    go_enter Tryd.func20, Tryd.ntmps20
    go_wp2
    go_loopw [5] (fun i wr => ∃ k : Nat, k ≤ L1.length ∧ i = .int .i64 k ∧ (∀ j, j < k → L1.getD j [] = L2.getD j []) ∧ Below w.heap.size w wr) (fun i _ => L1.length - (intOf i).toNat)
    case atStart => exact ⟨0, Nat.zero_le _, rfl, fun j hj => absurd hj (Nat.not_lt_zero _), Below.refl _ _⟩
    case round =>
      obtain ⟨k, hk, rfl, heq, hb⟩ := hrel
      obtain ⟨w3, hw3⟩ : ∃ W, W = wr := ⟨_, rfl⟩
      subst hw3
      have HE := Lib.hid heq
      clear heq
      by_cases hlt : k < L1.length
      · have hlt2 : k < L2.length := by omega
        obtain ⟨b1, o1, rfl, e1⟩ := hc1 (by omega)
        obtain ⟨b2, o2, rfl, e2⟩ := hc2 (by omega)
        obtain ⟨u1, hu1, hi1⟩ := e1 k hlt
        obtain ⟨u2, hu2, hi2⟩ := e2 k hlt2
        have d1 : ∀ x : Later w3.heap.size w3, x.W.cell? ⟨b1, o1 + k, none⟩ = some u1 := fun x => ((hb.trans (x.ok.mono hb.size)).cell (p := ⟨b1, o1 + k, none⟩) (World.block_lt_of_cell? _ _ hu1)).trans hu1
        have d2 : ∀ x : Later w3.heap.size w3, x.W.cell? ⟨b2, o2 + k, none⟩ = some u2 := fun x => ((hb.trans (x.ok.mono hb.size)).cell (p := ⟨b2, o2 + k, none⟩) (World.block_lt_of_cell? _ _ hu2)).trans hu2
        have hq := fun x : Later w3.heap.size w3 => equal_any u1 u2 _ _ x.W (hi1.below (hb.trans (x.ok.mono hb.size))) (hi2.below (hb.trans (x.ok.mono hb.size)))
        have HQ := Lib.hid hq
        obtain ⟨q1, r1, rfl, _⟩ := hi1
        obtain ⟨q2, r2, rfl, _⟩ := hi2
        clear hc1 hc2 e1 e2 hu1 hu2 hq hl1
        have HB := Lib.hid hb
        clear hb
        generalize hx1 : L1.getD k [] = x1 at *
        generalize hx2 : L2.getD k [] = x2 at *
        have HX1 := Lib.hid hx1
        have HX2 := Lib.hid hx2
        clear hx1 hx2
        by_cases hne : x1 = x2
        · have hd : decide (x1 = x2) = true := by simp [hne]
          have HNE := Lib.hid hne
          clear hne
          have HQ' := Lib.hid (fun x => by have := HQ.out x; rw [hd] at this; exact this : ∀ x : Later w3.heap.size w3, Calls Tryd.prog 40 #[.slice q1 x1.length r1, .slice q2 x2.length r2] x.W fun e w' => e = .returned (.bool true) ∧ Below x.W.heap.size x.W w')
          clear hd HQ
          go_wp2
          refine wp_region_later (B := w3.heap.size) (w0 := w3) (by kernel_rfl) (by kernel_rfl) (Below.refl _ _) ?_
          repeat (go_big_quiet_step (first
            | (go_at_call 40; exact later_mono _ (Nat.le_refl _) (HQ'.out _))))
          refine wpQuiet_nil ?_
          rintro _ ⟨x, rfl⟩
          have hbx := HB.out.trans (x.ok.mono HB.out.size)
          go_wp2
          go_roundw
          case rel =>
            refine ⟨k + 1, by omega, by go_num, fun j hj => ?_, hbx⟩
            by_cases hjk : j = k
            · subst hjk; rw [HX1.out, HX2.out, HNE.out]
            · exact HE.out j (by omega)
          case measure => simp [intOf]; omega
        · have hd : decide (x1 = x2) = false := by simp [hne]
          have HNE := Lib.hid hne
          clear hne
          have HQ' := Lib.hid (fun x => by have := HQ.out x; rw [hd] at this; exact this : ∀ x : Later w3.heap.size w3, Calls Tryd.prog 40 #[.slice q1 x1.length r1, .slice q2 x2.length r2] x.W fun e w' => e = .returned (.bool false) ∧ Below x.W.heap.size x.W w')
          clear hd HQ
          go_wp2
          refine wp_region_later (B := w3.heap.size) (w0 := w3) (by kernel_rfl) (by kernel_rfl) (Below.refl _ _) ?_
          repeat (go_big_quiet_step (first
            | (go_at_call 40; exact later_mono _ (Nat.le_refl _) (HQ'.out _))))
          refine wpQuiet_nil ?_
          rintro _ ⟨x, rfl⟩
          have hbx := HB.out.trans (x.ok.mono HB.out.size)
          go_wp2
          go_ret
          refine ⟨ret_bool ?_, hbx⟩
          symm; rw [decide_eq_false_iff_not]
          exact listsNe_at (by rw [HX1.out, HX2.out]; exact HNE.out)
      · go_wp2
        go_ret
        refine ⟨ret_bool ?_, hb⟩
        symm; rw [decide_eq_true_iff]
        exact listsEq_of (fun j hj => HE.out j (by omega)) HL.out
  · have hl1 : ((L1.length : Int) != L2.length) = true := by simp; omega
    have hd : decide (L1 = L2) = false := by simp; intro h; exact hl (by rw [h])
    rw [hd]; clear hd
    go_enter Tryd.func20, Tryd.ntmps20
    go_wp2
    go_ret
    exact ⟨rfl, Below.refl _ _⟩
end L
end Go.Proofs.YtfhodbnhaaiceaaDoor
end

/- What the listed tables give a walk; a start that meets the condition. -/
section
namespace Go.Proofs.YtfhodbnhaaiceaaDoor
open Go
abbrev laid3 : List (String × DataW Unit) := [("math/bits.deBruijn32tab", Rows.laid_math_bits_deBruijn32tab), ("math/bits.deBruijn64tab", Rows.laid_math_bits_deBruijn64tab), ("internal/strconv.uint64pow10", Rows.laid_internal_strconv_uint64pow10)]
theorem door_met (os : Os) (args : Array Value) : laidMetH Tryd.prog laid3 ((World.doorLaid Tryd.prog 24 os).forCall (fun _ _ => 0) ⟨#[], args, []⟩).memory :=
  laidMetH_of_parts3 (fuel := 8) (laidMet_of_run' 8 (by kernel_rfl) (by kernel_rfl)) (by kernel_rfl) (by kernel_rfl)
theorem pow10_tab : (Rows.laid_internal_strconv_uint64pow10 : DataW Unit) = Lib.tabData .u64 Lib.pow10Tab := by kernel_rfl
theorem tab_of_laid {W : World} (h : laidMetH Tryd.prog laid3 W) : L.Tab W := by
  rw [MakeChecks.laidMetH_plain _ _ _ (by kernel_rfl)] at h
  have h2 := h.tail.tail
  rw [pow10_tab] at h2
  exact Lib.tabIs_of_head L.gpow (by kernel_rfl) Tryd.underlying142 Tryd.underlying87 (by kernel_rfl) (by kernel_rfl) h2
end Go.Proofs.YtfhodbnhaaiceaaDoor
end
