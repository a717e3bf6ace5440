/- Contracts of the kit's EqualInts and CopyInts. -/
import Derived.Test.YtoffhaamkhfdeaaA
import Derived.Test.YtoffhaamkhfdeaaK
namespace Go.Proofs.Ytoffhaamkhfdeaa
open Go.RowKit
namespace L
open K

theorem neq_at {l1 l2 : List Int} {k : Nat} (hne : l1.getD k 0 ≠ l2.getD k 0) : l1 ≠ l2 := by
  rintro rfl; exact hne rfl

set_option maxHeartbeats 1000000 in
theorem equal_any (v1 v2 : Value) (l1 l2 : List Int) (w : World) (h1 : Ints w v1 l1) (h2 : Ints w v2 l2) :
    Calls Try.prog 16 #[v1, v2] w fun e w' => e = .returned (.bool (decide (l1 = l2))) ∧ Below w.heap.size w w' := by
  obtain ⟨p1, c1, rfl, g1, m1, hc1⟩ := h1
  obtain ⟨p2, c2, rfl, g2, m2, hc2⟩ := h2
  by_cases hl : l1.length = l2.length
  · have hl1 : (l1.length == l2.length) = true := by simpa using hl
    have HL := Lib.hid hl
    go_enter Try.func16, Try.ntmps16
    go_wp2
    go_loopw [5] (fun i wr => ∃ k : Nat, k ≤ l1.length ∧ i = .int .i64 k ∧ (∀ j, j < k → l1.getD j 0 = l2.getD j 0) ∧ Below w.heap.size w wr) (fun i _ => l1.length - (intOf i).toNat)
    case atStart => exact ⟨0, Nat.zero_le _, rfl, fun j hj => absurd hj (Nat.not_lt_zero _), Below.refl _ _⟩
    case round =>
      obtain ⟨k, hk, rfl, heq, hb⟩ := hrel
      have HE := Lib.hid heq
      clear heq
      by_cases hlt : k < l1.length
      · obtain ⟨b1, o1, rfl, e1⟩ := hc1 (by omega)
        obtain ⟨b2, o2, rfl, e2⟩ := hc2 (by omega)
        have d1 := (hb.cell (p := ⟨b1, o1 + k, none⟩) (World.block_lt_of_cell? _ _ (e1 k hlt))).trans (e1 k hlt)
        have hlt2 : k < l2.length := by omega
        have d2 := (hb.cell (p := ⟨b2, o2 + k, none⟩) (World.block_lt_of_cell? _ _ (e2 k hlt2))).trans (e2 k hlt2)
        clear hc1 hc2 e1 e2
        have HL1 := Lib.hid hl1
        clear hl1
        generalize hx1 : l1.getD k 0 = x1 at d1
        generalize hx2 : l2.getD k 0 = x2 at d2
        have HX1 := Lib.hid hx1
        have HX2 := Lib.hid hx2
        clear hx1 hx2
        by_cases hne : x1 = x2
        · have hn : (x1 != x2) = false := by simpa using hne
          go_wp2
          go_quiet (fail)
          go_wp2
          go_roundw
          case rel =>
            refine ⟨k + 1, by omega, by go_num, fun j hj => ?_, ?_⟩
            · by_cases hjk : j = k
              · subst hjk; rw [HX1.out, HX2.out, hne]
              · exact HE.out j (by omega)
            · exact below_drewN hb _
          case measure => simp [intOf]; omega
        · have hn : (x1 != x2) = true := by simpa using hne
          go_wp2
          go_quiet (fail)
          go_wp2
          go_ret
          refine ⟨ret_bool ?_, below_drewN hb _⟩
          symm; rw [decide_eq_false_iff_not]
          exact neq_at (by rw [HX1.out, HX2.out]; exact hne)
      · go_wp2
        go_ret
        refine ⟨ret_bool ?_, hb⟩
        symm; rw [decide_eq_true_iff]
        have hkl : k = l1.length := by omega
        exact List.ext_getElem HL.out (fun i h1 h2 => by
          have := HE.out i (by omega)
          simpa [List.getD, h1, h2] using this)
  · have hl1 : (l1.length == l2.length) = false := by simpa using hl
    have hd : decide (l1 = l2) = false := by simp; intro h; exact hl (by rw [h])
    rw [hd]; clear hd
    go_enter Try.func16, Try.ntmps16
    go_wp2
    go_ret
    exact ⟨rfl, Below.refl _ _⟩
end L
end Go.Proofs.Ytoffhaamkhfdeaa
