/- Contract of Small. -/
import Derived.Test.YtoffhaamkhfdeaaXA
import Derived.Test.YtoffhaamkhfdeaaN
import Derived.Test.YtoffhaamkhfdeaaJ
namespace Go.Proofs.Ytoffhaamkhfdeaa
open Go.RowKit
namespace L
open K

def smallB (L : List (List Int)) : Bool := decide (L.length ≤ 60) && L.all fun l => decide (l.length ≤ 40)

theorem small_upto {L : List (List Int)} {k : Nat} (h : ∀ j, j < k → (L.getD j []).length ≤ 40) (hk : L.length ≤ k ∨ 60 ≤ k) : smallB L = decide (L.length ≤ 60) := by
  unfold smallB
  by_cases h60 : L.length ≤ 60
  · simp only [h60, decide_true, Bool.true_and, List.all_eq_true, decide_eq_true_eq]
    intro l hl
    obtain ⟨j, hj, rfl⟩ := List.getElem_of_mem hl
    have := h j (by omega)
    simpa [List.getD, hj] using this
  · simp [h60]
theorem small_at {L : List (List Int)} {k : Nat} (hk : k < L.length) (h : ¬ (L.getD k []).length ≤ 40) : smallB L = false := by
  unfold smallB
  rw [Bool.and_eq_false_iff]; right
  rw [List.all_eq_false]
  refine ⟨L.getD k [], ?_, by simpa using h⟩
  simp [List.getD, hk]

set_option maxHeartbeats 1000000 in
theorem small_any (n : Int) (v : Value) (L : List (List Int)) (w : World) (h : ListsW .i64 w v L) :
    Calls Try.prog 17 #[.agg #[.int .i64 n, v]] w fun e w' => e = .returned (.bool (smallB L)) ∧ Below w.heap.size w w' := by
  obtain ⟨p, c, rfl, g1, m1, hc⟩ := h
  have hmax : c ≤ 9223372036854775807 := m1
  clear m1
  go_enter Try.func17, Try.ntmps17
  go_wp2
  go_loopw [3] (fun i wr => ∃ k : Nat, k ≤ L.length ∧ k ≤ 60 ∧ i = .int .i64 k ∧ (∀ j, j < k → (L.getD j []).length ≤ 40) ∧ Below w.heap.size w wr ∧ wr.cell? ⟨w.heap.size, 1, none⟩ = some (.slice p L.length c)) (fun i _ => 60 - (intOf i).toNat)
  case atStart => exact ⟨0, Nat.zero_le _, Nat.zero_le _, rfl, fun j hj => absurd hj (Nat.not_lt_zero _), (Below.refl _ _).alloc (Nat.le_refl _) _, by simp⟩
  case round =>
    obtain ⟨k, hk, hk60, rfl, heq, hb, hbox⟩ := hrel
    have HE := Lib.hid heq
    clear heq
    by_cases hlt : k < L.length
    · by_cases h60 : k < 60
      · obtain ⟨b, o, rfl, e1⟩ := hc (by omega)
        obtain ⟨u, hu, hiu⟩ := e1 k hlt
        have d1 := (hb.cell (p := ⟨b, o + k, none⟩) (World.block_lt_of_cell? _ _ hu)).trans hu
        clear hc e1 hu
        obtain ⟨q, cu, rfl, _, hmu, _, _⟩ := hiu
        have hlu : ((L.getD k []).length : Int) ≤ 9223372036854775807 := by have : cu ≤ 9223372036854775807 := hmu; omega
        generalize hl : L.getD k [] = l at *
        have HL := Lib.hid hl
        clear hl hmu
        by_cases h40 : (l.length : Int) ≤ 40
        · go_wp2
          go_roundw
          case rel =>
            refine ⟨k + 1, by omega, by omega, by go_num, fun j hj => ?_, hb, hbox⟩
            by_cases hjk : j = k
            · subst hjk; rw [HL.out]; omega
            · exact HE.out j (by omega)
          case measure => simp [intOf]; omega
        · go_wp2
          go_ret
          exact ⟨ret_bool (small_at hlt (by rw [HL.out]; omega)).symm, hb⟩
      · go_wp2
        go_ret
        exact ⟨ret_bool (by rw [small_upto HE.out (.inr (by omega))]; simp; try omega), hb⟩
    · go_wp2
      go_ret
      exact ⟨ret_bool (by rw [small_upto HE.out (.inl (by omega))]; simp; try omega), hb⟩
end L
end Go.Proofs.Ytoffhaamkhfdeaa
