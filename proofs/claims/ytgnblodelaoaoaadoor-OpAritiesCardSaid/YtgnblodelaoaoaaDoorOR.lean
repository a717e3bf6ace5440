/- Contracts of the reference's Arity, Name, Of, Commutes. -/
import Derived.Test.YtgnblodelaoaoaaDoorOD
namespace Go.Proofs.YtgnblodelaoaoaaDoor
open Go.RowKit
namespace L
set_option maxRecDepth 100000

set_option maxHeartbeats 400000 in
theorem rarity_any (k : Nat) (w : World) (hk : k < 256) :
    Calls Tryd.prog 11 #[.int .u8 (k : Int)] w fun e w' => e = .returned (.tuple #[.int .i64 (arA k), .int .i64 (arE k)]) ∧ w = w' := by
  have hall : (21 < k ∧ arA k = 0 ∧ arE k = 3) ∨ (k ≤ 1 ∧ arA k = 0 ∧ arE k = 0) ∨ (1 < k ∧ k ≤ 3 ∧ arA k = 1 ∧ arE k = 0) ∨ (k = 21 ∧ arA k = 3 ∧ arE k = 0) ∨ (3 < k ∧ k < 21 ∧ arA k = 2 ∧ arE k = 0) := by
    have : ∀ k : Fin 256, (21 < k.val ∧ arA k.val = 0 ∧ arE k.val = 3) ∨ (k.val ≤ 1 ∧ arA k.val = 0 ∧ arE k.val = 0) ∨ (1 < k.val ∧ k.val ≤ 3 ∧ arA k.val = 1 ∧ arE k.val = 0) ∨ (k.val = 21 ∧ arA k.val = 3 ∧ arE k.val = 0) ∨ (3 < k.val ∧ k.val < 21 ∧ arA k.val = 2 ∧ arE k.val = 0) := by decide +kernel
    exact this ⟨k, hk⟩
  rcases hall with ⟨h, e1, e2⟩ | ⟨h, e1, e2⟩ | ⟨h, h', e1, e2⟩ | ⟨rfl, e1, e2⟩ | ⟨h, h', e1, e2⟩ <;> rw [e1, e2] <;> clear e1 e2
  · have h1 : (k : Int) > 21 := by omega
    go_enter Tryd.func11, Tryd.ntmps11
    go_wp2
    go_ret2
    exact ⟨rfl, rfl⟩
  · have h1 : ¬ (k : Int) > 21 := by omega
    have h2 : (k : Int) ≤ 1 := by omega
    go_enter Tryd.func11, Tryd.ntmps11
    go_wp2
    go_ret2
    exact ⟨rfl, rfl⟩
  · have h1 : ¬ (k : Int) > 21 := by omega
    have h2 : ¬ (k : Int) ≤ 1 := by omega
    have h3 : (k : Int) ≤ 3 := by omega
    go_enter Tryd.func11, Tryd.ntmps11
    go_wp2
    go_ret2
    exact ⟨rfl, rfl⟩
  · go_enter Tryd.func11, Tryd.ntmps11
    go_wp2
    go_ret2
    exact ⟨rfl, rfl⟩
  · have h1 : ¬ (k : Int) > 21 := by omega
    have h2 : ¬ (k : Int) ≤ 1 := by omega
    have h3 : ¬ (k : Int) ≤ 3 := by omega
    have h4 : ((k : Int) == 21) = false := by rw [beq_eq_false_iff_ne]; omega
    go_enter Tryd.func11, Tryd.ntmps11
    go_wp2
    go_ret2
    exact ⟨rfl, rfl⟩

theorem names_any (w : World) :
    Calls Tryd.prog 19 #[] w fun e w' => e = .returned (.slice (some ⟨w.heap.size, 0, none⟩) 20 20) ∧ w' = w.alloc (.cells (NL.map str).toArray 9) := by
  go_enter Tryd.func19, Tryd.ntmps19
  go_wp2
  go_ret
  exact ⟨rfl, rfl⟩
theorem names_cell (w : World) (k : Nat) (h : k < 20) : (w.alloc (.cells (NL.map str).toArray 9)).cell? ⟨w.heap.size, k, none⟩ = some (str (NL.getD k [])) := by
  have h1 : (NL.map str).toArray[k]? = some (str (NL.getD k [])) := by
    have : k < NL.length := by rw [nl_len]; exact h
    simp [List.getD_eq_getElem?_getD, List.getElem?_eq_getElem this]
  simp [World.cell?_alloc_new, h1]

set_option maxHeartbeats 400000 in
theorem rname_any (k : Nat) (w : World) (hk : k < 256) :
    Calls Tryd.prog 13 #[.int .u8 (k : Int)] w fun e w' => e = .returned (.tuple #[str (nmS k), .int .i64 (nmE k)]) ∧ Below w.heap.size w w' := by
  by_cases h : k ≤ 21
  · by_cases h2 : k < 2
    · have e1 : nmS k = [] := by
        have : k = 0 ∨ k = 1 := by omega
        rcases this with rfl | rfl <;> rfl
      have e2 : nmE k = 6 := by simp [nmE, h, h2]
      rw [e1, e2]; clear e1 e2
      have h1 : ¬ (k : Int) > 21 := by omega
      have h3 : (k : Int) < 2 := by omega
      unfold str
      go_enter Tryd.func13, Tryd.ntmps13
      go_wp2
      go_ret2
      exact ⟨rfl, Below.refl _ _⟩
    · obtain ⟨j, rfl⟩ : ∃ j, k = j + 2 := ⟨k - 2, by omega⟩
      have e1 : nmS (j + 2) = NL.getD j [] := by simp [nmS, h, nameL]
      have e2 : nmE (j + 2) = 0 := by simp [nmE, h]
      rw [e1, e2]; clear e1 e2
      have h1 : ¬ ((j + 2 : Nat) : Int) > 21 := by omega
      have h3 : ¬ ((j + 2 : Nat) : Int) < 2 := by omega
      have h4 : IntKind.u8.wrap (((j + 2 : Nat) : Int) - 2) = (j : Int) := by simp only [IntKind.wrap_u8]; omega
      have hc : (w.alloc (.cells (NL.map str).toArray 9)).cell? ⟨w.heap.size, j, none⟩ = some (.string ⟨(NL.getD j []).toArray⟩) := names_cell w j (by omega)
      generalize ((j + 2 : Nat) : Int) = x at *
      show Calls Tryd.prog _ _ _ fun e w' => e = .returned (.tuple #[.string ⟨(NL.getD j []).toArray⟩, .int .i64 0]) ∧ Below w.heap.size w w'
      have HB := Lib.hid ((Below.refl _ w).alloc (Nat.le_refl _) (.cells (NL.map str).toArray 9))
      go_enter Tryd.func13, Tryd.ntmps13
      go_wp2_with (go_at_call 19; refine (names_any _).mono ?_; rintro e w' ⟨rfl, rfl⟩)
      go_ret2
      exact ⟨rfl, HB.out⟩
  · have e1 : nmS k = [] := by simp [nmS, h]
    have e2 : nmE k = 3 := by simp [nmE, h]
    rw [e1, e2]; clear e1 e2
    have h1 : (k : Int) > 21 := by omega
    unfold str
    go_enter Tryd.func13, Tryd.ntmps13
    go_wp2
    go_ret2
    exact ⟨rfl, Below.refl _ _⟩

theorem rcm_eq (k : Nat) : cmB k = (((k : Int) == 4) || ((k : Int) == 6) || (decide ((k : Int) ≥ 9) && decide ((k : Int) ≤ 11)) || ((k : Int) == 15) || ((k : Int) == 16)) := by
  rw [cm_eq, Bool.eq_iff_iff]
  simp
  omega
set_option maxHeartbeats 800000 in
theorem rcommutes_any (k : Nat) (w : World) :
    Calls Tryd.prog 15 #[.int .u8 (k : Int)] w fun e w' => e = .returned (.bool (cmB k)) ∧ w = w' := by
  rw [rcm_eq]
  go_enter Tryd.func15, Tryd.ntmps15
  go_wp2
  all_goals (go_ret; refine ⟨ret_bool ?_, rfl⟩; rw [Bool.eq_iff_iff]; (try simp); (try omega))
end L
end Go.Proofs.YtgnblodelaoaoaaDoor
