/- Contracts of the reference's Arity, Name, Of, Commutes. -/
import Derived.Test.YtmplmpiljjilnaaDoorOD
namespace Go.Proofs.YtmplmpiljjilnaaDoor
open Go.RowKit
namespace L
set_option maxRecDepth 100000

set_option maxHeartbeats 400000 in
theorem rarity_any (k : Nat) (w : World) (hk : k < 256) :
    Calls Tryd.prog 31 #[.int .u8 (k : Int)] w fun e w' => e = .returned (.tuple #[.int .i64 (arA k), .int .i64 (arE k)]) ∧ w = w' := by
  have hall : (21 < k ∧ arA k = 0 ∧ arE k = 3) ∨ (k ≤ 1 ∧ arA k = 0 ∧ arE k = 0) ∨ (1 < k ∧ k ≤ 3 ∧ arA k = 1 ∧ arE k = 0) ∨ (k = 21 ∧ arA k = 3 ∧ arE k = 0) ∨ (3 < k ∧ k < 21 ∧ arA k = 2 ∧ arE k = 0) := by
    have : ∀ k : Fin 256, (21 < k.val ∧ arA k.val = 0 ∧ arE k.val = 3) ∨ (k.val ≤ 1 ∧ arA k.val = 0 ∧ arE k.val = 0) ∨ (1 < k.val ∧ k.val ≤ 3 ∧ arA k.val = 1 ∧ arE k.val = 0) ∨ (k.val = 21 ∧ arA k.val = 3 ∧ arE k.val = 0) ∨ (3 < k.val ∧ k.val < 21 ∧ arA k.val = 2 ∧ arE k.val = 0) := by decide +kernel
    exact this ⟨k, hk⟩
  rcases hall with ⟨h, e1, e2⟩ | ⟨h, e1, e2⟩ | ⟨h, h', e1, e2⟩ | ⟨rfl, e1, e2⟩ | ⟨h, h', e1, e2⟩ <;> rw [e1, e2] <;> clear e1 e2
  · have h1 : (k : Int) > 21 := by omega
    go_enter Tryd.func31, Tryd.ntmps31
    go_wp2
    go_ret2
    exact ⟨rfl, rfl⟩
  · have h1 : ¬ (k : Int) > 21 := by omega
    have h2 : (k : Int) ≤ 1 := by omega
    go_enter Tryd.func31, Tryd.ntmps31
    go_wp2
    go_ret2
    exact ⟨rfl, rfl⟩
  · have h1 : ¬ (k : Int) > 21 := by omega
    have h2 : ¬ (k : Int) ≤ 1 := by omega
    have h3 : (k : Int) ≤ 3 := by omega
    go_enter Tryd.func31, Tryd.ntmps31
    go_wp2
    go_ret2
    exact ⟨rfl, rfl⟩
  · go_enter Tryd.func31, Tryd.ntmps31
    go_wp2
    go_ret2
    exact ⟨rfl, rfl⟩
  · have h1 : ¬ (k : Int) > 21 := by omega
    have h2 : ¬ (k : Int) ≤ 1 := by omega
    have h3 : ¬ (k : Int) ≤ 3 := by omega
    have h4 : ((k : Int) == 21) = false := by rw [beq_eq_false_iff_ne]; omega
    go_enter Tryd.func31, Tryd.ntmps31
    go_wp2
    go_ret2
    exact ⟨rfl, rfl⟩

theorem names_cell (w : World) (k : Nat) (h : k < 20) : (w.alloc (.cells (NL.map str).toArray 9)).cell? ⟨w.heap.size, k, none⟩ = some (str (NL.getD k [])) := by
  have h1 : (NL.map str).toArray[k]? = some (str (NL.getD k [])) := by
    have : k < NL.length := by rw [nl_len]; exact h
    simp [List.getD_eq_getElem?_getD, List.getElem?_eq_getElem this]
  simp [World.cell?_alloc_new, h1]

theorem rcm_eq (k : Nat) : cmB k = (((k : Int) == 4) || ((k : Int) == 6) || (decide ((k : Int) ≥ 9) && decide ((k : Int) ≤ 11)) || ((k : Int) == 15) || ((k : Int) == 16)) := by
  rw [cm_eq, Bool.eq_iff_iff]
  simp
  omega
end L
end Go.Proofs.YtmplmpiljjilnaaDoor
