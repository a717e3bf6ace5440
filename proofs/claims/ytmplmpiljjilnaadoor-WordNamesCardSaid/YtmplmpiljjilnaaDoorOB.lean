/- Contracts of op.Arity, op.Name, op.Commutes. -/
import Derived.Test.YtmplmpiljjilnaaDoorOA
namespace Go.Proofs.YtmplmpiljjilnaaDoor
open Go.RowKit
namespace L
set_option maxRecDepth 100000

set_option maxHeartbeats 400000 in
theorem arity_any (k : Nat) (w : World) (hk : k < 256) (hT : OpTab w) :
    Calls Tryd.prog 27 #[.int .u8 (k : Int)] w fun e w' => e = .returned (.tuple #[.int .i64 (arA k), .int .i64 (arE k)]) ∧ w = w' := by
  by_cases h : k ≤ 21
  · have hc := (hT k (by omega)).1
    have e1 : arA k = arL.getD k 0 := by simp [arA, h]
    have e2 : arE k = 0 := by simp [arE, h]
    rw [e1, e2]; clear e1 e2 hT
    have h1 : ¬ (k : Int) > 21 := by omega
    have h2 : (k : Int).toNat = k := by omega
    go_enter Tryd.func27, Tryd.ntmps27
    go_wp2
    go_ret2
    exact ⟨rfl, rfl⟩
  · have e1 : arA k = 0 := by simp [arA, h]
    have e2 : arE k = 3 := by simp [arE, h]
    rw [e1, e2]; clear e1 e2 hT
    have h1 : (k : Int) > 21 := by omega
    go_enter Tryd.func27, Tryd.ntmps27
    go_wp2
    go_ret2
    exact ⟨rfl, rfl⟩

theorem name_ne (k : Nat) (h : k ≤ 21) (h2 : 2 ≤ k) : (nameL.getD k []).isEmpty = false := by
  have : ∀ k : Fin 22, 2 ≤ k.val → (nameL.getD k.val []).isEmpty = false := by decide +kernel
  exact this ⟨k, by omega⟩ h2
theorem cm_eq (k : Nat) : cmB k = (((k : Int) == 4) || ((k : Int) == 6) || ((k : Int) == 9) || ((k : Int) == 10) || ((k : Int) == 11) || ((k : Int) == 15) || ((k : Int) == 16)) := by
  have : ∀ a : Nat, ((k : Int) == (a : Int)) = (k == a) := fun a => by rw [Bool.eq_iff_iff]; simp; omega
  have e := fun a => (this a).symm
  unfold cmB
  rw [e 4, e 6, e 9, e 10, e 11, e 15, e 16]
  rfl
set_option maxHeartbeats 800000 in
theorem commutes_any (k : Nat) (w : World) :
    Calls Tryd.prog 24 #[.int .u8 (k : Int)] w fun e w' => e = .returned (.bool (cmB k)) ∧ w = w' := by
  rw [cm_eq]
  go_enter Tryd.func24, Tryd.ntmps24
  go_wp2
  all_goals (go_ret; exact ⟨ret_bool (by simp [*]), rfl⟩)
end L
end Go.Proofs.YtmplmpiljjilnaaDoor
