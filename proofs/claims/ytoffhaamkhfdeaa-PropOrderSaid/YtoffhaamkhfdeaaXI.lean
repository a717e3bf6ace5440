/- CnfChecks and CnfFirsts: the walks. -/
import Derived.Test.YtoffhaamkhfdeaaXH
namespace Go.Proofs.Ytoffhaamkhfdeaa
open Go.RowKit
namespace L
open K

theorem wf64 {x : Int} (h : (Lit.int .i64 x).wf = true) : I64 x := by
  simp [Lit.wf, IntKind.min, IntKind.max, IntKind.signed, IntKind.bits] at h
  unfold I64; omega
theorem small_len {L : List (List Int)} (h : smallB L = true) : L.length ≤ 60 ∧ ∀ j, j < L.length → (L.getD j []).length ≤ 40 := by
  simp only [smallB, Bool.and_eq_true, decide_eq_true_eq, List.all_eq_true] at h
  exact ⟨h.1, fun j hj => h.2 _ (mem_getDL hj)⟩
theorem ListsW.small {w : World} {v : Value} {L : List (List Int)} (h : ListsW .i64 w v L) (hs : smallB L = true) : Lists w v L := by
  obtain ⟨h1, h2⟩ := small_len hs
  exact h.lists (by omega) (fun j hj => by have := h2 j hj; omega)

end L
end Go.Proofs.Ytoffhaamkhfdeaa
