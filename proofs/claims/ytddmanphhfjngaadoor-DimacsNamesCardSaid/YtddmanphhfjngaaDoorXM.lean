/- Contracts of slices.EqualFunc at slices.Equal, the kit's EqualFormula, cnf.Equal. -/
import Derived.Test.YtddmanphhfjngaaDoorXL
namespace Go.Proofs.YtddmanphhfjngaaDoor
open Go.RowKit
namespace L
open K

/-- Whether two formulas are equal. -/
def eqF (n1 : Int) (L1 : List (List Int)) (n2 : Int) (L2 : List (List Int)) : Bool := decide (n1 = n2) && decide (L1 = L2)

set_option maxHeartbeats 1000000 in
theorem keqf_any (n1 n2 : Int) (v1 v2 : Value) (L1 L2 : List (List Int)) (w : World) (h1 : Lists w v1 L1) (h2 : Lists w v2 L2) :
    Calls Tryd.prog 17 #[.agg #[.int .i64 n1, v1], .agg #[.int .i64 n2, v2]] w fun e w' => e = .returned (.bool (eqF n1 L1 n2 L2)) ∧ Below w.heap.size w w' := by
  have hq := fun W (hb : Below w.heap.size w W) => equall_any v1 v2 L1 L2 W (h1.below hb) (h2.below hb)
  obtain ⟨p1, c1, rfl, _⟩ := h1
  obtain ⟨p2, c2, rfl, _⟩ := h2
  have hb0 : Below w.heap.size w ((w.alloc (.cells #[.int .i64 n1, .slice p1 L1.length c1] 24)).alloc (.cells #[.int .i64 n2, .slice p2 L2.length c2] 24)) := ((Below.refl _ _).alloc (Nat.le_refl _) _).alloc (by simp) _
  have HQ := Lib.hid hq
  clear hq
  by_cases hn : n1 = n2
  · have h1 : (n1 == n2) = true := by simp [hn]
    have he : eqF n1 L1 n2 L2 = decide (L1 = L2) := by simp [eqF, hn]
    rw [he]
    clear hn he
    go_enter Tryd.func17, Tryd.ntmps17
    go_wp2_with fail
    refine (HQ.out _ hb0).mono ?_
    rintro e w2 ⟨rfl, hb2⟩
    go_wp2
    go_ret
    exact ⟨rfl, hb0.trans (hb2.mono hb0.size)⟩
  · have h1 : (n1 == n2) = false := by simp [hn]
    have he : eqF n1 L1 n2 L2 = false := by simp [eqF, hn]
    rw [he]
    clear hn he
    go_enter Tryd.func17, Tryd.ntmps17
    go_wp2
    go_ret
    exact ⟨rfl, hb0⟩

end L
end Go.Proofs.YtddmanphhfjngaaDoor
