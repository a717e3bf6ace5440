/- How a row's slices come to the readings that the walks ask. -/
import Derived.Test.YtmplmpiljjilnaaDoorK
import Derived.ProofKit
import Derived.OpenShut
import Derived.ChangeOld
import Derived.Below
import Derived.Deep.Grids
namespace Go.Proofs.YtmplmpiljjilnaaDoor
open Go.ChangeShapes Go.WideShapes Go.ChangeAt Go.RowKit
namespace K

/-- A slice value that reads as a list of numbers of a kind, of whatever length. -/
def IntsW (k : IntKind) (w : World) (v : Value) (l : List Int) : Prop :=
  ∃ p cap, v = .slice p l.length cap ∧ (l.length ≤ cap ∧ (p = none → cap = 0)) ∧ cap ≤ maxLen ∧ (∀ n ∈ l, (Lit.int k n).wf = true) ∧ (0 < l.length → ∃ b off, p = some ⟨b, off, none⟩ ∧ ∀ j, j < l.length → w.cell? ⟨b, off + j, none⟩ = some (.int k (l.getD j 0)))
/-- The same of bools. -/
def BoolsW (w : World) (v : Value) (l : List Bool) : Prop :=
  ∃ p cap, v = .slice p l.length cap ∧ l.length ≤ cap ∧ cap ≤ maxLen ∧ (0 < l.length → ∃ b off, p = some ⟨b, off, none⟩ ∧ ∀ j, j < l.length → w.cell? ⟨b, off + j, none⟩ = some (.bool (l.getD j false)))

theorem IntsW.ints {w : World} {v : Value} {l : List Int} (h : IntsW .i64 w v l) (hm : l.length * 8 ≤ 140737488351232) : Ints w v l := by
  obtain ⟨p, cap, hv, h1, _, _, h2⟩ := h
  exact ⟨p, cap, hv, h1.1, hm, h2⟩
theorem BoolsW.bools {w : World} {v : Value} {l : List Bool} (h : BoolsW w v l) (hm : l.length ≤ 140737488351232) : Bools w v l := by
  obtain ⟨p, cap, hv, h1, _, h2⟩ := h
  exact ⟨p, cap, hv, h1, hm, h2⟩

section
variable {H : Type} {enc : TypeId × Value → H} {P : Program} {w : World} {base : Nat} {held : Bool}

theorem cells_plain {a : Addr} (h : w.cell? (a.add 0) ≠ none) : a.spot = none := by
  cases hc : w.cell? (a.add 0) with
  | none => exact absurd hc h
  | some u => simpa [Addr.add] using World.cell?_spot hc

theorem row_ints {t e : TypeId} {k : IntKind} {fuel : Nat} {v : Value} {x : DataW H × List MemPlace} (ht : P.underlying t = some (.slice e)) (he : P.underlying e = some (.int k)) (hc : P.cellsOf e = 1)
    (p : Option Addr) (n cap : Nat) (hv : v = .slice p n cap) (h : DataW.trod enc P w base (fun _ => true) held fuel t v.cells.toList = some x) : ∃ l, IntsW k w v l := by
  subst hv
  rcases open_ints ht he hc h with ⟨hcs, _⟩ | ⟨a, l, c, zs, hcs, _, hl, hm, hz, _, hcell, hwz⟩
  · simp [Value.cells] at hcs
    obtain ⟨rfl, rfl, rfl⟩ := hcs
    exact ⟨[], none, 0, rfl, ⟨Nat.le_refl _, fun _ => rfl⟩, Nat.zero_le _, by simp, fun h => by simp at h⟩
  · simp [Value.cells] at hcs
    obtain ⟨rfl, rfl, rfl⟩ := hcs
    simp only [if_true] at hz
    have hlen : (zs.take n).length = n := by simp; omega
    refine ⟨zs.take n, some a, cap, by rw [hlen], ⟨by omega, fun h => by cases h⟩, hm, fun x hx => hwz x (List.mem_of_mem_take hx), fun h0 => ?_⟩
    have hsp : a.spot = none := cells_plain (w := w) (by rw [hcell 0 (by omega)]; simp)
    obtain ⟨b, off, spot⟩ := a
    simp only at hsp
    subst hsp
    refine ⟨b, off, rfl, fun j hj => ?_⟩
    have h2 := hcell j (by omega)
    have h3 : (⟨b, off, none⟩ : Addr).add j = ⟨b, off + j, none⟩ := by simp [Addr.add]
    rw [h3] at h2
    rw [h2]
    have hj' : j < n := by omega
    simp [List.getD, hj']

theorem row_bools {t e : TypeId} {fuel : Nat} {v : Value} {x : DataW H × List MemPlace} (ht : P.underlying t = some (.slice e)) (he : P.underlying e = some .bool) (hc : P.cellsOf e = 1)
    (p : Option Addr) (n cap : Nat) (hv : v = .slice p n cap) (h : DataW.trod enc P w base (fun _ => true) held fuel t v.cells.toList = some x) : ∃ l, BoolsW w v l := by
  subst hv
  rcases Go.Deep.open_bools ht he hc h with ⟨hcs, _⟩ | ⟨a, l, c, B, hcs, _, hl, hm, _, hcell⟩
  · simp [Value.cells] at hcs
    obtain ⟨rfl, rfl, rfl⟩ := hcs
    exact ⟨[], none, 0, rfl, Nat.le_refl _, Nat.zero_le _, fun h => by simp at h⟩
  · simp [Value.cells] at hcs
    obtain ⟨rfl, rfl, rfl⟩ := hcs
    have hlen : ((List.range n).map B).length = n := by simp
    refine ⟨(List.range n).map B, some a, cap, by rw [hlen], by omega, hm, fun h0 => ?_⟩
    have hsp : a.spot = none := cells_plain (w := w) (by rw [hcell 0 (by omega)]; simp)
    obtain ⟨b, off, spot⟩ := a
    simp only at hsp
    subst hsp
    refine ⟨b, off, rfl, fun j hj => ?_⟩
    have h2 := hcell j (by omega)
    have h3 : (⟨b, off, none⟩ : Addr).add j = ⟨b, off + j, none⟩ := by simp [Addr.add]
    rw [h3] at h2
    rw [h2]
    have hj' : j < n := by omega
    simp [List.getD, hj']
end
end K
end Go.Proofs.YtmplmpiljjilnaaDoor
