/- Readings of slices of slices of ints, and how a row's argument comes to them. -/
import Derived.Test.YtenmgkomffnjaaaO
import Derived.Deep.Matrix
namespace Go.Proofs.Ytenmgkomffnjaaa
open Go.ChangeShapes Go.WideShapes Go.ChangeAt Go.RowKit
namespace K

/-- A slice value that reads as a list of lists of ints. -/
def Lists (w : World) (v : Value) (L : List (List Int)) : Prop :=
  ∃ p cap, v = .slice p L.length cap ∧ L.length ≤ cap ∧ L.length * 24 ≤ 140737488351232 ∧ (0 < L.length → ∃ b off, p = some ⟨b, off, none⟩ ∧ ∀ j, j < L.length → ∃ u, w.cell? ⟨b, off + j, none⟩ = some u ∧ Ints w u (L.getD j []))

theorem Lists.below {w w' : World} {v : Value} {L : List (List Int)} (h : Lists w v L) (hb : Below w.heap.size w w') : Lists w' v L := by
  obtain ⟨p, cap, hv, hl, hm, hc⟩ := h
  refine ⟨p, cap, hv, hl, hm, fun h0 => ?_⟩
  obtain ⟨b, off, hp, hc⟩ := hc h0
  refine ⟨b, off, hp, fun j hj => ?_⟩
  obtain ⟨u, hu, hi⟩ := hc j hj
  exact ⟨u, (hb.cell (p := ⟨b, off + j, none⟩) (World.block_lt_of_cell? _ _ hu)).trans hu, hi.below hb⟩

theorem Lists.nil (w : World) (c : Nat) (p : Option Addr) : Lists w (.slice p 0 c) [] := ⟨p, c, rfl, Nat.zero_le _, by simp, fun h => absurd h (by simp)⟩

theorem IntsW.below {k : IntKind} {w w' : World} {v : Value} {l : List Int} (h : IntsW k w v l) (hb : Below w.heap.size w w') : IntsW k w' v l := by
  obtain ⟨p, cap, hv, hl, hm, hw, hc⟩ := h
  refine ⟨p, cap, hv, hl, hm, hw, fun h0 => ?_⟩
  obtain ⟨b, off, hp, hc⟩ := hc h0
  exact ⟨b, off, hp, fun j hj => (hb.cell (p := ⟨b, off + j, none⟩) (World.block_lt_of_cell? _ _ (hc j hj))).trans (hc j hj)⟩
/-- What a row gives. -/
def ListsW (k : IntKind) (w : World) (v : Value) (L : List (List Int)) : Prop :=
  ∃ p cap, v = .slice p L.length cap ∧ L.length ≤ cap ∧ cap ≤ maxLen ∧ (0 < L.length → ∃ b off, p = some ⟨b, off, none⟩ ∧ ∀ j, j < L.length → ∃ u, w.cell? ⟨b, off + j, none⟩ = some u ∧ IntsW k w u (L.getD j []))

theorem ListsW.lists {w : World} {v : Value} {L : List (List Int)} (h : ListsW .i64 w v L) (hm : L.length * 24 ≤ 140737488351232) (he : ∀ j, j < L.length → (L.getD j []).length * 8 ≤ 140737488351232) : Lists w v L := by
  obtain ⟨p, cap, hv, hl, _, hc⟩ := h
  refine ⟨p, cap, hv, hl, hm, fun h0 => ?_⟩
  obtain ⟨b, off, hp, hc⟩ := hc h0
  exact ⟨b, off, hp, fun j hj => (hc j hj).imp fun u hu => ⟨hu.1, hu.2.ints (he j hj)⟩⟩

/-- All numbers of a wide reading fit. -/
theorem ListsW.below {k : IntKind} {w w' : World} {v : Value} {L : List (List Int)} (h : ListsW k w v L) (hb : Below w.heap.size w w') : ListsW k w' v L := by
  obtain ⟨p, cap, hv, hl, hm, hc⟩ := h
  refine ⟨p, cap, hv, hl, hm, fun h0 => ?_⟩
  obtain ⟨b, off, hp, hc⟩ := hc h0
  refine ⟨b, off, hp, fun j hj => ?_⟩
  obtain ⟨u, hu, hi⟩ := hc j hj
  exact ⟨u, (hb.cell (p := ⟨b, off + j, none⟩) (World.block_lt_of_cell? _ _ hu)).trans hu, hi.below hb⟩
theorem ListsW.wf {k : IntKind} {w : World} {v : Value} {L : List (List Int)} (h : ListsW k w v L) : ∀ l ∈ L, ∀ x ∈ l, (Lit.int k x).wf = true := by
  obtain ⟨p, cap, hv, hl, _, hc⟩ := h
  intro l hl x hx
  obtain ⟨j, hj, rfl⟩ := List.getElem_of_mem hl
  obtain ⟨b, off, hp, hc⟩ := hc (by omega)
  obtain ⟨u, _, _, _, _, _, _, hw, _⟩ := hc j hj
  exact hw x (by simpa [List.getD, hj] using hx)

section
variable {H : Type} {enc : TypeId × Value → H} {P : Program} {w : World} {base : Nat} {held : Bool}

theorem rows_of_cells {t e q : TypeId} {k : IntKind} {fuel : Nat} {cs : List Value} {x : DataW H × List MemPlace} (ht : P.underlying t = some (.slice e)) (he : P.underlying e = some (.slice q)) (hq : P.underlying q = some (.int k))
    (ce : P.cellsOf e = 1) (cq : P.cellsOf q = 1) (v : Value) (hv : cs = [v]) (h : DataW.trod enc P w base (fun _ => true) held fuel t cs = some x) : ∃ L, ListsW k w v L := by
  subst hv
  rcases Go.Deep.open_int_rows ht he hq ce cq h with ⟨hcs, _⟩ | ⟨a, len, cap, A, Ln, C, Z, hcs, _, hl, hm, _, hr⟩
  · simp at hcs
    exact ⟨[], none, 0, hcs, Nat.le_refl _, Nat.zero_le _, fun h => by simp at h⟩
  · simp at hcs
    have hlen : ((List.range len).map fun r => (Z r).take (Ln r)).length = len := by simp
    refine ⟨(List.range len).map fun r => (Z r).take (Ln r), some a, cap, by rw [hlen]; exact hcs, by omega, hm, fun h0 => ?_⟩
    have hsp : a.spot = none := cells_plain (w := w) (by rw [(hr 0 (by omega)).1]; simp)
    obtain ⟨b, off, spot⟩ := a
    simp only at hsp
    subst hsp
    refine ⟨b, off, rfl, fun j hj => ?_⟩
    obtain ⟨h1, h2, h3, h4, h5, h6, h7⟩ := hr j (by omega)
    have h8 : (⟨b, off, none⟩ : Addr).add j = ⟨b, off + j, none⟩ := by simp [Addr.add]
    rw [h8] at h1
    have hj' : j < len := by omega
    have hg : ((List.range len).map fun r => (Z r).take (Ln r)).getD j [] = (Z j).take (Ln j) := by simp [List.getD, hj']
    have hlen2 : ((Z j).take (Ln j)).length = Ln j := by simp; omega
    refine ⟨_, h1, ?_⟩
    rw [hg]
    refine ⟨A j, C j, by rw [hlen2], ⟨by omega, h6⟩, h3, fun x hx => h5 x (List.mem_of_mem_take hx), fun h0 => ?_⟩
    cases hA : A j with
    | none => exact absurd (h6 hA) (by omega)
    | some a' =>
      obtain ⟨_, hcell⟩ := h7 a' hA
      have hsp' : a'.spot = none := cells_plain (w := w) (by rw [hcell 0 (by omega)]; simp)
      obtain ⟨b', off', spot'⟩ := a'
      simp only at hsp'
      subst hsp'
      refine ⟨b', off', rfl, fun i hi => ?_⟩
      have h9 := hcell i (by omega)
      have h10 : (⟨b', off', none⟩ : Addr).add i = ⟨b', off' + i, none⟩ := by simp [Addr.add]
      rw [h10] at h9
      rw [h9]
      have hi' : i < Ln j := by omega
      simp [List.getD, hi']
end
end K
end Go.Proofs.Ytenmgkomffnjaaa
