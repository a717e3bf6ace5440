/- A row of slices of ints of the call's own, whose elements are read, not owned. -/
import Derived.Test.YtfhodbnhaaiceaaDoorQ02
import Derived.Test.YtfhodbnhaaiceaaDoorQ19
import Derived.Test.YtfhodbnhaaiceaaDoorJI
namespace Go.Proofs.YtfhodbnhaaiceaaDoor
open Go.RowKit
namespace K
open L (TypedI)

theorem Ints.apart {w w' : World} {u : Value} {l : List Int} {row : Option Nat} (h : Ints w u l) (ht : TypedI w u) (hg : w.grownBy w' row) (hne : ∀ k, row = some k → ∃ cur e, w.heap[k]? = some (.cells cur e (0, 0)) ∧ e ≠ 3) : Ints w' u l ∧ TypedI w' u := by
  have far : ∀ k, u.ownBlock = some k → k < w.heap.size ∧ some k ≠ row := by
    intro k hk
    obtain ⟨cur, hc⟩ := ht k hk
    refine ⟨Box.lt hc, fun hr => ?_⟩
    obtain ⟨cur2, e, h1, h2⟩ := hne k hr.symm
    rw [hc] at h1
    simp at h1
    exact h2 h1.2.symm
  constructor
  · obtain ⟨p, cap, hv, hl, hm, hc⟩ := h
    refine ⟨p, cap, hv, hl, hm, fun h0 => ?_⟩
    obtain ⟨b, off, hp, hc⟩ := hc h0
    refine ⟨b, off, hp, fun j hj => ?_⟩
    have hf := far b (by rw [hv, hp]; rfl)
    rw [World.cell?_of_block (w := w) (hg.block b hf.1 hf.2)]
    exact hc j hj
  · intro k hk
    obtain ⟨cur, hc⟩ := ht k hk
    have hf := far k hk
    exact ⟨cur, (hg.block k hf.1 hf.2).trans hc⟩
theorem TypedI.below {B : Nat} {w w' : World} {u : Value} (h : TypedI w u) (hb : Below B w w') (hB : w.heap.size ≤ B) : TypedI w' u := fun k hk => by
  obtain ⟨cur, hc⟩ := h k hk
  exact ⟨cur, (hb.block k (Nat.lt_of_lt_of_le (Box.lt hc) hB)).trans hc⟩
theorem TypedI.alloc {w : World} {u : Value} (h : TypedI w u) (o : Obj) : TypedI (w.alloc o) u := fun k hk => by
  obtain ⟨cur, hc⟩ := h k hk
  exact ⟨cur, Box.alloc hc o⟩

def OwnT (w : World) (base : Nat) (v : Value) (L : List (List Int)) : Prop :=
  ∃ us : List Value, us.length = L.length ∧ w.ownsRow base 23 1 v L.length us ∧ ∀ j, j < L.length → Ints w (us.getD j (.slice none 0 0)) (L.getD j []) ∧ TypedI w (us.getD j (.slice none 0 0))
section
variable {w w' : World} {base : Nat} {v : Value} {L : List (List Int)}
theorem OwnT.nil (w : World) (base : Nat) : OwnT w base (.slice none 0 0) [] := ⟨[], rfl, World.ownsRow_nil _ _ _ _, fun j hj => by simp at hj⟩
theorem OwnT.below {B : Nat} (h : OwnT w base v L) (hb : Below B w w') (hlt : w.heap.size ≤ B) : OwnT w' base v L := by
  obtain ⟨us, h1, h2, h3⟩ := h
  exact ⟨us, h1, owns_below h2 hb hlt, fun j hj => ⟨(h3 j hj).1.below (hb.mono hlt), TypedI.below (h3 j hj).2 hb hlt⟩⟩
theorem OwnT.alloc (h : OwnT w base v L) (o : Obj) : OwnT (w.alloc o) base v L := h.below ((Below.refl _ _).alloc (Nat.le_refl _) o) (Nat.le_refl _)
theorem OwnT.setCell (h : OwnT w base v L) {a : Addr} (ha : a.block < base) (hbx : ∃ cur e, w.heap[a.block]? = some (.cells cur e (0, 0)) ∧ e ≠ 3) (u : Value) : OwnT (w.setCell a u) base v L := by
  obtain ⟨us, h1, h2, h3⟩ := h
  have hg : w.grownBy (w.setCell a u) (some a.block) := ⟨rfl, rfl, rfl, by simp, fun k _ hk => Deep.blk_setCell_other w a u k (fun e => hk (by rw [e]))⟩
  refine ⟨us, h1, owns_of_block h2 fun k hk => Deep.blk_setCell_other w a u k (by have := (h2.lt k hk).1; omega), fun j hj => (h3 j hj).1.apart (h3 j hj).2 hg fun k hk => ?_⟩
  cases hk
  exact hbx
theorem OwnT.push {u v' : Value} {l : List Int} {us : List Value} (h1 : us.length = L.length) (h2 : w.ownsRow base 23 1 v L.length us) (h3 : ∀ j, j < L.length → Ints w (us.getD j (.slice none 0 0)) (L.getD j []) ∧ TypedI w (us.getD j (.slice none 0 0)))
    (hu : Ints w u l) (ht : TypedI w u) (h' : w'.ownsRow base 23 1 v' (L.length + 1) (us ++ [u])) (hg : w.grownBy w' v.ownBlock) : OwnT w' base v' (L ++ [l]) := by
  have hne : ∀ k, v.ownBlock = some k → ∃ cur e, w.heap[k]? = some (.cells cur e (0, 0)) ∧ e ≠ 3 := fun k hk => by
    obtain ⟨cur, hc⟩ := owns_typed h2 k hk
    exact ⟨cur, _, hc, by decide⟩
  refine ⟨us ++ [u], by simp [h1], by simpa using h', fun j hj => ?_⟩
  by_cases hjl : j < L.length
  · have e1 : (us ++ [u]).getD j (.slice none 0 0) = us.getD j (.slice none 0 0) := by simp [List.getD, List.getElem?_append_left (show j < us.length by omega)]
    have e2 : (L ++ [l]).getD j [] = L.getD j [] := by simp [List.getD, List.getElem?_append_left hjl]
    rw [e1, e2]
    exact (h3 j hjl).1.apart (h3 j hjl).2 hg hne
  · have hj' : j = L.length := by simp at hj; omega
    subst hj'
    have e1 : (us ++ [u]).getD L.length (.slice none 0 0) = u := by rw [← h1]; simp [List.getD]
    have e2 : (L ++ [l]).getD L.length [] = l := by simp [List.getD]
    rw [e1, e2]
    exact hu.apart ht hg hne
theorem OwnT.lists (h : OwnT w base v L) (hm : L.length * 24 ≤ 140737488351232) : Lists w v L := by
  obtain ⟨us, h1, h2, h3⟩ := h
  rcases h2.2 with ⟨rfl, h0⟩ | ⟨g, cap, cur, rfl, hb, hg, hn, hcap, hsz, htake⟩
  · exact ⟨none, 0, by rw [h0], by omega, hm, fun h => by omega⟩
  · refine ⟨some ⟨g, 0, none⟩, cap, rfl, hn, hm, fun _ => ⟨g, 0, rfl, fun j hj => ?_⟩⟩
    have := h2.cellAt j (by omega)
    refine ⟨us.getD j (.slice none 0 0), ?_, (h3 j hj).1⟩
    rw [Nat.zero_add, this]
    simp [List.getD, show j < us.length by omega]
end
end K
end Go.Proofs.YtfhodbnhaaiceaaDoor
