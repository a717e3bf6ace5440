/- Memory that a call makes for itself: boxes, rows of ints, rows of rows. -/
import Derived.Test.YtenmgkomffnjaaaXA
import Derived.Test.YtenmgkomffnjaaaC
import Derived.Laws.OwnMore
import Derived.Deep.Heap
import Derived.Deep.AppendLies
namespace Go.Proofs.Ytenmgkomffnjaaa
open Go.RowKit
namespace K

/-- Block b is a box with the cells cs. -/
def Box (w : World) (b : Nat) (T : TypeId) (cs : Array Value) : Prop := w.heap[b]? = some (.cells cs T (0, 0))
section
variable {w w' : World} {b : Nat} {T : TypeId} {cs : Array Value}
theorem Box.lt (h : Box w b T cs) : b < w.heap.size := by
  unfold Box at h
  by_cases hb : b < w.heap.size
  · exact hb
  · rw [Array.getElem?_eq_none (by omega)] at h; cases h
theorem Box.cell (h : Box w b T cs) (j : Nat) : w.cell? ⟨b, j, none⟩ = cs[j]? := cell_of_row w b j cs T (0, 0) h
theorem Box.frozen (h : Box w b T cs) (j : Nat) : w.frozen? ⟨b, j, none⟩ = false := frozen_of_row w b j cs T h
theorem Box.of_block (h : Box w b T cs) (e : w'.heap[b]? = w.heap[b]?) : Box w' b T cs := e.trans h
theorem Box.heap (h : Box w b T cs) (e : w'.heap = w.heap) : Box w' b T cs := by unfold Box at *; rw [e]; exact h
theorem Box.alloc (h : Box w b T cs) (o : Obj) : Box (w.alloc o) b T cs := h.of_block (Deep.blk_alloc_lt w o b h.lt)
theorem Box.new (w : World) (T : TypeId) (cs : Array Value) : Box (w.alloc (.cells cs T)) w.heap.size T cs := Deep.blk_alloc_new w _
theorem Box.at (w : World) (T : TypeId) (cs : Array Value) {b : Nat} (hb : b = w.heap.size) : Box (w.alloc (.cells cs T)) b T cs := by rw [hb]; exact Box.new w T cs
theorem Box.below {B : Nat} (h : Box w b T cs) (hb : Below B w w') (hlt : b < B) : Box w' b T cs := h.of_block (hb.block b hlt)
theorem Box.grown {row : Option Nat} (h : Box w b T cs) (hg : w.grownBy w' row) (hne : some b ≠ row) : Box w' b T cs := h.of_block (hg.block b h.lt hne)
theorem Box.setOther (h : Box w b T cs) (a : Addr) (hne : b ≠ a.block) (u : Value) : Box (w.setCell a u) b T cs := h.of_block (Deep.blk_setCell_other w a u b hne)
theorem Box.set (h : Box w b T cs) (j : Nat) (u : Value) : Box (w.setCell ⟨b, j, none⟩ u) b T (cs.setIfInBounds j u) := heap_setCell_same w b j cs T u h
end

section
variable {w w' : World} {base : Nat} {e : TypeId} {size n : Nat} {v : Value} {xs : List Value}
theorem owns_of_block (h : w.ownsRow base e size v n xs) (hb : ∀ k, v.ownBlock = some k → w'.heap[k]? = w.heap[k]?) : w'.ownsRow base e size v n xs := by
  rcases h with ⟨h0, ⟨rfl, h1⟩ | ⟨g, cap, cur, rfl, h1, hg, h2⟩⟩
  · exact ⟨h0, .inl ⟨rfl, h1⟩⟩
  · exact ⟨h0, .inr ⟨g, cap, cur, rfl, h1, (hb g rfl).trans hg, h2⟩⟩
theorem owns_below {B : Nat} (h : w.ownsRow base e size v n xs) (hb : Below B w w') (hlt : w.heap.size ≤ B) : w'.ownsRow base e size v n xs :=
  owns_of_block h fun k hk => hb.block k (Nat.lt_of_lt_of_le (h.lt k hk).2 hlt)
theorem owns_heap (h : w.ownsRow base e size v n xs) (hh : w'.heap = w.heap) : w'.ownsRow base e size v n xs := owns_of_block h fun _ _ => by rw [hh]
theorem owns_base {base' : Nat} (h : w.ownsRow base e size v n xs) (hb : base' ≤ base) : w.ownsRow base' e size v n xs := by
  rcases h with ⟨h0, ⟨rfl, h1⟩ | ⟨g, cap, cur, rfl, h1, hg, h2⟩⟩
  · exact ⟨h0, .inl ⟨rfl, h1⟩⟩
  · exact ⟨h0, .inr ⟨g, cap, cur, rfl, Nat.le_trans hb h1, hg, h2⟩⟩
/-- Rows of different types of elements lie in different blocks. -/
theorem owns_ne {base2 : Nat} {e2 : TypeId} {size2 n2 : Nat} {v2 : Value} {xs2 : List Value} (h : w.ownsRow base e size v n xs) (h2 : w.ownsRow base2 e2 size2 v2 n2 xs2) (hne : e ≠ e2) : v.ownBlock = none ∨ v.ownBlock ≠ v2.ownBlock := by
  rcases h with ⟨_, ⟨rfl, _⟩ | ⟨g, cap, cur, rfl, _, hg, _⟩⟩
  · exact .inl rfl
  · right
    rcases h2 with ⟨_, ⟨rfl, _⟩ | ⟨g2, cap2, cur2, rfl, _, hg2, _⟩⟩
    · simp [Value.ownBlock]
    · simp only [Value.ownBlock, ne_eq, Option.some.injEq]
      rintro rfl
      rw [hg] at hg2
      simp at hg2
      exact hne hg2.2
end

theorem owns_shape {w : World} {base : Nat} {e : TypeId} {size n : Nat} {v : Value} {xs : List Value} (h : w.ownsRow base e size v n xs) : ∃ p c, v = .slice p n c := by
  rcases h with ⟨_, ⟨rfl, rfl⟩ | ⟨g, cap, cur, rfl, _⟩⟩
  · exact ⟨_, _, rfl⟩
  · exact ⟨_, _, rfl⟩
theorem owns_form {w : World} {base : Nat} {e : TypeId} {size n : Nat} {v : Value} {xs : List Value} (h : w.ownsRow base e size v n xs) (hn : 0 < n) :
    ∃ g cap, v = .slice (some ⟨g, 0, none⟩) n cap ∧ base ≤ g ∧ g < w.heap.size := World.ownsRow.form h hn
/-- A row of ints of the call's own. -/
def OwnI (w : World) (base : Nat) (v : Value) (l : List Int) : Prop := w.ownsRow base 3 1 v l.length (l.map (Value.int .i64))
theorem OwnI.nil (w : World) (base : Nat) : OwnI w base (.slice none 0 0) [] := World.ownsRow_nil _ _ _ _
theorem OwnI.ints {w : World} {base : Nat} {v : Value} {l : List Int} (h : OwnI w base v l) (hm : l.length * 8 ≤ 140737488351232) : Ints w v l := L.owns_ints h hm

/-- A row of rows of ints of the call's own. -/
def OwnL (w : World) (base : Nat) (v : Value) (L : List (List Int)) : Prop :=
  ∃ us : List Value, us.length = L.length ∧ w.ownsRow base 45 1 v L.length us ∧ ∀ j, j < L.length → OwnI w base (us.getD j (.slice none 0 0)) (L.getD j [])
section
variable {w w' : World} {base : Nat} {v : Value} {L : List (List Int)}
theorem OwnL.nil (w : World) (base : Nat) : OwnL w base (.slice none 0 0) [] := ⟨[], rfl, World.ownsRow_nil _ _ _ _, fun j hj => by simp at hj⟩
theorem OwnL.below {B : Nat} (h : OwnL w base v L) (hb : Below B w w') (hlt : w.heap.size ≤ B) : OwnL w' base v L := by
  obtain ⟨us, h1, h2, h3⟩ := h
  exact ⟨us, h1, owns_below h2 hb hlt, fun j hj => owns_below (h3 j hj) hb hlt⟩
theorem OwnL.heap (h : OwnL w base v L) (hh : w'.heap = w.heap) : OwnL w' base v L := by
  obtain ⟨us, h1, h2, h3⟩ := h
  exact ⟨us, h1, owns_heap h2 hh, fun j hj => owns_heap (h3 j hj) hh⟩
theorem OwnL.grown {row : Option Nat} (h : OwnL w base v L) (hg : w.grownBy w' row) (hne : ∀ k, row = some k → ∃ cur e, w.heap[k]? = some (.cells cur e (0, 0)) ∧ e ≠ 3 ∧ e ≠ 45) : OwnL w' base v L := by
  have far : ∀ {e : TypeId} {u : Value} {n : Nat} {xs : List Value}, (e = 3 ∨ e = 45) → w.ownsRow base e 1 u n xs → w'.ownsRow base e 1 u n xs := by
    intro e u n xs he hu
    refine owns_of_block hu fun k hk => hg.block k (hu.lt k hk).2 fun hr => ?_
    obtain ⟨cur, e2, h1, h2, h3⟩ := hne k hr.symm
    rcases hu with ⟨_, ⟨rfl, _⟩ | ⟨g, cap, cur', rfl, _, hg', _⟩⟩
    · cases hk
    · simp only [Value.ownBlock, Option.some.injEq] at hk
      subst hk
      rw [hg'] at h1
      simp at h1
      rcases he with rfl | rfl
      · exact h2 h1.2.symm
      · exact h3 h1.2.symm
  obtain ⟨us, h1, h2, h3⟩ := h
  exact ⟨us, h1, far (.inr rfl) h2, fun j hj => far (.inl rfl) (h3 j hj)⟩
theorem owns_typed {e : TypeId} {size n : Nat} {u : Value} {xs : List Value} (h : w.ownsRow base e size u n xs) : ∀ k, u.ownBlock = some k → ∃ cur, w.heap[k]? = some (.cells cur e (0, 0)) := by
  intro k hk
  rcases h with ⟨_, ⟨rfl, _⟩ | ⟨g, cap, cur, rfl, _, hg, _⟩⟩
  · cases hk
  · simp only [Value.ownBlock, Option.some.injEq] at hk
    subst hk
    exact ⟨cur, hg⟩
theorem OwnL.shape (h : OwnL w base v L) : (v = .slice none 0 0 ∧ L.length = 0) ∨ ∃ g c, v = .slice (some ⟨g, 0, none⟩) L.length c := by
  obtain ⟨us, h1, h2, h3⟩ := h
  rcases h2.2 with ⟨rfl, h0⟩ | ⟨g, cap, cur, rfl, _⟩
  · exact .inl ⟨rfl, h0⟩
  · exact .inr ⟨g, cap, rfl⟩
theorem OwnL.down {base' : Nat} (h : OwnL w base v L) (hb : base' ≤ base) : OwnL w base' v L := by
  obtain ⟨us, h1, h2, h3⟩ := h
  exact ⟨us, h1, owns_base h2 hb, fun j hj => owns_base (h3 j hj) hb⟩
theorem OwnL.setCell (h : OwnL w base v L) {a : Addr} (ha : a.block < base) (u : Value) : OwnL (w.setCell a u) base v L := by
  obtain ⟨us, h1, h2, h3⟩ := h
  exact ⟨us, h1, owns_of_block h2 fun k hk => Deep.blk_setCell_other w a u k (by have := (h2.lt k hk).1; omega), fun j hj => owns_of_block (h3 j hj) fun k hk => Deep.blk_setCell_other w a u k (by have := ((h3 j hj).lt k hk).1; omega)⟩
theorem OwnL.alloc (h : OwnL w base v L) (o : Obj) : OwnL (w.alloc o) base v L := by
  obtain ⟨us, h1, h2, h3⟩ := h
  exact ⟨us, h1, h2.alloc o, fun j hj => (h3 j hj).alloc o⟩
/-- Behind an append of a row. -/
theorem OwnL.push {u v' : Value} {l : List Int} {us : List Value} (h1 : us.length = L.length) (h2 : w.ownsRow base 45 1 v L.length us) (h3 : ∀ j, j < L.length → OwnI w base (us.getD j (.slice none 0 0)) (L.getD j []))
    (hu : OwnI w base u l) (h' : w'.ownsRow base 45 1 v' (L.length + 1) (us ++ [u])) (hg : w.grownBy w' v.ownBlock) : OwnL w' base v' (L ++ [l]) := by
  have kept : ∀ {x : Value} {k : List Int}, OwnI w base x k → OwnI w' base x k := fun hx => World.ownsRow.kept hx hg (owns_ne hx h2 (by decide))
  refine ⟨us ++ [u], by simp [h1], by simpa using h', fun j hj => ?_⟩
  by_cases hjl : j < L.length
  · have e1 : (us ++ [u]).getD j (.slice none 0 0) = us.getD j (.slice none 0 0) := by simp [List.getD, List.getElem?_append_left (show j < us.length by omega)]
    have e2 : (L ++ [l]).getD j [] = L.getD j [] := by simp [List.getD, List.getElem?_append_left hjl]
    rw [e1, e2]
    exact kept (h3 j hjl)
  · have hj' : j = L.length := by simp at hj; omega
    subst hj'
    have e1 : (us ++ [u]).getD L.length (.slice none 0 0) = u := by rw [← h1]; simp [List.getD]
    have e2 : (L ++ [l]).getD L.length [] = l := by simp [List.getD]
    rw [e1, e2]
    exact kept hu
theorem OwnL.lists (h : OwnL w base v L) (hm : L.length * 24 ≤ 140737488351232) (he : ∀ j, j < L.length → (L.getD j []).length * 8 ≤ 140737488351232) : Lists w v L := by
  obtain ⟨us, h1, h2, h3⟩ := h
  rcases h2.2 with ⟨rfl, h0⟩ | ⟨g, cap, cur, rfl, hb, hg, hn, hcap, hsz, htake⟩
  · exact ⟨none, 0, by rw [h0], by omega, hm, fun h => by omega⟩
  · refine ⟨some ⟨g, 0, none⟩, cap, rfl, hn, hm, fun _ => ⟨g, 0, rfl, fun j hj => ?_⟩⟩
    have := h2.cellAt j (by omega)
    refine ⟨us.getD j (.slice none 0 0), ?_, (h3 j hj).ints (he j hj)⟩
    rw [Nat.zero_add, this]
    simp [List.getD, show j < us.length by omega]
end
end K
end Go.Proofs.Ytenmgkomffnjaaa
