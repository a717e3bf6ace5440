/- Contract of the reference's Lines. -/
import Derived.Test.YtlkhabdpancjjaaDoorJRQ
import Derived.Test.YtlkhabdpancjjaaDoorQ05
import Derived.Laws.OwnMore
namespace Go.Proofs.YtlkhabdpancjjaaDoor
open Go.RowKit PA
namespace L
open K

/-- A row of texts of the call's own. -/
def OwnS (w : World) (base : Nat) (v : Value) (ws : List ByteArray) : Prop := w.ownsRow base 9 1 v ws.length (ws.map Value.string)
/-- A row of rows of texts of the call's own, those within all below block h. -/
def OwnSS (w : World) (base h : Nat) (v : Value) (LL : List (List ByteArray)) : Prop :=
  ∃ us : List Value, us.length = LL.length ∧ w.ownsRow base 35 1 v LL.length us ∧ ∀ j, j < LL.length → OwnS w base (us.getD j (.slice none 0 0)) (LL.getD j []) ∧ ∀ k, (us.getD j (.slice none 0 0)).ownBlock = some k → k < h
theorem OwnS.nil (w : World) (base : Nat) : OwnS w base (.slice none 0 0) [] := World.ownsRow_nil _ _ _ _
theorem OwnSS.nil (w : World) (base h : Nat) : OwnSS w base h (.slice none 0 0) [] := ⟨[], rfl, World.ownsRow_nil _ _ _ _, fun j hj => by simp at hj⟩
theorem OwnS.alloc {w : World} {base : Nat} {v : Value} {ws : List ByteArray} (h : OwnS w base v ws) (o : Obj) : OwnS (w.alloc o) base v ws := World.ownsRow.alloc h o
theorem OwnSS.alloc {w : World} {base h : Nat} {v : Value} {LL : List (List ByteArray)} (a : OwnSS w base h v LL) (o : Obj) : OwnSS (w.alloc o) base h v LL := by
  obtain ⟨us, h1, h2, h3⟩ := a
  exact ⟨us, h1, h2.alloc o, fun j hj => ⟨World.ownsRow.alloc (h3 j hj).1 o, (h3 j hj).2⟩⟩
theorem OwnSS.upto {w : World} {base h h' : Nat} {v : Value} {LL : List (List ByteArray)} (a : OwnSS w base h v LL) (hh : h ≤ h') : OwnSS w base h' v LL := by
  obtain ⟨us, h1, h2, h3⟩ := a
  exact ⟨us, h1, h2, fun j hj => ⟨(h3 j hj).1, fun k hk => Nat.lt_of_lt_of_le ((h3 j hj).2 k hk) hh⟩⟩
/-- Behind an append to the line, whose block lies at h or beyond. -/
theorem OwnSS.aside {w w' : World} {base h : Nat} {v u : Value} {LL : List (List ByteArray)} {ws : List ByteArray} (a : OwnSS w base h v LL) (hl : OwnS w h u ws) (hg : w.grownBy w' u.ownBlock) : OwnSS w' base h v LL := by
  obtain ⟨us, h1, h2, h3⟩ := a
  refine ⟨us, h1, World.ownsRow.kept h2 hg (owns_ne h2 hl (by decide)), fun j hj => ⟨World.ownsRow.kept (h3 j hj).1 hg ?_, (h3 j hj).2⟩⟩
  cases hb : (us.getD j (.slice none 0 0)).ownBlock with
  | none => exact .inl rfl
  | some k =>
    right
    intro e
    have h4 := (h3 j hj).2 k hb
    have h5 := (hl.lt k e.symm).1
    omega
/-- Behind an append of a line. -/
theorem OwnSS.push {w w' : World} {base h : Nat} {v v' u : Value} {LL : List (List ByteArray)} {ws : List ByteArray} {us : List Value} (h1 : us.length = LL.length) (h2 : w.ownsRow base 35 1 v LL.length us)
    (h3 : ∀ j, j < LL.length → OwnS w base (us.getD j (.slice none 0 0)) (LL.getD j []) ∧ ∀ k, (us.getD j (.slice none 0 0)).ownBlock = some k → k < h) (hl : OwnS w base u ws) (hs : h ≤ w.heap.size)
    (h' : w'.ownsRow base 35 1 v' (LL.length + 1) (us ++ [u])) (hg : w.grownBy w' v.ownBlock) : OwnSS w' base w'.heap.size v' (LL ++ [ws]) := by
  have kept : ∀ {x : Value} {k : List ByteArray}, OwnS w base x k → OwnS w' base x k := fun hx => World.ownsRow.kept hx hg (owns_ne hx h2 (by decide))
  refine ⟨us ++ [u], by simp [h1], by simpa using h', fun j hj => ?_⟩
  by_cases hjl : j < LL.length
  · have e1 : (us ++ [u]).getD j (.slice none 0 0) = us.getD j (.slice none 0 0) := by simp [List.getD, List.getElem?_append_left (show j < us.length by omega)]
    have e2 : (LL ++ [ws]).getD j [] = LL.getD j [] := by simp [List.getD, List.getElem?_append_left hjl]
    rw [e1, e2]
    exact ⟨kept (h3 j hjl).1, fun k hk => by have := (h3 j hjl).2 k hk; have := hg.size; omega⟩
  · have hj' : j = LL.length := by simp at hj; omega
    subst hj'
    have e1 : (us ++ [u]).getD LL.length (.slice none 0 0) = u := by rw [← h1]; simp [List.getD]
    have e2 : (LL ++ [ws]).getD LL.length [] = ws := by simp [List.getD]
    rw [e1, e2]
    have hk := kept hl
    exact ⟨hk, fun k hb => (hk.lt k hb).2⟩
def lstL (LL : List (List ByteArray)) : List (List (List UInt8)) := LL.map lstR
/-- Where the reference stands ahead of byte k. -/
def AtL (l : List UInt8) (k : Nat) (out : List (List (List UInt8))) (line : List (List UInt8)) (word : List UInt8) : Prop :=
  (k ≤ l.length ∧ out ++ goL (l.drop k) word line (decide (k = 0 ∨ l.getD (k - 1) 0 = 10)) = goL l [] [] true) ∨ (k = l.length + 1 ∧ out = goL l [] [] true)
theorem atL_start (l : List UInt8) : AtL l 0 [] [] [] := .inl ⟨Nat.zero_le _, by simp⟩
section
variable {l : List UInt8} {k : Nat} {out : List (List (List UInt8))} {line : List (List UInt8)} {word : List UInt8}
theorem drop_getD (h : k < l.length) : l.drop k = l.getD k 0 :: l.drop (k + 1) := by
  rw [List.drop_eq_getElem_cons h]; simp [List.getD, h]
theorem AtL.letter (h : AtL l k out line word) (hk : k < l.length) (hs : sepB (l.getD k 0) = false) : AtL l (k + 1) out line (word ++ [l.getD k 0]) := by
  rcases h with ⟨h1, h2⟩ | ⟨h1, _⟩
  · refine .inl ⟨hk, ?_⟩
    rw [← h2, drop_getD hk]
    conv => rhs; unfold goL
    rw [if_neg (by rw [hs]; decide)]
    have hne : ¬ (k + 1 = 0 ∨ l.getD (k + 1 - 1) 0 = 10) := by
      rw [Nat.add_sub_cancel]
      rintro (e | e)
      · omega
      · rw [e] at hs; revert hs; decide
    rw [decide_eq_false hne]
  · omega
theorem AtL.blank (h : AtL l k out line word) (hk : k < l.length) (hs : sepB (l.getD k 0) = true) (h10 : l.getD k 0 ≠ 10) : AtL l (k + 1) out (pushW line word) [] := by
  rcases h with ⟨h1, h2⟩ | ⟨h1, _⟩
  · refine .inl ⟨hk, ?_⟩
    rw [← h2, drop_getD hk]
    conv => rhs; unfold goL
    rw [if_pos hs, if_neg h10]
    have hne : ¬ (k + 1 = 0 ∨ l.getD (k + 1 - 1) 0 = 10) := by
      rw [Nat.add_sub_cancel]
      rintro (e | e)
      · omega
      · exact h10 e
    rw [decide_eq_false hne]
  · omega
theorem AtL.feed (h : AtL l k out line word) (hk : k < l.length) (h10 : l.getD k 0 = 10) : AtL l (k + 1) (out ++ [pushW line word]) [] [] := by
  rcases h with ⟨h1, h2⟩ | ⟨h1, _⟩
  · refine .inl ⟨hk, ?_⟩
    rw [← h2, drop_getD hk]
    conv => rhs; unfold goL
    rw [h10, if_pos (show sepB 10 = true from rfl), if_pos rfl, List.append_assoc, List.singleton_append]
    have hp : k + 1 = 0 ∨ l.getD (k + 1 - 1) 0 = 10 := by rw [Nat.add_sub_cancel]; exact .inr h10
    rw [decide_eq_true hp]
  · omega
theorem AtL.last (h : AtL l l.length out line word) (hn : 0 < l.length) (h10 : l.getD (l.length - 1) 0 ≠ 10) : AtL l (l.length + 1) (out ++ [pushW line word]) [] [] := by
  rcases h with ⟨h1, h2⟩ | ⟨h1, _⟩
  · refine .inr ⟨rfl, ?_⟩
    rw [← h2, List.drop_length]
    unfold goL
    rw [decide_eq_false (fun e => e.elim (fun e => by omega) h10)]
    simp
  · omega
theorem AtL.done (h : AtL l l.length out line word) (hb : l.length = 0 ∨ l.getD (l.length - 1) 0 = 10) (line' : List (List UInt8)) : AtL l (l.length + 1) out line' [] := by
  rcases h with ⟨h1, h2⟩ | ⟨h1, _⟩
  · refine .inr ⟨rfl, ?_⟩
    rw [← h2, List.drop_length]
    unfold goL
    rw [decide_eq_true hb]
    simp
  · omega
theorem AtL.all (h : AtL l k out line word) (hk : l.length < k) : out = goL l [] [] true := by
  rcases h with ⟨h1, _⟩ | ⟨_, h2⟩
  · omega
  · exact h2
end
end L
end Go.Proofs.YtlkhabdpancjjaaDoor
