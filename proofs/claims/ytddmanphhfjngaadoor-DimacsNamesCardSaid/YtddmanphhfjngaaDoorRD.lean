/- The reader in memory. -/
import Derived.Test.YtddmanphhfjngaaDoorND
import Derived.Test.YtddmanphhfjngaaDoorPC
import Derived.Deep.RegionHeld3
namespace Go.Proofs.YtddmanphhfjngaaDoor
open Go.RowKit PA RA
namespace L
open K

/-- The reader's cells. -/
def rcells (r : RS) (vc vk : Value) : Array Value := #[.int .i64 r.line, .bool r.header, .int .i64 r.vars, vc, .int .i64 r.left, vk, .int .i64 r.first]
/-- The reader lies in block R; its rows from block B on; those of clauses that have ended below block C, the open one from C on. -/
def RdV (W : World) (R B C : Nat) (r : RS) (vc vk : Value) (us : List Value) : Prop :=
  Box W R 52 (rcells r vc vk) ∧ us.length = r.cls.length ∧ W.ownsRow B 34 1 vc r.cls.length us ∧
  (∀ j, j < r.cls.length → OwnI W B (us.getD j (.slice none 0 0)) (r.cls.getD j []) ∧ ∀ k, (us.getD j (.slice none 0 0)).ownBlock = some k → k < C) ∧ OwnI W C vk r.cur
def Rd (W : World) (R B C : Nat) (r : RS) : Prop := R < B ∧ B ≤ C ∧ C ≤ W.heap.size ∧ ∃ vc vk us, RdV W R B C r vc vk us

theorem owns_keep {W W' : World} {base : Nat} {e : TypeId} {size n : Nat} {v : Value} {xs : List Value} {p : Nat → Prop} (h : W.ownsRow base e size v n xs) (hk : Keep p W W') (hp : ∀ k, v.ownBlock = some k → p k) : W'.ownsRow base e size v n xs :=
  owns_of_block h fun k hv => hk.block k (h.lt k hv).2 (hp k hv)
theorem RdV.keep {W W' : World} {R B C : Nat} {r : RS} {vc vk : Value} {us : List Value} {p : Nat → Prop} (h : RdV W R B C r vc vk us) (hBC : B ≤ C) (hk : Keep p W W') (hR : p R) (hB : ∀ k, B ≤ k → p k) : RdV W' R B C r vc vk us := by
  obtain ⟨h1, h2, h3, h4, h5⟩ := h
  exact ⟨box_keep h1 hk hR, h2, owns_keep h3 hk fun k hv => hB k (h3.lt k hv).1, fun j hj => ⟨owns_keep (h4 j hj).1 hk fun k hv => hB k ((h4 j hj).1.lt k hv).1, (h4 j hj).2⟩, owns_keep h5 hk fun k hv => hB k (Nat.le_trans hBC (h5.lt k hv).1)⟩
theorem Rd.keep {W W' : World} {R B C : Nat} {r : RS} {p : Nat → Prop} (h : Rd W R B C r) (hk : Keep p W W') (hR : p R) (hB : ∀ k, B ≤ k → p k) : Rd W' R B C r := by
  obtain ⟨h1, h2, h3, vc, vk, us, h4⟩ := h
  exact ⟨h1, h2, Nat.le_trans h3 hk.size, vc, vk, us, h4.keep h2 hk hR hB⟩

/-- What a reader's methods leave alone: all below B but its own block. -/
def Chg (R B : Nat) (k : Nat) : Prop := k < B ∧ k ≠ R
/-- Rows of strings stay. -/
def StrKeep (W W' : World) : Prop := ∀ (k : Nat) (cur : Array Value), W.heap[k]? = some (.cells cur 9 (0, 0)) → W'.heap[k]? = some (.cells cur 9 (0, 0))
theorem StrKeep.refl (W : World) : StrKeep W W := fun _ _ h => h
theorem StrKeep.trans {a b c : World} (h : StrKeep a b) (k : StrKeep b c) : StrKeep a c := fun i cur hi => k i cur (h i cur hi)
theorem StrKeep.alloc {a b : World} (h : StrKeep a b) (o : Obj) : StrKeep a (b.alloc o) := fun i cur hi => by
  have := h i cur hi
  exact (Below.heap_alloc _ _ _ (Array.getElem?_eq_some_iff.1 this).1).trans this
theorem StrKeep.heap {a b c : World} (h : StrKeep a b) (hh : c.heap = b.heap) : StrKeep a c := fun i cur hi => by rw [hh]; exact h i cur hi
theorem StrKeep.grown {a b c : World} {row : Option Nat} (h : StrKeep a b) (hg : b.grownBy c row) (hne : ∀ k, row = some k → ∃ cur e, b.heap[k]? = some (.cells cur e (0, 0)) ∧ e ≠ 9) : StrKeep a c := fun i cur hi => by
  have h1 := h i cur hi
  refine (hg.block i (Array.getElem?_eq_some_iff.1 h1).1 fun hr => ?_).trans h1
  obtain ⟨cur2, e, h2, h3⟩ := hne i hr.symm
  rw [h1] at h2
  simp at h2
  exact h3 h2.2.symm
theorem StrKeep.set {a b : World} (h : StrKeep a b) {x : Addr} {cs : Array Value} {e : TypeId} (hx : Box b x.block e cs) (he : e ≠ 9) (u : Value) : StrKeep a (b.setCell x u) := fun i cur hi => by
  have h1 := h i cur hi
  refine (Below.heap_setCell _ _ _ _ fun hr => ?_).trans h1
  subst hr
  unfold Box at hx
  rw [h1] at hx
  simp at hx
  exact he hx.2.symm
theorem owns_strkeep {W W' : World} {base n : Nat} {v : Value} {xs : List Value} (h : W.ownsRow base 9 1 v n xs) (hk : StrKeep W W') : W'.ownsRow base 9 1 v n xs := by
  rcases h with ⟨h0, ⟨rfl, h1⟩ | ⟨g, cap, cur, rfl, h1, hg, h2⟩⟩
  · exact ⟨h0, .inl ⟨rfl, h1⟩⟩
  · exact ⟨h0, .inr ⟨g, cap, cur, rfl, h1, hk g cur hg, h2⟩⟩

/-- How a method of the reader ends. -/
def REnd (R B : Nat) (W : World) (x : RS × Int) (e : Ending) (W' : World) : Prop :=
  e = .returned (.int .i64 x.2) ∧ (∃ C, Rd W' R B C x.1) ∧ Keep (Chg R B) W W' ∧ StrKeep W W'
end L
end Go.Proofs.YtddmanphhfjngaaDoor
