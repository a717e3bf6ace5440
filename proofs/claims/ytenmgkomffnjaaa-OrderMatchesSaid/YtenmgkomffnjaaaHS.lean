/- The reference's heap in memory. -/
import Derived.Test.YtenmgkomffnjaaaHO
import Derived.Deep.OwnRows
namespace Go.Proofs.Ytenmgkomffnjaaa
open Go.RowKit
namespace HP
/-- The best of the first k, or -1. -/
def BestTo (A : List Int) (S : List Bool) (k : Nat) (b : Int) : Prop := (b = -1 ∧ ∀ x, x < k → S.getD x false = false) ∨ ∃ n : Nat, b = (n : Int) ∧ n < k ∧ Best A (fun x => x < k ∧ S.getD x false = true) n
section
variable {A : List Int} {S : List Bool} {k : Nat}
theorem bestTo_zero : BestTo A S 0 (-1) := .inl ⟨rfl, fun _ hx => absurd hx (Nat.not_lt_zero _)⟩
theorem BestTo.skip {b : Int} (h : BestTo A S k b) (hk : S.getD k false = false) : BestTo A S (k + 1) b := by
  rcases h with ⟨h1, h2⟩ | ⟨n, h1, h2, h3, h4⟩
  · refine .inl ⟨h1, fun x hx => ?_⟩
    by_cases e : x = k
    · rw [e]; exact hk
    · exact h2 x (by omega)
  · refine .inr ⟨n, h1, by omega, ⟨by omega, h3.2⟩, fun x hx hne => ?_⟩
    by_cases e : x = k
    · have h5 := hx.2
      rw [e, hk] at h5
      cases h5
    · exact h4 x ⟨by omega, hx.2⟩ hne
theorem BestTo.first (h : BestTo A S k (-1)) (hk : S.getD k false = true) : BestTo A S (k + 1) (k : Int) := by
  rcases h with ⟨_, h2⟩ | ⟨n, h1, _⟩
  · refine .inr ⟨k, rfl, by omega, ⟨by omega, hk⟩, fun x hx hne => ?_⟩
    have h3 := h2 x (by have := hx.1; omega)
    have h4 := hx.2
    rw [h3] at h4
    cases h4
  · omega
theorem BestTo.more {n : Nat} (h : BestTo A S k (n : Int)) (hk : S.getD k false = true) (hlt : A.getD n 0 < A.getD k 0) : BestTo A S (k + 1) (k : Int) := by
  rcases h with ⟨h1, _⟩ | ⟨m, h1, h2, h3, h4⟩
  · omega
  · obtain rfl : n = m := by omega
    refine .inr ⟨k, rfl, by omega, ⟨by omega, hk⟩, fun x hx hne => ?_⟩
    by_cases e : x = n
    · subst e; exact .inl hlt
    · have := h4 x ⟨by omega, hx.2⟩ e
      unfold Pre at *
      omega
theorem BestTo.less {n : Nat} (h : BestTo A S k (n : Int)) (hle : ¬ A.getD n 0 < A.getD k 0) : BestTo A S (k + 1) (n : Int) := by
  rcases h with ⟨h1, _⟩ | ⟨m, h1, h2, h3, h4⟩
  · omega
  · obtain rfl : n = m := by omega
    refine .inr ⟨n, rfl, by omega, ⟨by omega, h3.2⟩, fun x hx hne => ?_⟩
    by_cases e : x = k
    · subst e; unfold Pre; omega
    · exact h4 x ⟨by omega, hx.2⟩ hne
theorem BestTo.lt {n : Nat} (h : BestTo A S k (n : Int)) : n < k := by
  rcases h with ⟨h1, _⟩ | ⟨m, h1, h2, _⟩ <;> omega
theorem BestTo.form {b : Int} (h : BestTo A S k b) : b = -1 ∨ ∃ n : Nat, b = (n : Int) ∧ n < k := by
  rcases h with ⟨h1, _⟩ | ⟨m, h1, h2, _⟩
  · exact .inl h1
  · exact .inr ⟨m, h1, h2⟩
theorem getD_set_bool (T : List Bool) (i j : Nat) (x : Bool) (hi : i < T.length) : (T.set i x).getD j false = if j = i then x else T.getD j false := by
  simp only [List.getD_eq_getElem?_getD, List.getElem?_set]
  by_cases h : j = i
  · subst h; simp [hi]
  · rw [if_neg (fun e => h e.symm), if_neg h]
end
end HP
namespace K
open HP
def bcells (S : List Bool) : List Value := S.map Value.bool
theorem bcells_len (S : List Bool) : (bcells S).length = S.length := by simp [bcells]
theorem bcells_at {S : List Bool} {k : Nat} (h : k < S.length) : (bcells S)[k]? = some (.bool (S.getD k false)) := by simp [bcells, List.getD, h]
theorem bcells_set (S : List Bool) (k : Nat) (x : Bool) : (bcells S).set k (.bool x) = bcells (S.set k x) := by simp [bcells, List.map_set]

/-- The reference's heap in memory. -/
structure RefM (lo hi : Nat) (w : World) (g : Nat) (va vi : Value) (A : List Int) (S : List Bool) : Prop where
  box : Box w g 66 #[va, vi]
  act : w.ownsRow lo 3 1 va A.length (icells A)
  ins : w.ownsRow lo 4 1 vi A.length (bcells S)
  slen : S.length = A.length
  lo_g : lo ≤ g
  hi_g : g < hi
  hi_a : ∀ k, va.ownBlock = some k → k < hi
  hi_i : ∀ k, vi.ownBlock = some k → k < hi
  hi_w : hi ≤ w.heap.size
  small : A.length ≤ 1048576
  acts : ∀ k, k < A.length → 0 ≤ A.getD k 0 ∧ A.getD k 0 ≤ 1152921504606846976
def RefAt (lo hi : Nat) (w : World) (p : Value) (A : List Int) (S : List Bool) : Prop := ∃ g va vi, p = .pointer (some ⟨g, 0, none⟩) ∧ RefM lo hi w g va vi A S
section
variable {lo hi : Nat} {w w' : World} {g : Nat} {va vi p : Value} {A : List Int} {S : List Bool}
theorem RefM.ne_a (h : RefM lo hi w g va vi A S) : ∀ k, va.ownBlock = some k → k ≠ g := fun k hk e => by
  obtain ⟨cur, hc⟩ := owns_typed h.act k hk
  have hb := h.box
  unfold Box at hb
  rw [e, hb] at hc
  simp at hc
theorem RefM.ne_i (h : RefM lo hi w g va vi A S) : ∀ k, vi.ownBlock = some k → k ≠ g := fun k hk e => by
  obtain ⟨cur, hc⟩ := owns_typed h.ins k hk
  have hb := h.box
  unfold Box at hb
  rw [e, hb] at hc
  simp at hc
theorem RefM.ne_ai (h : RefM lo hi w g va vi A S) {j k : Nat} (hj : va.ownBlock = some j) (hk : vi.ownBlock = some k) : j ≠ k := fun e => by
  rcases owns_ne h.act h.ins (by decide) with h1 | h1
  · rw [h1] at hj; cases hj
  · exact h1 (by rw [hj, hk, e])
theorem RefM.of_blocks (h : RefM lo hi w g va vi A S) (hs : hi ≤ w'.heap.size) (e : ∀ k, lo ≤ k → k < hi → w'.heap[k]? = w.heap[k]?) : RefM lo hi w' g va vi A S :=
  { h with
    box := h.box.of_block (e _ h.lo_g h.hi_g)
    act := owns_of_block h.act fun k hk => e _ (h.act.lt k hk).1 (h.hi_a k hk)
    ins := owns_of_block h.ins fun k hk => e _ (h.ins.lt k hk).1 (h.hi_i k hk)
    hi_w := hs }
theorem RefAt.of_blocks (h : RefAt lo hi w p A S) (hs : hi ≤ w'.heap.size) (e : ∀ k, lo ≤ k → k < hi → w'.heap[k]? = w.heap[k]?) : RefAt lo hi w' p A S := by
  obtain ⟨g, va, vi, hp, h⟩ := h
  exact ⟨g, va, vi, hp, h.of_blocks hs e⟩
theorem RefAt.hi_w (h : RefAt lo hi w p A S) : hi ≤ w.heap.size := by
  obtain ⟨g, va, vi, hp, h⟩ := h
  exact h.hi_w
theorem RefAt.below {B : Nat} (h : RefAt lo hi w p A S) (hb : Below B w w') (hB : hi ≤ B) : RefAt lo hi w' p A S :=
  h.of_blocks (Nat.le_trans h.hi_w hb.size) fun k _ hk => hb.block k (by omega)
theorem RefAt.grow (h : RefAt lo hi w p A S) (hb : Below w.heap.size w w') : RefAt lo hi w' p A S := h.below hb h.hi_w
theorem RefAt.out {lo' hi' : Nat} (h : RefAt lo hi w p A S) (ho : Out lo' hi' w w') (hd : hi ≤ lo' ∨ hi' ≤ lo) : RefAt lo hi w' p A S :=
  h.of_blocks (Nat.le_trans h.hi_w ho.size) fun k h1 h2 => ho.block k (by have := h.hi_w; omega) (by omega)
theorem RefAt.ptr (h : RefAt lo hi w p A S) : ∃ g, p = .pointer (some ⟨g, 0, none⟩) := by
  obtain ⟨g, va, vi, hp, h⟩ := h
  exact ⟨g, hp⟩
theorem RefAt.lens (h : RefAt lo hi w p A S) : S.length = A.length ∧ A.length ≤ 1048576 := by
  obtain ⟨g, va, vi, hp, h⟩ := h
  exact ⟨h.slen, h.small⟩
theorem RefAt.acts (h : RefAt lo hi w p A S) : ∀ k, k < A.length → 0 ≤ A.getD k 0 ∧ A.getD k 0 ≤ 1152921504606846976 := by
  obtain ⟨g, va, vi, hp, h⟩ := h
  exact h.acts
/-- An activity is stored. -/
theorem RefM.storeA {ga c : Nat} (h : RefM lo hi w g (.slice (some ⟨ga, 0, none⟩) A.length c) vi A S) (k : Nat) (x : Int) (h0 : 0 ≤ x) (h1 : x ≤ 1152921504606846976) :
    RefM lo hi (w.setCell ⟨ga, k, none⟩ (.int .i64 x)) g (.slice (some ⟨ga, 0, none⟩) A.length c) vi (A.set k x) S :=
  { h with
    box := h.box.setOther ⟨ga, k, none⟩ (fun e => h.ne_a ga rfl e.symm) _
    act := by have := (h.act.stored k (.int .i64 x)).1; rw [icells_set] at this; simpa using this
    ins := by
      have := owns_of_block (w' := w.setCell ⟨ga, k, none⟩ (.int .i64 x)) h.ins fun j hj => Deep.blk_setCell_other w _ _ _ (fun e => h.ne_ai rfl hj e.symm)
      simpa using this
    slen := by simpa using h.slen
    hi_w := by simpa [World.setCell] using h.hi_w
    small := by simpa using h.small
    acts := fun j hj => by
      by_cases hk : k < A.length
      · rw [getD_set_int _ _ _ _ hk]
        split
        · exact ⟨h0, h1⟩
        · exact h.acts j (by simpa using hj)
      · rw [List.set_eq_of_length_le (by omega)]
        exact h.acts j (by simpa using hj) }
/-- Whether one is in is stored. -/
theorem RefM.storeI {gi c : Nat} (h : RefM lo hi w g va (.slice (some ⟨gi, 0, none⟩) A.length c) A S) (k : Nat) (x : Bool) :
    RefM lo hi (w.setCell ⟨gi, k, none⟩ (.bool x)) g va (.slice (some ⟨gi, 0, none⟩) A.length c) A (S.set k x) :=
  { h with
    box := h.box.setOther ⟨gi, k, none⟩ (fun e => h.ne_i gi rfl e.symm) _
    act := owns_of_block h.act fun j hj => Deep.blk_setCell_other w _ _ _ (fun e => h.ne_ai hj rfl e)
    ins := by have := (h.ins.stored k (.bool x)).1; rwa [bcells_set] at this
    slen := by simpa using h.slen
    hi_w := by simpa [World.setCell] using h.hi_w }
theorem RefM.formA (h : RefM lo hi w g va vi A S) (h0 : 0 < A.length) : ∃ ga c, va = .slice (some ⟨ga, 0, none⟩) A.length c ∧ lo ≤ ga ∧ ga < hi ∧ ∀ k, k < A.length → w.cell? ⟨ga, k, none⟩ = some (.int .i64 (A.getD k 0)) := by
  obtain ⟨ga, c, rfl, hb, hl⟩ := owns_form h.act h0
  exact ⟨ga, c, rfl, hb, h.hi_a _ rfl, fun k hk => (h.act.cellAt k (by omega)).trans (icells_at hk)⟩
theorem RefM.formI (h : RefM lo hi w g va vi A S) (h0 : 0 < A.length) : ∃ gi c, vi = .slice (some ⟨gi, 0, none⟩) A.length c ∧ lo ≤ gi ∧ gi < hi ∧ ∀ k, k < A.length → w.cell? ⟨gi, k, none⟩ = some (.bool (S.getD k false)) := by
  obtain ⟨gi, c, rfl, hb, hl⟩ := owns_form h.ins h0
  exact ⟨gi, c, rfl, hb, h.hi_i _ rfl, fun k hk => (h.ins.cellAt k (by omega)).trans (bcells_at (by rw [h.slen]; exact hk))⟩
end
end K
end Go.Proofs.Ytenmgkomffnjaaa
