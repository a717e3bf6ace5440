/- A heap in memory: a box of four cells, the row of the variables, the tree and the places; what stays of it. -/
import Derived.Test.YtenmgkomffnjaaaYA
import Derived.Test.YtenmgkomffnjaaaHA
import Derived.Laws.OwnMore
namespace Go.Proofs.Ytenmgkomffnjaaa
open Go.RowKit
namespace K
open HP

/-- What lies outside the blocks from lo to hi stays. -/
structure Out (lo hi : Nat) (w w' : World) : Prop where
  os : w'.os = w.os
  tape : w'.tape = w.tape
  output : w'.output = w.output
  size : w.heap.size ≤ w'.heap.size
  block : ∀ k, k < w.heap.size → (k < lo ∨ hi ≤ k) → w'.heap[k]? = w.heap[k]?
section
variable {lo hi : Nat} {a b c : World}
theorem Out.refl (lo hi : Nat) (w : World) : Out lo hi w w := ⟨rfl, rfl, rfl, Nat.le_refl _, fun _ _ _ => rfl⟩
theorem Out.trans (h : Out lo hi a b) (k : Out lo hi b c) : Out lo hi a c :=
  ⟨k.os.trans h.os, k.tape.trans h.tape, k.output.trans h.output, Nat.le_trans h.size k.size, fun i hi hp => (k.block i (Nat.lt_of_lt_of_le hi h.size) hp).trans (h.block i hi hp)⟩
theorem Out.below {B : Nat} (h : Out lo hi a b) (hb : Below B b c) (hB : a.heap.size ≤ B) : Out lo hi a c :=
  ⟨hb.os.trans h.os, hb.tape.trans h.tape, hb.output.trans h.output, Nat.le_trans h.size hb.size, fun i hi hp => (hb.block i (by omega)).trans (h.block i hi hp)⟩
theorem Out.of_below {B : Nat} (hb : Below B a b) (hB : a.heap.size ≤ B) : Out lo hi a b := (Out.refl lo hi a).below hb hB
theorem Out.to_below {B : Nat} (h : Out lo hi a b) (hB : B ≤ a.heap.size) (hl : B ≤ lo) : Below B a b :=
  ⟨h.os, h.tape, h.output, h.size, fun k hk => h.block k (by omega) (.inl (by omega))⟩
theorem Out.setCell (h : Out lo hi a b) {p : Addr} (h1 : lo ≤ p.block) (h2 : p.block < hi) (u : Value) : Out lo hi a (b.setCell p u) :=
  h.trans ⟨rfl, rfl, rfl, by simp [World.setCell], fun k _ hp => Below.heap_setCell _ _ _ _ (by omega)⟩
theorem Out.cell {p : Addr} (h : Out lo hi a b) (h1 : p.block < a.heap.size) (hp : p.block < lo ∨ hi ≤ p.block) : b.cell? p = a.cell? p := World.cell?_of_block (w := a) (h.block p.block h1 hp)
theorem Out.mono {lo' hi' : Nat} (h : Out lo hi a b) (h1 : lo' ≤ lo) (h2 : hi ≤ hi') : Out lo' hi' a b := ⟨h.os, h.tape, h.output, h.size, fun k hk hp => h.block k hk (by omega)⟩
theorem Out.trod (h : Out lo hi a b) (hb : Below a.heap.size b c) : Out lo hi a c := h.below hb (Nat.le_refl _)
end

/-- The cells of the variables from number k + 1 on, with their activities. -/
def vcellsF : Nat → List Int → List Value
  | _, [] => []
  | k, a :: l => .int .i64 ((k : Int) + 1) :: .int .i64 a :: vcellsF (k + 1) l
def vcells (A : List Int) : List Value := vcellsF 0 A
theorem vcellsF_len (k : Nat) (A : List Int) : (vcellsF k A).length = A.length * 2 := by
  induction A generalizing k with
  | nil => rfl
  | cons a l ih => simp [vcellsF, ih]; omega
theorem vcellsF_0 (k : Nat) (A : List Int) (i : Nat) (h : i < A.length) : (vcellsF k A)[i * 2]? = some (.int .i64 (((k + i : Nat) : Int) + 1)) := by
  induction A generalizing k i with
  | nil => cases h
  | cons a l ih =>
    cases i with
    | zero => simp [vcellsF]
    | succ i =>
      rw [show (i + 1) * 2 = i * 2 + 1 + 1 by omega]
      simp only [vcellsF, List.getElem?_cons_succ]
      rw [ih (k + 1) i (by simpa using h), show k + 1 + i = k + (i + 1) by omega]
theorem vcellsF_1 (k : Nat) (A : List Int) (i : Nat) (h : i < A.length) : (vcellsF k A)[i * 2 + 1]? = some (.int .i64 (A.getD i 0)) := by
  induction A generalizing k i with
  | nil => cases h
  | cons a l ih =>
    cases i with
    | zero => simp [vcellsF]
    | succ i =>
      rw [show (i + 1) * 2 + 1 = (i * 2 + 1) + 1 + 1 by omega]
      simp only [vcellsF, List.getElem?_cons_succ]
      rw [ih (k + 1) i (by simpa using h)]
      simp [List.getD]
theorem vcellsF_set (k : Nat) (A : List Int) (i : Nat) (x : Int) : (vcellsF k A).set (i * 2 + 1) (.int .i64 x) = vcellsF k (A.set i x) := by
  induction A generalizing k i with
  | nil => rfl
  | cons a l ih =>
    cases i with
    | zero => rfl
    | succ i =>
      rw [show (i + 1) * 2 + 1 = (i * 2 + 1) + 1 + 1 by omega]
      simp only [vcellsF, List.set_cons_succ]
      rw [ih (k + 1) i]
theorem vcells_len (A : List Int) : (vcells A).length = A.length * 2 := vcellsF_len 0 A
theorem vcells_0 {A : List Int} {i : Nat} (h : i < A.length) : (vcells A)[i * 2]? = some (.int .i64 ((i : Int) + 1)) := by
  have := vcellsF_0 0 A i h; rwa [Nat.zero_add] at this
theorem vcells_1 {A : List Int} {i : Nat} (h : i < A.length) : (vcells A)[i * 2 + 1]? = some (.int .i64 (A.getD i 0)) := vcellsF_1 0 A i h
theorem vcells_set (A : List Int) (i : Nat) (x : Int) : (vcells A).set (i * 2 + 1) (.int .i64 x) = vcells (A.set i x) := vcellsF_set 0 A i x
theorem vcells_set0 {A : List Int} {i : Nat} (h : i < A.length) : (vcells A).set (i * 2) (.int .i64 ((i : Int) + 1)) = vcells A := by
  have := vcells_0 h
  obtain ⟨h1, h2⟩ := List.getElem?_eq_some_iff.1 this
  rw [← h2]; exact List.set_getElem_self h1
/-- The cells of numbers. -/
def ncells (R : List Nat) : List Value := R.map fun x : Nat => Value.int .i64 (x : Int)
def icells (Q : List Int) : List Value := Q.map (.int .i64)
theorem ncells_len (R : List Nat) : (ncells R).length = R.length := by simp [ncells]
theorem icells_len (R : List Int) : (icells R).length = R.length := by simp [icells]
theorem ncells_at {R : List Nat} {k : Nat} (h : k < R.length) : (ncells R)[k]? = some (.int .i64 (R.getD k 0 : Nat)) := by simp [ncells, List.getD, h]
theorem icells_at {R : List Int} {k : Nat} (h : k < R.length) : (icells R)[k]? = some (.int .i64 (R.getD k 0)) := by simp [icells, List.getD, h]
theorem ncells_set (R : List Nat) (k x : Nat) : (ncells R).set k (.int .i64 (x : Int)) = ncells (R.set k x) := by simp [ncells, List.map_set]
theorem icells_set (R : List Int) (k : Nat) (x : Int) : (icells R).set k (.int .i64 x) = icells (R.set k x) := by simp [icells, List.map_set]

/-- Where a heap's parts lie. -/
structure Spot where
  g : Nat
  ga : Nat
  gt : Nat
  gp : Nat
  ca : Nat
  ct : Nat
  cp : Nat
/-- The heap's parts lie there, between lo and hi: variables with activities A, the tree R, the places Q. -/
structure Mem (T : TypeId) (lo hi : Nat) (w : World) (s : Spot) (A : List Int) (R : List Nat) (Q : List Int) : Prop where
  box : Box w s.g T #[.slice (some ⟨s.ga, 0, none⟩) A.length s.ca, .func (.func 30) #[] #[], .slice (some ⟨s.gt, 0, none⟩) R.length s.ct, .slice (some ⟨s.gp, 0, none⟩) A.length s.cp]
  all : w.ownsRow 0 57 2 (.slice (some ⟨s.ga, 0, none⟩) A.length s.ca) A.length (vcells A)
  tree : w.ownsRow lo 3 1 (.slice (some ⟨s.gt, 0, none⟩) R.length s.ct) R.length (ncells R)
  place : w.ownsRow lo 3 1 (.slice (some ⟨s.gp, 0, none⟩) A.length s.cp) A.length (icells Q)
  plen : Q.length = A.length
  lo_g : lo ≤ s.g
  hi_g : s.g < hi
  hi_a : s.ga < hi
  hi_t : s.gt < hi
  hi_p : s.gp < hi
  hi_w : hi ≤ w.heap.size
  ne_ga : s.g ≠ s.ga
  ne_gt : s.g ≠ s.gt
  ne_gp : s.g ≠ s.gp
  ne_at : s.ga ≠ s.gt
  ne_ap : s.ga ≠ s.gp
  ne_tp : s.gt ≠ s.gp
  small : A.length ≤ 1048576

section
variable {T : TypeId} {lo hi : Nat} {w w' : World} {s : Spot} {A : List Int} {R : List Nat} {Q : List Int}
theorem Mem.of_blocks (h : Mem T lo hi w s A R Q) (hs : hi ≤ w'.heap.size) (e : ∀ k, (lo ≤ k ∨ k = s.ga) → k < hi → w'.heap[k]? = w.heap[k]?) : Mem T lo hi w' s A R Q := by
  have lt := (h.tree.lt _ rfl).1
  have lp := (h.place.lt _ rfl).1
  exact { h with
    box := h.box.of_block (e _ (.inl h.lo_g) h.hi_g)
    all := owns_of_block h.all fun k hk => by cases hk; exact e _ (.inr rfl) h.hi_a
    tree := owns_of_block h.tree fun k hk => by cases hk; exact e _ (.inl lt) h.hi_t
    place := owns_of_block h.place fun k hk => by cases hk; exact e _ (.inl lp) h.hi_p
    hi_w := hs }
theorem Mem.below {B : Nat} (h : Mem T lo hi w s A R Q) (hb : Below B w w') (hB : hi ≤ B) : Mem T lo hi w' s A R Q :=
  h.of_blocks (Nat.le_trans h.hi_w hb.size) fun k _ hk => hb.block k (by omega)
theorem Mem.out {lo' hi' : Nat} (h : Mem T lo hi w s A R Q) (ha : lo ≤ s.ga) (ho : Out lo' hi' w w') (hd : hi ≤ lo' ∨ hi' ≤ lo) : Mem T lo hi w' s A R Q :=
  h.of_blocks (Nat.le_trans h.hi_w ho.size) fun k h1 h2 => ho.block k (by have := h.hi_w; omega) (by omega)
theorem Mem.tcell (h : Mem T lo hi w s A R Q) {k : Nat} (hk : k < R.length) : w.cell? ⟨s.gt, k, none⟩ = some (.int .i64 (R.getD k 0 : Nat)) := (h.tree.cellAt k (by omega)).trans (ncells_at hk)
theorem Mem.pcell (h : Mem T lo hi w s A R Q) {k : Nat} (hk : k < A.length) : w.cell? ⟨s.gp, k, none⟩ = some (.int .i64 (Q.getD k 0)) := (h.place.cellAt k (by omega)).trans (icells_at (by have := h.plen; omega))
theorem Mem.acell0 (h : Mem T lo hi w s A R Q) {k : Nat} (hk : k < A.length) : w.cell? ⟨s.ga, k * 2, none⟩ = some (.int .i64 ((k : Int) + 1)) := (h.all.cellAt _ (by omega)).trans (vcells_0 hk)
theorem Mem.acell1 (h : Mem T lo hi w s A R Q) {k : Nat} (hk : k < A.length) : w.cell? ⟨s.ga, k * 2 + 1, none⟩ = some (.int .i64 (A.getD k 0)) := (h.all.cellAt _ (by omega)).trans (vcells_1 hk)
theorem Mem.treeLen (h : Mem T lo hi w s A R Q) : R.length ≤ s.ct := by
  rcases h.tree.2 with ⟨h', _⟩ | ⟨g', cap', cur, h', _, _, hn, _⟩
  · simp at h'
  · simp only [Value.slice.injEq] at h'; omega
/-- A number is stored in the tree. -/
theorem Mem.storeT (h : Mem T lo hi w s A R Q) (k x : Nat) : Mem T lo hi (w.setCell ⟨s.gt, k, none⟩ (.int .i64 (x : Int))) s A (R.set k x) Q :=
  { h with
    box := by have := h.box.setOther ⟨s.gt, k, none⟩ h.ne_gt (.int .i64 (x : Int)); simpa using this
    all := owns_of_block h.all fun i hi => by cases hi; exact Deep.blk_setCell_other w _ _ _ h.ne_at
    tree := by have := (h.tree.stored k (.int .i64 (x : Int))).1; rw [ncells_set] at this; simpa using this
    place := owns_of_block h.place fun i hi => by cases hi; exact Deep.blk_setCell_other w _ _ _ (fun e => h.ne_tp e.symm)
    hi_w := by simpa [World.setCell] using h.hi_w }
/-- A place is stored. -/
theorem Mem.storeP (h : Mem T lo hi w s A R Q) (k : Nat) (x : Int) : Mem T lo hi (w.setCell ⟨s.gp, k, none⟩ (.int .i64 x)) s A R (Q.set k x) :=
  { h with
    box := h.box.setOther ⟨s.gp, k, none⟩ h.ne_gp _
    all := owns_of_block h.all fun i hi => by cases hi; exact Deep.blk_setCell_other w _ _ _ h.ne_ap
    tree := owns_of_block h.tree fun i hi => by cases hi; exact Deep.blk_setCell_other w _ _ _ h.ne_tp
    place := by have := (h.place.stored k (.int .i64 x)).1; rwa [icells_set] at this
    plen := by simpa using h.plen
    hi_w := by simpa [World.setCell] using h.hi_w }
/-- A variable is stored, with an activity. -/
theorem Mem.storeA (h : Mem T lo hi w s A R Q) {k : Nat} (hk : k < A.length) (x : Int) : Mem T lo hi ((w.setCell ⟨s.ga, k * 2, none⟩ (.int .i64 ((k : Int) + 1))).setCell ⟨s.ga, k * 2 + 1, none⟩ (.int .i64 x)) s (A.set k x) R Q :=
  { h with
    box := by have := (h.box.setOther ⟨s.ga, k * 2, none⟩ h.ne_ga (.int .i64 ((k : Int) + 1))).setOther ⟨s.ga, k * 2 + 1, none⟩ h.ne_ga (.int .i64 x); simpa using this
    all := by
      have h1 := (h.all.stored (k * 2) (.int .i64 ((k : Int) + 1))).1
      rw [vcells_set0 hk] at h1
      have h2 := (h1.stored (k * 2 + 1) (.int .i64 x)).1
      rw [vcells_set] at h2
      simpa using h2
    tree := owns_of_block h.tree fun i hi => by cases hi; rw [Deep.blk_setCell_other _ _ _ _ (fun e => h.ne_at e.symm), Deep.blk_setCell_other _ _ _ _ (fun e => h.ne_at e.symm)]
    place := by
      have := owns_of_block (w' := (w.setCell ⟨s.ga, k * 2, none⟩ (.int .i64 ((k : Int) + 1))).setCell ⟨s.ga, k * 2 + 1, none⟩ (.int .i64 x)) h.place fun i hi => by cases hi; rw [Deep.blk_setCell_other _ _ _ _ (fun e => h.ne_ap e.symm), Deep.blk_setCell_other _ _ _ _ (fun e => h.ne_ap e.symm)]
      simpa using this
    plen := by simpa using h.plen
    small := by simpa using h.small
    hi_w := by simpa [World.setCell] using h.hi_w }
end
end K
end Go.Proofs.Ytenmgkomffnjaaa
