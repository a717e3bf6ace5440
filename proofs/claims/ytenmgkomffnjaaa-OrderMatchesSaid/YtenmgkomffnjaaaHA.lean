/- A binary heap, plain: which of two comes first, trees with places, one step up, one step down, what is best, what comes out of it. -/
import Derived.Below
import Derived.Lib.Hide
namespace Go.Proofs.Ytenmgkomffnjaaa
namespace HP

/-- i comes ahead of j. -/
def Pre (A : List Int) (i j : Nat) : Prop := A.getD j 0 < A.getD i 0 ∨ (A.getD i 0 = A.getD j 0 ∧ i < j)
instance (A : List Int) (i j : Nat) : Decidable (Pre A i j) := by unfold Pre; infer_instance
theorem pre_irrefl (A : List Int) (i : Nat) : ¬ Pre A i i := by unfold Pre; omega
theorem pre_trans {A : List Int} {i j k : Nat} (h : Pre A i j) (h2 : Pre A j k) : Pre A i k := by unfold Pre at *; omega
theorem pre_asymm {A : List Int} {i j : Nat} (h : Pre A i j) : ¬ Pre A j i := by unfold Pre at *; omega
theorem pre_total (A : List Int) {i j : Nat} (h : ¬ Pre A i j) (hne : i ≠ j) : Pre A j i := by unfold Pre at *; omega
/-- i does not come behind j. -/
def Le (A : List Int) (i j : Nat) : Prop := ¬ Pre A j i
theorem Le.refl (A : List Int) (i : Nat) : Le A i i := pre_irrefl A i
theorem Le.trans {A : List Int} {i j k : Nat} (h : Le A i j) (h2 : Le A j k) : Le A i k := by unfold Le Pre at *; omega
theorem Le.of_pre {A : List Int} {i j : Nat} (h : Pre A i j) : Le A i j := pre_asymm h
theorem Le.pre {A : List Int} {i j : Nat} (h : Le A i j) (hne : i ≠ j) : Pre A i j := pre_total A h (fun e => hne e.symm)

theorem getD_set_nat (T : List Nat) (i j x : Nat) (hi : i < T.length) : (T.set i x).getD j 0 = if j = i then x else T.getD j 0 := by
  simp only [List.getD_eq_getElem?_getD, List.getElem?_set]
  by_cases h : j = i
  · subst h; simp [hi]
  · rw [if_neg (fun e => h e.symm), if_neg h]
theorem getD_set_int (T : List Int) (i j : Nat) (x : Int) (hi : i < T.length) : (T.set i x).getD j 0 = if j = i then x else T.getD j 0 := by
  simp only [List.getD_eq_getElem?_getD, List.getElem?_set]
  by_cases h : j = i
  · subst h; simp [hi]
  · rw [if_neg (fun e => h e.symm), if_neg h]
theorem mem_getD_nat {T : List Nat} {k : Nat} (h : k < T.length) : T.getD k 0 ∈ T := by
  simp [List.getD, h]
theorem getD_of_mem {T : List Nat} {x : Nat} (h : x ∈ T) : ∃ k, k < T.length ∧ T.getD k 0 = x := by
  obtain ⟨k, hk, rfl⟩ := List.getElem_of_mem h
  exact ⟨k, hk, by simp [List.getD, hk]⟩
theorem nat_ext {T U : List Nat} (hl : T.length = U.length) (h : ∀ k, k < T.length → T.getD k 0 = U.getD k 0) : T = U := by
  refine List.ext_getElem hl fun k h1 h2 => ?_
  have := h k h1
  simpa [List.getD, h1, h2] using this
theorem int_ext {T U : List Int} (hl : T.length = U.length) (h : ∀ k, k < T.length → T.getD k 0 = U.getD k 0) : T = U := by
  refine List.ext_getElem hl fun k h1 h2 => ?_
  have := h k h1
  simpa [List.getD, h1, h2] using this

/-- A tree of the numbers of which M holds, with the place of each. -/
structure Pos (n : Nat) (M : Nat → Prop) (T : List Nat) (P : List Int) : Prop where
  len : P.length = n
  mem : ∀ x, x ∈ T ↔ M x
  bd : ∀ x, M x → x < n
  inj : ∀ j k, j < T.length → k < T.length → T.getD j 0 = T.getD k 0 → j = k
  at_ : ∀ k, k < T.length → P.getD (T.getD k 0) 0 = k
  out : ∀ i, i < n → ¬ M i → P.getD i 0 = -1

theorem Pos.lt {n : Nat} {M : Nat → Prop} {T : List Nat} {P : List Int} (h : Pos n M T P) {k : Nat} (hk : k < T.length) : T.getD k 0 < n := h.bd _ ((h.mem _).1 (mem_getD_nat hk))
theorem Pos.nodup {n : Nat} {M : Nat → Prop} {T : List Nat} {P : List Int} (h : Pos n M T P) : T.Nodup := by
  rw [List.nodup_iff_pairwise_ne, List.pairwise_iff_getElem]
  intro i j hi hj hij e
  have := h.inj i j hi hj (by simpa [List.getD, hi, hj] using e)
  omega
theorem nodup_bound {T : List Nat} {n : Nat} (h : T.Nodup) (hb : ∀ x ∈ T, x < n) : T.length ≤ n := by
  have p : T.Perm ((List.range n).filter fun x => decide (x ∈ T)) := (List.perm_ext_iff_of_nodup h (List.nodup_range.filter _)).2 fun x => by
    simp only [List.mem_filter, List.mem_range, decide_eq_true_eq]
    exact ⟨fun hx => ⟨hb x hx, hx⟩, fun hx => hx.2⟩
  have := List.length_filter_le (fun x => decide (x ∈ T)) (List.range n)
  rw [p.length_eq]
  simpa using this
theorem Pos.size {n : Nat} {M : Nat → Prop} {T : List Nat} {P : List Int} (h : Pos n M T P) : T.length ≤ n :=
  nodup_bound h.nodup fun x hx => h.bd x ((h.mem x).1 hx)
theorem Pos.size_lt {n : Nat} {M : Nat → Prop} {T : List Nat} {P : List Int} (h : Pos n M T P) {v : Nat} (hv : v < n) (hM : ¬ M v) : T.length < n := by
  have hn : v ∉ T := fun e => hM ((h.mem v).1 e)
  have := nodup_bound (T := v :: T) (n := n) (List.nodup_cons.2 ⟨hn, h.nodup⟩) (fun x hx => by
    rcases List.mem_cons.1 hx with rfl | hx
    · exact hv
    · exact h.bd x ((h.mem x).1 hx))
  simp only [List.length_cons] at this
  omega

/-- Two of a tree change places. -/
def swapT (T : List Nat) (a b : Nat) : List Nat := (T.set a (T.getD b 0)).set b (T.getD a 0)
def swapP (T : List Nat) (P : List Int) (a b : Nat) : List Int := (P.set (T.getD b 0) a).set (T.getD a 0) b
theorem swapT_len (T : List Nat) (a b : Nat) : (swapT T a b).length = T.length := by simp [swapT]
theorem swapT_at {T : List Nat} {a b : Nat} (ha : a < T.length) (hb : b < T.length) (k : Nat) : (swapT T a b).getD k 0 = if k = b then T.getD a 0 else if k = a then T.getD b 0 else T.getD k 0 := by
  unfold swapT
  rw [getD_set_nat _ _ _ _ (by simpa using hb), getD_set_nat _ _ _ _ ha]

theorem Pos.swap {n : Nat} {M : Nat → Prop} {T : List Nat} {P : List Int} (h : Pos n M T P) {a b : Nat} (ha : a < T.length) (hb : b < T.length) (hab : a ≠ b) : Pos n M (swapT T a b) (swapP T P a b) := by
  have hA := h.lt ha
  have hB := h.lt hb
  have hne : T.getD a 0 ≠ T.getD b 0 := fun e => hab (h.inj a b ha hb e)
  refine ⟨by simp [swapP, h.len], fun x => ?_, h.bd, fun j k hj hk e => ?_, fun k hk => ?_, fun i hi hM => ?_⟩
  · rw [← h.mem x]
    constructor
    · intro hx
      obtain ⟨k, hk, rfl⟩ := getD_of_mem hx
      rw [swapT_len] at hk
      rw [swapT_at ha hb]
      split
      · exact mem_getD_nat ha
      · split
        · exact mem_getD_nat hb
        · exact mem_getD_nat hk
    · intro hx
      obtain ⟨k, hk, rfl⟩ := getD_of_mem hx
      by_cases h1 : k = a
      · have := swapT_at ha hb b; rw [if_pos rfl] at this; rw [h1, ← this]; exact mem_getD_nat (by rw [swapT_len]; exact hb)
      · by_cases h2 : k = b
        · have := swapT_at ha hb a; rw [if_neg hab, if_pos rfl] at this; rw [h2, ← this]; exact mem_getD_nat (by rw [swapT_len]; exact ha)
        · have := swapT_at ha hb k; rw [if_neg h2, if_neg h1] at this; rw [← this]; exact mem_getD_nat (by rw [swapT_len]; exact hk)
  · rw [swapT_len] at hj hk
    rw [swapT_at ha hb, swapT_at ha hb] at e
    have hN : b ≠ a := fun e => hab e.symm
    by_cases j1 : j = b
    · rw [if_pos j1] at e
      by_cases k1 : k = b
      · omega
      · rw [if_neg k1] at e
        by_cases k2 : k = a
        · rw [if_pos k2] at e; exact absurd e hne
        · rw [if_neg k2] at e; exact absurd (h.inj a k ha hk e).symm k2
    · rw [if_neg j1] at e
      by_cases j2 : j = a
      · rw [if_pos j2] at e
        by_cases k1 : k = b
        · rw [if_pos k1] at e; exact absurd e.symm hne
        · rw [if_neg k1] at e
          by_cases k2 : k = a
          · omega
          · rw [if_neg k2] at e; exact absurd (h.inj b k hb hk e).symm k1
      · rw [if_neg j2] at e
        by_cases k1 : k = b
        · rw [if_pos k1] at e; exact absurd (h.inj j a hj ha e) j2
        · rw [if_neg k1] at e
          by_cases k2 : k = a
          · rw [if_pos k2] at e; exact absurd (h.inj j b hj hb e) j1
          · rw [if_neg k2] at e; exact h.inj j k hj hk e
  · rw [swapT_len] at hk
    rw [swapT_at ha hb]
    unfold swapP
    have hl1 : T.getD b 0 < P.length := by rw [h.len]; exact hB
    have hl2 : T.getD a 0 < (P.set (T.getD b 0) (a : Int)).length := by rw [List.length_set, h.len]; exact hA
    rw [getD_set_int _ _ _ _ hl2, getD_set_int _ _ _ _ hl1]
    by_cases h1 : k = b
    · rw [if_pos h1, if_pos rfl, h1]
    · rw [if_neg h1]
      by_cases h2 : k = a
      · rw [if_pos h2, if_neg (fun e => hne e.symm), if_pos rfl, h2]
      · rw [if_neg h2, if_neg (fun e => h2 (h.inj k a hk ha e)), if_neg (fun e => h1 (h.inj k b hk hb e)), h.at_ k hk]
  · unfold swapP
    have hl1 : T.getD b 0 < P.length := by rw [h.len]; exact hB
    have hl2 : T.getD a 0 < (P.set (T.getD b 0) (a : Int)).length := by rw [List.length_set, h.len]; exact hA
    rw [getD_set_int _ _ _ _ hl2, getD_set_int _ _ _ _ hl1]
    rw [if_neg (fun e : i = T.getD a 0 => hM (by rw [e]; exact (h.mem _).1 (mem_getD_nat ha))), if_neg (fun e : i = T.getD b 0 => hM (by rw [e]; exact (h.mem _).1 (mem_getD_nat hb)))]
    exact h.out i hi hM

/-- None comes ahead of the one above it. -/
def Heap (A : List Int) (T : List Nat) : Prop := ∀ k, 0 < k → k < T.length → Le A (T.getD ((k - 1) / 2) 0) (T.getD k 0)
/-- So but for the one at a, which may come ahead of that above it. -/
def Up (A : List Int) (T : List Nat) (a : Nat) : Prop :=
  (∀ k, 0 < k → k < T.length → k ≠ a → Le A (T.getD ((k - 1) / 2) 0) (T.getD k 0)) ∧ (∀ k, 0 < k → k < T.length → (k - 1) / 2 = a → 0 < a → Le A (T.getD ((a - 1) / 2) 0) (T.getD k 0))
/-- So but for the one at a, which may come behind those below it. -/
def Down (A : List Int) (T : List Nat) (a : Nat) : Prop :=
  (∀ k, 0 < k → k < T.length → (k - 1) / 2 ≠ a → Le A (T.getD ((k - 1) / 2) 0) (T.getD k 0)) ∧ (∀ k, 0 < k → k < T.length → (k - 1) / 2 = a → 0 < a → Le A (T.getD ((a - 1) / 2) 0) (T.getD k 0))

theorem Up.end0 {A : List Int} {T : List Nat} (h : Up A T 0) : Heap A T := fun k h0 hk => h.1 k h0 hk (by omega)
theorem Up.stop {A : List Int} {T : List Nat} {a : Nat} (h : Up A T a) (hle : ¬ Pre A (T.getD a 0) (T.getD ((a - 1) / 2) 0)) : Heap A T := fun k h0 hk => by
  by_cases e : k = a
  · subst e; exact hle
  · exact h.1 k h0 hk e
theorem Up.step {A : List Int} {T : List Nat} {a : Nat} (h : Up A T a) (ha : a < T.length) (h0 : 0 < a) (hp : Pre A (T.getD a 0) (T.getD ((a - 1) / 2) 0)) : Up A (swapT T a ((a - 1) / 2)) ((a - 1) / 2) := by
  have hb : (a - 1) / 2 < T.length := by omega
  have S := swapT_at ha hb
  generalize hbd : (a - 1) / 2 = b at *
  have hab : a ≠ b := by omega
  refine ⟨fun k k0 hk hkb => ?_, fun k k0 hk hkb b0 => ?_⟩
  · rw [swapT_len] at hk
    rw [S k, S ((k - 1) / 2), if_neg hkb]
    by_cases e1 : k = a
    · rw [if_pos e1, e1, hbd, if_pos rfl]; exact Le.of_pre hp
    · rw [if_neg e1]
      by_cases e2 : (k - 1) / 2 = b
      · rw [if_pos e2]
        have := h.1 k k0 hk e1
        rw [e2] at this
        exact (Le.of_pre hp).trans this
      · rw [if_neg e2]
        by_cases e3 : (k - 1) / 2 = a
        · rw [if_pos e3]
          have := h.2 k k0 hk e3 h0
          rwa [hbd] at this
        · rw [if_neg e3]; exact h.1 k k0 hk e1
  · rw [swapT_len] at hk
    rw [S k, S ((b - 1) / 2), if_neg (show k ≠ b by omega), if_neg (show (b - 1) / 2 ≠ b by omega), if_neg (show (b - 1) / 2 ≠ a by omega)]
    have hbb := h.1 b b0 hb (fun e => hab e.symm)
    by_cases e1 : k = a
    · rw [if_pos e1]; exact hbb
    · rw [if_neg e1]
      have := h.1 k k0 hk e1
      rw [hkb] at this
      exact hbb.trans this

/-- That of the two below a place that comes first. -/
def belowT (A : List Int) (T : List Nat) (a : Nat) : Nat := if 2 * a + 2 < T.length ∧ Pre A (T.getD (2 * a + 2) 0) (T.getD (2 * a + 1) 0) then 2 * a + 2 else 2 * a + 1
theorem belowT_par (A : List Int) (T : List Nat) (a : Nat) : (belowT A T a - 1) / 2 = a := by unfold belowT; split <;> omega
theorem belowT_gt (A : List Int) (T : List Nat) (a : Nat) : a < belowT A T a := by unfold belowT; split <;> omega
theorem belowT_first {A : List Int} {T : List Nat} {a k : Nat} (hk : k < T.length) (h0 : 0 < k) (h : (k - 1) / 2 = a) : belowT A T a < T.length ∧ Le A (T.getD (belowT A T a) 0) (T.getD k 0) := by
  have : k = 2 * a + 1 ∨ k = 2 * a + 2 := by omega
  unfold belowT
  split
  · rename_i h1
    refine ⟨h1.1, ?_⟩
    rcases this with rfl | rfl
    · exact Le.of_pre h1.2
    · exact Le.refl _ _
  · rename_i h1
    refine ⟨by omega, ?_⟩
    rcases this with rfl | rfl
    · exact Le.refl _ _
    · exact fun hp => h1 ⟨hk, hp⟩
theorem Down.leaf {A : List Int} {T : List Nat} {a : Nat} (h : Down A T a) (hl : T.length ≤ belowT A T a) : Heap A T := fun k h0 hk => by
  by_cases e : (k - 1) / 2 = a
  · have := (belowT_first (A := A) hk h0 e).1; omega
  · exact h.1 k h0 hk e
theorem Down.stop {A : List Int} {T : List Nat} {a : Nat} (h : Down A T a) (hle : ¬ Pre A (T.getD (belowT A T a) 0) (T.getD a 0)) : Heap A T := fun k h0 hk => by
  by_cases e : (k - 1) / 2 = a
  · rw [e]; exact Le.trans hle (belowT_first (A := A) hk h0 e).2
  · exact h.1 k h0 hk e
theorem Down.step {A : List Int} {T : List Nat} {a : Nat} (h : Down A T a) (ha : a < T.length) (hb : belowT A T a < T.length) (hp : Pre A (T.getD (belowT A T a) 0) (T.getD a 0)) : Down A (swapT T a (belowT A T a)) (belowT A T a) := by
  have S := swapT_at ha hb
  have par := belowT_par A T a
  have gt := belowT_gt A T a
  have F := fun k (hk : k < T.length) h0 e => (belowT_first (A := A) (T := T) (a := a) (k := k) hk h0 e).2
  generalize belowT A T a = b at *
  refine ⟨fun k k0 hk hkb => ?_, fun k k0 hk hkb b0 => ?_⟩
  · rw [swapT_len] at hk
    rw [S k, S ((k - 1) / 2), if_neg hkb]
    by_cases e1 : k = b
    · rw [if_pos e1, e1, par, if_pos rfl]; exact Le.of_pre hp
    · rw [if_neg e1]
      by_cases e2 : k = a
      · rw [if_pos e2, if_neg (show (k - 1) / 2 ≠ a by omega), e2]
        exact h.2 b (by omega) hb par (by omega)
      · rw [if_neg e2]
        by_cases e3 : (k - 1) / 2 = a
        · rw [if_pos e3]; exact F k hk k0 e3
        · rw [if_neg e3]; exact h.1 k k0 hk e3
  · rw [swapT_len] at hk
    rw [S k, S ((b - 1) / 2), if_neg (show k ≠ b by omega), if_neg (show k ≠ a by omega), par, if_neg (show a ≠ b by omega), if_pos rfl]
    have := h.1 k k0 hk (by omega)
    rw [hkb] at this
    exact this

/-- The first of a heap comes ahead of all. -/
theorem Heap.root {A : List Int} {T : List Nat} (h : Heap A T) : ∀ k, k < T.length → Le A (T.getD 0 0) (T.getD k 0) := by
  intro k
  induction k using Nat.strongRecOn with
  | _ k ih =>
    intro hk
    by_cases h0 : k = 0
    · subst h0; exact Le.refl _ _
    · exact (ih ((k - 1) / 2) (by omega) (by omega)).trans (h k (by omega) hk)

/-- A tree with its places, in order. -/
structure HGood (A : List Int) (M : Nat → Prop) (T : List Nat) (P : List Int) : Prop where
  pos : Pos A.length M T P
  heap : Heap A T
/-- On the way up or down: what it is once the number i stands at a. -/
structure Rising (A : List Int) (M : Nat → Prop) (R : List Nat) (Q : List Int) (i a : Nat) : Prop where
  lt : a < R.length
  pos : Pos A.length M (R.set a i) (Q.set i a)
  up : Up A (R.set a i) a
structure Sinking (A : List Int) (M : Nat → Prop) (R : List Nat) (Q : List Int) (i a : Nat) : Prop where
  lt : a < R.length
  pos : Pos A.length M (R.set a i) (Q.set i a)
  down : Down A (R.set a i) a

theorem set_swapT {R : List Nat} {i a b : Nat} (ha : a < R.length) (_hb : b < R.length) (hab : a ≠ b) : swapT (R.set a i) a b = (R.set a (R.getD b 0)).set b i := by
  have e1 : (R.set a i).getD b 0 = R.getD b 0 := by rw [getD_set_nat _ _ _ _ ha, if_neg (fun e => hab e.symm)]
  have e2 : (R.set a i).getD a 0 = i := by rw [getD_set_nat _ _ _ _ ha, if_pos rfl]
  unfold swapT
  rw [e1, e2, List.set_set]
theorem set_swapP {R : List Nat} {Q : List Int} {i a b : Nat} (ha : a < R.length) (_hb : b < R.length) (hab : a ≠ b) : swapP (R.set a i) (Q.set i a) a b = (Q.set (R.getD b 0) a).set i b := by
  have e1 : (R.set a i).getD b 0 = R.getD b 0 := by rw [getD_set_nat _ _ _ _ ha, if_neg (fun e => hab e.symm)]
  have e2 : (R.set a i).getD a 0 = i := by rw [getD_set_nat _ _ _ _ ha, if_pos rfl]
  unfold swapP
  rw [e1, e2]
  by_cases h : i = R.getD b 0
  · rw [← h, List.set_set]
  · rw [List.set_comm _ _ h, List.set_set]
theorem Rising.bd {A : List Int} {M : Nat → Prop} {R : List Nat} {Q : List Int} {i a : Nat} (h : Rising A M R Q i a) : i < A.length := by
  have := h.pos.lt (k := a) (by simpa using h.lt)
  rwa [getD_set_nat _ _ _ _ h.lt, if_pos rfl] at this
theorem Sinking.bd {A : List Int} {M : Nat → Prop} {R : List Nat} {Q : List Int} {i a : Nat} (h : Sinking A M R Q i a) : i < A.length := by
  have := h.pos.lt (k := a) (by simpa using h.lt)
  rwa [getD_set_nat _ _ _ _ h.lt, if_pos rfl] at this
theorem Rising.other {A : List Int} {M : Nat → Prop} {R : List Nat} {Q : List Int} {i a b : Nat} (h : Rising A M R Q i a) (hb : b < R.length) (hab : a ≠ b) : R.getD b 0 < A.length := by
  have := h.pos.lt (k := b) (by simpa using hb)
  rwa [getD_set_nat _ _ _ _ h.lt, if_neg (fun e => hab e.symm)] at this
theorem Sinking.other {A : List Int} {M : Nat → Prop} {R : List Nat} {Q : List Int} {i a b : Nat} (h : Sinking A M R Q i a) (hb : b < R.length) (hab : a ≠ b) : R.getD b 0 < A.length := by
  have := h.pos.lt (k := b) (by simpa using hb)
  rwa [getD_set_nat _ _ _ _ h.lt, if_neg (fun e => hab e.symm)] at this
theorem Rising.step {A : List Int} {M : Nat → Prop} {R : List Nat} {Q : List Int} {i a : Nat} (h : Rising A M R Q i a) (h0 : 0 < a) (hp : Pre A i (R.getD ((a - 1) / 2) 0)) :
    Rising A M (R.set a (R.getD ((a - 1) / 2) 0)) (Q.set (R.getD ((a - 1) / 2) 0) a) i ((a - 1) / 2) := by
  have hl := h.lt
  have hb : (a - 1) / 2 < R.length := by omega
  have hab : a ≠ (a - 1) / 2 := by omega
  have e1 : (R.set a i).getD ((a - 1) / 2) 0 = R.getD ((a - 1) / 2) 0 := by rw [getD_set_nat _ _ _ _ hl, if_neg (fun e => hab e.symm)]
  have e2 : (R.set a i).getD a 0 = i := by rw [getD_set_nat _ _ _ _ hl, if_pos rfl]
  refine ⟨by simpa using hb, ?_, ?_⟩
  · rw [← set_swapT hl hb hab, ← set_swapP hl hb hab]
    exact h.pos.swap (by simpa using hl) (by simpa using hb) hab
  · rw [← set_swapT hl hb hab]
    exact h.up.step (by simpa using hl) h0 (by rw [e1, e2]; exact hp)
theorem Rising.stop {A : List Int} {M : Nat → Prop} {R : List Nat} {Q : List Int} {i a : Nat} (h : Rising A M R Q i a) (hp : a = 0 ∨ ¬ Pre A i (R.getD ((a - 1) / 2) 0)) : HGood A M (R.set a i) (Q.set i a) := by
  refine ⟨h.pos, ?_⟩
  rcases hp with rfl | hp
  · exact h.up.end0
  · by_cases h0 : a = 0
    · subst h0; exact h.up.end0
    · refine h.up.stop ?_
      rw [getD_set_nat _ _ _ _ h.lt, if_pos rfl, getD_set_nat _ _ _ _ h.lt, if_neg (by omega)]
      exact hp
theorem Sinking.below_eq {A : List Int} {M : Nat → Prop} {R : List Nat} {Q : List Int} {i a : Nat} (h : Sinking A M R Q i a) : belowT A (R.set a i) a = belowT A R a := by
  unfold belowT
  have e1 : (R.set a i).getD (2 * a + 2) 0 = R.getD (2 * a + 2) 0 := by rw [getD_set_nat _ _ _ _ h.lt, if_neg (by omega)]
  have e2 : (R.set a i).getD (2 * a + 1) 0 = R.getD (2 * a + 1) 0 := by rw [getD_set_nat _ _ _ _ h.lt, if_neg (by omega)]
  rw [e1, e2, List.length_set]
theorem Sinking.step {A : List Int} {M : Nat → Prop} {R : List Nat} {Q : List Int} {i a : Nat} (h : Sinking A M R Q i a) (hb : belowT A R a < R.length) (hp : Pre A (R.getD (belowT A R a) 0) i) :
    Sinking A M (R.set a (R.getD (belowT A R a) 0)) (Q.set (R.getD (belowT A R a) 0) a) i (belowT A R a) := by
  have hl := h.lt
  have hgt := belowT_gt A R a
  have heq := h.below_eq
  have hab : a ≠ belowT A R a := by omega
  have e1 : (R.set a i).getD (belowT A R a) 0 = R.getD (belowT A R a) 0 := by rw [getD_set_nat _ _ _ _ hl, if_neg (fun e => hab e.symm)]
  have e2 : (R.set a i).getD a 0 = i := by rw [getD_set_nat _ _ _ _ hl, if_pos rfl]
  refine ⟨by simpa using hb, ?_, ?_⟩
  · rw [← set_swapT hl hb hab, ← set_swapP hl hb hab]
    exact h.pos.swap (by simpa using hl) (by simpa using hb) hab
  · have := h.down.step (by simpa using hl) (by rw [heq]; simpa using hb) (by rw [heq, e1, e2]; exact hp)
    rw [heq] at this
    rw [← set_swapT hl hb hab]
    exact this
theorem Sinking.stop {A : List Int} {M : Nat → Prop} {R : List Nat} {Q : List Int} {i a : Nat} (h : Sinking A M R Q i a) (hp : R.length ≤ belowT A R a ∨ ¬ Pre A (R.getD (belowT A R a) 0) i) : HGood A M (R.set a i) (Q.set i a) := by
  refine ⟨h.pos, ?_⟩
  have heq := h.below_eq
  have hgt := belowT_gt A R a
  rcases hp with hp | hp
  · exact h.down.leaf (by rw [heq]; simpa using hp)
  · refine h.down.stop ?_
    rw [heq, getD_set_nat _ _ _ _ h.lt, if_neg (by omega), getD_set_nat _ _ _ _ h.lt, if_pos rfl]
    exact hp
end HP
end Go.Proofs.Ytenmgkomffnjaaa
