/- A binary heap, plain: one more, the first out, one that comes ahead; what is best. -/
import Derived.Test.YtenmgkomffnjaaaHA
namespace Go.Proofs.Ytenmgkomffnjaaa
namespace HP
variable {A : List Int} {M : Nat → Prop} {R : List Nat} {Q : List Int}

theorem Pos.congr {n : Nat} {M' : Nat → Prop} (h : Pos n M R Q) (e : ∀ x, M x ↔ M' x) : Pos n M' R Q :=
  ⟨h.len, fun x => (h.mem x).trans (e x), fun x hx => h.bd x ((e x).2 hx), h.inj, h.at_, fun i hi hM => h.out i hi fun hx => hM ((e i).1 hx)⟩
theorem HGood.congr {M' : Nat → Prop} (h : HGood A M R Q) (e : ∀ x, M x ↔ M' x) : HGood A M' R Q := ⟨h.pos.congr e, h.heap⟩
theorem HGood.lt (h : HGood A M R Q) {k : Nat} (hk : k < R.length) : R.getD k 0 < A.length := h.pos.lt hk
theorem HGood.place_in (h : HGood A M R Q) {i : Nat} (hi : M i) : ∃ a, a < R.length ∧ Q.getD i 0 = (a : Int) ∧ R.getD a 0 = i := by
  obtain ⟨a, ha, e⟩ := getD_of_mem ((h.pos.mem i).2 hi)
  have := h.pos.at_ a ha
  rw [e] at this
  exact ⟨a, ha, this, e⟩
theorem HGood.has (h : HGood A M R Q) {i : Nat} (hi : i < A.length) : (Q.getD i 0 != -1) = true ↔ M i := by
  by_cases hM : M i
  · obtain ⟨a, _, e, _⟩ := h.place_in hM
    rw [e]
    simp only [hM, iff_true, bne_iff_ne, ne_eq]
    omega
  · rw [h.pos.out i hi hM]; simp [hM]

theorem HGood.nil {n : Nat} (hA : A.length = n) : HGood A (fun _ => False) [] (List.replicate n (-1)) :=
  ⟨⟨by simp [hA], fun x => by simp, fun x hx => hx.elim, fun j k hj => by simp at hj, fun k hk => by simp at hk, fun i hi _ => by simp [List.getD, show i < n by omega]⟩, fun k _ hk => by simp at hk⟩

/-- One more, at the end. -/
theorem HGood.push (h : HGood A M R Q) {i : Nat} (hi : i < A.length) (hM : ¬ M i) : Rising A (fun x => M x ∨ x = i) (R ++ [i]) Q i R.length := by
  have e1 : (R ++ [i]).set R.length i = R ++ [i] := by
    refine nat_ext (by simp) fun k hk => ?_
    rw [getD_set_nat _ _ _ _ (by simp)]
    split
    · rename_i e; subst e; simp [List.getD]
    · rfl
  have g1 : ∀ k, k < R.length → (R ++ [i]).getD k 0 = R.getD k 0 := fun k hk => by simp [List.getD, List.getElem?_append_left hk]
  have g2 : (R ++ [i]).getD R.length 0 = i := by simp [List.getD]
  have hQ : i < Q.length := by rw [h.pos.len]; exact hi
  have hne : ∀ k, k < R.length → R.getD k 0 ≠ i := fun k hk e => hM (e ▸ (h.pos.mem _).1 (mem_getD_nat hk))
  refine ⟨by simp, ?_, ?_⟩
  · rw [e1]
    refine ⟨by simp [h.pos.len], fun x => by simp [h.pos.mem], fun x hx => ?_, fun j k hj hk e => ?_, fun k hk => ?_, fun x hx hMx => ?_⟩
    · rcases hx with hx | rfl
      · exact h.pos.bd x hx
      · exact hi
    · simp only [List.length_append, List.length_cons, List.length_nil] at hj hk
      by_cases hj1 : j < R.length
      · rw [g1 j hj1] at e
        by_cases hk1 : k < R.length
        · rw [g1 k hk1] at e; exact h.pos.inj j k hj1 hk1 e
        · obtain rfl : k = R.length := by omega
          rw [g2] at e; exact absurd e (hne j hj1)
      · obtain rfl : j = R.length := by omega
        rw [g2] at e
        by_cases hk1 : k < R.length
        · rw [g1 k hk1] at e; exact absurd e.symm (hne k hk1)
        · omega
    · simp only [List.length_append, List.length_cons, List.length_nil] at hk
      rw [getD_set_int _ _ _ _ hQ]
      by_cases hk1 : k < R.length
      · rw [g1 k hk1, if_neg (hne k hk1)]; exact h.pos.at_ k hk1
      · obtain rfl : k = R.length := by omega
        rw [g2, if_pos rfl]
    · rw [getD_set_int _ _ _ _ hQ, if_neg (fun e => hMx (.inr e))]
      exact h.pos.out x hx fun h' => hMx (.inl h')
  · rw [e1]
    refine ⟨fun k k0 hk hne => ?_, fun k k0 hk hpar => ?_⟩
    · simp only [List.length_append, List.length_cons, List.length_nil] at hk
      rw [g1 k (by omega), g1 _ (by omega)]
      exact h.heap k k0 (by omega)
    · simp only [List.length_append, List.length_cons, List.length_nil] at hk
      omega

theorem take_getD {n k : Nat} (h : k < n) : (R.take n).getD k 0 = R.getD k 0 := by simp [List.getD, h]
/-- The first of one alone is taken out. -/
theorem HGood.pop1 (h : HGood A M R Q) (h1 : R.length = 1) : HGood A (fun x => M x ∧ x ≠ R.getD 0 0) [] (Q.set (R.getD 0 0) (-1)) := by
  obtain ⟨r, rfl⟩ := List.length_eq_one_iff.1 h1
  have hr : r < A.length := h.pos.bd r ((h.pos.mem r).1 (by simp))
  have hm : ∀ x, M x ↔ x = r := fun x => by rw [← h.pos.mem x]; simp
  have hQ : r < Q.length := by rw [h.pos.len]; exact hr
  refine ⟨⟨by simp [h.pos.len], fun x => by simp [hm], fun x hx => h.pos.bd x hx.1, fun j k hj => by simp at hj, fun k hk => by simp at hk, fun i hi _ => ?_⟩, fun k _ hk => by simp at hk⟩
  show (Q.set r (-1)).getD i 0 = -1
  rw [getD_set_int _ _ _ _ hQ]
  split
  · rfl
  · rename_i hne
    exact h.pos.out i hi fun hM => hne ((hm i).1 hM)
/-- The first of several is taken out; the last goes to its place. -/
theorem HGood.pop (h : HGood A M R Q) (h1 : 1 < R.length) :
    Sinking A (fun x => M x ∧ x ≠ R.getD 0 0) (R.take (R.length - 1)) (Q.set (R.getD 0 0) (-1)) (R.getD (R.length - 1) 0) 0 := by
  have h0 : R.getD 0 0 < A.length := h.pos.lt (by omega)
  have hl : R.getD (R.length - 1) 0 < A.length := h.pos.lt (by omega)
  have hne : R.getD 0 0 ≠ R.getD (R.length - 1) 0 := fun e => by have := h.pos.inj 0 (R.length - 1) (by omega) (by omega) e; omega
  have hlen : (R.take (R.length - 1)).length = R.length - 1 := by rw [List.length_take]; omega
  have g : ∀ k, k < R.length - 1 → ((R.take (R.length - 1)).set 0 (R.getD (R.length - 1) 0)).getD k 0 = if k = 0 then R.getD (R.length - 1) 0 else R.getD k 0 := fun k hk => by
    rw [getD_set_nat _ _ _ _ (by omega), take_getD hk]
  have hq1 : R.getD 0 0 < Q.length := by rw [h.pos.len]; exact h0
  have hq2 : R.getD (R.length - 1) 0 < (Q.set (R.getD 0 0) (-1)).length := by rw [List.length_set, h.pos.len]; exact hl
  refine ⟨by omega, ?_, ?_⟩
  · refine ⟨by simp [h.pos.len], fun x => ?_, fun x hx => h.pos.bd x hx.1, fun j k hj hk e => ?_, fun k hk => ?_, fun i hi hMi => ?_⟩
    · constructor
      · intro hx
        obtain ⟨k, hk, rfl⟩ := getD_of_mem hx
        rw [List.length_set, hlen] at hk
        rw [g k hk]
        split
        · exact ⟨(h.pos.mem _).1 (mem_getD_nat (by omega)), fun e => hne e.symm⟩
        · rename_i hk0
          exact ⟨(h.pos.mem _).1 (mem_getD_nat (by omega)), fun e => hk0 (h.pos.inj k 0 (by omega) (by omega) e)⟩
      · rintro ⟨hx, hx0⟩
        obtain ⟨k, hk, rfl⟩ := getD_of_mem ((h.pos.mem x).2 hx)
        have hk0 : k ≠ 0 := fun e => hx0 (by rw [e])
        by_cases hkl : k = R.length - 1
        · have hm := mem_getD_nat (T := (R.take (R.length - 1)).set 0 (R.getD (R.length - 1) 0)) (k := 0) (by rw [List.length_set, hlen]; omega)
          rw [g 0 (by omega), if_pos rfl] at hm
          rw [hkl]
          exact hm
        · have hm := mem_getD_nat (T := (R.take (R.length - 1)).set 0 (R.getD (R.length - 1) 0)) (k := k) (by rw [List.length_set, hlen]; omega)
          rw [g k (by omega), if_neg hk0] at hm
          exact hm
    · rw [List.length_set, hlen] at hj hk
      rw [g j hj, g k hk] at e
      by_cases j0 : j = 0
      · rw [if_pos j0] at e
        by_cases k0 : k = 0
        · omega
        · rw [if_neg k0] at e
          have := h.pos.inj (R.length - 1) k (by omega) (by omega) e
          omega
      · rw [if_neg j0] at e
        by_cases k0 : k = 0
        · rw [if_pos k0] at e
          have := h.pos.inj j (R.length - 1) (by omega) (by omega) e
          omega
        · rw [if_neg k0] at e
          exact h.pos.inj j k (by omega) (by omega) e
    · rw [List.length_set, hlen] at hk
      rw [g k hk, getD_set_int _ _ _ _ hq2, getD_set_int _ _ _ _ hq1]
      by_cases k0 : k = 0
      · rw [if_pos k0, if_pos rfl, k0]
      · rw [if_neg k0, if_neg (fun e => by have := h.pos.inj k _ (by omega) (by omega) e; omega), if_neg (fun e => k0 (h.pos.inj k 0 (by omega) (by omega) e)), h.pos.at_ k (by omega)]
    · rw [getD_set_int _ _ _ _ hq2, getD_set_int _ _ _ _ hq1]
      rw [if_neg (fun e => hMi ⟨by rw [e]; exact (h.pos.mem _).1 (mem_getD_nat (by omega)), by rw [e]; exact fun e' => hne e'.symm⟩)]
      split
      · rfl
      · rename_i hi0
        exact h.pos.out i hi fun hM => hMi ⟨hM, hi0⟩
  · refine ⟨fun k k0 hk hp => ?_, fun k k0 hk hp a0 => absurd a0 (Nat.lt_irrefl 0)⟩
    rw [List.length_set, hlen] at hk
    rw [g k hk, g _ (by omega), if_neg hp, if_neg (show ¬ k = 0 by omega)]
    exact h.heap k k0 (by omega)

theorem getD_setA {i j : Nat} {x : Int} (hi : i < A.length) : (A.set i x).getD j 0 = if j = i then x else A.getD j 0 := getD_set_int A i j x hi
/-- One that is in comes ahead. -/
theorem HGood.raise (h : HGood A M R Q) {i a : Nat} {x : Int} (hi : i < A.length) (ha : a < R.length) (hR : R.getD a 0 = i) (hx : A.getD i 0 ≤ x) : Rising (A.set i x) M R Q i a := by
  have e1 : R.set a i = R := nat_ext (by simp) fun k hk => by
    rw [getD_set_nat _ _ _ _ ha]; split
    · rename_i e; rw [e, hR]
    · rfl
  have hp := h.pos.at_ a ha
  rw [hR] at hp
  have e2 : Q.set i a = Q := int_ext (by simp) fun k hk => by
    rw [getD_set_int _ _ _ _ (by rw [h.pos.len]; exact hi)]; split
    · rename_i e; rw [e, hp]
    · rfl
  refine ⟨ha, by rw [e1, e2, List.length_set]; exact h.pos, ?_⟩
  rw [e1]
  have hne : ∀ k, k < R.length → k ≠ a → R.getD k 0 ≠ i := fun k hk hka e => hka (h.pos.inj k a hk ha (by rw [e, hR]))
  have key : ∀ u v, v ≠ i → Le A u v → Le (A.set i x) u v := fun u v hv hle => by
    unfold Le Pre at *
    rw [getD_setA hi, getD_setA hi, if_neg hv]
    split
    · rename_i e; subst e; omega
    · exact hle
  refine ⟨fun k k0 hk hka => key _ _ (hne k hk hka) (h.heap k k0 hk), fun k k0 hk hp a0 => ?_⟩
  have h1 := h.heap k k0 hk
  have h2 := h.heap a a0 ha
  rw [hp] at h1
  exact key _ _ (hne k hk (by omega)) (h2.trans h1)
/-- One that is out changes nothing of the order. -/
theorem HGood.idle (h : HGood A M R Q) {i : Nat} {x : Int} (hi : i < A.length) (hM : ¬ M i) : HGood (A.set i x) M R Q := by
  refine ⟨by rw [List.length_set]; exact h.pos, fun k k0 hk => ?_⟩
  have hne : ∀ k, k < R.length → R.getD k 0 ≠ i := fun k hk e => hM (e ▸ (h.pos.mem _).1 (mem_getD_nat hk))
  have := h.heap k k0 hk
  unfold Le Pre at *
  rw [getD_setA hi, getD_setA hi, if_neg (hne _ (by omega)), if_neg (hne _ hk)]
  exact this

/-- The best of those of which M holds. -/
def Best (A : List Int) (M : Nat → Prop) (b : Nat) : Prop := M b ∧ ∀ x, M x → x ≠ b → Pre A b x
theorem Best.unique {b c : Nat} (h : Best A M b) (h2 : Best A M c) : b = c := by
  by_cases e : b = c
  · exact e
  · exact absurd (h.2 c h2.1 (fun e' => e e'.symm)) (pre_asymm (h2.2 b h.1 e))
theorem HGood.best (h : HGood A M R Q) (h0 : 0 < R.length) : Best A M (R.getD 0 0) := by
  refine ⟨(h.pos.mem _).1 (mem_getD_nat h0), fun x hx hne => ?_⟩
  obtain ⟨k, hk, rfl⟩ := getD_of_mem ((h.pos.mem x).2 hx)
  exact (h.heap.root k hk).pre (fun e => hne e.symm)
theorem HGood.empty (h : HGood A M R Q) (h0 : R.length = 0) : ∀ x, ¬ M x := fun x hx => by
  have := (h.pos.mem x).2 hx
  rw [List.length_eq_zero_iff.1 h0] at this
  cases this
end HP
end Go.Proofs.Ytenmgkomffnjaaa
