/- The heap and the reference's heap, side by side. -/
import Derived.Test.YtenmgkomffnjaaaHV
import Derived.Test.YtenmgkomffnjaaaWC
namespace Go.Proofs.Ytenmgkomffnjaaa
open Go.RowKit
namespace L
open K HP
set_option maxRecDepth 100000

/-- What a Bump answers, and the activities behind it. -/
def bumpR (A : List Int) (v b : Int) : Int × List Int := if BumpOk A v b then (0, A.set (v - 1).toNat (A.getD (v - 1).toNat 0 + b)) else (3, A)
theorem bumpR_len (A : List Int) (v b : Int) : (bumpR A v b).2.length = A.length := by unfold bumpR; split <;> simp
section
variable {full : Bool} {lo hi : Nat} {w : World} {p : Value} {A : List Int} {S : List Bool} {M : Nat → Prop} {len : Nat}
theorem bumpH_pure (h : Held full lo hi w p A M len) (v b : Int) :
    Calls Try.prog 14 #[p, .int .i64 v, .int .i64 b] w fun e w' => e = .returned (.int .i64 (bumpR A v b).1) ∧ Held full lo hi w' p (bumpR A v b).2 M len ∧ Out lo hi w w' := by
  by_cases hv : (1 ≤ v ∧ v ≤ (A.length : Int)) ∧ 0 ≤ b ∧ b ≤ 1099511627776
  · obtain ⟨⟨h1, h2⟩, h3, h4⟩ := hv
    obtain ⟨i, rfl⟩ : ∃ i : Nat, v = (i : Int) + 1 := ⟨(v - 1).toNat, by omega⟩
    refine (bumpH_any h i b (by omega) h3 h4).mono fun e w' hh => ?_
    by_cases hle : A.getD i 0 + b ≤ 1152921504606846976
    · have hok : BumpOk A ((i : Int) + 1) b := ⟨⟨h1, h2⟩, h3, h4, by rw [show ((i : Int) + 1 - 1).toNat = i by omega]; exact hle⟩
      have := hh.1 hle
      unfold bumpR
      rw [if_pos hok, show ((i : Int) + 1 - 1).toNat = i by omega]
      exact this
    · have hok : ¬ BumpOk A ((i : Int) + 1) b := fun h => hle (by have := h.2.2.2; rwa [show ((i : Int) + 1 - 1).toNat = i by omega] at this)
      have := hh.2 hle
      unfold bumpR
      rw [if_neg hok]
      exact this
  · have hok : ¬ BumpOk A v b := fun h => hv ⟨h.1, h.2.1, h.2.2.1⟩
    refine (bumpH_range h v b hv).mono fun e w' ⟨e1, e2⟩ => ?_
    subst e2
    unfold bumpR
    rw [if_neg hok]
    exact ⟨e1, h, Out.refl _ _ _⟩
theorem rbump_pure (h : RefAt lo hi w p A S) (v b : Int) :
    Calls Try.prog 15 #[p, .int .i64 v, .int .i64 b] w fun e w' => e = .returned (.int .i64 (bumpR A v b).1) ∧ RefAt lo hi w' p (bumpR A v b).2 S ∧ Out lo hi w w' := by
  by_cases hv : (1 ≤ v ∧ v ≤ (A.length : Int)) ∧ 0 ≤ b ∧ b ≤ 1099511627776
  · obtain ⟨⟨h1, h2⟩, h3, h4⟩ := hv
    obtain ⟨i, rfl⟩ : ∃ i : Nat, v = (i : Int) + 1 := ⟨(v - 1).toNat, by omega⟩
    refine (rbump_any h i b (by omega) h3 h4).mono fun e w' hh => ?_
    by_cases hle : A.getD i 0 + b ≤ 1152921504606846976
    · have hok : BumpOk A ((i : Int) + 1) b := ⟨⟨h1, h2⟩, h3, h4, by rw [show ((i : Int) + 1 - 1).toNat = i by omega]; exact hle⟩
      have := hh.1 hle
      unfold bumpR
      rw [if_pos hok, show ((i : Int) + 1 - 1).toNat = i by omega]
      exact this
    · have hok : ¬ BumpOk A ((i : Int) + 1) b := fun h => hle (by have := h.2.2.2; rwa [show ((i : Int) + 1 - 1).toNat = i by omega] at this)
      obtain ⟨e1, e2⟩ := hh.2 hle
      subst e2
      unfold bumpR
      rw [if_neg hok]
      exact ⟨e1, h, Out.refl _ _ _⟩
  · have hok : ¬ BumpOk A v b := fun h => hv ⟨h.1, h.2.1, h.2.2.1⟩
    refine (rbump_bad h v b hv).mono fun e w' ⟨e1, e2⟩ => ?_
    subst e2
    unfold bumpR
    rw [if_neg hok]
    exact ⟨e1, h, Out.refl _ _ _⟩

/-- Both hold the same. -/
def Like (A : List Int) (M : Nat → Prop) (S : List Bool) : Prop := ∀ x, M x ↔ (x < A.length ∧ S.getD x false = true)
theorem count_range (S : List Bool) : ∀ k, k ≤ S.length → ((List.range k).filter fun x => S.getD x false).length = inCount S k := by
  intro k
  induction k with
  | zero => intro _; simp [inCount]
  | succ k ih =>
    intro hk
    rw [List.range_succ, List.filter_append, List.length_append, ih (by omega), inCount_succ (by omega)]
    cases hq : S.getD k false
    · rw [List.filter_cons_of_neg (by simp only [hq]; decide)]; simp
    · rw [List.filter_cons_of_pos (by exact hq)]; simp
theorem Held.count (h : Held full lo hi w p A M len) (hl : Like A M S) (hs : S.length = A.length) : inCount S A.length = len := by
  obtain ⟨s, R, Q, _, h⟩ := h
  rw [← h.len, ← hs, ← count_range S S.length (Nat.le_refl _)]
  refine (List.Perm.length_eq ?_).symm
  refine (List.perm_ext_iff_of_nodup h.good.pos.nodup (List.nodup_range.filter _)).2 fun x => ?_
  rw [h.good.pos.mem x, hl x, List.mem_filter, List.mem_range, hs]
theorem Like.pop {b : Nat} (h : Like A M S) (hs : S.length = A.length) (hb : b < A.length) : Like A (fun x => M x ∧ x ≠ b) (S.set b false) := fun x => by
  rw [getD_set_bool _ _ _ _ (by omega)]
  have := h x
  by_cases e : x = b
  · subst e; simp
  · rw [if_neg e]
    exact ⟨fun h => this.1 h.1, fun h => ⟨this.2 h, e⟩⟩
theorem Like.push {b : Nat} (h : Like A M S) (hs : S.length = A.length) (hb : b < A.length) : Like A (fun x => M x ∨ x = b) (S.set b true) := fun x => by
  rw [getD_set_bool _ _ _ _ (by omega)]
  have := h x
  by_cases e : x = b
  · subst e; simp [hb]
  · rw [if_neg e]
    exact ⟨fun h => this.1 (h.resolve_right e), fun h => .inl (this.2 h)⟩
theorem Like.bump {A' : List Int} (h : Like A M S) (hl : A'.length = A.length) : Like A' M S := fun x => by rw [hl]; exact h x
theorem like_start (n : Nat) : Like (List.replicate n 0) (fun x => x < n) (inTo n n) := fun x => by
  have : inTo n n = List.replicate n true := by simp [inTo]
  rw [this, List.length_replicate]
  constructor
  · intro hx; exact ⟨hx, by simp [List.getD, hx]⟩
  · intro hx; exact hx.1
theorem Best.congr {M' : Nat → Prop} {b : Nat} (h : Best A M b) (e : ∀ x, M x ↔ M' x) : Best A M' b := ⟨(e b).1 h.1, fun x hx => h.2 x ((e x).2 hx)⟩

/-- Pop, where something is in. -/
theorem rpop_some (h : RefAt lo hi w p A S) {b : Nat} (hb : Best A (fun x => x < A.length ∧ S.getD x false = true) b) :
    Calls Try.prog 17 #[p] w fun e w' => e = .returned (.tuple #[.int .i64 ((b : Int) + 1), .int .i64 0]) ∧ RefAt lo hi w' p A (S.set b false) ∧ Out lo hi w w' :=
  (rpop_any h).mono fun e w' hh => by
    rcases hh with ⟨h1, _⟩ | ⟨n, h1, h2, h3, h4⟩
    · have := h1 b hb.1.1
      have h5 := hb.1.2
      rw [this] at h5; cases h5
    · obtain rfl := h1.unique hb
      exact ⟨h2, h3, h4⟩
/-- Pop, where nothing is in. -/
theorem rpop_none (h : RefAt lo hi w p A S) (hn : ∀ x, ¬ (x < A.length ∧ S.getD x false = true)) :
    Calls Try.prog 17 #[p] w fun e w' => e = .returned (.tuple #[.int .i64 0, .int .i64 6]) ∧ RefAt lo hi w' p A S ∧ Out lo hi w w' :=
  (rpop_any h).mono fun e w' hh => by
    rcases hh with ⟨_, h2, h3, h4⟩ | ⟨n, h1, _⟩
    · exact ⟨h2, h3, h4⟩
    · exact absurd h1.1 (hn n)
end
end L
end Go.Proofs.Ytenmgkomffnjaaa
