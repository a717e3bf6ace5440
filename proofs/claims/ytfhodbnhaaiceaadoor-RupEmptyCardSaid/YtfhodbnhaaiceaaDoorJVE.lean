/- Facts for RupEmpty. -/
import Derived.Test.YtfhodbnhaaiceaaDoorJVS
import Derived.Test.YtfhodbnhaaiceaaDoorQ18
namespace Go.Proofs.YtfhodbnhaaiceaaDoor
open Go.RowKit RA
namespace K
theorem Lists.drop {w : World} {b off n cap : Nat} {l : List (List Int)} (h : Lists w (.slice (some ⟨b, off, none⟩) n cap) l) (k : Nat) (hk : k ≤ l.length) : Lists w (.slice (some ⟨b, off + k, none⟩) (l.length - k) (cap - k)) (l.drop k) := by
  obtain ⟨p, c, he, hl, hm, hc⟩ := h
  injection he with e1 e2 e3
  subst e1 e2 e3
  refine ⟨some ⟨b, off + k, none⟩, cap - k, by rw [List.length_drop], by rw [List.length_drop]; omega, by rw [List.length_drop]; omega, fun h0 => ⟨b, off + k, rfl, fun j hj => ?_⟩⟩
  rw [List.length_drop] at h0 hj
  obtain ⟨b2, o2, e, h2⟩ := hc (by omega)
  injection e with e
  injection e with e4 e5
  subst e4 e5
  obtain ⟨u, hu, hi⟩ := h2 (k + j) (by omega)
  refine ⟨u, by rw [Nat.add_assoc]; exact hu, ?_⟩
  have e2 : (l.drop k).getD j [] = l.getD (k + j) [] := by simp [List.getD]
  rw [e2]; exact hi
end K
namespace L
open K
set_option maxRecDepth 100000
theorem ints_nil (w : World) : Ints w (.slice none 0 0) [] := ⟨none, 0, rfl, by simp, by simp, fun h => absurd h (by simp)⟩
theorem punits_q (n : Int) (v : Value) (cs : List (List Int)) (u : Value) (A : List Int) (w : World) (hn : I64 n) (hl : ∀ c ∈ cs, ∀ x ∈ c, I64 x) (h : Lists w v cs) (hl2 : ∀ x ∈ A, I64 x) (hu : Ints w u A) {m : Nat} (hm : n = m) (hc : checkU n cs A = 0) {q : Bool} (hq : q = true ↔ U.Bad cs A) :
    Calls Tryd.prog 28 #[.agg #[.int .i64 n, v], u] w fun e w' => ∃ vl, e = .returned (.tuple #[vl, .bool q, .int .i64 0]) ∧ Below w.heap.size w w' := by
  refine (punits_any n v cs u A w hn hl h hl2 hu).mono ?_
  rintro e w' ⟨r, rfl, hp, hb⟩
  subst hm
  rcases hp with ⟨h1, _⟩ | ⟨h1, h2, rfl⟩ | ⟨h1, l, vl, h2, rfl, _⟩
  · exact absurd hc h1
  · have hbad : U.Bad cs A := by
      rcases units_cases hc with ⟨hb, _⟩ | ⟨hb, _⟩
      · exact hb
      · have := U.unitsOf_good (n := m) hb
        rw [show ((m : Int)).toNat = m by omega] at h2
        rw [h2] at this
        cases this
    obtain rfl : q = true := hq.2 hbad
    exact ⟨_, rfl, hb⟩
  · have hgood : ¬ U.Bad cs A := fun hb => by
      have := U.unitsOf_bad (n := m) hb
      rw [show ((m : Int)).toNat = m by omega] at h2
      rw [h2] at this
      cases this
    obtain rfl : q = false := by cases q with
      | false => rfl
      | true => exact absurd (hq.1 rfl) hgood
    exact ⟨_, rfl, hb⟩
theorem imp_nil {F : List (List Int)} : Imp F [] ↔ U.Bad F [] := Iff.rfl
theorem checkR_empty {F : List (List Int)} {q : Bool} (h : q = true ↔ U.Bad F []) : (checkR F [[]] == -1) = q ∧ firstE 1 [[]] = 0 := by
  refine ⟨?_, rfl⟩
  unfold checkR firstNot
  by_cases hb : Imp F []
  · rw [if_pos hb]
    rw [h.2 hb]
    rfl
  · rw [if_neg hb]
    cases q with
    | false => rfl
    | true => exact absurd (h.1 rfl) hb
theorem checkE_nil {V : Nat} (h : V ≤ 12) : checkE (V : Int) [] = 0 := by
  unfold checkE
  rw [if_neg (by omega), if_neg (by simp)]
  rfl
theorem firstE_nil {V : Nat} (h : V ≤ 12) : firstE (V : Int) [[]] = 0 := by
  unfold firstE
  rw [if_pos (checkE_nil h)]
  rfl
end L
end Go.Proofs.YtfhodbnhaaiceaaDoor
