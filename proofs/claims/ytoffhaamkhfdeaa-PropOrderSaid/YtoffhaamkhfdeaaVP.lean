/- PropOrder: the plain facts, and the state of the formula that the law builds. -/
import Derived.Test.YtoffhaamkhfdeaaUF
import Derived.Test.YtoffhaamkhfdeaaXT
namespace Go.Proofs.Ytoffhaamkhfdeaa
open Go.RowKit Go.Conc
namespace L
open K

/-- The same literals. -/
def SameL (c d : List Int) : Prop := ∀ x, x ∈ c ↔ x ∈ d
theorem der_same {cs cs' : List (List Int)} {A A' : List Int} (h1 : ∀ c ∈ cs, ∃ d ∈ cs', SameL c d) (h2 : ∀ x ∈ A, x ∈ A') {x : Int} (h : U.Der cs A x) : U.Der cs' A' x := by
  induction h with
  | assume hx => exact .assume (h2 _ hx)
  | @unit c x hc hx _ ih =>
    obtain ⟨d, hd, hs⟩ := h1 c hc
    exact .unit hd ((hs x).1 hx) fun y hy hne => ih y ((hs y).2 hy) hne
theorem bad_same {cs cs' : List (List Int)} {A A' : List Int} (h1 : ∀ c ∈ cs, ∃ d ∈ cs', SameL c d) (h2 : ∀ x ∈ A, x ∈ A') (h : U.Bad cs A) : U.Bad cs' A' := by
  rcases h with ⟨x, a, b⟩ | ⟨c, hc, hy⟩
  · exact .inl ⟨x, h2 _ a, h2 _ b⟩
  · obtain ⟨d, hd, hs⟩ := h1 c hc
    exact .inr ⟨d, hd, fun y hy' => der_same h1 h2 (hy y ((hs y).2 hy'))⟩
theorem unitsR_same {n : Int} {cs cs' : List (List Int)} {A A' : List Int} (hc : checkU n cs A = 0) (hc' : checkU n cs' A' = 0) (h1 : ∀ c ∈ cs, ∃ d ∈ cs', SameL c d) (h1' : ∀ d ∈ cs', ∃ c ∈ cs, SameL d c) (h2 : SameL A A') : unitsR n cs' A' = unitsR n cs A := by
  have e : U.unitsOf n.toNat cs' A' = U.unitsOf n.toNat cs A := U.unitsOf_congr ⟨bad_same h1' fun x hx => (h2 x).2 hx, bad_same h1 fun x hx => (h2 x).1 hx⟩ fun _ => ⟨der_same h1' fun x hx => (h2 x).2 hx, der_same h1 fun x hx => (h2 x).1 hx⟩
  unfold unitsR
  rw [if_neg (show ¬ checkU n cs' A' ≠ 0 by simp [hc']), if_neg (show ¬ checkU n cs A ≠ 0 by simp [hc]), e]

/-- What the built formula holds when the first m clauses are still to do. -/
def GR (F : List (List Int)) (m : Nat) (G : List (List Int)) : Prop := (∀ c ∈ G, c.length ≤ 40 ∧ ∃ d ∈ F, SameL c d) ∧ ∀ j, m ≤ j → j < F.length → ∃ c ∈ G, SameL (F.getD j []) c
theorem GR.init (F : List (List Int)) : GR F F.length [] := ⟨fun _ hc => absurd hc (by simp), fun _ h1 h2 => absurd h2 (by omega)⟩
theorem GR.step {F G : List (List Int)} {i : Nat} {c : List Int} (h : GR F (i + 1) G) (hi : i < F.length) (hl : c.length ≤ 40) (hs : SameL (F.getD i []) c) : GR F i (G ++ [c]) := by
  refine ⟨fun d hd => ?_, fun j h1 h2 => ?_⟩
  · rcases List.mem_append.1 hd with hd | hd
    · exact h.1 d hd
    · simp at hd
      subst hd
      exact ⟨hl, _, mem_getDL hi, fun x => (hs x).symm⟩
  · by_cases hj : j = i
    · subst hj
      exact ⟨c, by simp, hs⟩
    · obtain ⟨d, hd, e⟩ := h.2 j (by omega) h2
      exact ⟨d, by simp [hd], e⟩
theorem GR.more {F G : List (List Int)} {i : Nat} {c : List Int} (h : GR F i G) (hi : i < F.length) (hl : c.length ≤ 40) (hs : SameL (F.getD i []) c) : GR F i (G ++ [c]) := by
  refine ⟨fun d hd => ?_, fun j h1 h2 => ?_⟩
  · rcases List.mem_append.1 hd with hd | hd
    · exact h.1 d hd
    · simp at hd
      subst hd
      exact ⟨hl, _, mem_getDL hi, fun x => (hs x).symm⟩
  · obtain ⟨d, hd, e⟩ := h.2 j h1 h2
    exact ⟨d, by simp [hd], e⟩
theorem GR.cover {F G : List (List Int)} (h : GR F 0 G) : ∀ c ∈ F, ∃ d ∈ G, SameL c d := fun c hc => by
  obtain ⟨j, hj, rfl⟩ := List.getElem_of_mem hc
  have := h.2 j (Nat.zero_le _) hj
  simpa [List.getD, hj] using this
theorem GR.valid {F G : List (List Int)} {V m : Nat} (h : GR F m G) (hv : ∀ c ∈ F, U.Val V c) : ∀ c ∈ G, U.Val V c := fun c hc x hx => by
  obtain ⟨_, d, hd, hs⟩ := h.1 c hc
  exact hv d hd x ((hs x).1 hx)

/-- Rows that lie in blocks of numbers. -/
def RowsT (w : World) (v : Value) (F : List (List Int)) : Prop :=
  ∃ p c, v = .slice p F.length c ∧ (0 < F.length → ∃ g off, p = some ⟨g, off, none⟩ ∧ ∀ j, j < F.length → ∃ pu cu, w.cell? ⟨g, off + j, none⟩ = some (.slice pu (F.getD j []).length cu) ∧ Ints w (.slice pu (F.getD j []).length cu) (F.getD j []) ∧ TypedI w (.slice pu (F.getD j []).length cu) ∧ ((pu = none ∧ cu = 0 ∧ F.getD j [] = []) ∨ ∃ k, pu = some ⟨k, 0, none⟩))
theorem RowsT.below {w w' : World} {v : Value} {F : List (List Int)} (h : RowsT w v F) (hb : Below w.heap.size w w') : RowsT w' v F := by
  obtain ⟨p, c, h1, h2⟩ := h
  refine ⟨p, c, h1, fun h0 => ?_⟩
  obtain ⟨g, off, h3, h4⟩ := h2 h0
  refine ⟨g, off, h3, fun j hj => ?_⟩
  obtain ⟨pu, cu, h5, h6, h7, h8⟩ := h4 j hj
  exact ⟨pu, cu, (hb.cell (p := ⟨g, off + j, none⟩) (World.block_lt_of_cell? _ _ h5)).trans h5, h6.below hb, TypedI.below h7 hb (Nat.le_refl _), h8⟩
theorem rowsT_own {w : World} {base : Nat} {v : Value} {F : List (List Int)} (h : OwnL w base v F) (he : ∀ j, j < F.length → (F.getD j []).length * 8 ≤ 140737488351232) : RowsT w v F := by
  obtain ⟨us, h1, h2, h3⟩ := h
  rcases h2.2 with ⟨rfl, h0⟩ | ⟨g, cap, cur, rfl, hb, hg, hn, hcap, hsz, htake⟩
  · exact ⟨none, 0, by rw [h0], fun h => by omega⟩
  · refine ⟨some ⟨g, 0, none⟩, cap, rfl, fun _ => ⟨g, 0, rfl, fun j hj => ?_⟩⟩
    have h4 := h2.cellAt j (by omega)
    have h5 := h3 j hj
    have h6 := he j hj
    have e : us[j]? = some (us.getD j (.slice none 0 0)) := by simp [List.getD, show j < us.length by omega]
    rw [e] at h4
    rw [Nat.zero_add]
    have h7 := h5.ints h6
    have h8 : TypedI w (us.getD j (.slice none 0 0)) := fun k hk => owns_typed h5 k hk
    generalize us.getD j (.slice none 0 0) = u at *
    rcases h5.2 with ⟨a1, a2⟩ | ⟨k, cu, cur2, a1, _, _, _, _⟩
    · subst a1
      have a3 : F.getD j [] = [] := List.length_eq_zero_iff.1 a2
      refine ⟨none, 0, by rw [a2]; exact h4, by rw [a2]; exact h7, by rw [a2]; exact h8, .inl ⟨rfl, rfl, a3⟩⟩
    · subst a1
      exact ⟨_, _, h4, h7, h8, .inr ⟨k, rfl⟩⟩

/-- The state of the built formula. -/
def GSt (b : Nat) (w5 : World) (V : Int) (wr : World) (G : List (List Int)) (pg : Option Addr) (cg : Nat) : Prop :=
  Box wr b 26 #[.int .i64 V, .slice pg G.length cg] ∧ OwnT wr (b + 1) (.slice pg G.length cg) G ∧ Below b w5 wr ∧ b + 1 ≤ wr.heap.size
theorem GSt.later {b : Nat} {w5 wr wr' : World} {V : Int} {G : List (List Int)} {pg : Option Addr} {cg : Nat} (h : GSt b w5 V wr G pg cg) (hb : Below wr.heap.size wr wr') : GSt b w5 V wr' G pg cg :=
  ⟨h.1.below hb (by have := h.2.2.2; omega), h.2.1.below hb (Nat.le_refl _), h.2.2.1.trans (hb.mono (by have := h.2.2.2; omega)), Nat.le_trans h.2.2.2 hb.size⟩
theorem GSt.push {b : Nat} {w5 wr w3 W2 : World} {V : Int} {G : List (List Int)} {pg : Option Addr} {cg : Nat} {us : List Value} {u v' : Value} {c : List Int}
    (hbox : Box wr b 26 #[.int .i64 V, .slice pg G.length cg]) (hus : us.length = G.length) (how : wr.ownsRow (b + 1) 23 1 (.slice pg G.length cg) G.length us)
    (hin : ∀ j, j < G.length → Ints wr (us.getD j (.slice none 0 0)) (G.getD j []) ∧ TypedI wr (us.getD j (.slice none 0 0))) (hb : Below b w5 wr) (hs : b + 1 ≤ wr.heap.size)
    (hu : Ints wr u c) (ht : TypedI wr u) (hW : Below wr.heap.size wr W2) (hown' : w3.ownsRow (b + 1) 23 1 v' (G.length + 1) (us ++ [u])) (hgrow : W2.grownBy w3 (Value.slice pg G.length cg).ownBlock) :
    Box w3 b 26 #[.int .i64 V, .slice pg G.length cg] ∧ ∃ g cap, v' = .slice (some ⟨g, 0, none⟩) (G.length + 1) cap ∧ GSt b w5 V (w3.setCell ⟨b, 1, none⟩ v') (G ++ [c]) (some ⟨g, 0, none⟩) cap := by
  have hne : ∀ i, (Value.slice pg G.length cg).ownBlock = some i → b + 1 ≤ i := fun i hi => (how.lt i hi).1
  have hbA : Below b w5 W2 := hb.trans (hW.mono (by omega))
  have hsz := hW.size
  have hbB := hbA.grown hgrow (by omega) (fun i hi => by have := hne i hi; omega)
  have hxB : Box w3 b 26 #[.int .i64 V, .slice pg G.length cg] := (hbox.below hW (by omega)).grown hgrow (fun e => by have := hne b e.symm; omega)
  have hOT := OwnT.push hus (owns_below how hW (Nat.le_refl _)) (fun j hj => ⟨(hin j hj).1.below hW, TypedI.below (hin j hj).2 hW (Nat.le_refl _)⟩) (hu.below hW) (TypedI.below ht hW (Nat.le_refl _)) hown' hgrow
  obtain ⟨g, cap, e, _, _⟩ := owns_form hown' (by omega)
  refine ⟨hxB, g, cap, e, ?_⟩
  subst e
  have hl : (G ++ [c]).length = G.length + 1 := by simp
  unfold GSt
  rw [hl]
  exact ⟨hxB.set 1 _, hOT.setCell (a := ⟨b, 1, none⟩) (by show b < b + 1; omega) ⟨_, 26, hxB, by decide⟩ _, hbB.setCell (Nat.le_refl _) _, by have := hgrow.size; simp; omega⟩
end L
end Go.Proofs.Ytoffhaamkhfdeaa
