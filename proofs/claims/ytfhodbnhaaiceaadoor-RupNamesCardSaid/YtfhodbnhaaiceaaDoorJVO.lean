/- An append of numbers to a row of the call's own; facts for RupOwn. -/
import Derived.Test.YtfhodbnhaaiceaaDoorJVS
namespace Go.Proofs.YtfhodbnhaaiceaaDoor
open Go.RowKit RA
namespace L
open K
set_option maxRecDepth 100000

/-- What an append of numbers leaves. -/
def GrownI (B : Nat) (w0 : World) (l : List Int) (v' : Value) (W' : World) : Prop :=
  Ints W' v' l ∧ (∃ p c, v' = .slice p l.length c) ∧ Below B w0 W'
theorem run_append_ints {B base : Nat} {w0 W : World} {v : Value} {l l2 : List Int} (h : OwnI W base v l) {x : Value} (hx : Ints W x l2) (hb : Below B w0 W) (hB : B ≤ base) (hsz : base ≤ W.heap.size) (hl : l.length + l2.length ≤ 1000000) (ty : TypeId) :
    ∃ v' W', (Builtin.append_ #[23, 23] ty #[v, x]).run Tryd.prog W = .ok v' W' ∧ GrownI B w0 (l ++ l2) v' W' := by
  obtain ⟨i, hi, hz, hs1, hb1⟩ := info_parts info3
  obtain ⟨a, cap, rfl, hg, hm, hcell⟩ := hx
  by_cases h0 : 0 < l2.length
  · obtain ⟨b, off, rfl, hc⟩ := hcell h0
    obtain ⟨v', W', hr, ho, hgr, _⟩ := run_append_own (P := Tryd.prog) W base 23 ty 3 i (.int .i64 0) 1 8 Tryd.underlying23 hi hz hs1 hb1 rfl (by decide) v l.length (l.map (Value.int .i64)) h ⟨b, off, none⟩ l2.length cap (l2.map (Value.int .i64)) (by simp)
      (fun j u hj => by
        rw [List.getElem?_map, Option.map_eq_some_iff] at hj
        obtain ⟨y, hy, rfl⟩ := hj
        obtain ⟨hj', hy'⟩ := List.getElem?_eq_some_iff.1 hy
        have h4 := hc j hj'
        rw [show l2.getD j 0 = y by simp [List.getD, hy]] at h4
        rw [Addr.add_lit]
        exact h4)
      (fun u hu => by simp at hu; obtain ⟨y, _, rfl⟩ := hu; rfl) (by unfold maxLen; omega) (by omega) hsz
    have hoi : OwnI W' base v' (l ++ l2) := by unfold OwnI; simpa using ho
    exact ⟨v', W', hr, hoi.ints (by simp; omega), owns_shape hoi, hb.grown hgr (by omega) fun k hk => Nat.le_trans hB (h.lt k hk).1⟩
  · have hl2 : l2 = [] := List.eq_nil_of_length_eq_zero (by omega)
    subst hl2
    have hin := h.ints (by simp at hl; omega)
    obtain ⟨p, c, rfl⟩ := owns_shape h
    refine ⟨.slice p l.length c, W, ?_, by rw [List.append_nil]; exact hin, ⟨p, c, by rw [List.append_nil]⟩, hb⟩
    have hgc : l.length ≤ c := by
      obtain ⟨_, _, e, hlc, _⟩ := hin
      injection e with _ _ e3
      omega
    have hst : ∀ x : Addr, (storeCells x []).run Tryd.prog W = .ok () W := fun x => by
      unfold storeCells
      rfl
    cases p with
    | none =>
      cases a with
      | none => simp [Builtin.append_, run_underlying Tryd.underlying23, sizeOf, typeInfo, hi, Builtin.lenOf, Builtin.firstCells, hgc, Sem.run_pure, Result.andThen]
      | some b => simp [Builtin.append_, run_underlying Tryd.underlying23, sizeOf, typeInfo, hi, Builtin.lenOf, Builtin.firstCells, loadCells, loadCellsFrom, hgc, Sem.run_pure, Result.andThen]
    | some q =>
      cases a with
      | none => simp [Builtin.append_, run_underlying Tryd.underlying23, sizeOf, typeInfo, hi, Builtin.lenOf, Builtin.firstCells, hgc, hst, Sem.run_map, Sem.run_bind, Result.andThen]
      | some b => simp [Builtin.append_, run_underlying Tryd.underlying23, sizeOf, typeInfo, hi, Builtin.lenOf, Builtin.firstCells, loadCells, loadCellsFrom, hgc, hst, Sem.run_map, Sem.run_bind, Result.andThen]
theorem checkE_val {m : Nat} {c : List Int} (hm : m ≤ 12) (hl : c.length ≤ 4096) (hv : U.Val m c) : checkE (m : Int) c = 0 := by
  unfold checkE
  rw [if_neg (by omega), if_neg (by omega)]
  have : c.any (fun x => decide (x = 0) || decide ((m : Int) < av x)) = false := by
    rw [List.any_eq_false]
    intro x hx
    obtain ⟨h3, h4⟩ := hv x hx
    simp only [Bool.or_eq_true, decide_eq_true_eq, not_or]
    refine ⟨h3, ?_⟩
    unfold av
    split <;> omega
  rw [this]; rfl
theorem impliedR_yes {n : Int} {F : List (List Int)} {c : List Int} (h1 : checkF n F = 0) (h2 : checkE n c = 0) (h : Imp F c) : impliedR n F c = (true, 0) := by
  obtain ⟨q, hq, hi⟩ := impliedR_ok h1 h2
  rw [hq, hi.2 h]
theorem ints_pm {W : World} {b : Nat} (hx : Box W b 3 #[.int .i64 1, .int .i64 (-1)]) : Ints W (.slice (some ⟨b, 0, none⟩) 2 2) [1, -1] := ⟨_, 2, rfl, Nat.le_refl _, by simp, fun _ => ⟨b, 0, rfl, fun i hi => by
  have : i = 0 ∨ i = 1 := by simp at hi; omega
  rcases this with rfl | rfl
  · exact hx.cell 0
  · exact hx.cell 1⟩⟩
end L
end Go.Proofs.YtfhodbnhaaiceaaDoor
