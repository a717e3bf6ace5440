/- Appends of rows to a row of the call's own; an append as one step of a region that draws its order. -/
import Derived.Test.YtfhodbnhaaiceaaDoorQ28
import Derived.Test.YtfhodbnhaaiceaaDoorQ21
import Derived.Deep.RegionHeld3
import Derived.Deep.AppendLies
namespace Go.Proofs.YtfhodbnhaaiceaaDoor
open Go.RowKit RA
namespace L
open K
set_option maxRecDepth 100000

theorem step_append_by {ops : Array Oper} {o : Oper} {a : Act} {w : World} {K : Act → World → Prop} {Q : Exit → Act → World → Prop} {E : Prop} (hgd : o.guard = none) (s x : Operand) (t u : TypeId)
    (ho : o.op = .call { callee := .builtin .append, args := #[s, x], argTypes := #[t, u] }) (v xv : Value) (hs : a.eval s = v) (hx : a.eval x = xv) (R : Value → World → Prop)
    (hr : ∃ v' w', (Builtin.append_ #[t, u] o.type #[v, xv]).run Tryd.prog w = .ok v' w' ∧ R v' w')
    (h : ∀ v' w', R v' w' → K (a.put o.dst v') w') : if Region.wanted o (yielded ops a.tmps) = true then Oper.wp Tryd.prog o a w K Q else E := by
  have hw : Region.wanted o (yielded ops a.tmps) = true := by simp [Region.wanted, hgd]
  rw [if_pos hw]
  obtain ⟨v', w', hr, h2⟩ := hr
  unfold Oper.wp execOp
  simp only [ho, resolve, invoke, builtin, Sem.run_bind, Sem.run_pure, Result.andThen_ok, List.map_toArray, List.map_cons, List.map_nil, hs, hx, hr]
  exact h v' w' h2

/-- A row of rows that w0 holds, itself of the call's own. -/
def RowO (w0 W : World) (v : Value) (G : List (List Int)) : Prop :=
  ∃ us : List Value, us.length = G.length ∧ (∀ j, j < G.length → Ints w0 (us.getD j (.slice none 0 0)) (G.getD j [])) ∧ W.ownsRow w0.heap.size 23 1 v G.length us
theorem RowO.nil (w0 W : World) : RowO w0 W (.slice none 0 0) [] := ⟨[], rfl, fun j hj => absurd hj (by simp), World.ownsRow_nil _ _ _ _⟩
theorem RowO.row {w0 W : World} {v : Value} {G : List (List Int)} (h : RowO w0 W v G) : Row w0 W v G := by
  obtain ⟨us, h1, h2, h3⟩ := h
  exact ⟨us, h1, h2, .inr h3⟩
theorem RowO.shape {w0 W : World} {v : Value} {G : List (List Int)} (h : RowO w0 W v G) : ∃ p c, v = .slice p G.length c := by
  obtain ⟨us, _, _, h3⟩ := h
  exact owns_shape h3
theorem RowO.grow {w0 W W' : World} {v : Value} {G : List (List Int)} (h : RowO w0 W v G) (hb : Below W.heap.size W W') : RowO w0 W' v G := by
  obtain ⟨us, h1, h2, h3⟩ := h
  exact ⟨us, h1, h2, owns_of_block h3 fun k hk => hb.block k (h3.lt k hk).2⟩
theorem RowO.heap {w0 W W' : World} {v : Value} {G : List (List Int)} (h : RowO w0 W v G) (hh : W'.heap = W.heap) : RowO w0 W' v G := by
  obtain ⟨us, h1, h2, h3⟩ := h
  exact ⟨us, h1, h2, owns_heap h3 hh⟩
/-- A cell of a box of another type is set. -/
theorem RowO.set {w0 W : World} {v : Value} {G : List (List Int)} {b : Nat} {T : TypeId} {cs : Array Value} (h : RowO w0 W v G) (hx : Box W b T cs) (hT : T ≠ 23) (j : Nat) (u : Value) : RowO w0 (W.setCell ⟨b, j, none⟩ u) v G := by
  obtain ⟨us, h1, h2, h3⟩ := h
  refine ⟨us, h1, h2, owns_of_block h3 fun k hk => Deep.blk_setCell_other W ⟨b, j, none⟩ u k fun e => ?_⟩
  obtain ⟨cur, hc⟩ := owns_typed h3 k hk
  have e' : k = b := e
  subst e'
  unfold Box at hx
  rw [hx] at hc
  injection hc with hc
  injection hc with _ hc
  exact hT hc
theorem RowO.lists {w0 W : World} {v : Value} {G : List (List Int)} (h : RowO w0 W v G) (hb : Below w0.heap.size w0 W) (hm : G.length ≤ 1000000) : Lists W v G := h.row.lists hb hm
/-- What an append leaves. -/
def GrownO (w0 W : World) (G : List (List Int)) (v' : Value) (W' : World) : Prop :=
  RowO w0 W' v' G ∧ (∃ p c, v' = .slice p G.length c) ∧ ∃ row, W.grownBy W' row ∧ ∀ k, row = some k → w0.heap.size ≤ k ∧ ∃ cur, W.heap[k]? = some (.cells cur 23 (0, 0))
theorem GrownO.below {w0 W W' : World} {G : List (List Int)} {v' : Value} (h : GrownO w0 W G v' W') (hb : Below w0.heap.size w0 W) : Below w0.heap.size w0 W' := by
  obtain ⟨_, _, row, hg, hk⟩ := h
  exact hb.grown hg hb.size fun k e => (hk k e).1
theorem GrownO.box {w0 W W' : World} {G : List (List Int)} {v' : Value} {b : Nat} {T : TypeId} {cs : Array Value} (h : GrownO w0 W G v' W') (hx : Box W b T cs) (hT : T ≠ 23) : Box W' b T cs := by
  obtain ⟨_, _, row, hg, hk⟩ := h
  refine hx.grown hg fun e => ?_
  obtain ⟨_, cur, hc⟩ := hk b e.symm
  unfold Box at hx
  rw [hx] at hc
  injection hc with hc
  injection hc with _ hc
  exact hT hc

theorem run_append_rows {w0 W : World} {v : Value} {G F : List (List Int)} (h : RowO w0 W v G) {a : Option Addr} {cap : Nat} {us : List Value} (hus : us.length = F.length)
    (hin : ∀ j, j < F.length → Ints w0 (us.getD j (.slice none 0 0)) (F.getD j []))
    (hcell : 0 < F.length → ∃ b off, a = some ⟨b, off, none⟩ ∧ ∀ j, j < F.length → W.cell? ⟨b, off + j, none⟩ = some (us.getD j (.slice none 0 0)))
    (hsz : w0.heap.size ≤ W.heap.size) (hG : G.length + F.length ≤ 1000000) (ty : TypeId) :
    ∃ v' W', (Builtin.append_ #[24, 24] ty #[v, .slice a F.length cap]).run Tryd.prog W = .ok v' W' ∧ GrownO w0 W (G ++ F) v' W' := by
  obtain ⟨i, hi, hz, hs1, hb1⟩ := info_parts infoR
  obtain ⟨vs, h1, h2, h3⟩ := h
  by_cases h0 : 0 < F.length
  · obtain ⟨b, off, rfl, hc⟩ := hcell h0
    obtain ⟨v', W', hr, ho, hg, _⟩ := run_append_own (P := Tryd.prog) W w0.heap.size 24 ty 23 i (.slice none 0 0) 1 24 Tryd.underlying24 hi hz hs1 hb1 rfl (by decide) v G.length vs h3 ⟨b, off, none⟩ F.length cap us (by rw [hus, Nat.mul_one])
      (fun j u hj => by
        have hj' : j < F.length := by rw [← hus]; exact (List.getElem?_eq_some_iff.1 hj).1
        have h4 := hc j hj'
        have h5 : us.getD j (.slice none 0 0) = u := by simp [List.getD, hj]
        rw [h5] at h4
        rw [Addr.add_lit]
        exact h4)
      (fun u hu => by
        obtain ⟨j, hj, rfl⟩ := List.getElem_of_mem hu
        obtain ⟨p, c, he, _⟩ := hin j (by omega)
        have : us.getD j (.slice none 0 0) = us[j] := by simp [List.getD, hj]
        rw [this] at he
        rw [he]; rfl) (by unfold maxLen; omega) (by omega) hsz
    have hro : RowO w0 W' v' (G ++ F) := ⟨vs ++ us, by simp [h1, hus], fun j hj => by
      by_cases hjl : j < G.length
      · have e1 : (vs ++ us).getD j (.slice none 0 0) = vs.getD j (.slice none 0 0) := by simp [List.getD, List.getElem?_append_left (show j < vs.length by omega)]
        have e2 : (G ++ F).getD j [] = G.getD j [] := by simp [List.getD, List.getElem?_append_left hjl]
        rw [e1, e2]
        exact h2 j hjl
      · have e1 : (vs ++ us).getD j (.slice none 0 0) = us.getD (j - G.length) (.slice none 0 0) := by simp [List.getD, List.getElem?_append_right (show vs.length ≤ j by omega), h1]
        have e2 : (G ++ F).getD j [] = F.getD (j - G.length) [] := by simp [List.getD, List.getElem?_append_right (show G.length ≤ j by omega)]
        rw [e1, e2]
        exact hin _ (by rw [List.length_append] at hj; omega), by simpa using ho⟩
    refine ⟨v', W', hr, hro, hro.shape, _, hg, fun k hk => ⟨(h3.lt k hk).1, owns_typed h3 k hk⟩⟩
  · have hF : F = [] := List.eq_nil_of_length_eq_zero (by omega)
    subst hF
    obtain ⟨p, c, rfl⟩ := owns_shape h3
    have hro : RowO w0 W (.slice p G.length c) (G ++ []) := by rw [List.append_nil]; exact ⟨vs, h1, h2, h3⟩
    refine ⟨.slice p G.length c, W, ?_, hro, ⟨p, c, by rw [List.append_nil]⟩, none, ⟨rfl, rfl, rfl, Nat.le_refl _, fun k _ _ => rfl⟩, fun k hk => by cases hk⟩
    have hgc : G.length ≤ c := by
      rcases h3.2 with ⟨h4, h5⟩ | ⟨g, cap, cur, h4, _, _, h5, _⟩
      · omega
      · simp only [Value.slice.injEq] at h4
        omega
    have hst : ∀ x : Addr, (storeCells x []).run Tryd.prog W = .ok () W := fun x => by
      unfold storeCells
      first
        | rfl
        | simp [storeCellsFrom, Sem.run_pure]
    cases p with
    | none =>
      cases a with
      | none => simp [Builtin.append_, run_underlying Tryd.underlying24, sizeOf, typeInfo, hi, Builtin.lenOf, Builtin.firstCells, hgc, Sem.run_pure, Result.andThen]
      | some b => simp [Builtin.append_, run_underlying Tryd.underlying24, sizeOf, typeInfo, hi, Builtin.lenOf, Builtin.firstCells, loadCells, loadCellsFrom, hgc, Sem.run_pure, Result.andThen]
    | some q =>
      cases a with
      | none => simp [Builtin.append_, run_underlying Tryd.underlying24, sizeOf, typeInfo, hi, Builtin.lenOf, Builtin.firstCells, hgc, hst, Sem.run_map, Sem.run_bind, Result.andThen]
      | some b => simp [Builtin.append_, run_underlying Tryd.underlying24, sizeOf, typeInfo, hi, Builtin.lenOf, Builtin.firstCells, loadCells, loadCellsFrom, hgc, hst, Sem.run_map, Sem.run_bind, Result.andThen]
/-- append(v, x...) -/
theorem run_append_lists {w0 W : World} {v : Value} {G F : List (List Int)} (h : RowO w0 W v G) (hb : Below w0.heap.size w0 W) {x : Value} (hx : Lists w0 x F) (hG : G.length + F.length ≤ 1000000) (ty : TypeId) :
    ∃ v' W', (Builtin.append_ #[24, 24] ty #[v, x]).run Tryd.prog W = .ok v' W' ∧ GrownO w0 W (G ++ F) v' W' := by
  obtain ⟨a, cap, rfl, hl, hm, hc⟩ := hx
  by_cases h0 : 0 < F.length
  · obtain ⟨b, off, rfl, hcell⟩ := hc h0
    obtain ⟨us, h1, h2, hu⟩ := rows_of hcell
    exact run_append_rows h h1 h2 (fun _ => ⟨b, off, rfl, fun j hj => (hb.cell (p := ⟨b, off + j, none⟩) (World.block_lt_of_cell? _ _ (hu j hj))).trans (hu j hj)⟩) hb.size hG ty
  · exact run_append_rows (us := []) h (by simp; omega) (fun j hj => by omega) (fun h => absurd h h0) hb.size hG ty
/-- append(v, c) -/
theorem run_append_one {w0 W : World} {v : Value} {G : List (List Int)} (h : RowO w0 W v G) (hb : Below w0.heap.size w0 W) {vc : Value} {c : List Int} (hx : Ints w0 vc c) (hG : G.length + 1 ≤ 1000000) (ty : TypeId) :
    ∃ v' W', (Builtin.append_ #[24, 24] ty #[v, .slice (some ⟨W.heap.size, 0, none⟩) 1 1]).run Tryd.prog (W.alloc (.cells #[vc] 23)) = .ok v' W' ∧ GrownO w0 (W.alloc (.cells #[vc] 23)) (G ++ [c]) v' W' :=
  run_append_rows (F := [c]) (us := [vc]) (h.grow ((Below.refl _ _).alloc (Nat.le_refl _) _)) rfl (fun j hj => by
    obtain rfl : j = 0 := by simp at hj; exact hj
    exact hx) (fun _ => ⟨W.heap.size, 0, rfl, fun j hj => by
    obtain rfl : j = 0 := by simp at hj; exact hj
    simp⟩) (by have := hb.size; simp; omega) (by simpa using hG) ty
end L
end Go.Proofs.YtfhodbnhaaiceaaDoor
