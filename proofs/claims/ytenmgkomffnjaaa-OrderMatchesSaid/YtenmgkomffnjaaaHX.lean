/- The reference's heap: Copy. -/
import Derived.Test.YtenmgkomffnjaaaHW
import Derived.Deep.RegionHeld3
import Derived.Deep.AppendLies
namespace Go.Proofs.Ytenmgkomffnjaaa
open Go.RowKit
namespace L
open K HP
set_option maxRecDepth 100000

theorem step_append_by {ops : Array Oper} {o : Oper} {a : Act} {w : World} {K : Act → World → Prop} {Q : Exit → Act → World → Prop} {E : Prop} (hgd : o.guard = none) (s x : Operand) (t u : TypeId)
    (ho : o.op = .call { callee := .builtin .append, args := #[s, x], argTypes := #[t, u] }) (v xv : Value) (hs : a.eval s = v) (hx : a.eval x = xv) (R : Value → World → Prop)
    (hr : ∃ v' w', (Builtin.append_ #[t, u] o.type #[v, xv]).run Try.prog w = .ok v' w' ∧ R v' w')
    (h : ∀ v' w', R v' w' → K (a.put o.dst v') w') : if Region.wanted o (yielded ops a.tmps) = true then Oper.wp Try.prog o a w K Q else E := by
  have hw : Region.wanted o (yielded ops a.tmps) = true := by simp [Region.wanted, hgd]
  rw [if_pos hw]
  obtain ⟨v', w', hr, h2⟩ := hr
  unfold Oper.wp execOp
  simp only [ho, resolve, invoke, builtin, Sem.run_bind, Sem.run_pure, Result.andThen_ok, List.map_toArray, List.map_cons, List.map_nil, hs, hx, hr]
  exact h v' w' h2

/-- A row appended to nothing. -/
structure Fresh (e : TypeId) (n : Nat) (xs : List Value) (w : World) (v' : Value) (w' : World) : Prop where
  own : w'.ownsRow w.heap.size e 1 v' n xs
  below : Below w.heap.size w w'
theorem run_fresh {t e : TypeId} {z : Value} {bytes : Nat} (ht : Try.prog.underlying t = some (.slice e)) (hi : (Try.prog.info? e).map (fun i => (i.zero, i.size, i.bytes)) = some (some z, 1, bytes)) (hz : z.cells.size = 1) (hby : bytes ≤ 8)
    {w : World} {base n : Nat} {v : Value} {xs : List Value} (h : w.ownsRow base e 1 v n xs) (hn : n ≤ 1048576) (h1 : ∀ u ∈ xs, u.oneCell' = true) (ty : TypeId) :
    ∃ v' w', (Builtin.append_ #[t, t] ty #[.slice none 0 0, v]).run Try.prog w = .ok v' w' ∧ Fresh e n xs w v' w' := by
  obtain ⟨i0, hi0, hz0, hz1, hz2⟩ := info_parts hi
  rcases h.2 with ⟨rfl, rfl⟩ | ⟨g, cap, cur, rfl, hb, hg, hnc, hcm, hcs, htake⟩
  · have hx : xs = [] := List.length_eq_zero_iff.1 (by have := h.1; omega)
    subst hx
    exact ⟨_, _, run_append_owned_none (P := Try.prog) w w.heap.size t ty e i0 1 ht hi0 (.slice none 0 0) 0 [] (World.ownsRow_nil _ _ _ _), ⟨World.ownsRow_nil _ _ _ _, Below.refl _ _⟩⟩
  · obtain ⟨v', w', hr, ho, hgr, _⟩ := run_append_own (P := Try.prog) w w.heap.size t ty e i0 z 1 bytes ht hi0 hz0 hz1 hz2 hz (by decide) (.slice none 0 0) 0 [] (World.ownsRow_nil _ _ _ _) ⟨g, 0, none⟩ n cap xs h.1 (h.cells rfl) h1 (by unfold maxLen; omega) (by
      rw [Nat.zero_add]
      exact Nat.le_trans (Nat.mul_le_mul hn hby) (by omega)) (Nat.le_refl _)
    rw [Nat.zero_add, List.nil_append] at ho
    exact ⟨v', w', hr, ho, (Below.refl w.heap.size w).grown hgr (Nat.le_refl _) (fun k hk => by cases hk)⟩

theorem bcells_one (S : List Bool) : ∀ u ∈ bcells S, u.oneCell' = true := by intro u hu; simp only [bcells, List.mem_map] at hu; obtain ⟨x, _, rfl⟩ := hu; rfl

theorem rcopy_fin {w W : World} {va vi : Value} {A : List Int} {S : List Bool} (ha : W.ownsRow w.heap.size 3 1 va A.length (icells A)) (hi : W.ownsRow w.heap.size 4 1 vi A.length (bcells S)) (hb : Below w.heap.size w W)
    (hs : S.length = A.length) (hsm : A.length ≤ 1048576) (hac : ∀ k, k < A.length → 0 ≤ A.getD k 0 ∧ A.getD k 0 ≤ 1152921504606846976) :
    RefAt w.heap.size (W.heap.size + 1) (W.alloc (.cells #[va, vi] 66)) (.pointer (some ⟨W.heap.size, 0, none⟩)) A S ∧ Below w.heap.size w (W.alloc (.cells #[va, vi] 66)) :=
  ⟨⟨W.heap.size, va, vi, rfl, ⟨Box.new _ _ _, ha.alloc _, hi.alloc _, hs, hb.size, Nat.lt_succ_self _, fun k hk => Nat.lt_succ_of_lt (ha.lt k hk).2, fun k hk => Nat.lt_succ_of_lt (hi.lt k hk).2, by simp, hsm, hac⟩⟩, hb.alloc hb.size _⟩
set_option maxHeartbeats 4000000 in
theorem rcopy_any {lo hi : Nat} {w : World} {p : Value} {A : List Int} {S : List Bool} (h : RefAt lo hi w p A S) :
    Calls Try.prog 25 #[p] w fun e w' => ∃ p', e = .returned p' ∧ RefAt w.heap.size w'.heap.size w' p' A S ∧ Below w.heap.size w w' := by
  obtain ⟨g, va, vi, rfl, h⟩ := h
  have hsm := h.small
  have hsl := h.slen
  have hac := h.acts
  have hw := h.hi_w
  have hgl := h.box.lt
  have hx0 := h.box.cell 0
  have hx1 := h.box.cell 1
  simp only [List.getElem?_toArray, List.getElem?_cons_zero, List.getElem?_cons_succ] at hx0 hx1
  have hx : ∀ W, Below w.heap.size w W → W.cell? ⟨g, 0, none⟩ = some va ∧ W.cell? ⟨g, 1, none⟩ = some vi := fun W hb => ⟨(hb.cell (p := ⟨g, 0, none⟩) hgl).trans hx0, (hb.cell (p := ⟨g, 1, none⟩) hgl).trans hx1⟩
  have hra : ∀ W, Below w.heap.size w W → ∀ ty, ∃ v' w', (Builtin.append_ #[45, 45] ty #[.slice none 0 0, va]).run Try.prog W = .ok v' w' ∧ Fresh 3 A.length (icells A) W v' w' := fun W hb ty =>
    run_fresh Try.underlying45 info3 rfl (by omega) (owns_below h.act hb (Nat.le_refl _)) hsm (icells_one A) ty
  have hri : ∀ W, Below w.heap.size w W → ∀ ty, ∃ v' w', (Builtin.append_ #[47, 47] ty #[.slice none 0 0, vi]).run Try.prog W = .ok v' w' ∧ Fresh 4 A.length (bcells S) W v' w' := fun W hb ty =>
    run_fresh Try.underlying47 infoBo rfl (by omega) (owns_below h.ins hb (Nat.le_refl _)) hsm (bcells_one S) ty
  have HX := Lib.hid hx
  have HRA := Lib.hid hra
  have HRI := Lib.hid hri
  clear hx hra hri h
  go_enter Try.func25, Try.ntmps25
  go_wp2
  go_region_law (first
    | (refine step_append_by (by rfl) _ _ 45 45 (by rfl) _ _ (by rfl) (by rfl) _ (HRA.out _ (by first | exact (Below.refl _ _).drew.trans (Below.mono fi.below (Nat.le_refl _)) | exact (Below.refl _ _).drew) _) ?_
       intro va' wa fa
       have xa := HX.out wa (by first | exact (Below.refl _ _).drew.trans (fi.below.trans (fa.below.mono fi.below.size)) | exact (Below.refl _ _).drew.trans fa.below)
       obtain ⟨xa0, xa1⟩ := xa
       obtain ⟨pa2, ca2, rfl⟩ : ∃ p c, va' = .slice p A.length c := owns_shape fa.own)
    | (refine step_append_by (by rfl) _ _ 47 47 (by rfl) _ _ (by rfl) (by rfl) _ (HRI.out _ (by first | exact (Below.refl _ _).drew.trans fa.below | exact (Below.refl _ _).drew) _) ?_
       intro vi' wi fi
       have xi := HX.out wi (by first | exact (Below.refl _ _).drew.trans (fa.below.trans (fi.below.mono fa.below.size)) | exact (Below.refl _ _).drew.trans fi.below)
       obtain ⟨xi0, xi1⟩ := xi
       obtain ⟨pi2, ci2, rfl⟩ : ∃ p c, vi' = .slice p A.length c := owns_shape fi.own))
  all_goals
    first
      | have hfin := rcopy_fin (w := w) (W := wi) (owns_below fa.own fi.below (Nat.le_refl _)) (owns_base fi.own fa.below.size) ((Below.refl w.heap.size w).drew.trans (Below.trans fa.below (fi.below.mono fa.below.size))) hsl hsm hac
      | have hfin := rcopy_fin (w := w) (W := wa) (owns_base fa.own fi.below.size) (owns_below fi.own fa.below (Nat.le_refl _)) ((Below.refl w.heap.size w).drew.trans (Below.trans fi.below (fa.below.mono fi.below.size))) hsl hsm hac
    have HFN := Lib.hid hfin
    clear hfin fa fi
    go_simp
    go_wp2
    go_ret
    refine ⟨_, rfl, ?_, HFN.out.2⟩
    rw [World.size_alloc]
    exact HFN.out.1
end L
end Go.Proofs.Ytenmgkomffnjaaa
