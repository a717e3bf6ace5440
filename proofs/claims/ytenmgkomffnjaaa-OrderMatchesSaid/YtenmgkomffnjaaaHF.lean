/- The queue's push and pop. -/
import Derived.Test.YtenmgkomffnjaaaHD
import Derived.Test.YtenmgkomffnjaaaHE
import Derived.ArgAppend
namespace Go.Proofs.Ytenmgkomffnjaaa
open Go.RowKit
namespace L
open K HP
set_option maxRecDepth 100000

theorem wpList_append_by {ops : Array Oper} {rest : List Oper} {o : Oper} {a : Act} {Q : Exit → Act → World → Prop} {w : World} (hgd : o.guard = none) (s x : Operand) (t u : TypeId)
    (ho : o.op = .call { callee := .builtin .append, args := #[s, x], argTypes := #[t, u] }) (v xv : Value) (hs : a.eval s = v) (hx : a.eval x = xv) (R : Value → World → Prop)
    (hr : ∃ v' w', (Builtin.append_ #[t, u] o.type #[v, xv]).run Try.prog w = .ok v' w' ∧ R v' w')
    (h : ∀ v' w', R v' w' → wpList Try.prog ops Q rest (a.put o.dst v') w') : wpList Try.prog ops Q (o :: rest) a w := by
  refine wpList_plain hgd fun K hK => ?_
  obtain ⟨v', w', hr, h2⟩ := hr
  unfold Oper.wp execOp
  simp only [ho, resolve, invoke, builtin, Sem.run_bind, Sem.run_pure, Result.andThen_ok, List.map_toArray, List.map_cons, List.map_nil, hs, hx, hr]
  exact hK _ _ (h v' w' h2)

theorem cell_fresh {w : World} {o : Obj} {T : TypeId} {cs : Array Value} {a : Addr} {u : Value} (ho : o = .cells cs T) (ha : a = ⟨w.heap.size, 0, none⟩) (h : cs[0]? = some u) : (w.alloc o).cell? a = some u := by
  subst ho; subst ha
  exact ((Box.new w T cs).cell 0).trans h
section
variable {T : TypeId} {lo hi : Nat} {w : World} {s : Spot} {A : List Int} {R : List Nat} {Q : List Int} {M : Nat → Prop}

/-- Behind an append of a number to the tree: what holds once the row is laid in the box. -/
structure Pushed (T : TypeId) (lo hi : Nat) (w : World) (s : Spot) (A : List Int) (R : List Nat) (Q : List Int) (i : Nat) (v' : Value) (w' : World) : Prop where
  val : v' = .slice (some ⟨s.gt, 0, none⟩) (R.length + 1) s.ct
  cell : w'.cell? ⟨s.g, 2, none⟩ = some (.slice (some ⟨s.gt, 0, none⟩) R.length s.ct)
  frozen : w'.frozen? ⟨s.g, 2, none⟩ = false
  mem : Mem T lo hi (w'.setCell ⟨s.g, 2, none⟩ (.slice (some ⟨s.gt, 0, none⟩) (R.length + 1) s.ct)) s A (R ++ [i]) Q
  out : Out lo hi w (w'.setCell ⟨s.g, 2, none⟩ (.slice (some ⟨s.gt, 0, none⟩) (R.length + 1) s.ct))

theorem run_push (h : Mem T lo hi w s A R Q) (i : Nat) (hroom : R.length + 1 ≤ s.ct) (ty : TypeId) :
    ∃ v' w', (Builtin.append_ #[45, 45] ty #[.slice (some ⟨s.gt, 0, none⟩) R.length s.ct, .slice (some ⟨w.heap.size, 0, none⟩) 1 1]).run Try.prog (w.alloc (.cells #[.int .i64 (i : Int)] 3)) = .ok v' w' ∧ Pushed T lo hi w s A R Q i v' w' := by
  obtain ⟨i3, hi3, hz0, hz1, hz2⟩ := info_parts info3
  have ha := h.below ((Below.refl w.heap.size w).alloc (Nat.le_refl _) (.cells #[.int .i64 (i : Int)] 3)) h.hi_w
  obtain ⟨w1, hr, hown, hg⟩ := run_append_fits (P := Try.prog) (w.alloc (.cells #[.int .i64 (i : Int)] 3)) lo 45 ty 3 i3 1 Try.underlying45 hi3 hz1 s.gt R.length s.ct (ncells R) ha.tree
    ⟨w.heap.size, 0, none⟩ 1 1 [.int .i64 (i : Int)] rfl (fun j u hj => by
      match j, hj with
      | 0, hj => simp at hj; subst hj; exact cell_fresh rfl (by simp [Addr.add]) rfl) (fun u hu => by simp at hu; subst hu; rfl) hroom
  have hlt := ha.tree.lt _ rfl
  have hx := ha.box.grown hg (by simp; exact h.ne_gt)
  have hall := World.ownsRow.kept ha.all hg (.inr (by simp [Value.ownBlock]; exact h.ne_at))
  have hpl := World.ownsRow.kept ha.place hg (.inr (by simp [Value.ownBlock]; exact fun e => h.ne_tp e.symm))
  have hsz := hg.size
  have hw := h.hi_w
  refine ⟨_, w1, hr, rfl, hx.cell 2, hx.frozen 2, ?_, ?_⟩
  · have hb := hx.set 2 (.slice (some ⟨s.gt, 0, none⟩) (R.length + 1) s.ct)
    exact { h with
      box := by
        rw [List.length_append, List.length_singleton]
        exact hb
      all := owns_of_block hall fun k hk => by cases hk; exact Deep.blk_setCell_other w1 _ _ _ (fun e => h.ne_ga e.symm)
      tree := by
        have := owns_of_block (w' := w1.setCell ⟨s.g, 2, none⟩ (.slice (some ⟨s.gt, 0, none⟩) (R.length + 1) s.ct)) hown fun k hk => by cases hk; exact Deep.blk_setCell_other w1 _ _ _ (fun e => h.ne_gt e.symm)
        rw [List.length_append, List.length_singleton]
        simpa [ncells] using this
      place := owns_of_block hpl fun k hk => by cases hk; exact Deep.blk_setCell_other w1 _ _ _ (fun e => h.ne_gp e.symm)
      hi_w := by simp [World.setCell] at hsz ⊢; omega }
  · refine Out.setCell ?_ (p := ⟨s.g, 2, none⟩) h.lo_g h.hi_g _
    refine (Out.of_below ((Below.refl w.heap.size w).alloc (Nat.le_refl _) (.cells #[.int .i64 (i : Int)] 3)) (Nat.le_refl _)).trans ⟨hg.os, hg.tape, hg.output, hg.size, fun k hk hp => hg.block k hk ?_⟩
    intro e
    simp only [Option.some.injEq] at e
    have h1 := h.hi_t
    have h2 : lo ≤ s.gt := hlt.1
    omega

set_option maxHeartbeats 2000000 in
theorem push_any (h : Mem T lo hi w s A R Q) (hg : HGood A M R Q) (i : Nat) (hi0 : i < A.length) (hM : ¬ M i) (hroom : A.length ≤ s.ct) :
    Calls Try.prog 34 #[.pointer (some ⟨s.g, 0, none⟩), .int .i64 i] w fun e w' => e = .returned (.tuple #[]) ∧ (∃ R' Q', Mem T lo hi w' s A R' Q' ∧ HGood A (fun x => M x ∨ x = i) R' Q' ∧ R'.length = R.length + 1) ∧ Out lo hi w w' := by
  have hsm := h.small
  have hlt := hg.pos.size_lt hi0 hM
  have hris := hg.push hi0 hM
  have hlen : (R ++ [i]).length = R.length + 1 := by simp
  have x2 := h.box.cell 2
  have hrun := fun ty => run_push h i (by omega) ty
  have HRUN := Lib.hid hrun
  have HRIS := Lib.hid hris
  have HLEN := Lib.hid hlen
  clear h hg hris hrun hM hlen
  generalize hrl : R.length = rl at *
  have HRL := Lib.hid hrl
  clear hrl
  obtain ⟨sg, sga, sgt, sgp, ca, ct, cp⟩ := s
  simp only at *
  have xa : (w.alloc (.cells #[.int .i64 (i : Int)] 3)).cell? ⟨sg, 2, none⟩ = some (.slice (some ⟨sgt, 0, none⟩) rl ct) := (((Below.refl w.heap.size w).alloc (Nat.le_refl _) (.cells #[.int .i64 (i : Int)] 3)).cell (World.block_lt_of_cell? _ _ x2)).trans x2
  go_enter Try.func34, Try.ntmps34
  go_wp2_with (at_builtin; refine wpList_append_by rfl _ _ 45 45 rfl _ _ rfl rfl _ (HRUN.out _) ?_)
  rintro v' w1 ⟨rfl, hc, hf, hm, ho⟩
  have x2' := hm.box.cell 2
  have hl2 : (R ++ [i]).length ≤ 1048576 := by rw [HLEN.out]; omega
  have hrise := rise_any hm i rl HRIS.out hl2
  rw [HLEN.out] at x2' hrise
  have HRISE := Lib.hid hrise
  have HO := Lib.hid ho
  clear hm ho hrise hl2
  simp only [HRL.out] at *
  go_wp2_with (go_at_call 38; refine (HRISE.out).mono ?_; rintro e w2 ⟨rfl, h1, h2⟩)
  go_end0
  exact ⟨rfl, h1, HO.out.trans h2⟩
end
end L
end Go.Proofs.Ytenmgkomffnjaaa
