/- The queue's small functions: before, precedes, put, has, below. -/
import Derived.Test.YtenmgkomffnjaaaHB
import Derived.Test.YtenmgkomffnjaaaXE
import Derived.Test.YtenmgkomffnjaaaF
namespace Go.Proofs.Ytenmgkomffnjaaa
open Go.RowKit
namespace L
open K HP

/-- A variable, with its activity. -/
abbrev var (n a : Int) : Value := .agg #[.int .i64 n, .int .i64 a]
/-- Whether one comes ahead of another, said of numbers and activities. -/
def beforeB (n a m b : Int) : Bool := if a = b then decide (n < m) else decide (b < a)
theorem beforeB_pre {A : List Int} {i j : Nat} : beforeB ((i : Int) + 1) (A.getD i 0) ((j : Int) + 1) (A.getD j 0) = decide (Pre A i j) := by
  rw [Bool.eq_iff_iff, decide_eq_true_eq]
  unfold beforeB Pre
  split <;> rename_i h <;> rw [decide_eq_true_eq] <;> omega

set_option maxHeartbeats 1000000 in
theorem before_any (n a m b : Int) (w : World) :
    Calls Try.prog 30 #[var n a, var m b] w fun e w' => e = .returned (.bool (beforeB n a m b)) ∧ Below w.heap.size w w' := by
  have hb : ∀ x y, Below w.heap.size w ((w.alloc x).alloc y) := fun x y => ((Below.refl _ _).alloc (Nat.le_refl _) _).alloc (by simp) _
  by_cases h : a = b
  · subst h
    go_enter Try.func30, Try.ntmps30
    go_wp2
    go_ret
    exact ⟨by simp [beforeB], hb _ _⟩
  · have h1 : (a != b) = true := by simp [h]
    have H := Lib.hid h
    clear h
    go_enter Try.func30, Try.ntmps30
    go_wp2
    go_ret
    exact ⟨by have := H.out; simp [beforeB, this], hb _ _⟩

section
variable {T : TypeId} {lo hi : Nat} {w : World} {s : Spot} {A : List Int} {R : List Nat} {Q : List Int}

set_option maxRecDepth 100000 in
set_option maxHeartbeats 1000000 in
theorem precedes_any (h : Mem T lo hi w s A R Q) (i j : Nat) (hi0 : i < A.length) (hj : j < A.length) :
    Calls Try.prog 43 #[.pointer (some ⟨s.g, 0, none⟩), .int .i64 i, .int .i64 j] w fun e w' => e = .returned (.bool (decide (Pre A i j))) ∧ Below w.heap.size w w' := by
  have hsm := h.small
  have hw := h.hi_w
  have hg := h.hi_g
  have ha := h.hi_a
  have x0 := h.box.cell 0
  have x1 := h.box.cell 1
  have a0 := h.acell0 hi0
  have a1 := h.acell1 hi0
  have b0 := h.acell0 hj
  have b1 := h.acell1 hj
  clear h
  rw [← beforeB_pre]
  generalize A.getD i 0 = ai at *
  generalize A.getD j 0 = aj at *
  have HC := fun W => before_any ((i : Int) + 1) ai ((j : Int) + 1) aj W
  obtain ⟨sg, sga, sgt, sgp, ca, ct, cp⟩ := s
  simp only at *
  have k0 : ∀ x : Later w.heap.size w, x.W.cell? ⟨sg, 0, none⟩ = some (.slice (some ⟨sga, 0, none⟩) A.length ca) := fun x => (x.cell (by simp; omega)).trans x0
  have k1 : ∀ x : Later w.heap.size w, x.W.cell? ⟨sg, 1, none⟩ = some (.func (.func 30) #[] #[]) := fun x => (x.cell (by simp; omega)).trans x1
  have e0 : ∀ x : Later w.heap.size w, x.W.cell? ⟨sga, i * 2, none⟩ = some (.int .i64 ((i : Int) + 1)) := fun x => (x.cell (by simp; omega)).trans a0
  have e1 : ∀ x : Later w.heap.size w, x.W.cell? ⟨sga, i * 2 + 1, none⟩ = some (.int .i64 ai) := fun x => (x.cell (by simp; omega)).trans a1
  have f0 : ∀ x : Later w.heap.size w, x.W.cell? ⟨sga, j * 2, none⟩ = some (.int .i64 ((j : Int) + 1)) := fun x => (x.cell (by simp; omega)).trans b0
  have f1 : ∀ x : Later w.heap.size w, x.W.cell? ⟨sga, j * 2 + 1, none⟩ = some (.int .i64 aj) := fun x => (x.cell (by simp; omega)).trans b1
  have HCh := Lib.hid HC
  clear HC x0 x1 a0 a1 b0 b1
  generalize hn : A.length = n at *
  clear hn
  go_enter Try.func43, Try.ntmps43
  go_wp2
  refine wp_region_later (w0 := w) (B := w.heap.size) (by kernel_rfl) (by kernel_rfl) (Below.refl _ _) ?_
  repeat (go_big_quiet_step (first | (go_at_call 30; exact later_mono _ (Nat.le_refl _) (HCh.out _))))
  refine wpQuiet_nil ?_
  rintro _ ⟨x, rfl⟩
  have hx := x.ok
  generalize x.W = wx at *
  go_wp2
  go_ret
  exact ⟨rfl, hx⟩

set_option maxRecDepth 100000 in
set_option maxHeartbeats 1000000 in
theorem put_any (h : Mem T lo hi w s A R Q) (i a : Nat) (hi0 : i < A.length) (ha0 : a < R.length) :
    Calls Try.prog 44 #[.pointer (some ⟨s.g, 0, none⟩), .int .i64 i, .int .i64 a] w fun e w' => e = .returned (.tuple #[]) ∧ Mem T lo hi w' s A (R.set a i) (Q.set i a) ∧ Out lo hi w w' := by
  have hsm := h.small
  have h1 := h.storeT a i
  have h2 := h1.storeP i a
  have ho : Out lo hi w ((w.setCell ⟨s.gt, a, none⟩ (.int .i64 (i : Int))).setCell ⟨s.gp, i, none⟩ (.int .i64 (a : Int))) :=
    ((Out.refl lo hi w).setCell (p := ⟨s.gt, a, none⟩) (h.tree.lt _ rfl).1 h.hi_t _).setCell (p := ⟨s.gp, i, none⟩) (h.place.lt _ rfl).1 h.hi_p _
  have x2 := h.box.cell 2
  have x3 := h1.box.cell 3
  have f2 := h.tree.frozenAt a
  have f3 := h1.place.frozenAt i
  have t2 := h.tcell ha0
  have t3 := h1.pcell hi0
  have H2 := Lib.hid h2
  have HO := Lib.hid ho
  clear h h1 h2 ho
  obtain ⟨sg, sga, sgt, sgp, ca, ct, cp⟩ := s
  simp only at *
  generalize hn : A.length = n at *
  generalize hr : R.length = r at *
  have HN := Lib.hid hn
  have HR := Lib.hid hr
  clear hn hr
  go_enter Try.func44, Try.ntmps44
  go_wp2
  go_end0
  exact ⟨rfl, H2.out, HO.out⟩

set_option maxRecDepth 100000 in
set_option maxHeartbeats 1000000 in
theorem has_any (h : Mem T lo hi w s A R Q) (i : Nat) (hi0 : i < A.length) :
    Calls Try.prog 35 #[.pointer (some ⟨s.g, 0, none⟩), .int .i64 i] w fun e w' => e = .returned (.bool (Q.getD i 0 != -1)) ∧ w = w' := by
  have hsm := h.small
  have x3 := h.box.cell 3
  have t3 := h.pcell hi0
  clear h
  obtain ⟨sg, sga, sgt, sgp, ca, ct, cp⟩ := s
  simp only at *
  generalize hn : A.length = n at *
  clear hn
  generalize Q.getD i 0 = q at *
  go_enter Try.func35, Try.ntmps35
  go_wp2
  go_ret
  exact ⟨rfl, rfl⟩

set_option maxRecDepth 100000 in
set_option maxHeartbeats 2000000 in
theorem below_any (h : Mem T lo hi w s A R Q) (a : Nat) (ha0 : a < R.length) (hR : R.length ≤ 1048576) (hT : ∀ k, k < R.length → k ≠ a → R.getD k 0 < A.length) :
    Calls Try.prog 45 #[.pointer (some ⟨s.g, 0, none⟩), .int .i64 a] w fun e w' => e = .returned (.int .i64 (belowT A R a : Nat)) ∧ Below w.heap.size w w' := by
  have hsm := h.small
  have hw := h.hi_w
  have hg := h.hi_g
  have x2 := h.box.cell 2
  by_cases hr : 2 * a + 2 < R.length
  · have c1 := h.tcell (k := 2 * a + 1) (by omega)
    have c2 := h.tcell hr
    have hgt := h.hi_t
    have l1 := hT (2 * a + 1) (by omega) (by omega)
    have l2 := hT (2 * a + 2) hr (by omega)
    have HP : Hid (∀ W, Below w.heap.size w W → Calls Try.prog 43 #[.pointer (some ⟨s.g, 0, none⟩), .int .i64 (R.getD (2 * a + 2) 0 : Nat), .int .i64 (R.getD (2 * a + 1) 0 : Nat)] W fun e w' => e = .returned (.bool (decide (Pre A (R.getD (2 * a + 2) 0) (R.getD (2 * a + 1) 0)))) ∧ Below W.heap.size W w') :=
      Lib.hid fun W hb => precedes_any (h.below hb h.hi_w) _ _ l2 l1
    have hres : belowT A R a = if decide (Pre A (R.getD (2 * a + 2) 0) (R.getD (2 * a + 1) 0)) = true then 2 * a + 2 else 2 * a + 1 := by
      unfold belowT; simp only [hr, true_and, decide_eq_true_eq]
    clear h hT l1 l2
    rw [hres]
    clear hres
    generalize decide (Pre A (R.getD (2 * a + 2) 0) (R.getD (2 * a + 1) 0)) = bb at *
    generalize R.getD (2 * a + 2) 0 = u2 at *
    generalize R.getD (2 * a + 1) 0 = u1 at *
    obtain ⟨sg, sga, sgt, sgp, ca, ct, cp⟩ := s
    simp only at *
    generalize hn : A.length = n at *
    generalize hrr : R.length = r at *
    clear hn hrr
    have d1 : decide (2 * (a : Int) + 2 < (r : Int)) = true := by rw [decide_eq_true_eq]; omega
    have d2 : ((2 * (a : Int) + 2)).toNat = 2 * a + 2 := by omega
    have d3 : ((2 * (a : Int) + 1)).toNat = 2 * a + 1 := by omega
    have k0 : ∀ x : Later w.heap.size w, x.W.cell? ⟨sg, 2, none⟩ = some (.slice (some ⟨sgt, 0, none⟩) r ct) := fun x => (x.cell (by simp; omega)).trans x2
    have k1 : ∀ x : Later w.heap.size w, x.W.cell? ⟨sgt, 2 * a + 1, none⟩ = some (.int .i64 (u1 : Nat)) := fun x => (x.cell (by simp; omega)).trans c1
    have k2 : ∀ x : Later w.heap.size w, x.W.cell? ⟨sgt, 2 * a + 2, none⟩ = some (.int .i64 (u2 : Nat)) := fun x => (x.cell (by simp; omega)).trans c2
    clear x2 c1 c2
    go_enter Try.func45, Try.ntmps45
    go_wp2
    refine wp_region_later (w0 := w) (B := w.heap.size) (by kernel_rfl) (by kernel_rfl) (Below.refl _ _) ?_
    repeat (go_big_quiet_step (first | (go_at_call 43; exact later_mono _ (Nat.le_refl _) (HP.out _ (Later.ok _)))))
    refine wpQuiet_nil ?_
    rintro _ ⟨x, rfl⟩
    have hx := x.ok
    generalize x.W = wx at *
    cases bb with
    | true =>
      go_wp2
      go_ret
      exact ⟨by simp, hx⟩
    | false =>
      go_wp2
      go_ret
      exact ⟨by simp, hx⟩
  · have hres : belowT A R a = 2 * a + 1 := by unfold belowT; rw [if_neg (by omega)]
    rw [hres]
    clear hres h hT
    obtain ⟨sg, sga, sgt, sgp, ca, ct, cp⟩ := s
    simp only at *
    generalize hn : A.length = n at *
    generalize hrr : R.length = r at *
    clear hn hrr
    have d1 : decide (2 * (a : Int) + 2 < (r : Int)) = false := by rw [decide_eq_false_iff_not]; omega
    have k0 : ∀ x : Later w.heap.size w, x.W.cell? ⟨sg, 2, none⟩ = some (.slice (some ⟨sgt, 0, none⟩) r ct) := fun x => (x.cell (by simp; omega)).trans x2
    clear x2
    go_enter Try.func45, Try.ntmps45
    go_wp2
    refine wp_region_later (w0 := w) (B := w.heap.size) (by kernel_rfl) (by kernel_rfl) (Below.refl _ _) ?_
    repeat (go_big_quiet_step (fail))
    refine wpQuiet_nil ?_
    rintro _ ⟨x, rfl⟩
    have hx := x.ok
    generalize x.W = wx at *
    go_wp2
    go_ret
    exact ⟨by simp, hx⟩
end
end L
end Go.Proofs.Ytenmgkomffnjaaa
