/- The heap's New. -/
import Derived.Test.YtenmgkomffnjaaaHL
namespace Go.Proofs.Ytenmgkomffnjaaa
open Go.RowKit
namespace L
open K HP
set_option maxRecDepth 100000

theorem newH_bad (n : Int) (w : World) (hn : n < 0 ∨ 1048576 < n) :
    Calls Try.prog 12 #[.int .i64 n] w fun e w' => e = .returned (.tuple #[.pointer none, .int .i64 3]) ∧ w = w' := by
  by_cases h0 : n < 0
  · have d1 : decide (n < 0) = true := by simp; omega
    clear hn
    go_enter Try.func12, Try.ntmps12
    go_wp2
    go_ret2
    exact ⟨rfl, rfl⟩
  · have d1 : decide (n < 0) = false := by simp; omega
    have d2 : decide (n > 1048576) = true := by simp; omega
    clear hn
    go_enter Try.func12, Try.ntmps12
    go_wp2
    go_ret2
    exact ⟨rfl, rfl⟩

theorem info57 : (Try.prog.info? 57).map (fun i => (i.zero, i.size, i.bytes)) = some (some (.agg #[.int .i64 0, .int .i64 0]), 2, 16) := by kernel_rfl
/-- The first k variables have their numbers, the others nought. -/
def Num (n k : Nat) (xs : List Value) : Prop := ∀ i, i < n → xs[i * 2]? = some (.int .i64 (if i < k then (i : Int) + 1 else 0)) ∧ xs[i * 2 + 1]? = some (.int .i64 0)
theorem num_start (n : Nat) : Num n 0 (madeCells #[.int .i64 0, .int .i64 0] (n * 2)).toList := by
  have key : ∀ j, j < n * 2 → (madeCells #[Value.int .i64 0, .int .i64 0] (n * 2)).toList[j]? = some (.int .i64 0) := fun j hj => by
    simp only [madeCells, Array.getElem?_toList, Array.getElem?_map, Array.getElem?_range, hj, if_true, Option.map_some]
    have : j % 2 = 0 ∨ j % 2 = 1 := by omega
    rcases this with h | h <;> simp [h]
  intro i hi
  exact ⟨by simpa using key (i * 2) (by omega), key (i * 2 + 1) (by omega)⟩
theorem Num.step {n k : Nat} {xs : List Value} (h : Num n k xs) (_hk : k < n) : Num n (k + 1) (xs.set (k * 2) (.int .i64 ((k : Int) + 1))) := by
  intro i hi
  obtain ⟨h1, h2⟩ := h i hi
  constructor
  · rw [List.getElem?_set]
    by_cases e : k * 2 = i * 2
    · have : k = i := by omega
      subst this
      have := (List.getElem?_eq_some_iff.1 h1).1
      rw [if_pos rfl, if_pos this, if_pos (Nat.lt_succ_self _)]
    · rw [if_neg e, h1]
      have : (i < k) = (i < k + 1) := by rw [eq_iff_iff]; omega
      simp only [this]
  · rw [List.getElem?_set, if_neg (by omega)]; exact h2
theorem Num.done {n : Nat} {xs : List Value} (h : Num n n xs) (hl : xs.length = n * 2) : xs = vcells (List.replicate n 0) := by
  refine List.ext_getElem? fun j => ?_
  by_cases hj : j < n * 2
  · have hj2 : j / 2 < n := by omega
    have hr : j / 2 < (List.replicate n (0 : Int)).length := by simpa using hj2
    obtain ⟨h1, h2⟩ := h (j / 2) hj2
    have : j = j / 2 * 2 ∨ j = j / 2 * 2 + 1 := by omega
    rcases this with e | e
    · rw [e, h1, vcells_0 hr, if_pos hj2]
    · rw [e, h2, vcells_1 hr]
      simp [List.getD, hj2]
  · rw [List.getElem?_eq_none (by omega), List.getElem?_eq_none (by rw [vcells_len]; simp; omega)]

/-- A queue is laid in a new box. -/
theorem mem_rebox {T T2 : TypeId} {lo hi lo2 : Nat} {w : World} {s : Spot} {A : List Int} {R : List Nat} {Q : List Int} (h : Mem T lo hi w s A R Q) (hl : lo2 ≤ lo) :
    Mem T2 lo2 (w.heap.size + 1) (w.alloc (.cells #[.slice (some ⟨s.ga, 0, none⟩) A.length s.ca, .func (.func 30) #[] #[], .slice (some ⟨s.gt, 0, none⟩) R.length s.ct, .slice (some ⟨s.gp, 0, none⟩) A.length s.cp] T2)) { s with g := w.heap.size } A R Q := by
  have h1 := h.hi_a
  have h2 := h.hi_t
  have h3 := h.hi_p
  have h4 := h.hi_w
  have h5 := h.lo_g
  have h6 := h.hi_g
  exact { h with
    box := Box.new _ _ _
    all := h.all.alloc _
    tree := (owns_base h.tree hl).alloc _
    place := (owns_base h.place hl).alloc _
    lo_g := by show lo2 ≤ w.heap.size; omega
    hi_g := Nat.lt_succ_self _
    hi_a := by show s.ga < _; omega
    hi_t := by show s.gt < _; omega
    hi_p := by show s.gp < _; omega
    hi_w := by simp
    ne_ga := by show w.heap.size ≠ s.ga; omega
    ne_gt := by show w.heap.size ≠ s.gt; omega
    ne_gp := by show w.heap.size ≠ s.gp; omega }

set_option maxHeartbeats 4000000 in
theorem newH_any (n : Nat) (w : World) (hn : n ≤ 1048576) :
    Calls Try.prog 12 #[.int .i64 n] w fun e w' => ∃ p, e = .returned (.tuple #[p, .int .i64 0]) ∧ Held true w.heap.size w'.heap.size w' p (List.replicate n 0) (fun x => x < n) n ∧ Below w.heap.size w w' := by
  obtain ⟨i7, hi7, hz70, hz71, hz72⟩ := info_parts info57
  go_enter Try.func12, Try.ntmps12
  go_wp2_with (at_make; refine wpList_make_full _ rfl _ _ 55 rfl w.heap.size 57 i7 (.agg #[.int .i64 0, .int .i64 0]) 2 Try.underlying55 hi7 hz70 hz71 .i64 .i64 _ _ n rfl rfl rfl rfl (by rw [hz72]; omega) (by unfold maxLen; omega) (Nat.le_refl _) ?_)
  intro w1 hown hgrow
  have hb1 := (Below.refl w.heap.size w).grown hgrow (Nat.le_refl _) (fun k h => by cases h)
  have hnum : Num n 0 (madeCells (Value.agg #[.int .i64 0, .int .i64 0]).cells (n * 2)).toList := num_start n
  have HO := Lib.hid hown
  have HB := Lib.hid hb1
  have HN := Lib.hid hnum
  clear hown hgrow hb1 hnum
  go_wp2
  go_loopw [16] (fun iv wr => ∃ (k : Nat) (xs : List Value), k ≤ n ∧ iv = .int .i64 k ∧ wr.ownsRow w.heap.size 57 2 (.slice (some ⟨w.heap.size, 0, none⟩) n n) n xs ∧ Num n k xs ∧ Below w.heap.size w wr) (fun iv _ => n - (intOf iv).toNat)
  case atStart => exact ⟨0, _, Nat.zero_le _, rfl, HO.out, HN.out, HB.out⟩
  case round =>
    clear HO HN HB
    obtain ⟨k, xs, hk, rfl, hown, hnum, hb⟩ := hrel
    by_cases hlt : k < n
    · have c0 : wr.cell? ⟨w.heap.size, k * 2, none⟩ = some (.int .i64 0) := by rw [hown.cellAt (k * 2) (by omega), (hnum k hlt).1]; simp
      have f0 := hown.frozenAt (k * 2)
      have hst := (hown.stored (k * 2) (.int .i64 ((k : Int) + 1))).1
      have hbs := hb.setCell (p := ⟨w.heap.size, k * 2, none⟩) (Nat.le_refl _) (.int .i64 ((k : Int) + 1))
      have HST := Lib.hid hst
      have HBS := Lib.hid hbs
      have HNM := Lib.hid (hnum.step hlt)
      clear hown hnum hb hst hbs
      go_wp2
      go_roundw
      case rel => exact ⟨k + 1, _, by omega, by go_num, HST.out, HNM.out, HBS.out⟩
      case measure => simp [intOf]; omega
    · obtain rfl : k = n := by omega
      have hxs := hnum.done hown.1
      subst hxs
      have hlt : w.heap.size < wr.heap.size := (hown.lt _ rfl).2
      have hst := start_any w.heap.size k wr hn hlt (owns_base hown (Nat.zero_le _))
      have HST := Lib.hid hst
      have HB := Lib.hid hb
      have HLT := Lib.hid hlt
      clear hown hnum hb hst hlt
      go_wp2_with (go_at_call 29; refine (HST.out).mono ?_; rintro e w3 ⟨s, lo, hi, R, Q, rfl, h1, h2, h3, h4, h5, h6, h7⟩; refine Hid.out ?_)
      have H1 := Lib.hid h1
      have H2 := Lib.hid h2
      have H3 := Lib.hid h3
      have H4 := Lib.hid h4
      have H5 := Lib.hid h5
      have H6 := Lib.hid h6
      have H7 := Lib.hid h7
      clear h1 h2 h3 h4 h5 h6 h7
      refine Lib.hid ?_
      go_wp2
      go_ret2
      have hb : Below w.heap.size w w3 := HB.out.trans (H7.out.mono HB.out.size)
      refine ⟨_, rfl, ⟨⟨w3.heap.size, w.heap.size, s.gt, s.gp, s.ca, k, s.cp⟩, R, Q, rfl, ⟨?_, Nat.le_refl _, H2.out, H3.out, fun _ => by simp, fun j hj => ?_⟩⟩, hb.alloc hb.size _⟩
      · have hm := mem_rebox (T2 := 64) (lo2 := w.heap.size) H1.out (Nat.le_trans HB.out.size H6.out)
        have e4 := H4.out
        have e5 := H5.out
        have e3 := H3.out
        obtain ⟨sg, sga, sgt, sgp, ca, ct, cp⟩ := s
        simp only at e4 e5
        subst e4
        subst e5
        simp only [List.length_replicate, e3] at hm ⊢
        rw [World.size_alloc]
        exact hm
      · have : (List.replicate k (0 : Int)).getD j 0 = 0 := by
          simp only [List.length_replicate] at hj
          simp [List.getD, hj]
        rw [this]
        omega
end L
end Go.Proofs.Ytenmgkomffnjaaa
