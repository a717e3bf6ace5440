/- Contracts of slices.EqualFunc at slices.Equal, the kit's EqualFormula, cnf.Equal. -/
import Derived.Test.YtbmpjglplmnlnaaXL
namespace Go.Proofs.Ytbmpjglplmnlnaa
open Go.RowKit
namespace L
open K

set_option maxHeartbeats 1000000 in
theorem equalfn_any (v1 v2 : Value) (L1 L2 : List (List Int)) (w : World) (h1 : Lists w v1 L1) (h2 : Lists w v2 L2) :
    Calls Try.prog 32 #[v1, v2, .func (.func 33) #[] #[]] w fun e w' => e = .returned (.bool (decide (L1 = L2))) ∧ Below w.heap.size w w' := by
  obtain ⟨p1, c1, rfl, g1, m1, hc1⟩ := h1
  obtain ⟨p2, c2, rfl, g2, m2, hc2⟩ := h2
  by_cases hl : L1.length = L2.length
  · have hl1 : ((L1.length : Int) != L2.length) = false := by simp [hl]
    have HL := Lib.hid hl
    clear hl
    go_enter Try.func32, Try.ntmps32
    go_wp2
    go_loopw [17] (fun i wr => ∃ k : Nat, k ≤ L1.length ∧ i = .int .i64 k ∧ (∀ j, j < k → L1.getD j [] = L2.getD j []) ∧ Below w.heap.size w wr) (fun i _ => L1.length - (intOf i).toNat)
    case atStart => exact ⟨0, Nat.zero_le _, rfl, fun j hj => absurd hj (Nat.not_lt_zero _), Below.refl _ _⟩
    case round =>
      obtain ⟨k, hk, rfl, heq, hb⟩ := hrel
      have HE := Lib.hid heq
      clear heq
      by_cases hlt : k < L1.length
      · have hlt2 : k < L2.length := by have := HL.out; omega
        obtain ⟨b1, o1, rfl, e1⟩ := hc1 (by omega)
        obtain ⟨b2, o2, rfl, e2⟩ := hc2 (by omega)
        obtain ⟨u1, hu1, hi1⟩ := e1 k hlt
        obtain ⟨u2, hu2, hi2⟩ := e2 k hlt2
        have d1 := (hb.cell (p := ⟨b1, o1 + k, none⟩) (World.block_lt_of_cell? _ _ hu1)).trans hu1
        have d2 := (hb.cell (p := ⟨b2, o2 + k, none⟩) (World.block_lt_of_cell? _ _ hu2)).trans hu2
        have hq := sequal_any u1 u2 _ _ wr (hi1.below hb) (hi2.below hb)
        obtain ⟨q1, r1, rfl, _⟩ := hi1
        obtain ⟨q2, r2, rfl, _⟩ := hi2
        clear hc1 hc2 e1 e2 hu1 hu2 hl1
        generalize hx1 : L1.getD k [] = x1 at *
        generalize hx2 : L2.getD k [] = x2 at *
        have HX1 := Lib.hid hx1
        have HX2 := Lib.hid hx2
        clear hx1 hx2
        by_cases hne : x1 = x2
        · have hd : decide (x1 = x2) = true := by simp [hne]
          have HNE := Lib.hid hne
          rw [hd] at hq
          clear hne hd
          go_wp2_with fail
          refine hq.mono ?_
          rintro e w4 ⟨rfl, hb4⟩
          have hb5 := hb.trans (hb4.mono hb.size)
          clear hq hb4
          go_wp2
          go_roundw
          case rel =>
            refine ⟨k + 1, by omega, by go_num, fun j hj => ?_, hb5⟩
            by_cases hjk : j = k
            · subst hjk; rw [HX1.out, HX2.out, HNE.out]
            · exact HE.out j (by omega)
          case measure => simp [intOf]; omega
        · have hd : decide (x1 = x2) = false := by simp [hne]
          have HNE := Lib.hid hne
          rw [hd] at hq
          clear hne hd
          go_wp2_with fail
          refine hq.mono ?_
          rintro e w4 ⟨rfl, hb4⟩
          have hb5 := hb.trans (hb4.mono hb.size)
          clear hq hb4
          go_wp2
          go_ret
          refine ⟨ret_bool ?_, hb5⟩
          symm; rw [decide_eq_false_iff_not]
          exact listsNe_at (by rw [HX1.out, HX2.out]; exact HNE.out)
      · go_wp2
        go_ret
        refine ⟨ret_bool ?_, hb⟩
        symm; rw [decide_eq_true_iff]
        exact listsEq_of (fun j hj => HE.out j (by omega)) HL.out
  · have hl1 : ((L1.length : Int) != L2.length) = true := by simp; omega
    have hd : decide (L1 = L2) = false := by simp; intro h; exact hl (by rw [h])
    rw [hd]; clear hd
    go_enter Try.func32, Try.ntmps32
    go_wp2
    go_ret
    exact ⟨rfl, Below.refl _ _⟩

/-- Whether two formulas are equal. -/
def eqF (n1 : Int) (L1 : List (List Int)) (n2 : Int) (L2 : List (List Int)) : Bool := decide (n1 = n2) && decide (L1 = L2)

set_option maxHeartbeats 1000000 in
theorem keqf_any (n1 n2 : Int) (v1 v2 : Value) (L1 L2 : List (List Int)) (w : World) (h1 : Lists w v1 L1) (h2 : Lists w v2 L2) :
    Calls Try.prog 18 #[.agg #[.int .i64 n1, v1], .agg #[.int .i64 n2, v2]] w fun e w' => e = .returned (.bool (eqF n1 L1 n2 L2)) ∧ Below w.heap.size w w' := by
  have hq := fun W (hb : Below w.heap.size w W) => equall_any v1 v2 L1 L2 W (h1.below hb) (h2.below hb)
  obtain ⟨p1, c1, rfl, _⟩ := h1
  obtain ⟨p2, c2, rfl, _⟩ := h2
  have hb0 : Below w.heap.size w ((w.alloc (.cells #[.int .i64 n1, .slice p1 L1.length c1] 24)).alloc (.cells #[.int .i64 n2, .slice p2 L2.length c2] 24)) := ((Below.refl _ _).alloc (Nat.le_refl _) _).alloc (by simp) _
  have HQ := Lib.hid hq
  clear hq
  by_cases hn : n1 = n2
  · have h1 : (n1 == n2) = true := by simp [hn]
    have he : eqF n1 L1 n2 L2 = decide (L1 = L2) := by simp [eqF, hn]
    rw [he]
    clear hn he
    go_enter Try.func18, Try.ntmps18
    go_wp2_with fail
    refine (HQ.out _ hb0).mono ?_
    rintro e w2 ⟨rfl, hb2⟩
    go_wp2
    go_ret
    exact ⟨rfl, hb0.trans (hb2.mono hb0.size)⟩
  · have h1 : (n1 == n2) = false := by simp [hn]
    have he : eqF n1 L1 n2 L2 = false := by simp [eqF, hn]
    rw [he]
    clear hn he
    go_enter Try.func18, Try.ntmps18
    go_wp2
    go_ret
    exact ⟨rfl, hb0⟩

set_option maxHeartbeats 1000000 in
theorem ceqf_any (n1 n2 : Int) (v1 v2 : Value) (L1 L2 : List (List Int)) (w : World) (h1 : Lists w v1 L1) (h2 : Lists w v2 L2) :
    Calls Try.prog 19 #[.agg #[.int .i64 n1, v1], .agg #[.int .i64 n2, v2]] w fun e w' => e = .returned (.bool (eqF n1 L1 n2 L2)) ∧ Below w.heap.size w w' := by
  have hq := fun W (hb : Below w.heap.size w W) => equalfn_any v1 v2 L1 L2 W (h1.below hb) (h2.below hb)
  obtain ⟨p1, c1, rfl, _⟩ := h1
  obtain ⟨p2, c2, rfl, _⟩ := h2
  have hb0 : Below w.heap.size w ((w.alloc (.cells #[.int .i64 n1, .slice p1 L1.length c1] 24)).alloc (.cells #[.int .i64 n2, .slice p2 L2.length c2] 24)) := ((Below.refl _ _).alloc (Nat.le_refl _) _).alloc (by simp) _
  have HQ := Lib.hid hq
  clear hq
  by_cases hn : n1 = n2
  · have h1 : (n1 == n2) = true := by simp [hn]
    have he : eqF n1 L1 n2 L2 = decide (L1 = L2) := by simp [eqF, hn]
    rw [he]
    clear hn he
    go_enter Try.func19, Try.ntmps19
    go_wp2_with fail
    refine (HQ.out _ hb0).mono ?_
    rintro e w2 ⟨rfl, hb2⟩
    go_wp2
    go_ret
    exact ⟨rfl, hb0.trans (hb2.mono hb0.size)⟩
  · have h1 : (n1 == n2) = false := by simp [hn]
    have he : eqF n1 L1 n2 L2 = false := by simp [eqF, hn]
    rw [he]
    clear hn he
    go_enter Try.func19, Try.ntmps19
    go_wp2
    go_ret
    exact ⟨rfl, hb0⟩
end L
end Go.Proofs.Ytbmpjglplmnlnaa
