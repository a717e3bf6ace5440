/- Several texts, joined. -/
import Derived.Test.YtfhodbnhaaiceaaDoorQ24
import Derived.Test.YtfhodbnhaaiceaaDoorQ20
import Derived.Test.YtfhodbnhaaiceaaDoorQ19

/- Contract of rup's Check. -/
section
namespace Go.Proofs.YtfhodbnhaaiceaaDoor
open Go.RowKit RA
namespace L
open K
set_option maxRecDepth 100000

theorem index_cases (F p : List (List Int)) : (indexR F p = -1 ∧ checkR F p = (if p.getLast? = some [] then (-1 : Int) else (p.length : Int))) ∨ ∃ i : Nat, indexR F p = i ∧ i < p.length ∧ checkR F p = i := by
  unfold indexR checkR
  cases hf : firstNot F p with
  | some i => exact .inr ⟨i, rfl, firstNot_lt hf, rfl⟩
  | none => exact .inl ⟨rfl, rfl⟩
theorem last_getD {p : List (List Int)} (h : 0 < p.length) : p.getLast? = some (p.getD (p.length - 1) []) := by
  rw [List.getLast?_eq_getElem?]
  simp [List.getD, List.getElem?_eq_getElem (show p.length - 1 < p.length by omega)]

set_option maxHeartbeats 8000000 in
theorem check5_any (n : Int) (v : Value) (F : List (List Int)) (vp : Value) (p : List (List Int)) (w : World) (hn : I64 n) (hF : ∀ c ∈ F, ∀ x ∈ c, I64 x) (hL : Lists w v F) (hp : ∀ c ∈ p, ∀ x ∈ c, I64 x) (hP : Lists w vp p) (hmF : F.length ≤ 1000) (hm : p.length ≤ 1000) (ht : Tab w) :
    Calls Tryd.prog 18 #[.agg #[.int .i64 n, v], vp] w fun e w' => e = .returned (.tuple #[.int .i64 (checkA n F p).1, .int .i64 (checkA n F p).2]) ∧ Below w.heap.size w w' := by
  have hbg := fun W (hb : Below w.heap.size w W) => begin_any n v F vp p W hn hF (hL.below hb) hp (hP.below hb) (by omega) (by omega)
  have hmf : ∀ (fn : Fn) (first cap : Array Value) (w : World), (Instr.makeFunc fn first cap).run Tryd.prog w = .ok (.func fn first cap) w := fun _ _ _ _ => rfl
  obtain ⟨pv, cv, rfl, hx1⟩ := id hL
  obtain ⟨pc, cc, rfl, hx2⟩ := id hP
  clear hx1 hx2
  obtain ⟨R, hR⟩ : ∃ R, checkA n F p = R := ⟨_, rfl⟩
  rw [hR]
  have HR := Lib.hid hR
  have HBG := Lib.hid hbg
  have HPP := Lib.hid hP
  have HT := Lib.hid ht
  clear hbg hR hL hP ht
  go_enter_defers Tryd.func18, Tryd.ntmps18
  go_wp2_with fail
  obtain ⟨W1, hW1⟩ : ∃ X, (((w.alloc (.cells #[.int .i64 n, .slice pv F.length cv] 26)).alloc (.cells #[.int .i64 0] 3)).alloc (.cells #[.int .i64 0] 30)) = X := ⟨_, rfl⟩
  have hb1 : Below w.heap.size w W1 := by rw [← hW1]; exact (((Below.refl _ _).alloc (Nat.le_refl _) _).alloc (by simp) _).alloc (by simp; omega) _
  have hp1 : Box W1 (w.heap.size + 1) 3 #[.int .i64 0] := by rw [← hW1]; exact (Box.at _ _ _ (by simp)).alloc _
  have hq1 : Box W1 (w.heap.size + 1 + 1) 30 #[.int .i64 0] := by rw [← hW1]; exact Box.at _ _ _ (by simp)
  rw [hW1]
  clear hW1
  have hcall := HBG.out W1 hb1
  have HB1 := Lib.hid hb1
  have HP1 := Lib.hid hp1
  have HQ1 := Lib.hid hq1
  clear hb1 hp1 hq1
  refine hcall.mono ?_
  have panics : ∀ (E : Int) (w2 : World), Below W1.heap.size W1 w2 → Hid (Box w2 (w.heap.size + 1) 3 #[.int .i64 0] ∧ Box w2 (w.heap.size + 1 + 1) 30 #[.int .i64 0] ∧ Below w.heap.size w ((w2.setCell ⟨w.heap.size + 1, 0, none⟩ (.int .i64 0)).setCell ⟨w.heap.size + 1 + 1, 0, none⟩ (.int .i64 E))) := fun E w2 hb =>
    Lib.hid ⟨HP1.out.below hb HP1.out.lt, HQ1.out.below hb HQ1.out.lt, ((HB1.out.trans (hb.mono HB1.out.size)).setCell (by show _ ≤ w.heap.size + 1; omega) _).setCell (by show _ ≤ w.heap.size + 1 + 1; omega) _⟩
  rintro e w2 ⟨hb2, (⟨hne, rfl⟩ | ⟨h0, hne, rfl⟩ | ⟨h0, h1, bp, bq, bm, v', rfl, hprem⟩)⟩
  · have HRR : Hid (R = (0, checkF n F)) := Lib.hid (by rw [← HR.out]; unfold checkA; rw [if_pos hne])
    generalize checkF n F = E at *
    have hpp := panics E w2 hb2
    clear hcall panics
    go_wp2
    refine leaves_cons (f := 36) (args := #[.pointer (some ⟨w.heap.size + 1, 0, none⟩), .pointer (some ⟨w.heap.size + 1 + 1, 0, none⟩)]) (by simp) (by simp [go_sem]) ?_
    refine (ccatch_panic (w.heap.size + 1) (w.heap.size + 1 + 1) E 0 0 [] _ hpp.out.1 hpp.out.2.1 (by omega)).mono ?_
    rintro e u' w'' ⟨rfl, rfl, rfl⟩
    obtain ⟨cx, cy⟩ := two_cells hpp.out.1 hpp.out.2.1 (by omega) (.int .i64 0) (.int .i64 E)
    have hfin := hpp.out.2.2
    generalize ((w2.setCell ⟨w.heap.size + 1, 0, none⟩ (.int .i64 0)).setCell ⟨w.heap.size + 1 + 1, 0, none⟩ (.int .i64 E)) = X at *
    simp [Leaves, settle, results, Tryd.results18, go_sem, cx, cy]
    exact ⟨by rw [HRR.out]; simp, hfin⟩
  · have HRR : Hid (R = (0, firstE n p)) := Lib.hid (by rw [← HR.out]; unfold checkA; rw [if_neg (by simp [h0]), if_pos hne])
    clear h0
    generalize firstE n p = E at *
    have hpp := panics E w2 hb2
    clear hcall panics
    go_wp2
    refine leaves_cons (f := 36) (args := #[.pointer (some ⟨w.heap.size + 1, 0, none⟩), .pointer (some ⟨w.heap.size + 1 + 1, 0, none⟩)]) (by simp) (by simp [go_sem]) ?_
    refine (ccatch_panic (w.heap.size + 1) (w.heap.size + 1 + 1) E 0 0 [] _ hpp.out.1 hpp.out.2.1 (by omega)).mono ?_
    rintro e u' w'' ⟨rfl, rfl, rfl⟩
    obtain ⟨cx, cy⟩ := two_cells hpp.out.1 hpp.out.2.1 (by omega) (.int .i64 0) (.int .i64 E)
    have hfin := hpp.out.2.2
    generalize ((w2.setCell ⟨w.heap.size + 1, 0, none⟩ (.int .i64 0)).setCell ⟨w.heap.size + 1 + 1, 0, none⟩ (.int .i64 E)) = X at *
    simp [Leaves, settle, results, Tryd.results18, go_sem, cx, cy]
    exact ⟨by rw [HRR.out]; simp, hfin⟩
  · obtain ⟨m, rfl⟩ : ∃ m : Nat, n = m := ⟨n.toNat, by have := checkF_range h0; omega⟩
    have hidx := rindex_any hprem h0 hmF p _ (HPP.out.below HB1.out) h1 hm (HT.out.below HB1.out)
    have HP2 := Lib.hid (HP1.out.below hb2 HP1.out.lt)
    have HQ2 := Lib.hid (HQ1.out.below hb2 HQ1.out.lt)
    have HRR : Hid (R = (checkR F p, 0)) := Lib.hid (by rw [← HR.out]; unfold checkA; rw [if_neg (by simp [h0]), if_neg (by simp [h1])])
    have hlast := HPP.out
    have hidxc := index_cases F p
    clear hcall panics hprem h0 h1
    have key : ∀ (x : Int) (w3 : World), Below W1.heap.size W1 w3 → Hid (Box w3 (w.heap.size + 1) 3 #[.int .i64 0] ∧ Box w3 (w.heap.size + 1 + 1) 30 #[.int .i64 0] ∧ Below w.heap.size w w3) := fun x w3 hb =>
      Lib.hid ⟨HP1.out.below hb HP1.out.lt, HQ1.out.below hb HQ1.out.lt, HB1.out.trans (hb.mono HB1.out.size)⟩
    go_wp2_with fail
    refine hidx.mono ?_
    rintro e w3 ⟨rfl, hb3⟩
    have hk := key 0 w3 hb3
    have hp3 := hk.out.1
    have hq3 := hk.out.2.1
    have hB3 := hk.out.2.2
    have hlast2 := hlast.below hB3
    clear hidx key hb3 hk hlast hb2
    have HP3 := Lib.hid hp3
    have HQ3 := Lib.hid hq3
    have HB3 := Lib.hid hB3
    have cp := hp3.cell 0
    have fp := hp3.frozen 0
    simp only [List.getElem?_toArray, List.getElem?_cons_zero] at cp
    have hqx : ∀ u, Box (w3.setCell ⟨w.heap.size + 1, 0, none⟩ u) (w.heap.size + 1 + 1) 30 #[.int .i64 0] := fun u => hq3.setOther ⟨w.heap.size + 1, 0, none⟩ (by show w.heap.size + 1 + 1 ≠ w.heap.size + 1; omega) u
    have hpx : ∀ u, Box (w3.setCell ⟨w.heap.size + 1, 0, none⟩ u) (w.heap.size + 1) 3 #[u] := fun u => by have := hp3.set 0 u; simpa using this
    have HPX := Lib.hid hpx
    have HQX := Lib.hid hqx
    rcases hidxc with ⟨hi, hc⟩ | ⟨i, hi, hlt, hc⟩
    · rw [hi]
      have c1 := (hpx (.int .i64 (-1))).cell 0
      have f1 := (hpx (.int .i64 (-1))).frozen 0
      have hq4 := (hqx (.int .i64 (-1))).setOther ⟨w.heap.size + 1, 0, none⟩ (by show w.heap.size + 1 + 1 ≠ w.heap.size + 1; omega) (.int .i64 (-1))
      have c2 := hq4.cell 0
      have f2 := hq4.frozen 0
      simp only [List.getElem?_toArray, List.getElem?_cons_zero] at c1 c2
      by_cases h0 : p.length = 0
      · have hp0 : p = [] := List.eq_nil_of_length_eq_zero h0
        subst hp0
        have HC : Hid (checkR F [] = 0) := Lib.hid (by rw [hc]; rfl)
        have hp5 : Box ((w3.setCell ⟨w.heap.size + 1, 0, none⟩ (.int .i64 (-1))).setCell ⟨w.heap.size + 1, 0, none⟩ (.int .i64 0)) (w.heap.size + 1) 3 #[.int .i64 0] := by have := (hpx (.int .i64 (-1))).set 0 (.int .i64 0); simpa using this
        have hq5 := ((hqx (.int .i64 (-1))).setOther ⟨w.heap.size + 1, 0, none⟩ (by show w.heap.size + 1 + 1 ≠ w.heap.size + 1; omega) (.int .i64 0)).setOther ⟨w.heap.size + 1, 0, none⟩ (by show w.heap.size + 1 + 1 ≠ w.heap.size + 1; omega) (.int .i64 0)
        have c3 := hp5.cell 0
        have f3 := hp5.frozen 0
        have c4 := hq5.cell 0
        have f4 := hq5.frozen 0
        simp only [List.getElem?_toArray, List.getElem?_cons_zero] at c3 c4
        clear hlast2 hc hi hpx hqx hp3 hq3 hB3 hq4 h0 hp5 hq5
        go_wp2
        have hp5 : Box ((w3.setCell ⟨w.heap.size + 1, 0, none⟩ (.int .i64 (-1))).setCell ⟨w.heap.size + 1, 0, none⟩ (.int .i64 0)) (w.heap.size + 1) 3 #[.int .i64 0] := by have := (HPX.out (.int .i64 (-1))).set 0 (.int .i64 0); simpa using this
        have hq5 := (HQX.out (.int .i64 (-1))).setOther ⟨w.heap.size + 1, 0, none⟩ (by show w.heap.size + 1 + 1 ≠ w.heap.size + 1; omega) (.int .i64 0)
        obtain ⟨cx, cy⟩ := two_cells hp5 hq5 (by omega) (.int .i64 0) (.int .i64 0)
        have hfin : Below w.heap.size w ((((w3.setCell ⟨w.heap.size + 1, 0, none⟩ (.int .i64 (-1))).setCell ⟨w.heap.size + 1, 0, none⟩ (.int .i64 0)).setCell ⟨w.heap.size + 1, 0, none⟩ (.int .i64 0)).setCell ⟨w.heap.size + 1 + 1, 0, none⟩ (.int .i64 0)) := (((HB3.out.setCell (by show _ ≤ w.heap.size + 1; omega) _).setCell (by show _ ≤ w.heap.size + 1; omega) _).setCell (by show _ ≤ w.heap.size + 1; omega) _).setCell (by show _ ≤ w.heap.size + 1 + 1; omega) _
        refine leaves_cons (f := 36) (args := #[.pointer (some ⟨w.heap.size + 1, 0, none⟩), .pointer (some ⟨w.heap.size + 1 + 1, 0, none⟩)]) (by simp) (by simp [go_sem]) ?_
        refine (ccatch_idle ⟨w.heap.size + 1, 0, none⟩ ⟨w.heap.size + 1 + 1, 0, none⟩ _).mono ?_
        rintro e u' w'' ⟨rfl, rfl, rfl⟩
        generalize ((((w3.setCell ⟨w.heap.size + 1, 0, none⟩ (.int .i64 (-1))).setCell ⟨w.heap.size + 1, 0, none⟩ (.int .i64 0)).setCell ⟨w.heap.size + 1, 0, none⟩ (.int .i64 0)).setCell ⟨w.heap.size + 1 + 1, 0, none⟩ (.int .i64 0)) = X at *
        simp [Leaves, settle, results, Tryd.results18, go_sem, cx, cy]
        exact ⟨by rw [HRR.out, HC.out]; simp, hfin⟩
      · obtain ⟨q, hq⟩ : ∃ q, p.length = q + 1 := ⟨p.length - 1, by omega⟩
        obtain ⟨pp, cpp, he, _, _, hcell⟩ := HPP.out
        injection he with he1 he2 he3
        subst he1 he3
        obtain ⟨bb, off, rfl, e1⟩ := hcell (by omega)
        obtain ⟨u, hu, hui⟩ := e1 q (by omega)
        have hbY : ∀ x, Below w.heap.size w (w3.setCell ⟨w.heap.size + 1, 0, none⟩ x) := fun x => HB3.out.setCell (by show _ ≤ w.heap.size + 1; omega) _
        have d1 := ((hbY (.int .i64 (-1))).cell (p := ⟨bb, off + q, none⟩) (World.block_lt_of_cell? _ _ hu)).trans hu
        have hlg := last_getD (p := p) (by omega)
        rw [show p.length - 1 = q by omega] at hlg
        rw [hlg] at hc
        obtain ⟨l, hl⟩ : ∃ l, p.getD q [] = l := ⟨_, rfl⟩
        rw [hl] at hc hui
        obtain ⟨pu, cu, rfl, _⟩ := hui
        have hql : q ≤ 1000 := by omega
        have hne1 : (((q : Int) + 1) - 1 == -1) = false := beq_eq_false_iff_ne.2 (by omega)
        have hne2 : ((q : Int) == -1) = false := beq_eq_false_iff_ne.2 (by omega)
        by_cases hl0 : l.length = 0
        · have hln : l = [] := List.eq_nil_of_length_eq_zero hl0
          subst hln
          have HC : Hid (checkR F p = -1) := Lib.hid (by rw [hc]; simp)
          have HQ := Lib.hid hq
          clear hlast2 hc hi hpx hqx hp3 hq3 hB3 hq4 h0 hcell e1 hu hbY hlg hl hl0 hq
          rw [HQ.out]
          go_wp2
          obtain ⟨cx, cy⟩ := two_cells (HPX.out (.int .i64 (-1))) (HQX.out (.int .i64 (-1))) (by omega) (.int .i64 (-1)) (.int .i64 0)
          have hfin : Below w.heap.size w (((w3.setCell ⟨w.heap.size + 1, 0, none⟩ (.int .i64 (-1))).setCell ⟨w.heap.size + 1, 0, none⟩ (.int .i64 (-1))).setCell ⟨w.heap.size + 1 + 1, 0, none⟩ (.int .i64 0)) := ((HB3.out.setCell (by show _ ≤ w.heap.size + 1; omega) _).setCell (by show _ ≤ w.heap.size + 1; omega) _).setCell (by show _ ≤ w.heap.size + 1 + 1; omega) _
          refine leaves_cons (f := 36) (args := #[.pointer (some ⟨w.heap.size + 1, 0, none⟩), .pointer (some ⟨w.heap.size + 1 + 1, 0, none⟩)]) (by simp) (by simp [go_sem]) ?_
          refine (ccatch_idle ⟨w.heap.size + 1, 0, none⟩ ⟨w.heap.size + 1 + 1, 0, none⟩ _).mono ?_
          rintro e u' w'' ⟨rfl, rfl, rfl⟩
          generalize (((w3.setCell ⟨w.heap.size + 1, 0, none⟩ (.int .i64 (-1))).setCell ⟨w.heap.size + 1, 0, none⟩ (.int .i64 (-1))).setCell ⟨w.heap.size + 1 + 1, 0, none⟩ (.int .i64 0)) = X at *
          simp [Leaves, settle, results, Tryd.results18, go_sem, cx, cy]
          exact ⟨by rw [HRR.out, HC.out]; simp, hfin⟩
        · have hpos : (0 : Int) < (l.length : Int) := by omega
          have hq9 : Hid (p.length = q + 1) := Lib.hid hq
          have HC : Hid (checkR F p = (q : Int) + 1) := Lib.hid (by rw [hc, if_neg (by intro h; injection h with h; exact hl0 (by rw [h]; rfl)), hq]; simp)
          have hp5 : Box ((w3.setCell ⟨w.heap.size + 1, 0, none⟩ (.int .i64 (-1))).setCell ⟨w.heap.size + 1, 0, none⟩ (.int .i64 ((q : Int) + 1))) (w.heap.size + 1) 3 #[.int .i64 ((q : Int) + 1)] := by have := (hpx (.int .i64 (-1))).set 0 (.int .i64 ((q : Int) + 1)); simpa using this
          have hq5 := ((hqx (.int .i64 (-1))).setOther ⟨w.heap.size + 1, 0, none⟩ (by show w.heap.size + 1 + 1 ≠ w.heap.size + 1; omega) (.int .i64 ((q : Int) + 1))).setOther ⟨w.heap.size + 1, 0, none⟩ (by show w.heap.size + 1 + 1 ≠ w.heap.size + 1; omega) (.int .i64 ((q : Int) + 1))
          have c3 := hp5.cell 0
          have f3 := hp5.frozen 0
          have c4 := hq5.cell 0
          have f4 := hq5.frozen 0
          simp only [List.getElem?_toArray, List.getElem?_cons_zero] at c3 c4
          clear hlast2 hc hi hpx hqx hp3 hq3 hB3 hq4 h0 hcell e1 hu hbY hlg hl hl0 hp5 hq5 hq
          rw [hq9.out]
          go_wp2
          have hp5 : Box ((w3.setCell ⟨w.heap.size + 1, 0, none⟩ (.int .i64 (-1))).setCell ⟨w.heap.size + 1, 0, none⟩ (.int .i64 ((q : Int) + 1))) (w.heap.size + 1) 3 #[.int .i64 ((q : Int) + 1)] := by have := (HPX.out (.int .i64 (-1))).set 0 (.int .i64 ((q : Int) + 1)); simpa using this
          have hq5 := (HQX.out (.int .i64 (-1))).setOther ⟨w.heap.size + 1, 0, none⟩ (by show w.heap.size + 1 + 1 ≠ w.heap.size + 1; omega) (.int .i64 ((q : Int) + 1))
          obtain ⟨cx, cy⟩ := two_cells hp5 hq5 (by omega) (.int .i64 ((q : Int) + 1)) (.int .i64 0)
          have hfin : Below w.heap.size w ((((w3.setCell ⟨w.heap.size + 1, 0, none⟩ (.int .i64 (-1))).setCell ⟨w.heap.size + 1, 0, none⟩ (.int .i64 ((q : Int) + 1))).setCell ⟨w.heap.size + 1, 0, none⟩ (.int .i64 ((q : Int) + 1))).setCell ⟨w.heap.size + 1 + 1, 0, none⟩ (.int .i64 0)) := (((HB3.out.setCell (by show _ ≤ w.heap.size + 1; omega) _).setCell (by show _ ≤ w.heap.size + 1; omega) _).setCell (by show _ ≤ w.heap.size + 1; omega) _).setCell (by show _ ≤ w.heap.size + 1 + 1; omega) _
          refine leaves_cons (f := 36) (args := #[.pointer (some ⟨w.heap.size + 1, 0, none⟩), .pointer (some ⟨w.heap.size + 1 + 1, 0, none⟩)]) (by simp) (by simp [go_sem]) ?_
          refine (ccatch_idle ⟨w.heap.size + 1, 0, none⟩ ⟨w.heap.size + 1 + 1, 0, none⟩ _).mono ?_
          rintro e u' w'' ⟨rfl, rfl, rfl⟩
          generalize ((((w3.setCell ⟨w.heap.size + 1, 0, none⟩ (.int .i64 (-1))).setCell ⟨w.heap.size + 1, 0, none⟩ (.int .i64 ((q : Int) + 1))).setCell ⟨w.heap.size + 1, 0, none⟩ (.int .i64 ((q : Int) + 1))).setCell ⟨w.heap.size + 1 + 1, 0, none⟩ (.int .i64 0)) = X at *
          simp [Leaves, settle, results, Tryd.results18, go_sem, cx, cy]
          exact ⟨by rw [HRR.out, HC.out]; simp, hfin⟩
    · have HC := Lib.hid hc
      have hne : ((i : Int) == -1) = false := beq_eq_false_iff_ne.2 (by omega)
      rw [hi]
      have c1 := (hpx (.int .i64 i)).cell 0
      have f1 := (hpx (.int .i64 i)).frozen 0
      have hq4 := (hqx (.int .i64 i)).setOther ⟨w.heap.size + 1, 0, none⟩ (by show w.heap.size + 1 + 1 ≠ w.heap.size + 1; omega) (.int .i64 i)
      have c2 := hq4.cell 0
      have f2 := hq4.frozen 0
      simp only [List.getElem?_toArray, List.getElem?_cons_zero] at c1 c2
      clear hlast2 hc hi hpx hqx hp3 hq3 hB3 hq4
      go_wp2
      obtain ⟨cx, cy⟩ := two_cells (HPX.out (.int .i64 i)) (HQX.out (.int .i64 i)) (by omega) (.int .i64 i) (.int .i64 0)
      have hfin : Below w.heap.size w (((w3.setCell ⟨w.heap.size + 1, 0, none⟩ (.int .i64 i)).setCell ⟨w.heap.size + 1, 0, none⟩ (.int .i64 i)).setCell ⟨w.heap.size + 1 + 1, 0, none⟩ (.int .i64 0)) := ((HB3.out.setCell (by show _ ≤ w.heap.size + 1; omega) _).setCell (by show _ ≤ w.heap.size + 1; omega) _).setCell (by show _ ≤ w.heap.size + 1 + 1; omega) _
      refine leaves_cons (f := 36) (args := #[.pointer (some ⟨w.heap.size + 1, 0, none⟩), .pointer (some ⟨w.heap.size + 1 + 1, 0, none⟩)]) (by simp) (by simp [go_sem]) ?_
      refine (ccatch_idle ⟨w.heap.size + 1, 0, none⟩ ⟨w.heap.size + 1 + 1, 0, none⟩ _).mono ?_
      rintro e u' w'' ⟨rfl, rfl, rfl⟩
      generalize (((w3.setCell ⟨w.heap.size + 1, 0, none⟩ (.int .i64 i)).setCell ⟨w.heap.size + 1, 0, none⟩ (.int .i64 i)).setCell ⟨w.heap.size + 1 + 1, 0, none⟩ (.int .i64 0)) = X at *
      simp [Leaves, settle, results, Tryd.results18, go_sem, cx, cy]
      exact ⟨by rw [HRR.out, HC.out]; simp, hfin⟩
end L
end Go.Proofs.YtfhodbnhaaiceaaDoor
end

/- Contract of three, whose memory is the caller's own; one row of a row of rows replaced. -/
section
namespace Go.Proofs.YtfhodbnhaaiceaaDoor
open Go.RowKit
namespace K
theorem owns_of_box {w : World} {g base n : Nat} {T : TypeId} {cs : Array Value} {xs : List Value} (h : Box w g T cs) (hb : base ≤ g) (hn : n = cs.size) (hx : xs = cs.toList) (hm : n ≤ maxLen) : w.ownsRow base T 1 (.slice (some ⟨g, 0, none⟩) n n) n xs := by
  subst hn; subst hx
  exact ⟨by simp, .inr ⟨g, cs.size, cs, rfl, hb, h, Nat.le_refl _, hm, by simp, by rw [Nat.mul_one]; exact List.take_of_length_le (by simp)⟩⟩
theorem OwnL.put {w : World} {base g cap i : Nat} {L : List (List Int)} {us : List Value} {u : Value} {l : List Int} (h1 : us.length = L.length) (h2 : w.ownsRow base 23 1 (.slice (some ⟨g, 0, none⟩) L.length cap) L.length us)
    (h3 : ∀ j, j < L.length → OwnI w base (us.getD j (.slice none 0 0)) (L.getD j [])) (hu : OwnI w base u l) :
    OwnL (w.setCell ⟨g, i, none⟩ u) base (.slice (some ⟨g, 0, none⟩) L.length cap) (L.set i l) := by
  have kept : ∀ {x : Value} {k : List Int}, OwnI w base x k → OwnI (w.setCell ⟨g, i, none⟩ u) base x k := fun hx => owns_of_block hx fun k hk => Deep.blk_setCell_other w _ _ k fun e => by
    rcases owns_ne hx h2 (by decide) with h | h
    · rw [h] at hk; cases hk
    · exact h (by rw [hk, e]; rfl)
  have hst := (h2.stored i u).1
  have hl : (L.set i l).length = L.length := by simp
  refine ⟨us.set i u, by simp [h1], by rw [hl]; exact hst, fun j hj => ?_⟩
  rw [hl] at hj
  by_cases hji : i = j
  · subst hji
    have e1 : (us.set i u).getD i (.slice none 0 0) = u := by simp [List.getD, show i < us.length by omega]
    have e2 : (L.set i l).getD i [] = l := by simp [List.getD, hj]
    rw [e1, e2]; exact kept hu
  · have e1 : (us.set i u).getD j (.slice none 0 0) = us.getD j (.slice none 0 0) := by simp only [List.getD_eq_getElem?_getD, List.getElem?_set, hji, if_false]
    have e2 : (L.set i l).getD j [] = L.getD j [] := by simp only [List.getD_eq_getElem?_getD, List.getElem?_set, hji, if_false]
    rw [e1, e2]; exact kept (h3 j hj)
end K
namespace L
open K

end L
end Go.Proofs.YtfhodbnhaaiceaaDoor
end

/- CnfChecks and CnfFirsts: the walks. -/
section
namespace Go.Proofs.YtfhodbnhaaiceaaDoor
open Go.RowKit
namespace L
open K

theorem wf64 {x : Int} (h : (Lit.int .i64 x).wf = true) : I64 x := by
  simp [Lit.wf, IntKind.min, IntKind.max, IntKind.signed, IntKind.bits] at h
  unfold I64; omega
theorem small_len {L : List (List Int)} (h : smallB L = true) : L.length ≤ 60 ∧ ∀ j, j < L.length → (L.getD j []).length ≤ 40 := by
  simp only [smallB, Bool.and_eq_true, decide_eq_true_eq, List.all_eq_true] at h
  exact ⟨h.1, fun j hj => h.2 _ (mem_getDL hj)⟩
theorem ListsW.small {w : World} {v : Value} {L : List (List Int)} (h : ListsW .i64 w v L) (hs : smallB L = true) : Lists w v L := by
  obtain ⟨h1, h2⟩ := small_len hs
  exact h.lists (by omega) (fun j hj => by have := h2 j hj; omega)

end L
end Go.Proofs.YtfhodbnhaaiceaaDoor
end
