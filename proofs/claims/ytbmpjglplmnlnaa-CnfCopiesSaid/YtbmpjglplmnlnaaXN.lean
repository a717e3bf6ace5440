/- Contract of cnf.Copy. -/
import Derived.Test.YtbmpjglplmnlnaaXM
import Derived.Laws.CopyOwn
namespace Go.Proofs.Ytbmpjglplmnlnaa
open Go.RowKit
namespace L
open K

theorem splice_all {α : Type} (L cs : List α) (h : cs.length = L.length) : splice L 0 cs = cs := by
  simp [splice, h]
theorem info3s : (Try.prog.info? 3).map (·.size) = some 1 := by kernel_rfl

set_option maxHeartbeats 1000000 in
theorem ccopy_any (n : Int) (v : Value) (L : List (List Int)) (w : World) (h : Lists w v L) :
    Calls Try.prog 17 #[.agg #[.int .i64 n, v]] w fun e w' => ∃ v', e = .returned (.agg #[.int .i64 n, v']) ∧ OwnL w' w.heap.size v' L ∧ Below w.heap.size w w' := by
  obtain ⟨p, c, rfl, hg, hm, hc⟩ := h
  obtain ⟨i0, hi, hz0, hz1, hz2⟩ := info_parts info36
  obtain ⟨i3, hi3, hz30, hz31, hz32⟩ := info_parts info3
  have hb0 : Below w.heap.size w ((w.alloc (.cells #[.int .i64 n, .slice p L.length c] 24)).alloc (.cells #[.int .i64 0, .slice none 0 0] 24)) := ((Below.refl _ _).alloc (Nat.le_refl _) _).alloc (by simp) _
  have hX0 : Box ((w.alloc (.cells #[.int .i64 n, .slice p L.length c] 24)).alloc (.cells #[.int .i64 0, .slice none 0 0] 24)) w.heap.size 24 #[.int .i64 n, .slice p L.length c] := (Box.new w _ _).alloc _
  have hY0 : Box ((w.alloc (.cells #[.int .i64 n, .slice p L.length c] 24)).alloc (.cells #[.int .i64 0, .slice none 0 0] 24)) (w.heap.size + 1) 24 #[.int .i64 0, .slice none 0 0] := Box.at _ _ _ (by simp)
  go_enter Try.func17, Try.ntmps17
  go_wp2_with (at_make; refine wpList_make_full _ rfl _ _ 22 rfl (w.heap.size + 2) 36 i0 (.slice none 0 0) 1 Try.underlying22 hi hz0 hz1 .i64 .i64 _ _ L.length rfl rfl rfl rfl (by rw [hz2]; omega) (by unfold maxLen; omega) (by simp) ?_)
  intro w1 hown hgrow
  have hb1 := hb0.grown hgrow (by simp; omega) (fun k h => by cases h)
  have hX1 := hX0.grown hgrow (by simp)
  have hY1 := hY0.grown hgrow (by simp)
  clear hgrow hb0 hX0 hY0
  have k1 : w1.cell? ⟨w.heap.size, 1, none⟩ = some (.slice p L.length c) := hX1.cell 1
  go_wp2
  go_loopw [13] (fun i wr => ∃ (k : Nat) (us : List Value), k ≤ L.length ∧ i = .int .i64 k ∧ us.length = L.length ∧ wr.ownsRow (w.heap.size + 2) 36 1 (.slice (some ⟨w.heap.size + 1 + 1, 0, none⟩) L.length L.length) L.length us ∧ (∀ j, j < k → OwnI wr (w.heap.size + 2) (us.getD j (.slice none 0 0)) (L.getD j [])) ∧ Below w.heap.size w wr ∧ Box wr w.heap.size 24 #[.int .i64 n, .slice p L.length c] ∧ Box wr (w.heap.size + 1) 24 #[.int .i64 0, .slice none 0 0]) (fun i _ => L.length - (intOf i).toNat)
  case atStart => exact ⟨0, _, Nat.zero_le _, rfl, by have := hown.1; simpa using this, hown, fun j hj => absurd hj (Nat.not_lt_zero _), hb1, hX1, hY1⟩
  case round =>
    clear hown hb1 hX1 hY1 k1
    obtain ⟨k, us, hk, rfl, hus, howns, hin, hb, hX, hY⟩ := hrel
    obtain ⟨w2, hw2⟩ : ∃ W, W = wr := ⟨_, rfl⟩
    subst hw2
    have HIN := Lib.hid hin
    have HUS := Lib.hid hus
    clear hin hus
    by_cases hlt : k < L.length
    · obtain ⟨b, o, rfl, e1⟩ := hc (by omega)
      obtain ⟨u, hu, hiu⟩ := e1 k hlt
      have d1 := (hb.cell (p := ⟨b, o + k, none⟩) (World.block_lt_of_cell? _ _ hu)).trans hu
      have hg2 := (howns.lt _ rfl).2
      have HLK : Hid (L.getD k [] = L.getD k []) := rfl
      generalize hl : L.getD k [] = l at *
      have HL := Lib.hid hl
      clear hl HLK
      obtain ⟨pu, cu, rfl, hlc, hlm, hcell⟩ := hiu
      clear e1
      have HCELL := Lib.hid hcell
      clear hcell
      have dS : w2.cell? ⟨w.heap.size + 1 + 1, k, none⟩ = some (us.getD k (.slice none 0 0)) := by
        rw [howns.cellAt k (by omega)]
        have := HUS.out
        simp [List.getD, show k < us.length by omega]
      go_wp2_with (at_make; refine wpList_make_full _ rfl _ _ 36 rfl w2.heap.size 3 i3 (.int .i64 0) 1 Try.underlying36 hi3 hz30 hz31 .i64 .i64 _ _ l.length rfl rfl rfl rfl (by rw [hz32]; omega) (by unfold maxLen; omega) (Nat.le_refl _) ?_)
      intro w3 hown3 hgrow3
      rw [toList_madeCells_one] at hown3
      have hs3 : w2.heap.size < w3.heap.size := (hown3.lt _ rfl).2
      have howns3 := World.ownsRow.kept howns hgrow3 (.inr (by simp [Value.ownBlock]))
      have dS3 : w3.cell? ⟨w.heap.size + 1 + 1, k, none⟩ = some (us.getD k (.slice none 0 0)) := (World.cell?_of_block (w := w2) (hgrow3.block (w.heap.size + 1 + 1) hg2 (by simp))).trans dS
      have fS3 := howns3.frozenAt k
      obtain ⟨hst, hgst⟩ := howns3.stored k (.slice (some ⟨w2.heap.size, 0, none⟩) l.length l.length)
      have hb3 := hb.grown hgrow3 hb.size (fun k h => by cases h)
      have hX3 := (hX.grown hgrow3 (by simp)).setOther ⟨w.heap.size + 1 + 1, k, none⟩ (by simp <;> omega) (.slice (some ⟨w2.heap.size, 0, none⟩) l.length l.length)
      have hY3 := (hY.grown hgrow3 (by simp)).setOther ⟨w.heap.size + 1 + 1, k, none⟩ (by simp) (.slice (some ⟨w2.heap.size, 0, none⟩) l.length l.length)
      have hb4 := hb3.setCell (p := ⟨w.heap.size + 1 + 1, k, none⟩) (by simp <;> omega) (.slice (some ⟨w2.heap.size, 0, none⟩) l.length l.length)
      have hrow3 : (w3.setCell ⟨w.heap.size + 1 + 1, k, none⟩ (.slice (some ⟨w2.heap.size, 0, none⟩) l.length l.length)).ownsRow w2.heap.size 3 1 (.slice (some ⟨w2.heap.size, 0, none⟩) l.length l.length) l.length (List.replicate l.length (.int .i64 0)) :=
        owns_of_block hown3 fun i hi => Deep.blk_setCell_other w3 _ _ i (by simp only [Value.ownBlock, Option.some.injEq] at hi; simp; omega)
      have hin3 : ∀ j, j < k → OwnI (w3.setCell ⟨w.heap.size + 1 + 1, k, none⟩ (.slice (some ⟨w2.heap.size, 0, none⟩) l.length l.length)) (w.heap.size + 2) ((us.set k (.slice (some ⟨w2.heap.size, 0, none⟩) l.length l.length)).getD j (.slice none 0 0)) (L.getD j []) := fun j hj => by
        have e1 : (us.set k (.slice (some ⟨w2.heap.size, 0, none⟩) l.length l.length)).getD j (.slice none 0 0) = us.getD j (.slice none 0 0) := by
          simp only [List.getD_eq_getElem?_getD, List.getElem?_set, show ¬ k = j by omega, if_false]
        rw [e1]
        have h1 := owns_of_block (w' := w3) (HIN.out j hj) fun i hi => hgrow3.block i ((HIN.out j hj).lt i hi).2 (by simp)
        refine owns_of_block h1 fun i hi => Deep.blk_setCell_other w3 _ _ i fun e => ?_
        rcases owns_ne h1 howns3 (by decide) with h2 | h2
        · rw [h2] at hi; cases hi
        · exact h2 (by rw [hi, e]; rfl)
      have hfs : (w3.setCell ⟨w.heap.size + 1 + 1, k, none⟩ (.slice (some ⟨w2.heap.size, 0, none⟩) l.length l.length)).cell? ⟨w.heap.size + 1 + 1, k, none⟩ = some (.slice (some ⟨w2.heap.size, 0, none⟩) l.length l.length) := by
        rw [hst.cellAt k (by omega)]
        have := HUS.out
        simp [show k < us.length by omega]
      clear hgrow3 howns3 dS howns hX hY hb
      have hs34 : w2.heap.size < (w3.setCell ⟨w.heap.size + 1 + 1, k, none⟩ (.slice (some ⟨w2.heap.size, 0, none⟩) l.length l.length)).heap.size := by simpa using hs3
      have hcur : (w3.setCell ⟨w.heap.size + 1 + 1, k, none⟩ (.slice (some ⟨w2.heap.size, 0, none⟩) l.length l.length)).heap[w2.heap.size]? = some (.cells (List.replicate l.length (Value.int .i64 0)).toArray 3 (0, 0)) := by
        rcases hrow3.2 with ⟨h', _⟩ | ⟨g', cap', cur, h', _, hgg, _, _, hcs, htake⟩
        · simp at h'
        · simp only [Value.slice.injEq, Option.some.injEq, Addr.mk.injEq, and_true, true_and] at h'
          obtain ⟨rfl, rfl⟩ := h'
          rw [hgg]
          have h2 : cur.toList = List.replicate l.length (Value.int .i64 0) := by rw [← htake]; exact (List.take_of_length_le (by simp [hcs])).symm
          have h3 : cur = (List.replicate l.length (Value.int .i64 0)).toArray := by rw [← h2]
          rw [h3]
      have hsrc : ∀ bq oq, pu = some ⟨bq, oq, none⟩ → ∀ j, j < l.length → (w3.setCell ⟨w.heap.size + 1 + 1, k, none⟩ (.slice (some ⟨w2.heap.size, 0, none⟩) l.length l.length)).cell? ⟨bq, oq + j, none⟩ = some (.int .i64 (l.getD j 0)) := fun bq oq hp j hj => by
        obtain ⟨b', o', hp', hcc⟩ := HCELL.out (by omega)
        rw [hp] at hp'; cases hp'
        exact (hb4.cell (p := ⟨bq, oq + j, none⟩) (World.block_lt_of_cell? _ _ (hcc j hj))).trans (hcc j hj)
      have HSRC := Lib.hid hsrc
      have HCUR := Lib.hid hcur
      have HIN3 := Lib.hid hin3
      have HST := Lib.hid hst
      have HX3 := Lib.hid hX3
      have HY3 := Lib.hid hY3
      have HB4 := Lib.hid hb4
      have HS34 := Lib.hid hs34
      have HROW3 := Lib.hid hrow3
      clear hsrc hcur hin3 hst hX3 hY3 hb4 hs34 hrow3 hgst hown3 hb3
      go_wp2_with (with_reducible refine wpList_copy_splice rfl _ _ 36 36 rfl 3 Try.underlying36 info3s (some ⟨w2.heap.size, 0, none⟩) pu l.length l.length l.length cu rfl rfl w2.heap.size 0 (List.replicate l.length (Value.int .i64 0)) 3 HCUR.out (l.map (Value.int .i64)) (by simp) ?c1 (by simp) ?c2 w2.heap.size _ (Below.refl _ _) (Nat.le_refl _) ?_)
      case c1 =>
        intro h0
        obtain ⟨b', o', hp', hcc⟩ := HCELL.out h0
        refine ⟨_, hp', fun j a hja => ?_⟩
        have hj := (List.getElem?_eq_some_iff.1 hja).1
        have h1 := HSRC.out b' o' hp' j hj
        have h2 : (⟨b', o', none⟩ : Addr).add j = ⟨b', o' + j, none⟩ := by simp [Addr.add]
        rw [h2, h1]
        simp [List.getD, hja]
      case c2 => intro u hu; simp at hu; obtain ⟨x, _, rfl⟩ := hu; rfl
      intro w5 hcells hb5
      have hh := hcells.out
      rw [splice_all _ _ (by simp)] at hh
      have hOW : OwnI w5 (w.heap.size + 2) (.slice (some ⟨w2.heap.size, 0, none⟩) l.length l.length) l := ⟨by simp, .inr ⟨w2.heap.size, l.length, _, rfl, by omega, hh, Nat.le_refl _, by unfold maxLen; omega, by simp, by rw [Nat.mul_one]; exact List.take_of_length_le (by simp)⟩⟩
      have hOUT := owns_of_block (w' := w5) HST.out fun i hi => hb5.block i (by simp only [Value.ownBlock, Option.some.injEq] at hi; omega)
      have hINN : ∀ j, j < k → OwnI w5 (w.heap.size + 2) ((us.set k (.slice (some ⟨w2.heap.size, 0, none⟩) l.length l.length)).getD j (.slice none 0 0)) (L.getD j []) := fun j hj => by
        have h1 := HIN3.out j hj
        have e1 : (us.set k (.slice (some ⟨w2.heap.size, 0, none⟩) l.length l.length)).getD j (.slice none 0 0) = us.getD j (.slice none 0 0) := by
          simp only [List.getD_eq_getElem?_getD, List.getElem?_set, show ¬ k = j by omega, if_false]
        rw [e1] at h1 ⊢
        exact owns_of_block h1 fun i hi => hb5.block i ((HIN.out j hj).lt i hi).2
      have hX5 := HX3.out.below hb5 (by omega)
      have hY5 := HY3.out.below hb5 (by omega)
      have hB5 := HB4.out.trans (hb5.mono (by omega))
      clear hh
      go_wp2
      go_roundw
      case rel =>
        refine ⟨k + 1, us.set k (.slice (some ⟨w2.heap.size, 0, none⟩) l.length l.length), by omega, by go_num, by have := HUS.out; simpa using this, hOUT, fun j hj => ?_, hB5, hX5, hY5⟩
        by_cases hjk : j = k
        · subst hjk
          have e1 : (us.set j (.slice (some ⟨w2.heap.size, 0, none⟩) l.length l.length)).getD j (.slice none 0 0) = .slice (some ⟨w2.heap.size, 0, none⟩) l.length l.length := by
            have := HUS.out
            simp [List.getD, show j < us.length by omega]
          rw [e1, HL.out]
          exact hOW
        · exact hINN j (by omega)
      case measure => simp [intOf] <;> omega
    · have x0 : w2.cell? ⟨w.heap.size, 0, none⟩ = some (.int .i64 n) := hX.cell 0
      have y0 : w2.cell? ⟨w.heap.size + 1, 0, none⟩ = some (.int .i64 0) := hY.cell 0
      have y1 : w2.cell? ⟨w.heap.size + 1, 1, none⟩ = some (.slice none 0 0) := hY.cell 1
      have y0f := hY.frozen 0
      have y1f := hY.frozen 1
      have hkl : k = L.length := by omega
      go_wp2
      (try simp only [Exit.inBlock, Exit.then])
      refine bodyPost_ret (res_cell rfl rfl (by simp [go_sem, *]; rfl)) rfl ?_
      refine ⟨_, rfl, ?_, (hb.setCell (by simp) _).setCell (by simp) _⟩
      have hO : OwnL w2 (w.heap.size + 2) (.slice (some ⟨w.heap.size + 1 + 1, 0, none⟩) L.length L.length) L := ⟨us, HUS.out, howns, fun j hj => HIN.out j (by omega)⟩
      exact ((hO.setCell (a := ⟨w.heap.size + 1, 0, none⟩) (by simp) _).setCell (a := ⟨w.heap.size + 1, 1, none⟩) (by simp) _).down (by omega)
end L
end Go.Proofs.Ytbmpjglplmnlnaa
