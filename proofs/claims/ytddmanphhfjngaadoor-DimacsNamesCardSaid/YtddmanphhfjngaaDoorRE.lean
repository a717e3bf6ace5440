/- Contracts of the reader's methods. -/
import Derived.Test.YtddmanphhfjngaaDoorRF
import Derived.Maps.AppendAt
import Derived.RangeFuncBox
namespace Go.Proofs.YtddmanphhfjngaaDoor
open Go.RowKit PA RA
namespace L
open K

theorem Tryd.info3 : (Tryd.prog.info? 3).map (fun i => (i.zero, i.size, i.bytes)) = some (some (.int .i64 0), 1, 8) := by kernel_rfl
theorem Tryd.info34 : (Tryd.prog.info? 34).map (fun i => (i.zero, i.size, i.bytes)) = some (some (.slice none 0 0), 1, 24) := by kernel_rfl

set_option maxRecDepth 100000 in
set_option maxHeartbeats 2000000 in
theorem add_any (R B C : Nat) (r : RS) (s : ByteArray) (W : World) (hs : s.size ≤ 9223372036854775807) (hwf : Wf r) (hrd : Rd W R B C r) :
    Calls Tryd.prog 48 #[.pointer (some ⟨R, 0, none⟩), .string s] W (REnd R B W (addS r s.data.toList)) := by
  have hnum := number_any s W hs
  have hnb := num_bound s.data.toList
  obtain ⟨h1, h2, h3, vc, vk, us, h4⟩ := hrd
  obtain ⟨hb, hus, hoc, hin, hok⟩ := h4
  have c0 := hb.cell 0; have c1 := hb.cell 1; have c2 := hb.cell 2; have c3 := hb.cell 3; have c4 := hb.cell 4; have c5 := hb.cell 5; have c6 := hb.cell 6
  unfold rcells at c0 c1 c2 c3 c4 c5 c6
  simp only [List.getElem?_toArray, List.getElem?_cons_zero, List.getElem?_cons_succ] at c0 c1 c2 c3 c4 c5 c6
  obtain ⟨v0, v1, l0, l1, k1, _⟩ := hwf
  unfold num at *
  obtain ⟨x, ok, hx⟩ : ∃ x ok, numM 1048577 s.data.toList = (x, ok) := ⟨_, _, rfl⟩
  rw [hx] at hnum hnb
  simp only at hnum hnb
  obtain ⟨y, hy⟩ : ∃ y, addS r s.data.toList = y := ⟨_, rfl⟩
  rw [hy]
  unfold addS num at hy
  rw [hx] at hy
  simp only at hy
  have f0 := hb.frozen 0; have f3 := hb.frozen 3; have f4 := hb.frozen 4; have f5 := hb.frozen 5
  have same : Hid ((∃ C, Rd W R B C r) ∧ Keep (Chg R B) W W ∧ StrKeep W W) := ⟨⟨C, h1, h2, h3, vc, vk, us, hb, hus, hoc, hin, hok⟩, Keep.refl _ _, StrKeep.refl _⟩
  by_cases e1 : r.left = 0 ∨ ok = false
  · rw [if_pos e1] at hy
    subst hy
    clear hx
    rcases e1 with e1 | e1
    · have e1' : (r.left == 0) = true := by simpa using e1
      go_enter Tryd.func48, Tryd.ntmps48
      go_wp2_with fail
      refine hnum.mono ?_
      rintro e w1 ⟨rfl, rfl⟩
      go_wp2
      go_ret
      exact ⟨rfl, same.out⟩
    · subst e1
      by_cases e2 : r.left = 0
      · have e1' : (r.left == 0) = true := by simpa using e2
        go_enter Tryd.func48, Tryd.ntmps48
        go_wp2_with fail
        refine hnum.mono ?_
        rintro e w1 ⟨rfl, rfl⟩
        go_wp2
        go_ret
        exact ⟨rfl, same.out⟩
      · have e1' : (r.left == 0) = false := by simpa using e2
        go_enter Tryd.func48, Tryd.ntmps48
        go_wp2_with fail
        refine hnum.mono ?_
        rintro e w1 ⟨rfl, rfl⟩
        go_wp2
        go_ret
        exact ⟨rfl, same.out⟩
  · rw [if_neg e1] at hy
    have e1' : (r.left == 0) = false := by simp only [not_or] at e1; simpa using e1.1
    obtain rfl : ok = true := by simp only [not_or] at e1; simpa using e1.2
    have e3 : 0 < r.left := by simp only [not_or] at e1; omega
    clear e1
    by_cases ex : x = 0
    · subst ex
      rw [if_pos rfl] at hy
      subst hy
      obtain ⟨i34, hi34, hz34, hs34, hb34⟩ := info_parts Tryd.info34
      have hty := owns_typed hoc
      obtain ⟨pk, ck, rfl⟩ := owns_shape hok
      go_enter Tryd.func48, Tryd.ntmps48
      go_wp2_with fail
      refine hnum.mono ?_
      rintro e w1 ⟨rfl, rfl⟩
      clear hnum
      go_wp2
      have HOK := Lib.hid hok
      have HIN := Lib.hid hin
      have HOC := Lib.hid hoc
      have HB := Lib.hid hb
      have HUS := Lib.hid hus
      have HTY := Lib.hid hty
      clear hok hin hoc hb hus hty hx
      have a3 := (Box.alloc HB.out (.cells #[.slice pk r.cur.length ck] 34)).cell 3
      unfold rcells at a3
      simp only [List.getElem?_toArray, List.getElem?_cons_zero, List.getElem?_cons_succ] at a3
      go_region_law
        ((refine step_append_lies _ (by rfl) _ _ _ (by rfl) B 34 i34 _ 1 24 Tryd.underlying22 hi34 hz34 hs34 hb34 rfl (by omega) vc r.cls.length us (by rfl) (owns_heap (World.ownsRow.alloc HOC.out (.cells #[.slice pk r.cur.length ck] 34)) rfl)
            ⟨W.heap.size, 0, none⟩ 1 1 [.slice pk r.cur.length ck] (by rfl) (by rfl) (World.news_of_block (cs := #[.slice pk r.cur.length ck]) (t := 34) (fr := (0, 0)) (heap_alloc_new W _)) (by simp [Value.oneCell'])
            (by omega) (by unfold maxLen; omega) (by omega) (by simp; omega) (W.heap.size + 1) (by simp) ?_; intro gg cap w2 hown2 hgrow hat hlt; have hb2 := Box.grown (Box.heap (w' := (W.alloc (.cells #[.slice pk r.cur.length ck] 34)).drew) (Box.alloc HB.out (.cells #[.slice pk r.cur.length ck] 34)) rfl) hgrow (fun e => by have := (HOC.out.lt R e.symm).1; omega); have g3 := hb2.frozen 3; have g5 := hb2.frozen 5; have g4 := hb2.frozen 4; have d3 := hb2.cell 3; unfold rcells at d3; simp only [List.getElem?_toArray, List.getElem?_cons_zero, List.getElem?_cons_succ] at d3; have HB2 := Lib.hid hb2; clear hb2))
      all_goals
        have HO := Lib.hid hown2
        have HG := Lib.hid hgrow
        clear hown2 hgrow a3 hat
        have hcl := rd_close h1 h2 h3 ⟨HB.out, HUS.out, HOC.out, HIN.out, HOK.out⟩ (w1 := (W.alloc (.cells #[.slice pk r.cur.length ck] 34)).drew) rfl rfl rfl rfl HO.out HG.out (w3 := w2.setCell ⟨R, 3, none⟩ (.slice (some ⟨gg, 0, none⟩) (r.cls.length + 1) cap)) rfl rfl rfl rfl
        have HCL := Lib.hid hcl
        clear hcl
        have d5 := HB2.out.cell 5
        have d4 := HB2.out.cell 4
        unfold rcells at d5 d4
        simp only [List.getElem?_toArray, List.getElem?_cons_zero, List.getElem?_cons_succ] at d5 d4
        go_wp2
        go_ret
        obtain ⟨q1, q2, q3, _⟩ := HCL.out
        exact ⟨rfl, ⟨_, q1⟩, q2, q3⟩
    · rw [if_neg ex] at hy
      have ex' : (x == 0) = false := by simpa using ex
      by_cases e4 : r.vars < x ∨ r.vars < -x
      · rw [if_pos e4] at hy
        subst hy
        clear hx
        by_cases e5 : r.vars < x
        · clear e4
          go_enter Tryd.func48, Tryd.ntmps48
          go_wp2_with fail
          refine hnum.mono ?_
          rintro e w1 ⟨rfl, rfl⟩
          go_wp2
          go_ret
          exact ⟨rfl, same.out⟩
        · have e6 : r.vars < -x := by rcases e4 with h | h; exact absurd h e5; exact h
          clear e4
          go_enter Tryd.func48, Tryd.ntmps48
          go_wp2_with fail
          refine hnum.mono ?_
          rintro e w1 ⟨rfl, rfl⟩
          go_wp2
          go_ret
          exact ⟨rfl, same.out⟩
      · rw [if_neg e4] at hy
        have e5 : ¬ r.vars < x := fun h => e4 (.inl h)
        have e6 : ¬ r.vars < -x := fun h => e4 (.inr h)
        clear e4
        obtain ⟨pk, ck, rfl⟩ := owns_shape hok
        by_cases e7 : r.cur.length = 4096
        · rw [if_pos e7] at hy
          subst hy
          have e7' : ((r.cur.length : Int) == 4096) = true := by rw [e7]; rfl
          have E7 := Lib.hid e7
          clear e7 hx
          go_enter Tryd.func48, Tryd.ntmps48
          go_wp2_with fail
          refine hnum.mono ?_
          rintro e w1 ⟨rfl, rfl⟩
          go_wp2
          go_ret
          exact ⟨rfl, same.out⟩
        · rw [if_neg e7] at hy
          subst hy
          have e7' : ((r.cur.length : Int) == 4096) = false := beq_eq_false_iff_ne.2 (by omega)
          clear hx
          have e8 : r.cur.length < 4096 := by omega
          clear e7
          obtain ⟨i3, hi3, hz3, hs3, hb3⟩ := info_parts Tryd.info3
          have HOK := Lib.hid hok
          have HIN := Lib.hid hin
          have HOC := Lib.hid hoc
          have HB := Lib.hid hb
          have HUS := Lib.hid hus
          clear hok hin hoc hb hus
          go_enter Tryd.func48, Tryd.ntmps48
          go_wp2_with fail
          refine hnum.mono ?_
          rintro e w1 ⟨rfl, rfl⟩
          clear hnum
          go_wp2_with (at_builtin; refine wpList_append_own _ rfl (.tmp 79) (.tmp 81) 34 rfl C 3 i3 (.int .i64 0) 1 8 Tryd.underlying34 hi3 hz3 hs3 hb3 rfl (by decide) (.slice pk r.cur.length ck) r.cur.length (r.cur.map (Value.int .i64)) rfl (World.ownsRow.alloc HOK.out _) ⟨W.heap.size, 0, none⟩ 1 1 [.int .i64 x] rfl rfl (cell_one_new _ _ _) (by simp [Value.oneCell']) (by unfold maxLen; omega) (by omega) (by simp; omega) ?_; intro v' w2 hown' hgrow _; obtain ⟨gg, cap, rfl⟩ := ownsRow_succ hown'; have hb2 := Box.grown (Box.alloc HB.out (.cells #[.int .i64 x] 3)) hgrow (fun e => by have := (HOK.out.lt R e.symm).1; omega); have d5 := hb2.cell 5; have g5 := hb2.frozen 5; unfold rcells at d5; simp only [List.getElem?_toArray, List.getElem?_cons_zero, List.getElem?_cons_succ] at d5; have HO := Lib.hid hown'; have HG := Lib.hid hgrow; clear hown' hgrow hb2)
          go_ret
          have hp := rd_push h1 h2 h3 ⟨HB.out, HUS.out, HOC.out, HIN.out, HOK.out⟩ HO.out HG.out
          exact ⟨rfl, hp⟩
end L
end Go.Proofs.YtddmanphhfjngaaDoor
