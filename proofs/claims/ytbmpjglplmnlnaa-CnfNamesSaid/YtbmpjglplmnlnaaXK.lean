/- Contracts of the kit's CopyLists, CopyFormula, EqualLists, EqualFormula. -/
import Derived.Test.YtbmpjglplmnlnaaYB
namespace Go.Proofs.Ytbmpjglplmnlnaa
open Go.RowKit
namespace L
open K

set_option maxHeartbeats 1000000 in
theorem copyl_any (v : Value) (L : List (List Int)) (w : World) (h : Lists w v L) :
    Calls Try.prog 34 #[v] w fun e w' => ∃ v', e = .returned v' ∧ OwnL w' w.heap.size v' L ∧ Below w.heap.size w w' := by
  obtain ⟨p, c, rfl, hg, hm, hc⟩ := h
  obtain ⟨i0, hi, hz0, hz1, hz2⟩ := info_parts info36
  go_enter Try.func34, Try.ntmps34
  go_wp2
  go_loopw [3, 4] (fun o i wr => ∃ k : Nat, k ≤ L.length ∧ i = .int .i64 k ∧ OwnL wr w.heap.size o (L.take k) ∧ Below w.heap.size w wr) (fun _ i _ => L.length - (intOf i).toNat)
  case atStart => exact ⟨0, Nat.zero_le _, rfl, OwnL.nil _ _, Below.refl _ _⟩
  case round =>
    obtain ⟨k, hk, rfl, hown, hb⟩ := hrel
    by_cases hlt : k < L.length
    · obtain ⟨b, o, rfl, e1⟩ := hc (by omega)
      obtain ⟨u, hu, hiu⟩ := e1 k hlt
      have d1 := (hb.cell (p := ⟨b, o + k, none⟩) (World.block_lt_of_cell? _ _ hu)).trans hu
      have hcp := copy_any u (L.getD k []) wr (hiu.below hb)
      have HT := Lib.hid (take_succL L k hlt)
      obtain ⟨pu, cu, rfl, _⟩ := hiu
      clear hc e1 hu
      generalize L.getD k [] = l at *
      obtain ⟨us, hus, howns, hin⟩ := hown
      have htl : (L.take k).length = k := by simp; omega
      rw [htl] at howns
      obtain ⟨po, co, rfl⟩ := owns_shape howns
      have HIN := Lib.hid hin
      have HUS := Lib.hid hus
      clear hin hus
      go_wp2_with fail
      refine hcp.mono ?_
      rintro e w2 ⟨vc, rfl, hoc, hb2⟩
      have howns2 := owns_below howns hb2 (Nat.le_refl _)
      have hoc' : OwnI w2 w.heap.size vc l := owns_base hoc hb.size
      obtain ⟨pc, cc, rfl⟩ := owns_shape hoc
      have HTL := Lib.hid htl
      have hkm : k * 24 ≤ 140737488351232 := by omega
      clear hoc hcp htl howns
      have hb3 := hb.trans (hb2.mono hb.size)
      have hs3 := hb3.size
      go_wp2_with (at_builtin; refine wpList_append_own _ rfl _ _ 22 rfl w.heap.size 36 i0 (.slice none 0 0) 1 24 Try.underlying22 hi hz0 hz1 hz2 rfl (by decide) _ _ _ rfl (howns2.alloc _) ⟨w2.heap.size, 0, none⟩ 1 1 [.slice pc l.length cc] rfl rfl ?c1 ?c2 ?c3 ?c4 ?c5 ?_)
      case c1 =>
        intro j u hj
        match j, hj with
        | 0, hj => simp at hj; subst hj; exact cell_new (by simp) rfl
      case c2 => intro u hu; simp at hu; subst hu; rfl
      case c3 => have := HTL.out; unfold maxLen; omega
      case c4 => have := HTL.out; omega
      case c5 => simp; omega
      intro v' w4 hown' hgrow _
      have hb4 := (hb3.alloc hs3 (.cells #[.slice pc l.length cc] 36)).grown hgrow (by simp; omega) (fun i hi => (howns2.lt i hi).1)
      have hOL := OwnL.push (L := L.take k) HUS.out (by rw [HTL.out]; exact howns2.alloc (.cells #[.slice pc l.length cc] 36)) (fun j hj => (owns_below (HIN.out j hj) hb2 (Nat.le_refl _)).alloc (.cells #[.slice pc l.length cc] 36)) (hoc'.alloc (.cells #[.slice pc l.length cc] 36)) (by rw [HTL.out]; exact hown') hgrow
      clear hgrow howns2 hoc' hown' hb2 hb3 hb
      go_wp2
      go_roundw
      case rel => exact ⟨k + 1, by omega, by go_num, by rw [HT.out]; exact hOL, hb4⟩
      case measure => simp [intOf] <;> omega
    · have hkl : k = L.length := by omega
      go_wp2
      go_ret
      exact ⟨_, rfl, by rw [hkl, List.take_length] at hown; exact hown, hb⟩

set_option maxHeartbeats 1000000 in
theorem copyf_any (n : Int) (v : Value) (L : List (List Int)) (w : World) (h : Lists w v L) :
    Calls Try.prog 20 #[.agg #[.int .i64 n, v]] w fun e w' => ∃ v', e = .returned (.agg #[.int .i64 n, v']) ∧ OwnL w' w.heap.size v' L ∧ Below w.heap.size w w' := by
  have hcp := fun W (hb : Below w.heap.size w W) => copyl_any v L W (h.below hb)
  obtain ⟨p, c, rfl, _⟩ := h
  have hb0 : Below w.heap.size w ((w.alloc (.cells #[.int .i64 n, .slice p L.length c] 24)).alloc (.cells #[.int .i64 0, .slice none 0 0] 24)) := ((Below.refl _ _).alloc (Nat.le_refl _) _).alloc (by simp) _
  have HCP := Lib.hid hcp
  clear hcp
  go_enter Try.func20, Try.ntmps20
  go_wp2_with fail
  refine (HCP.out _ hb0).mono ?_
  rintro e w2 ⟨v', rfl, hown, hb2⟩
  have hX0 : Box w2 w.heap.size 24 #[.int .i64 n, .slice p L.length c] := ((Box.new w _ _).alloc _).below hb2 (by simp <;> omega)
  have hX1 : Box w2 (w.heap.size + 1) 24 #[.int .i64 0, .slice none 0 0] := (Box.at _ _ _ (by simp)).below hb2 (by simp <;> omega)
  have hb := hb0.trans (hb2.mono hb0.size)
  have hown' := hown.down (base' := w.heap.size + 2) (by simp)
  obtain ⟨pv, cv, rfl⟩ : ∃ p c, v' = .slice p L.length c := by
    rcases hown.shape with ⟨h1, h2⟩ | ⟨g, c, h⟩
    · exact ⟨none, 0, by rw [h1, h2]⟩
    · exact ⟨_, _, h⟩
  have k0 : w2.cell? ⟨w.heap.size, 0, none⟩ = some (.int .i64 n) := hX0.cell 0
  have k1 : w2.cell? ⟨w.heap.size, 1, none⟩ = some (.slice p L.length c) := hX0.cell 1
  have k1f := hX0.frozen 1
  have k2 : w2.cell? ⟨w.heap.size + 1, 0, none⟩ = some (.int .i64 0) := hX1.cell 0
  have k3 : w2.cell? ⟨w.heap.size + 1, 1, none⟩ = some (.slice none 0 0) := hX1.cell 1
  have k2f := hX1.frozen 0
  have k3f := hX1.frozen 1
  clear hown hb2 hX0 hX1
  go_wp2
  (try simp only [Exit.inBlock, Exit.then])
  refine bodyPost_ret (res_cell rfl rfl (by simp [go_sem, *]; rfl)) rfl ?_
  refine ⟨_, rfl, ?_, ((hb.setCell (by simp) _).setCell (by simp) _).setCell (by simp) _⟩
  exact (((hown'.setCell (by simp) _).setCell (by simp) _).setCell (by simp) _).down (by omega)
end L
end Go.Proofs.Ytbmpjglplmnlnaa
