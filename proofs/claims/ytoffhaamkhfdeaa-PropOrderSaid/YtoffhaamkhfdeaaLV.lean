/- Contracts of the laws' helpers: assumed, has. -/
import Derived.Test.YtoffhaamkhfdeaaLU
import Derived.Test.YtoffhaamkhfdeaaYB
namespace Go.Proofs.Ytoffhaamkhfdeaa
open Go.RowKit Go.Conc
namespace L
open K

set_option maxHeartbeats 2000000 in
theorem assumed_any (V : Nat) (hV : 1 ≤ V ∧ V ≤ 12) (pf : Option Addr) (nf cf : Nat) (v : Value) (l : List Int) (w : World) (h : IntsW .i8 w v l) :
    Calls Try.prog 21 #[.agg #[.int .i64 (V : Int), .slice pf nf cf], v] w fun e w' => ∃ v', e = .returned v' ∧ OwnI w' w.heap.size v' (fitC V (l.take 12)) ∧ Below w.heap.size w w' := by
  obtain ⟨p, c, rfl, hg, hm, hwf, hcell⟩ := h
  have hm' : c ≤ 9223372036854775807 := hm
  obtain ⟨i3, hi3, hz30, hz31, hz32⟩ := info_parts info3
  have HWF := Lib.hid hwf
  have HCELL := Lib.hid hcell
  have hgl := hg.1
  clear hwf hcell hm hg
  go_enter Try.func21, Try.ntmps21
  go_wp2
  go_loopw [5, 6] (fun o i wr => ∃ k : Nat, k ≤ l.length ∧ k ≤ 12 ∧ i = .int .i64 k ∧ OwnI wr (w.heap.size + 1) o (fitC V (l.take k)) ∧ Below w.heap.size w wr ∧ w.heap.size + 1 ≤ wr.heap.size ∧ wr.cell? ⟨w.heap.size, 0, none⟩ = some (.int .i64 (V : Int))) (fun _ i _ => 12 - (intOf i).toNat)
  case atStart => exact ⟨0, Nat.zero_le _, Nat.zero_le _, rfl, by simpa [fitC] using OwnI.nil _ _, (Below.refl _ _).alloc (Nat.le_refl _) _, by simp, by simp⟩
  case round =>
    obtain ⟨k, hk, hk12, rfl, hown, hb, hsz, hbox⟩ := hrel
    by_cases hlt : k < l.length
    · have hlt' : (k : Int) < (l.length : Int) := by omega
      by_cases h12 : k < 12
      · have h12' : (k : Int) < 12 := by omega
        obtain ⟨b1, o1, rfl, e1⟩ := HCELL.out (by omega)
        have d1 := (hb.cell (p := ⟨b1, o1 + k, none⟩) (World.block_lt_of_cell? _ _ (e1 k hlt))).trans (e1 k hlt)
        have hzwf := HWF.out _ (mem_getD hlt)
        have HSK := Lib.hid (fun h => fitC_skip (V := V) hlt h)
        have HPU := Lib.hid (fun h => fitC_push (V := V) hlt h)
        have hcl : (fitC V (l.take k)).length ≤ 12 := Nat.le_trans fitC_len (by simp; omega)
        obtain ⟨acc, eacc⟩ : ∃ acc, fitC V (l.take k) = acc := ⟨_, rfl⟩
        rw [eacc] at hown hcl HSK HPU
        obtain ⟨pc, nc, ecs⟩ := owns_shape hown
        have HCI : Hid (∀ W : World, W.heap = wr.heap → OwnI W (w.heap.size + 1) (.slice pc acc.length nc) acc) := Lib.hid (fun W hW => by rw [← ecs]; exact owns_heap hown hW)
        subst ecs
        clear e1 hown eacc
        generalize l.getD k 0 = z at *
        have hzb : -128 ≤ z ∧ z ≤ 127 := by simpa [Lit.wf, IntKind.min, IntKind.max, IntKind.signed, IntKind.bits] using hzwf
        obtain ⟨hzb1, hzb2⟩ := hzb
        have hdv : ((V : Int) + 1 == 0) = false := beq_eq_false_iff_ne.2 (by omega)
        have hkl : ((acc.length : Nat) : Int) ≤ 12 := by omega
        clear hzwf
        by_cases hz0 : z.tmod ((V : Int) + 1) = 0
        · have hz1 : (z.tmod ((V : Int) + 1) != 0) = false := by simp [hz0]
          have HZ := Lib.hid hz0
          clear hz0
          go_wp2
          go_quiet (fail)
          go_wp2
          go_roundw
          case rel => exact ⟨k + 1, by omega, by omega, by go_num, by rw [HSK.out HZ.out]; exact HCI.out _ rfl, below_drewN hb _, hsz, hbox⟩
          case measure => simp [intOf]; omega
        · have hz1 : (z.tmod ((V : Int) + 1) != 0) = true := by simp [hz0]
          have HZ := Lib.hid hz0
          clear hz0
          go_wp2
          go_quiet (fail)
          have HB3 : Hid (Below w.heap.size w (wr.drewN nq)) := Lib.hid (below_drewN hb _)
          have HC3 := Lib.hid (HCI.out (wr.drewN nq) rfl)
          go_wp2_with (at_builtin; refine wpList_append_own _ rfl _ _ 23 rfl (w.heap.size + 1) 3 i3 (.int .i64 0) 1 8 Try.underlying23 hi3 hz30 hz31 hz32 rfl (by decide) _ _ _ rfl (HC3.out.alloc _) ⟨(wr.drewN nq).heap.size, 0, none⟩ 1 1 [.int .i64 (z.tmod ((V : Int) + 1))] rfl rfl ?c1 ?c2 ?c3 ?c4 ?c5 ?_)
          case c1 =>
            intro j u hj
            match j, hj with
            | 0, hj => simp at hj; subst hj; exact cell_new (by simp) rfl
          case c2 => intro u hu; simp at hu; subst hu; rfl
          case c3 => unfold maxLen; omega
          case c4 => omega
          case c5 => simp; omega
          intro v' w3 hown' hgrow _
          have hlt2 := fun k hk => (HC3.out.lt k hk).1
          have hb' := (HB3.out.alloc HB3.out.size (.cells #[.int .i64 (z.tmod ((V : Int) + 1))] 3)).grown hgrow (by have := HB3.out.size; simp at this ⊢; omega) (fun k hk => by have := hlt2 k hk; omega)
          have hbx := (hgrow.cell_far ⟨w.heap.size, 0, none⟩ (by simp; omega) (fun e => absurd (hlt2 _ e.symm) (Nat.not_succ_le_self _))).trans (((Below.refl _ (wr.drewN nq)).alloc (Nat.le_refl _) (.cells #[.int .i64 (z.tmod ((V : Int) + 1))] 3)).cell (p := ⟨w.heap.size, 0, none⟩) (by show w.heap.size < wr.heap.size; omega) |>.trans hbox)
          have hs3 := hgrow.size
          have HB' := Lib.hid hb'
          have HO' := Lib.hid hown'
          have HS3 : Hid (w.heap.size + 1 ≤ w3.heap.size) := Lib.hid (by simp at hs3; omega)
          clear hgrow hb' hown' hlt2 hs3 hb hbox
          go_wp2
          go_roundw
          case rel => exact ⟨k + 1, by omega, by omega, by go_num, by rw [HPU.out HZ.out]; unfold OwnI; simpa using HO'.out, HB'.out, HS3.out, hbx⟩
          case measure => simp [intOf]; omega
      · have h12' : ¬ (k : Int) < 12 := by omega
        have HKE := Lib.hid (show k = 12 by omega)
        have HO := Lib.hid hown
        clear hown
        go_wp2
        go_ret
        exact ⟨_, rfl, owns_base (by have h := HO.out; rw [HKE.out] at h; exact h) (Nat.le_succ _), hb⟩
    · have hlt' : ¬ (k : Int) < (l.length : Int) := by omega
      have HKE : Hid (l.take k = l.take 12) := Lib.hid (by rw [List.take_of_length_le (show l.length ≤ k by omega), List.take_of_length_le (by omega)])
      have HO := Lib.hid hown
      clear hown
      go_wp2
      go_ret
      exact ⟨_, rfl, owns_base (by have h := HO.out; rw [HKE.out] at h; exact h) (Nat.le_succ _), hb⟩

set_option maxHeartbeats 1000000 in
theorem has_any (v : Value) (l : List Int) (x : Int) (w : World) (h : Ints w v l) :
    Calls Try.prog 22 #[v, .int .i64 x] w fun e w' => e = .returned (.bool (decide (x ∈ l))) ∧ w = w' := by
  obtain ⟨p, c, rfl, hg, hm, hc⟩ := h
  obtain ⟨r, er⟩ : ∃ r, decide (x ∈ l) = r := ⟨_, rfl⟩
  rw [er]
  have HR := Lib.hid er
  clear er
  go_enter Try.func22, Try.ntmps22
  go_wp2
  go_loop [5] (fun i => ∃ k : Nat, k ≤ l.length ∧ i = .int .i64 k ∧ ∀ j, j < k → l.getD j 0 ≠ x) (fun i => l.length - (intOf i).toNat)
  case atStart => exact ⟨0, Nat.zero_le _, rfl, fun j hj => absurd hj (Nat.not_lt_zero _)⟩
  case round =>
    obtain ⟨k, hk, rfl, hno⟩ := hrel
    have HE := Lib.hid hno
    clear hno
    by_cases hlt : k < l.length
    · have hlt' : (k : Int) < (l.length : Int) := by omega
      obtain ⟨b1, o1, rfl, e1⟩ := hc (by omega)
      have d1 := e1 k hlt
      clear hc e1
      obtain ⟨y, ey⟩ : ∃ y, l.getD k 0 = y := ⟨_, rfl⟩
      rw [ey] at d1
      by_cases hxy : y = x
      · have e : (y == x) = true := by simp [hxy]
        have HX : Hid (r = true) := Lib.hid (by rw [← HR.out]; exact decide_eq_true (by rw [← hxy, ← ey]; exact mem_getD hlt))
        clear hxy ey
        go_wp2
        go_ret
        exact ⟨by rw [HX.out]; rfl, rfl⟩
      · have e : (y == x) = false := by simp [hxy]
        have HX : Hid (l.getD k 0 ≠ x) := Lib.hid (by rw [ey]; exact hxy)
        clear hxy ey
        go_wp2
        go_round
        case rel =>
          refine ⟨k + 1, by omega, by go_num, fun j hj => ?_⟩
          by_cases e : j = k
          · rw [e]; exact HX.out
          · exact HE.out j (by omega)
        case measure => simp [intOf]; omega
    · have hlt' : ¬ (k : Int) < (l.length : Int) := by omega
      have HX : Hid (r = false) := Lib.hid (by
        rw [← HR.out]
        refine decide_eq_false fun hx => ?_
        obtain ⟨j, hj, e⟩ := U.mem_at hx
        exact HE.out j (by omega) e)
      clear hc
      go_wp2
      go_ret
      exact ⟨by rw [HX.out]; rfl, rfl⟩
end L
end Go.Proofs.Ytoffhaamkhfdeaa
