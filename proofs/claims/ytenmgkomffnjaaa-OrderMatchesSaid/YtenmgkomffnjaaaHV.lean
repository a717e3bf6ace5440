/- The reference's heap: Pop, Copy. -/
import Derived.Test.YtenmgkomffnjaaaHU
import Derived.Deep.AppendLies
import Derived.Laws.AppendOwnNone
namespace Go.Proofs.Ytenmgkomffnjaaa
open Go.RowKit
namespace L
open K HP
set_option maxRecDepth 100000
section
variable {lo hi : Nat} {w : World} {p : Value} {A : List Int} {S : List Bool}

set_option maxHeartbeats 8000000 in
theorem rpop_any (h : RefAt lo hi w p A S) :
    Calls Try.prog 17 #[p] w fun e w' =>
      ((∀ x, x < A.length → S.getD x false = false) ∧ e = .returned (.tuple #[.int .i64 0, .int .i64 6]) ∧ RefAt lo hi w' p A S ∧ Out lo hi w w') ∨
      ∃ n : Nat, Best A (fun x => x < A.length ∧ S.getD x false = true) n ∧ e = .returned (.tuple #[.int .i64 ((n : Int) + 1), .int .i64 0]) ∧ RefAt lo hi w' p A (S.set n false) ∧ Out lo hi w w' := by
  have h' := h
  obtain ⟨g, va, vi, rfl, h⟩ := h
  have hsm := h.small
  have hfa := fun h0 => h.formA h0
  have hfi := fun h0 => h.formI h0
  have hx0 := h.box.cell 0
  have hx1 := h.box.cell 1
  simp only [List.getElem?_toArray, List.getElem?_cons_zero, List.getElem?_cons_succ] at hx0 hx1
  have hgl := h.box.lt
  have hw := h.hi_w
  obtain ⟨pi, ci, rfl⟩ := owns_shape h.ins
  obtain ⟨pa, ca, rfl⟩ := owns_shape h.act
  have HFA := Lib.hid hfa
  have HFI := Lib.hid hfi
  have HX0 := Lib.hid hx0
  have HX1 := Lib.hid hx1
  have HM := Lib.hid h
  have HH := Lib.hid h'
  clear h h' hfa hfi hx0 hx1
  go_enter Try.func17, Try.ntmps17
  go_wp2
  go_loopw [4, 5] (fun bv iv wr => ∃ (k : Nat) (b : Int), k ≤ A.length ∧ iv = .int .i64 k ∧ bv = .int .i64 b ∧ BestTo A S k b ∧ Below w.heap.size w wr) (fun _ iv _ => A.length - (intOf iv).toNat)
  case atStart => exact ⟨0, -1, Nat.zero_le _, rfl, rfl, bestTo_zero, Below.refl _ _⟩
  case round =>
    obtain ⟨k, b, hk, rfl, rfl, hbt, hb⟩ := hrel
    have x0 := (hb.cell (p := ⟨g, 0, none⟩) hgl).trans HX0.out
    have x1 := (hb.cell (p := ⟨g, 1, none⟩) hgl).trans HX1.out
    by_cases hlt : k < A.length
    · obtain ⟨gi, c, hv, h1, h2, hci⟩ := HFI.out (by omega)
      simp only [Value.slice.injEq] at hv
      obtain ⟨rfl, _, rfl⟩ := hv
      obtain ⟨ga, c', hv, h3, h4, hca⟩ := HFA.out (by omega)
      simp only [Value.slice.injEq] at hv
      obtain ⟨rfl, _, rfl⟩ := hv
      have i1 := (hb.cell (p := ⟨gi, k, none⟩) (World.block_lt_of_cell? _ _ (hci k hlt))).trans (hci k hlt)
      have a1 := (hb.cell (p := ⟨ga, k, none⟩) (World.block_lt_of_cell? _ _ (hca k hlt))).trans (hca k hlt)
      have HB := Lib.hid hb
      cases hq : S.getD k false with
      | false =>
        have HBT := Lib.hid (hbt.skip hq)
        rw [hq] at i1
        clear hci hca hb hbt hq
        go_wp2
        go_quiet (fail)
        go_wp2
        go_roundw
        case rel => exact ⟨k + 1, b, by omega, by go_num, rfl, HBT.out, below_drewN HB.out _⟩
        case measure => simp [intOf]; omega
      | true =>
        rw [hq] at i1
        rcases hbt.form with rfl | ⟨n, rfl, hn⟩
        · have HBT := Lib.hid (hbt.first hq)
          clear hci hca hb hbt hq
          go_wp2
          go_quiet (fail)
          go_wp2
          go_roundw
          case rel => exact ⟨k + 1, _, by omega, by go_num, rfl, HBT.out, below_drewN HB.out _⟩
          case measure => simp [intOf]; omega
        · have a2 := (hb.cell (p := ⟨ga, n, none⟩) (World.block_lt_of_cell? _ _ (hca n (by omega)))).trans (hca n (by omega))
          have hnn : decide ((n : Int) < 0) = false := decide_eq_false (by omega)
          by_cases hc : A.getD n 0 < A.getD k 0
          · have HBT := Lib.hid (hbt.more hq hc)
            generalize A.getD n 0 = an at *
            generalize A.getD k 0 = ak at *
            have hcc : decide (ak > an) = true := decide_eq_true hc
            clear hci hca hb hbt hq
            go_wp2
            go_quiet (fail)
            go_wp2
            go_roundw
            case rel => exact ⟨k + 1, _, by omega, by go_num, rfl, HBT.out, below_drewN HB.out _⟩
            case measure => simp [intOf]; omega
          · have HBT := Lib.hid (hbt.less hc)
            generalize A.getD n 0 = an at *
            generalize A.getD k 0 = ak at *
            have hcc : decide (ak > an) = false := decide_eq_false hc
            clear hci hca hb hbt hq
            go_wp2
            go_quiet (fail)
            go_wp2
            go_roundw
            case rel => exact ⟨k + 1, _, by omega, by go_num, rfl, HBT.out, below_drewN HB.out _⟩
            case measure => simp [intOf]; omega
    · obtain rfl : k = A.length := by omega
      rcases hbt with ⟨rfl, hnone⟩ | ⟨n, rfl, hn, hbest⟩
      · have HN := Lib.hid hnone
        have HB := Lib.hid hb
        clear hnone hb
        go_wp2
        go_ret2
        exact .inl ⟨HN.out, rfl, HH.out.grow HB.out, Out.of_below HB.out (Nat.le_refl _)⟩
      · obtain ⟨gi, c, hv, h1, h2, hci⟩ := HFI.out (by omega)
        simp only [Value.slice.injEq] at hv
        obtain ⟨rfl, _, rfl⟩ := hv
        have i1 := (hb.cell (p := ⟨gi, n, none⟩) (World.block_lt_of_cell? _ _ (hci n hn))).trans (hci n hn)
        have hm := HM.out.of_blocks (w' := wr) (Nat.le_trans hw hb.size) fun j _ hj => hb.block j (by omega)
        have f1 := hm.ins.frozenAt n
        have HST := Lib.hid (show RefAt lo hi (wr.setCell ⟨gi, n, none⟩ (.bool false)) (.pointer (some ⟨g, 0, none⟩)) A (S.set n false) from ⟨g, _, _, rfl, hm.storeI n false⟩)
        have HO := Lib.hid ((Out.of_below hb (Nat.le_refl _) : Out lo hi w wr).setCell (p := ⟨gi, n, none⟩) h1 h2 (.bool false))
        have HBE := Lib.hid hbest
        have hnn : ¬ (n : Int) < 0 := by omega
        have hn20 : n ≤ 1048576 := by omega
        clear hm hb hci hbest
        generalize S.getD n false = q at *
        go_wp2
        go_ret2
        exact .inr ⟨n, HBE.out, rfl, HST.out, HO.out⟩
end
end L
end Go.Proofs.Ytenmgkomffnjaaa
