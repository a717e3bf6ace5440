/- Contract of dimacs.number. -/
import Derived.Test.YtddmanphhfjngaaDoorK
import Derived.Test.YtddmanphhfjngaaDoorPB
import Derived.Test.YtddmanphhfjngaaDoorShelf
namespace Go.Proofs.YtddmanphhfjngaaDoor
open Go.RowKit PA
namespace L
open K

theorem data_eq {a b : ByteArray} (h : a.data.toList = b.data.toList) : a = b := by
  cases a; cases b; simp only [ByteArray.mk.injEq] at h ⊢; exact Array.toList_inj.1 h
theorem byte_at (D : ByteArray) (k : Nat) (h : k < D.size) : D[k] = D.data.toList.getD k 0 := by
  rw [List.getD_eq_getElem?_getD, Lib.data_getElem? D k h]; rfl
theorem ret_nb {n m : Int} {a b : Bool} (h : (n, a) = (m, b)) : Ending.returned (.tuple #[.int .i64 n, .bool a]) = .returned (.tuple #[.int .i64 m, .bool b]) := by cases h; rfl

theorem head_getD {l : List UInt8} (h : 0 < l.length) : l.head? = some (l.getD 0 0) := by
  cases l with
  | nil => simp at h
  | cons a t => rfl
theorem num_step (D : List UInt8) (k : Nat) (hk : k < D.length) (_ : digB (D.getD k 0) = true) : Hid (clampF 1048577 0 (D.take (k + 1)) = min (10 * clampF 1048577 0 (D.take k) + (((D.getD k 0).toNat : Int) - 48)) 1048577) := by
  show _ = _
  rw [take_snoc hk, clamp_snoc]

set_option maxHeartbeats 2000000 in
theorem number_any (s : ByteArray) (w : World) (hs : s.size ≤ 9223372036854775807) :
    Calls Tryd.prog 57 #[.string s] w fun e w' => e = .returned (.tuple #[.int .i64 (numM 1048577 s.data.toList).1, .bool (numM 1048577 s.data.toList).2]) ∧ w = w' := by
  obtain ⟨n, hn⟩ : ∃ n, Lib.hasPrefix s.data.toList [45] = n := ⟨_, rfl⟩
  obtain ⟨D, hD⟩ : ∃ D : ByteArray, (⟨(Lib.trimPrefix s.data.toList [45]).toArray⟩ : ByteArray) = D := ⟨_, rfl⟩
  have hDl : D.data.toList = Lib.trimPrefix s.data.toList [45] := by rw [← hD]
  have hDs : D.size ≤ s.size := by
    rw [Lib.size_eq, Lib.size_eq, hDl]; unfold Lib.trimPrefix; split <;> simp
  have hc := Tryd.strings_CutPrefix s ⟨#[45]⟩ w
  rw [show (⟨#[45]⟩ : ByteArray).data.toList = [45] from rfl, hD, hn] at hc
  obtain ⟨x, hx⟩ : ∃ x, numM 1048577 s.data.toList = x := ⟨_, rfl⟩
  rw [hx]
  have HX := Lib.hid hx
  have HN := Lib.hid hn
  have HDL := Lib.hid hDl
  have HLEN : Hid (D.size = D.data.toList.length) := Lib.size_eq D
  clear hD hn hDl hx
  have bad : Hid ((formB s.data.toList D.data.toList = false ∨ D.data.toList.all digB = false) → ((0 : Int), false) = (x.1, x.2)) := fun h => by
    rw [← HX.out]; exact (num_false (by rw [← HDL.out]; exact h)).symm
  go_enter Tryd.func57, Tryd.ntmps57
  go_wp2_with fail
  refine hc.mono ?_
  rintro e w1 ⟨rfl, rfl⟩
  clear hc
  by_cases hz : D.size = 0
  · have h1 : D.data.toList = [] := List.eq_nil_of_length_eq_zero (by rw [← HLEN.out]; exact hz)
    have B1 : Hid (((0 : Int), false) = (x.1, x.2)) := bad.out (.inl (by rw [h1]; rfl))
    have h2 : D.toList = [] := by rw [ByteArray.toList_eq]; exact h1
    have h3 : D.toList.isEmpty = true := by rw [h2]; rfl
    clear h1
    go_wp2
    go_ret2
    exact ⟨ret_nb B1.out, rfl⟩
  have hz0 : 0 < D.size := by omega
  have hne : ¬ D.toList = [] := by rw [ByteArray.toList_eq]; intro h; have := HLEN.out; rw [h, List.length_nil] at this; omega
  have hie : D.toList.isEmpty = false := by simpa using hne
  have h0d : D[0] = D.data.toList.getD 0 0 := byte_at D 0 hz0
  have hh : D.data.toList.head? = some (D.data.toList.getD 0 0) := head_getD (by rw [← HLEN.out]; exact hz0)
  have hdn : decide (D.data.toList = []) = false := by
    rw [decide_eq_false_iff_not]; intro h; have := HLEN.out; rw [h, List.length_nil] at this; omega
  have HH := Lib.hid hh
  have HDN := Lib.hid hdn
  have H0 := Lib.hid h0d
  clear hh hdn h0d
  by_cases h48 : ((D[0].toNat : Int)) = 48
  · have e48 : Hid (D.data.toList.getD 0 0 = 48) := by
      have h : D[0].toNat = 48 := by omega
      have h' := H0.out
      rw [h'] at h
      exact UInt8.toNat_inj.1 h
    by_cases hw : s.toList = [48]
    · have hform : Hid (formB s.data.toList D.data.toList = true) := Lib.hid (by
        unfold formB; rw [HDN.out, HH.out, ← ByteArray.toList_eq s, hw]; simp)
      have good : Hid (D.data.toList.all digB = true → (if n then - clampF 1048577 0 D.data.toList else clampF 1048577 0 D.data.toList, true) = (x.1, x.2)) := fun h => by
        rw [← HX.out]; exact (num_true (HDL.out).symm HN.out hform.out h).symm
      have hw1 : (s.toList == [48]) = true := by simpa using hw
      have hw2 : (!s.toList == [48]) = false := by simpa using hw
      have HWW := Lib.hid hw
      clear hw
      go_wp2
      go_loop [6, 26] (fun a i => ∃ k : Nat, k ≤ D.size ∧ i = .int .i64 k ∧ a = .int .i64 (clampF 1048577 0 (D.data.toList.take k)) ∧ ∀ j, j < k → digB (D.data.toList.getD j 0) = true) (fun _ i => D.size - (intOf i).toNat)
      case atStart => exact ⟨0, Nat.zero_le _, rfl, rfl, fun j hj => absurd hj (Nat.not_lt_zero _)⟩
      case round =>
        obtain ⟨k, hk, rfl, rfl, hdig⟩ := hrel
        have HG := Lib.hid hdig
        have hcb := clamp_bound (M := 1048577) (x := 0) (by omega) (by omega) (by omega) (take_dig (by rw [← HLEN.out]; exact hk) hdig)
        clear hdig
        by_cases hlt : k < D.size
        · have hltl : k < D.data.toList.length := by rw [← HLEN.out]; exact hlt
          have hbk := byte_at D k hlt
          have HBK := Lib.hid hbk
          clear hbk
          have hstep := num_step D.data.toList k hltl
          have HST := Lib.hid hstep
          clear hstep
          have hnx : ¬ digB (D.data.toList.getD k 0) = true → D.data.toList.all digB = false := fun h => all_not hltl (by simpa using h)
          have HNX := Lib.hid hnx
          clear hnx
          generalize hC : clampF 1048577 0 (D.data.toList.take k) = C at *
          have HC := Lib.hid hC
          clear hC
          by_cases hd : 48 ≤ (D[k].toNat : Int) ∧ (D[k].toNat : Int) ≤ 57
          · have hdb : Hid (digB (D.data.toList.getD k 0) = true) := Lib.hid ((digB_iff _).2 (by rw [← HBK.out]; exact hd))
            obtain ⟨hd1, hd2⟩ := hd
            go_wp2
            go_round
            case rel =>
              refine ⟨k + 1, by omega, by go_num, ?_, fun j hj => ?_⟩
              · rw [HST.out hdb.out, ← HBK.out]
              · by_cases hjk : j = k
                · rw [hjk]; exact hdb.out
                · exact HG.out j (by omega)
            case measure => simp [intOf]; omega
          · have hdb : Hid (¬ digB (D.data.toList.getD k 0) = true) := Lib.hid (by rw [digB_iff, ← HBK.out]; exact hd)
            have B1 : Hid (((0 : Int), false) = (x.1, x.2)) := bad.out (.inr (HNX.out hdb.out))
            by_cases hd1 : (D[k].toNat : Int) < 48
            · go_wp2
              go_ret2
              exact ⟨ret_nb B1.out, rfl⟩
            · have hd2 : 57 < (D[k].toNat : Int) := by omega
              go_wp2
              go_ret2
              exact ⟨ret_nb B1.out, rfl⟩
        · obtain rfl : k = D.size := by omega
          have e : Hid (D.data.toList.take D.size = D.data.toList) := Lib.hid (List.take_of_length_le (by rw [← HLEN.out]; exact Nat.le_refl _))
          have ha := good.out (all_at (fun j hj => HG.out j (by rw [HLEN.out]; exact hj)))
          rw [e.out]
          rw [e.out] at hcb
          have HA := Lib.hid ha
          clear ha
          generalize hC : clampF 1048577 0 D.data.toList = C at *
          cases n with
          | true =>
            go_wp2
            go_ret2
            exact ⟨ret_nb HA.out, rfl⟩
          | false =>
            go_wp2
            go_ret2
            exact ⟨ret_nb HA.out, rfl⟩
    · have B1 : Hid (((0 : Int), false) = (x.1, x.2)) := bad.out (.inl (by
        unfold formB; rw [HDN.out, HH.out, e48.out]
        have : decide (s.data.toList = [48]) = false := by rw [decide_eq_false_iff_not, ← ByteArray.toList_eq]; exact hw
        rw [this]; rfl))
      have hw' : (s.toList == [48]) = false := by simpa using hw
      have hw'' : (!s.toList == [48]) = true := by simpa using hw
      go_wp2
      go_ret2
      exact ⟨ret_nb B1.out, rfl⟩
  · have hform : Hid (formB s.data.toList D.data.toList = true) := Lib.hid (by
      unfold formB; rw [HDN.out, HH.out]
      have h : D.data.toList.getD 0 0 ≠ 48 := by
        rw [← H0.out]; intro h; exact h48 (by rw [h]; rfl)
      have : (some (D.data.toList.getD 0 0) == some (48 : UInt8)) = false := by simpa using h
      rw [this]; rfl)
    have good : Hid (D.data.toList.all digB = true → (if n then - clampF 1048577 0 D.data.toList else clampF 1048577 0 D.data.toList, true) = (x.1, x.2)) := fun h => by
      rw [← HX.out]; exact (num_true (HDL.out).symm HN.out hform.out h).symm
    skip
    go_wp2
    go_loop [6, 26] (fun a i => ∃ k : Nat, k ≤ D.size ∧ i = .int .i64 k ∧ a = .int .i64 (clampF 1048577 0 (D.data.toList.take k)) ∧ ∀ j, j < k → digB (D.data.toList.getD j 0) = true) (fun _ i => D.size - (intOf i).toNat)
    case atStart => exact ⟨0, Nat.zero_le _, rfl, rfl, fun j hj => absurd hj (Nat.not_lt_zero _)⟩
    case round =>
      obtain ⟨k, hk, rfl, rfl, hdig⟩ := hrel
      have HG := Lib.hid hdig
      have hcb := clamp_bound (M := 1048577) (x := 0) (by omega) (by omega) (by omega) (take_dig (by rw [← HLEN.out]; exact hk) hdig)
      clear hdig
      by_cases hlt : k < D.size
      · have hltl : k < D.data.toList.length := by rw [← HLEN.out]; exact hlt
        have hbk := byte_at D k hlt
        have HBK := Lib.hid hbk
        clear hbk
        have hstep := num_step D.data.toList k hltl
        have HST := Lib.hid hstep
        clear hstep
        have hnx : ¬ digB (D.data.toList.getD k 0) = true → D.data.toList.all digB = false := fun h => all_not hltl (by simpa using h)
        have HNX := Lib.hid hnx
        clear hnx
        generalize hC : clampF 1048577 0 (D.data.toList.take k) = C at *
        have HC := Lib.hid hC
        clear hC
        by_cases hd : 48 ≤ (D[k].toNat : Int) ∧ (D[k].toNat : Int) ≤ 57
        · have hdb : Hid (digB (D.data.toList.getD k 0) = true) := Lib.hid ((digB_iff _).2 (by rw [← HBK.out]; exact hd))
          obtain ⟨hd1, hd2⟩ := hd
          go_wp2
          go_round
          case rel =>
            refine ⟨k + 1, by omega, by go_num, ?_, fun j hj => ?_⟩
            · rw [HST.out hdb.out, ← HBK.out]
            · by_cases hjk : j = k
              · rw [hjk]; exact hdb.out
              · exact HG.out j (by omega)
          case measure => simp [intOf]; omega
        · have hdb : Hid (¬ digB (D.data.toList.getD k 0) = true) := Lib.hid (by rw [digB_iff, ← HBK.out]; exact hd)
          have B1 : Hid (((0 : Int), false) = (x.1, x.2)) := bad.out (.inr (HNX.out hdb.out))
          by_cases hd1 : (D[k].toNat : Int) < 48
          · go_wp2
            go_ret2
            exact ⟨ret_nb B1.out, rfl⟩
          · have hd2 : 57 < (D[k].toNat : Int) := by omega
            go_wp2
            go_ret2
            exact ⟨ret_nb B1.out, rfl⟩
      · obtain rfl : k = D.size := by omega
        have e : Hid (D.data.toList.take D.size = D.data.toList) := Lib.hid (List.take_of_length_le (by rw [← HLEN.out]; exact Nat.le_refl _))
        have ha := good.out (all_at (fun j hj => HG.out j (by rw [HLEN.out]; exact hj)))
        rw [e.out]
        rw [e.out] at hcb
        have HA := Lib.hid ha
        clear ha
        generalize hC : clampF 1048577 0 D.data.toList = C at *
        cases n with
        | true =>
          go_wp2
          go_ret2
          exact ⟨ret_nb HA.out, rfl⟩
        | false =>
          go_wp2
          go_ret2
          exact ⟨ret_nb HA.out, rfl⟩
end L
end Go.Proofs.YtddmanphhfjngaaDoor
