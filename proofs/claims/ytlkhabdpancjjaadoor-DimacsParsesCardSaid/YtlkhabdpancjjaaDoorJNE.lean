/- Contract of the reference's number. -/
import Derived.Test.YtlkhabdpancjjaaDoorQ03
import Derived.Deep.Cut
namespace Go.Proofs.YtlkhabdpancjjaaDoor
open Go.RowKit PA
namespace L
open K

theorem rnum_step (D : List UInt8) (k : Nat) (hk : k < D.length) (_ : digB (D.getD k 0) = true) : Hid (clampF 1099511627776 0 (D.take (k + 1)) = min (10 * clampF 1099511627776 0 (D.take k) + (((D.getD k 0).toNat : Int) - 48)) 1099511627776) := by
  show _ = _
  rw [take_snoc hk, clamp_snoc]

set_option maxHeartbeats 4000000 in
theorem rnumber_any (s : ByteArray) (w : World) (hs : s.size ≤ 9223372036854775807) :
    Calls Tryd.prog 29 #[.string s] w fun e w' => e = .returned (.tuple #[.int .i64 (numM 1099511627776 s.data.toList).1, .bool (numM 1099511627776 s.data.toList).2]) ∧ w = w' := by
  obtain ⟨n, hn⟩ : ∃ n, Lib.hasPrefix s.data.toList [45] = n := ⟨_, rfl⟩
  obtain ⟨D, hD⟩ : ∃ D : ByteArray, (⟨(Lib.trimPrefix s.data.toList [45]).toArray⟩ : ByteArray) = D := ⟨_, rfl⟩
  have hDl : D.data.toList = Lib.trimPrefix s.data.toList [45] := by rw [← hD]
  have hDs : D.size ≤ s.size := by
    rw [Lib.size_eq, Lib.size_eq, hDl]; unfold Lib.trimPrefix; split <;> simp
  obtain ⟨x, hx⟩ : ∃ x, numM 1099511627776 s.data.toList = x := ⟨_, rfl⟩
  rw [hx]
  have HX := Lib.hid hx
  have HN := Lib.hid hn
  have HDL := Lib.hid hDl
  have HLEN : Hid (D.size = D.data.toList.length) := Lib.size_eq D
  have hds : (D.toList == s.toList) = !n := by
    rw [ByteArray.toList_eq, ByteArray.toList_eq, hDl]
    cases n with
    | true =>
      rw [Bool.not_true, beq_eq_false_iff_ne]
      intro h
      have := congrArg List.length h
      unfold Lib.trimPrefix at this
      rw [if_pos hn] at this
      have h1 : 0 < s.data.toList.length := by
        cases hl : s.data.toList with
        | nil => rw [hl] at hn; exact absurd hn (by decide)
        | cons a r => simp
      rw [List.length_drop] at this
      simp only [List.length_cons, List.length_nil] at this
      omega
    | false =>
      unfold Lib.trimPrefix
      rw [if_neg (by rw [hn]; decide)]
      simp
  have HDS := Lib.hid hds
  clear hD hn hDl hx hds
  have bad : Hid ((formB s.data.toList D.data.toList = false ∨ D.data.toList.all digB = false) → ((0 : Int), false) = (x.1, x.2)) := fun h => by
    rw [← HX.out]; exact (num_false (by rw [← HDL.out]; exact h)).symm
  go_enter Tryd.func29, Tryd.ntmps29
  go_upto_region 1 with (fail)
  iterate 11 (first | go_step | go_values | go_back)
  go_cut [4] from 8 (fun s4 wc => s4 = .string D ∧ wc = w)
  case first =>
    have hss := Lib.size_eq s
    by_cases h0 : s.size = 0
    · have hl : s.data.toList = [] := List.eq_nil_of_length_eq_zero (by omega)
      have hDe : D = s := data_eq (by rw [HDL.out, hl]; rfl)
      have HDE := Lib.hid hDe
      clear hDe hl hss
      go_wp2
      go_meet
      case rel => exact ⟨by rw [HDE.out], rfl⟩
    · have hp0 : 0 < s.size := by omega
      have hb := byte_at s 0 hp0
      have hcons : ∃ a r, s.data.toList = a :: r := by
        cases hl : s.data.toList with
        | nil => rw [hl, List.length_nil] at hss; omega
        | cons a r => exact ⟨a, r, rfl⟩
      obtain ⟨a, r, hl⟩ := hcons
      rw [hl] at hb
      have hb' : s[0] = a := hb
      by_cases h45 : ((s[0].toNat : Int) == 45) = true
      · have ha : a = 45 := by rw [hb', beq_iff_eq] at h45; exact UInt8.toNat_inj.1 (by show a.toNat = 45; omega)
        have hDe : s.extract 1 s.size = D := by
          apply data_eq
          rw [← ByteArray.toList_eq, Lib.extract_toList, HDL.out, hl, ha, hss, hl]
          simp [Lib.trimPrefix, Lib.hasPrefix]
        have HDE := Lib.hid hDe
        clear hDe hl hss hb hb' ha
        go_wp2
        go_meet
        case rel => exact ⟨by rw [← HDE.out], rfl⟩
      · have h45' : ((s[0].toNat : Int) == 45) = false := by simpa using h45
        have ha : (45 == a) = false := by
          rw [beq_eq_false_iff_ne]; rintro rfl
          apply h45; rw [hb']; rfl
        have hDe : D = s := data_eq (by rw [HDL.out, hl]; simp [Lib.trimPrefix, Lib.hasPrefix, List.isPrefixOf, ha])
        have HDE := Lib.hid hDe
        clear hDe hl hss hb hb' ha h45
        go_wp2
        go_meet
        case rel => exact ⟨by rw [HDE.out], rfl⟩
  case rest =>
  obtain ⟨rfl, rfl⟩ := hcut
  by_cases hz : D.size = 0
  · have h1 : D.data.toList = [] := List.eq_nil_of_length_eq_zero (by rw [← HLEN.out]; exact hz)
    have B1 : Hid (((0 : Int), false) = (x.1, x.2)) := bad.out (.inl (by rw [h1]; rfl))
    have h2 : D.toList = [] := by rw [ByteArray.toList_eq]; exact h1
    have h3 : D.toList.isEmpty = true := by rw [h2]; rfl
    clear h1
    go_wp2
    go_ret2
    exact ⟨ret_nb B1.out, rfl⟩
  have hz0 : 0 < D.size := by omega
  have hne : ¬ D.toList = [] := by rw [ByteArray.toList_eq]; intro h; have := HLEN.out; rw [h, List.length_nil] at this; omega
  have hie : D.toList.isEmpty = false := by simpa using hne
  have h0d : D[0] = D.data.toList.getD 0 0 := byte_at D 0 hz0
  have hh : D.data.toList.head? = some (D.data.toList.getD 0 0) := head_getD (by rw [← HLEN.out]; exact hz0)
  have hdn : decide (D.data.toList = []) = false := by
    rw [decide_eq_false_iff_not]; intro h; have := HLEN.out; rw [h, List.length_nil] at this; omega
  have HH := Lib.hid hh
  have HDN := Lib.hid hdn
  have H0 := Lib.hid h0d
  clear hh hdn h0d
  by_cases h48 : ((D[0].toNat : Int)) = 48
  · have e48 : Hid (D.data.toList.getD 0 0 = 48) := by
      have h : D[0].toNat = 48 := by omega
      have h' := H0.out
      rw [h'] at h
      exact UInt8.toNat_inj.1 h
    by_cases hw : s.toList = [48]
    · have hform : Hid (formB s.data.toList D.data.toList = true) := Lib.hid (by
        unfold formB; rw [HDN.out, HH.out, ← ByteArray.toList_eq s, hw]; simp)
      have good : Hid (D.data.toList.all digB = true → (if n then - clampF 1099511627776 0 D.data.toList else clampF 1099511627776 0 D.data.toList, true) = (x.1, x.2)) := fun h => by
        rw [← HX.out]; exact (num_true (HDL.out).symm HN.out hform.out h).symm
      have hw1 : (s.toList == [48]) = true := by simpa using hw
      have hw2 : (!s.toList == [48]) = false := by simpa using hw
      have HWW := Lib.hid hw
      clear hw
      go_wp2
      go_loop [5, 6] (fun a i => ∃ k : Nat, k ≤ D.size ∧ i = .int .i64 k ∧ a = .int .i64 (clampF 1099511627776 0 (D.data.toList.take k)) ∧ ∀ j, j < k → digB (D.data.toList.getD j 0) = true) (fun _ i => D.size - (intOf i).toNat)
      case atStart => exact ⟨0, Nat.zero_le _, rfl, rfl, fun j hj => absurd hj (Nat.not_lt_zero _)⟩
      case round =>
        obtain ⟨k, hk, rfl, rfl, hdig⟩ := hrel
        have HG := Lib.hid hdig
        have hcb := clamp_bound (M := 1099511627776) (x := 0) (by omega) (by omega) (by omega) (take_dig (by rw [← HLEN.out]; exact hk) hdig)
        clear hdig
        by_cases hlt : k < D.size
        · have hltl : k < D.data.toList.length := by rw [← HLEN.out]; exact hlt
          have hbk := byte_at D k hlt
          have HBK := Lib.hid hbk
          clear hbk
          have hstep := rnum_step D.data.toList k hltl
          have HST := Lib.hid hstep
          clear hstep
          have hnx : ¬ digB (D.data.toList.getD k 0) = true → D.data.toList.all digB = false := fun h => all_not hltl (by simpa using h)
          have HNX := Lib.hid hnx
          clear hnx
          generalize hC : clampF 1099511627776 0 (D.data.toList.take k) = C at *
          have HC := Lib.hid hC
          clear hC
          by_cases hd : 48 ≤ (D[k].toNat : Int) ∧ (D[k].toNat : Int) ≤ 57
          · have hdb : Hid (digB (D.data.toList.getD k 0) = true) := Lib.hid ((digB_iff _).2 (by rw [← HBK.out]; exact hd))
            obtain ⟨hd1, hd2⟩ := hd
            go_wp2
            go_round
            case rel =>
              refine ⟨k + 1, by omega, by go_num, ?_, fun j hj => ?_⟩
              · rw [HST.out hdb.out, ← HBK.out]
              · by_cases hjk : j = k
                · rw [hjk]; exact hdb.out
                · exact HG.out j (by omega)
            case measure => simp [intOf]; omega
          · have hdb : Hid (¬ digB (D.data.toList.getD k 0) = true) := Lib.hid (by rw [digB_iff, ← HBK.out]; exact hd)
            have B1 : Hid (((0 : Int), false) = (x.1, x.2)) := bad.out (.inr (HNX.out hdb.out))
            by_cases hd1 : (D[k].toNat : Int) < 48
            · go_wp2
              go_ret2
              exact ⟨ret_nb B1.out, rfl⟩
            · have hd2 : 57 < (D[k].toNat : Int) := by omega
              go_wp2
              go_ret2
              exact ⟨ret_nb B1.out, rfl⟩
        · obtain rfl : k = D.size := by omega
          have e : Hid (D.data.toList.take D.size = D.data.toList) := Lib.hid (List.take_of_length_le (by rw [← HLEN.out]; exact Nat.le_refl _))
          have ha := good.out (all_at (fun j hj => HG.out j (by rw [HLEN.out]; exact hj)))
          rw [e.out]
          rw [e.out] at hcb
          have HA := Lib.hid ha
          clear ha
          generalize hC : clampF 1099511627776 0 D.data.toList = C at *
          cases n with
          | true =>
            have q := HDS.out
            have q' : (!D.toList == s.toList) = true := by rw [q]; rfl
            go_wp2
            go_ret2
            exact ⟨ret_nb HA.out, rfl⟩
          | false =>
            have q := HDS.out
            have q' : (!D.toList == s.toList) = false := by rw [q]; rfl
            go_wp2
            go_ret2
            exact ⟨ret_nb HA.out, rfl⟩
    · have B1 : Hid (((0 : Int), false) = (x.1, x.2)) := bad.out (.inl (by
        unfold formB; rw [HDN.out, HH.out, e48.out]
        have : decide (s.data.toList = [48]) = false := by rw [decide_eq_false_iff_not, ← ByteArray.toList_eq]; exact hw
        rw [this]; rfl))
      have hw' : (s.toList == [48]) = false := by simpa using hw
      have hw'' : (!s.toList == [48]) = true := by simpa using hw
      go_wp2
      go_ret2
      exact ⟨ret_nb B1.out, rfl⟩
  · have hform : Hid (formB s.data.toList D.data.toList = true) := Lib.hid (by
      unfold formB; rw [HDN.out, HH.out]
      have h : D.data.toList.getD 0 0 ≠ 48 := by
        rw [← H0.out]; intro h; exact h48 (by rw [h]; rfl)
      have : (some (D.data.toList.getD 0 0) == some (48 : UInt8)) = false := by simpa using h
      rw [this]; rfl)
    have good : Hid (D.data.toList.all digB = true → (if n then - clampF 1099511627776 0 D.data.toList else clampF 1099511627776 0 D.data.toList, true) = (x.1, x.2)) := fun h => by
      rw [← HX.out]; exact (num_true (HDL.out).symm HN.out hform.out h).symm
    skip
    go_wp2
    go_loop [5, 6] (fun a i => ∃ k : Nat, k ≤ D.size ∧ i = .int .i64 k ∧ a = .int .i64 (clampF 1099511627776 0 (D.data.toList.take k)) ∧ ∀ j, j < k → digB (D.data.toList.getD j 0) = true) (fun _ i => D.size - (intOf i).toNat)
    case atStart => exact ⟨0, Nat.zero_le _, rfl, rfl, fun j hj => absurd hj (Nat.not_lt_zero _)⟩
    case round =>
      obtain ⟨k, hk, rfl, rfl, hdig⟩ := hrel
      have HG := Lib.hid hdig
      have hcb := clamp_bound (M := 1099511627776) (x := 0) (by omega) (by omega) (by omega) (take_dig (by rw [← HLEN.out]; exact hk) hdig)
      clear hdig
      by_cases hlt : k < D.size
      · have hltl : k < D.data.toList.length := by rw [← HLEN.out]; exact hlt
        have hbk := byte_at D k hlt
        have HBK := Lib.hid hbk
        clear hbk
        have hstep := rnum_step D.data.toList k hltl
        have HST := Lib.hid hstep
        clear hstep
        have hnx : ¬ digB (D.data.toList.getD k 0) = true → D.data.toList.all digB = false := fun h => all_not hltl (by simpa using h)
        have HNX := Lib.hid hnx
        clear hnx
        generalize hC : clampF 1099511627776 0 (D.data.toList.take k) = C at *
        have HC := Lib.hid hC
        clear hC
        by_cases hd : 48 ≤ (D[k].toNat : Int) ∧ (D[k].toNat : Int) ≤ 57
        · have hdb : Hid (digB (D.data.toList.getD k 0) = true) := Lib.hid ((digB_iff _).2 (by rw [← HBK.out]; exact hd))
          obtain ⟨hd1, hd2⟩ := hd
          go_wp2
          go_round
          case rel =>
            refine ⟨k + 1, by omega, by go_num, ?_, fun j hj => ?_⟩
            · rw [HST.out hdb.out, ← HBK.out]
            · by_cases hjk : j = k
              · rw [hjk]; exact hdb.out
              · exact HG.out j (by omega)
          case measure => simp [intOf]; omega
        · have hdb : Hid (¬ digB (D.data.toList.getD k 0) = true) := Lib.hid (by rw [digB_iff, ← HBK.out]; exact hd)
          have B1 : Hid (((0 : Int), false) = (x.1, x.2)) := bad.out (.inr (HNX.out hdb.out))
          by_cases hd1 : (D[k].toNat : Int) < 48
          · go_wp2
            go_ret2
            exact ⟨ret_nb B1.out, rfl⟩
          · have hd2 : 57 < (D[k].toNat : Int) := by omega
            go_wp2
            go_ret2
            exact ⟨ret_nb B1.out, rfl⟩
      · obtain rfl : k = D.size := by omega
        have e : Hid (D.data.toList.take D.size = D.data.toList) := Lib.hid (List.take_of_length_le (by rw [← HLEN.out]; exact Nat.le_refl _))
        have ha := good.out (all_at (fun j hj => HG.out j (by rw [HLEN.out]; exact hj)))
        rw [e.out]
        rw [e.out] at hcb
        have HA := Lib.hid ha
        clear ha
        generalize hC : clampF 1099511627776 0 D.data.toList = C at *
        cases n with
        | true =>
          have q := HDS.out
          have q' : (!D.toList == s.toList) = true := by rw [q]; rfl
          go_wp2
          go_ret2
          exact ⟨ret_nb HA.out, rfl⟩
        | false =>
          have q := HDS.out
          have q' : (!D.toList == s.toList) = false := by rw [q]; rfl
          go_wp2
          go_ret2
          exact ⟨ret_nb HA.out, rfl⟩
end L
end Go.Proofs.YtlkhabdpancjjaaDoor
