/- The walk of the reference's Lines. -/
import Derived.Test.YtlkhabdpancjjaaDoorJRL
import Derived.Test.YtlkhabdpancjjaaDoorQ12
import Derived.Deep.CutRange
namespace Go.Proofs.YtlkhabdpancjjaaDoor
open Go.RowKit PA
namespace L
open K

theorem infoSt : (Tryd.prog.info? 9).map (fun i => (i.zero, i.size, i.bytes)) = some (some (.string ByteArray.empty), 1, 16) := by kernel_rfl
theorem infoSl : (Tryd.prog.info? 35).map (fun i => (i.zero, i.size, i.bytes)) = some (some (.slice none 0 0), 1, 24) := by kernel_rfl
/-- One byte more. -/
theorem more_data (wd s : ByteArray) (k : Nat) (h : k < s.size) : (wd ++ s.extract k (k + 1)).data.toList = wd.data.toList ++ [s.data.toList.getD k 0] := by
  have hl : k < s.data.toList.length := by rw [← Lib.size_eq]; exact h
  have h1 : (s.extract k (k + 1)).data.toList = [s.data.toList.getD k 0] := by
    rw [← ByteArray.toList_eq, Lib.extract_toList, show k + 1 - k = 1 by omega, drop_getD hl]
    rfl
  rw [← h1, ← ByteArray.toList_eq, ← ByteArray.toList_eq]
  simp [ByteArray.toList_eq]

set_option maxRecDepth 100000 in
set_option maxHeartbeats 8000000 in
theorem rlines_any (s : ByteArray) (w : World) (hs : s.size ≤ 65536) :
    Calls Tryd.prog 27 #[.string s] w fun e w' => ∃ v LL, e = .returned v ∧ OwnSS w' w.heap.size w'.heap.size v LL ∧ lstL LL = goL s.data.toList [] [] true ∧ LL.length ≤ s.size + 1 ∧ Below w.heap.size w w' := by
  obtain ⟨i9, hi9, hz90, hz91, hz92⟩ := info_parts infoSt
  obtain ⟨i35, hi35, hz350, hz351, hz352⟩ := info_parts infoSl
  have hlen := Lib.size_eq s
  have HLEN := Lib.hid hlen
  clear hlen
  go_enter Tryd.func27, Tryd.ntmps27
  go_wp2
  go_loopw [3, 4, 5, 6] (fun ov lv wv iv wr => ∃ (k h : Nat) (LL : List (List ByteArray)) (ln : List ByteArray) (wd : ByteArray), k ≤ s.size + 1 ∧ iv = .int .i64 k ∧ wv = .string wd ∧ AtL s.data.toList k (lstL LL) (lstR ln) wd.data.toList ∧ OwnSS wr w.heap.size h ov LL ∧ OwnS wr h lv ln ∧ w.heap.size ≤ h ∧ h ≤ wr.heap.size ∧ LL.length ≤ k ∧ ln.length ≤ k ∧ wd.size ≤ k ∧ Below w.heap.size w wr) (fun _ _ _ iv _ => s.size + 1 - (intOf iv).toNat)
  case atStart => exact ⟨0, w.heap.size, [], [], ByteArray.empty, Nat.zero_le _, rfl, rfl, atL_start _, OwnSS.nil _ _ _, OwnS.nil _ _, Nat.le_refl _, Nat.le_refl _, Nat.le_refl _, Nat.le_refl _, Nat.le_refl _, Below.refl _ _⟩
  case round =>
    obtain ⟨k, h, LL, ln, wd, hk, rfl, rfl, hat, hout, hline, hh1, hh2, hL1, hL2, hwz, hb⟩ := hrel
    have HAT := Lib.hid hat
    have HOUT := Lib.hid hout
    have HLINE := Lib.hid hline
    have HB := Lib.hid hb
    obtain ⟨pl, cl, rfl⟩ := owns_shape hline
    obtain ⟨us, hu1, hu2, hu3⟩ := hout
    obtain ⟨po, co, rfl⟩ := owns_shape hu2
    clear hat hline hb hu1 hu2 hu3
    by_cases hlt : k < s.size
    · have hbk := byte_at s k hlt
      generalize hc : s.data.toList.getD k 0 = c at *
      have HC := Lib.hid hc
      clear hc
      by_cases hsep : sepB c = true
      · have hcc : c = 32 ∨ c = 9 ∨ c = 10 := by unfold sepB at hsep; simpa [or_assoc] using hsep
        clear hsep
        rcases hcc with hcv | hcv | hcv
        · have t1 : ((s[k].toNat : Int) != 32) = false := by rw [hbk, hcv]; rfl
          have t2 : ((s[k].toNat : Int) != 9) = true := by rw [hbk, hcv]; rfl
          have t3 : ((s[k].toNat : Int) != 10) = true := by rw [hbk, hcv]; rfl
          have t4 : ((s[k].toNat : Int) == 10) = false := by rw [hbk, hcv]; rfl
          have t5 : ((k : Int) == (s.size : Int)) = false := beq_eq_false_iff_ne.2 (by omega)
          have HNX := Lib.hid (HAT.out.blank (by rw [← HLEN.out]; exact hlt) (by rw [HC.out, hcv]; rfl) (by rw [HC.out, hcv]; decide))
          clear hbk hcv
          by_cases hwe : wd.data.toList = []
          · have w1 : wd.toList.isEmpty = true := by rw [ByteArray.toList_eq, hwe]; rfl
            have w2' : wd.toList = [] := by rw [ByteArray.toList_eq, hwe]
            have hO2 := HOUT.out
            have hL2' := HLINE.out
            have HO2 := Lib.hid hO2
            have HL2 := Lib.hid hL2'
            have HB2 := HB
            have hs2 := hh2
            have hpw : pushW (lstR ln) wd.data.toList = lstR ln := by unfold pushW; rw [if_pos hwe]
            have HPW := Lib.hid hpw
            have HWE := Lib.hid hwe
            clear hO2 hL2' hpw hwe
            go_wp2
            go_roundw
            case rel => exact ⟨k + 1, h, LL, ln, wd, by omega, by go_num, rfl, by have h9 := HNX.out; rw [← HPW.out]; rw [HWE.out] at h9 ⊢; exact h9, HO2.out, HL2.out, hh1, hs2, by omega, by omega, by omega, HB2.out⟩
            case measure => simp [intOf]; omega

          · have w1 : wd.toList.isEmpty = false := by rw [ByteArray.toList_eq]; simpa using hwe
            have w2' : ¬ wd.toList = [] := by rw [ByteArray.toList_eq]; exact hwe
            go_wp2_with (at_builtin; refine wpList_append_own _ rfl _ _ 35 rfl h 9 i9 (.string ByteArray.empty) 1 16 Tryd.underlying35 hi9 hz90 hz91 hz92 rfl (by decide) _ ln.length (ln.map Value.string) rfl (World.ownsRow.alloc HLINE.out _) ⟨wr.heap.size, 0, none⟩ 1 1 [.string wd] rfl rfl ?c132 ?c232 ?c332 ?c432 ?c532 ?_)
            case c132 =>
              intro j u hj
              match j, hj with
              | 0, hj => simp at hj; subst hj; exact cell_new (by simp) rfl
            case c232 => intro u hu; simp at hu; subst hu; rfl
            case c332 => unfold maxLen; omega
            case c432 => omega
            case c532 => simp; omega
            intro v' w2 hown' hgrow _
            have hO2 := (HOUT.out.alloc (.cells #[.string wd] 9)).aside (OwnS.alloc HLINE.out (.cells #[.string wd] 9)) hgrow
            have hL2' : OwnS w2 h v' (ln ++ [wd]) := by unfold OwnS; simpa using hown'
            have hb2 : Below w.heap.size w w2 := (HB.out.alloc HB.out.size (.cells #[.string wd] 9)).grown hgrow (by simp; have := HB.out.size; omega) (fun k hk => Nat.le_trans hh1 (HLINE.out.lt k hk).1)
            have hs2 : h ≤ w2.heap.size := by have := hgrow.size; simp at this; omega
            obtain ⟨pv, cv, rfl⟩ := owns_shape hown'
            have HO2 := Lib.hid hO2
            have HL2 := Lib.hid hL2'
            have HB2 := Lib.hid hb2
            have hpw : pushW (lstR ln) wd.data.toList = lstR (ln ++ [wd]) := by unfold pushW; rw [if_neg hwe]; simp [lstR]
            have HPW := Lib.hid hpw
            clear hown' hgrow hO2 hL2' hb2 hpw hwe
            go_wp2
            go_roundw
            case rel => exact ⟨k + 1, h, LL, ln ++ [wd], ⟨#[]⟩, by omega, by go_num, rfl, by rw [← HPW.out]; exact HNX.out, HO2.out, HL2.out, hh1, hs2, by omega, by simp; omega, by simp [ByteArray.size], HB2.out⟩
            case measure => simp [intOf]; omega

        · have t1 : ((s[k].toNat : Int) != 32) = true := by rw [hbk, hcv]; rfl
          have t2 : ((s[k].toNat : Int) != 9) = false := by rw [hbk, hcv]; rfl
          have t3 : ((s[k].toNat : Int) != 10) = true := by rw [hbk, hcv]; rfl
          have t4 : ((s[k].toNat : Int) == 10) = false := by rw [hbk, hcv]; rfl
          have t5 : ((k : Int) == (s.size : Int)) = false := beq_eq_false_iff_ne.2 (by omega)
          have HNX := Lib.hid (HAT.out.blank (by rw [← HLEN.out]; exact hlt) (by rw [HC.out, hcv]; rfl) (by rw [HC.out, hcv]; decide))
          clear hbk hcv
          by_cases hwe : wd.data.toList = []
          · have w1 : wd.toList.isEmpty = true := by rw [ByteArray.toList_eq, hwe]; rfl
            have w2' : wd.toList = [] := by rw [ByteArray.toList_eq, hwe]
            have hO2 := HOUT.out
            have hL2' := HLINE.out
            have HO2 := Lib.hid hO2
            have HL2 := Lib.hid hL2'
            have HB2 := HB
            have hs2 := hh2
            have hpw : pushW (lstR ln) wd.data.toList = lstR ln := by unfold pushW; rw [if_pos hwe]
            have HPW := Lib.hid hpw
            have HWE := Lib.hid hwe
            clear hO2 hL2' hpw hwe
            go_wp2
            go_roundw
            case rel => exact ⟨k + 1, h, LL, ln, wd, by omega, by go_num, rfl, by have h9 := HNX.out; rw [← HPW.out]; rw [HWE.out] at h9 ⊢; exact h9, HO2.out, HL2.out, hh1, hs2, by omega, by omega, by omega, HB2.out⟩
            case measure => simp [intOf]; omega

          · have w1 : wd.toList.isEmpty = false := by rw [ByteArray.toList_eq]; simpa using hwe
            have w2' : ¬ wd.toList = [] := by rw [ByteArray.toList_eq]; exact hwe
            go_wp2_with (at_builtin; refine wpList_append_own _ rfl _ _ 35 rfl h 9 i9 (.string ByteArray.empty) 1 16 Tryd.underlying35 hi9 hz90 hz91 hz92 rfl (by decide) _ ln.length (ln.map Value.string) rfl (World.ownsRow.alloc HLINE.out _) ⟨wr.heap.size, 0, none⟩ 1 1 [.string wd] rfl rfl ?c19 ?c29 ?c39 ?c49 ?c59 ?_)
            case c19 =>
              intro j u hj
              match j, hj with
              | 0, hj => simp at hj; subst hj; exact cell_new (by simp) rfl
            case c29 => intro u hu; simp at hu; subst hu; rfl
            case c39 => unfold maxLen; omega
            case c49 => omega
            case c59 => simp; omega
            intro v' w2 hown' hgrow _
            have hO2 := (HOUT.out.alloc (.cells #[.string wd] 9)).aside (OwnS.alloc HLINE.out (.cells #[.string wd] 9)) hgrow
            have hL2' : OwnS w2 h v' (ln ++ [wd]) := by unfold OwnS; simpa using hown'
            have hb2 : Below w.heap.size w w2 := (HB.out.alloc HB.out.size (.cells #[.string wd] 9)).grown hgrow (by simp; have := HB.out.size; omega) (fun k hk => Nat.le_trans hh1 (HLINE.out.lt k hk).1)
            have hs2 : h ≤ w2.heap.size := by have := hgrow.size; simp at this; omega
            obtain ⟨pv, cv, rfl⟩ := owns_shape hown'
            have HO2 := Lib.hid hO2
            have HL2 := Lib.hid hL2'
            have HB2 := Lib.hid hb2
            have hpw : pushW (lstR ln) wd.data.toList = lstR (ln ++ [wd]) := by unfold pushW; rw [if_neg hwe]; simp [lstR]
            have HPW := Lib.hid hpw
            clear hown' hgrow hO2 hL2' hb2 hpw hwe
            go_wp2
            go_roundw
            case rel => exact ⟨k + 1, h, LL, ln ++ [wd], ⟨#[]⟩, by omega, by go_num, rfl, by rw [← HPW.out]; exact HNX.out, HO2.out, HL2.out, hh1, hs2, by omega, by simp; omega, by simp [ByteArray.size], HB2.out⟩
            case measure => simp [intOf]; omega

        · have t1 : ((s[k].toNat : Int) != 32) = true := by rw [hbk, hcv]; rfl
          have t2 : ((s[k].toNat : Int) != 9) = true := by rw [hbk, hcv]; rfl
          have t3 : ((s[k].toNat : Int) != 10) = false := by rw [hbk, hcv]; rfl
          have t4 : ((s[k].toNat : Int) == 10) = true := by rw [hbk, hcv]; rfl
          have t5 : ((k : Int) == (s.size : Int)) = false := beq_eq_false_iff_ne.2 (by omega)
          have HNX := Lib.hid (HAT.out.feed (by rw [← HLEN.out]; exact hlt) (by rw [HC.out, hcv]))
          clear hbk hcv
          by_cases hwe : wd.data.toList = []
          · have w1 : wd.toList.isEmpty = true := by rw [ByteArray.toList_eq, hwe]; rfl
            have w2' : wd.toList = [] := by rw [ByteArray.toList_eq, hwe]
            have hO2 := HOUT.out
            have hL2' := HLINE.out
            have HO2 := Lib.hid hO2
            have HL2 := Lib.hid hL2'
            have HB2 := HB
            have hs2 := hh2
            have hpw : pushW (lstR ln) wd.data.toList = lstR ln := by unfold pushW; rw [if_pos hwe]
            have HPW := Lib.hid hpw
            have HWE := Lib.hid hwe
            clear hO2 hL2' hpw hwe
            obtain ⟨us, hu1, hu2, hu3⟩ := HO2.out
            go_wp2_with (at_builtin; refine wpList_append_own _ rfl _ _ 54 rfl w.heap.size 35 i35 (.slice none 0 0) 1 24 Tryd.underlying54 hi35 hz350 hz351 hz352 rfl (by decide) _ LL.length us rfl (hu2.alloc _) ⟨wr.heap.size, 0, none⟩ 1 1 [.slice pl ln.length cl] rfl rfl ?d1e10 ?d2e10 ?d3e10 ?d4e10 ?d5e10 ?_)
            case d1e10 =>
              intro j u hj
              match j, hj with
              | 0, hj => simp at hj; subst hj; exact cell_new (by simp) rfl
            case d2e10 => intro u hu; simp at hu; subst hu; rfl
            case d3e10 => unfold maxLen; omega
            case d4e10 => omega
            case d5e10 => simp; have := HB2.out.size; omega
            intro v3 w3 hown3 hgrow3 _
            have hpush := OwnSS.push (ws := ln) hu1 (hu2.alloc (.cells #[.slice pl ln.length cl] 35)) (fun j hj => ⟨OwnS.alloc (hu3 j hj).1 _, (hu3 j hj).2⟩) (OwnS.alloc (owns_base HL2.out hh1) _) (by simp; omega) hown3 hgrow3
            have hb3 : Below w.heap.size w w3 := (HB2.out.alloc HB2.out.size (.cells #[.slice pl ln.length cl] 35)).grown hgrow3 (by simp; have := HB2.out.size; omega) (fun k hk => (hu2.lt k hk).1)
            obtain ⟨p3, c3, rfl⟩ := owns_shape hown3
            have HPU := Lib.hid hpush
            have HB3 := Lib.hid hb3
            clear hown3 hgrow3 hpush hb3 hu1 hu2 hu3
            go_wp2
            go_roundw
            case rel => exact ⟨k + 1, w3.heap.size, LL ++ [ln], [], wd, by omega, by go_num, rfl, by rw [HWE.out, show lstL (LL ++ [ln]) = lstL LL ++ [pushW (lstR ln) wd.data.toList] by rw [HPW.out]; simp [lstL]]; exact HNX.out, HPU.out, OwnS.nil _ _, HB3.out.size, Nat.le_refl _, by simp; omega, by simp, by omega, HB3.out⟩
            case measure => simp [intOf]; omega

          · have w1 : wd.toList.isEmpty = false := by rw [ByteArray.toList_eq]; simpa using hwe
            have w2' : ¬ wd.toList = [] := by rw [ByteArray.toList_eq]; exact hwe
            go_wp2_with (at_builtin; refine wpList_append_own _ rfl _ _ 35 rfl h 9 i9 (.string ByteArray.empty) 1 16 Tryd.underlying35 hi9 hz90 hz91 hz92 rfl (by decide) _ ln.length (ln.map Value.string) rfl (World.ownsRow.alloc HLINE.out _) ⟨wr.heap.size, 0, none⟩ 1 1 [.string wd] rfl rfl ?c110 ?c210 ?c310 ?c410 ?c510 ?_)
            case c110 =>
              intro j u hj
              match j, hj with
              | 0, hj => simp at hj; subst hj; exact cell_new (by simp) rfl
            case c210 => intro u hu; simp at hu; subst hu; rfl
            case c310 => unfold maxLen; omega
            case c410 => omega
            case c510 => simp; omega
            intro v' w2 hown' hgrow _
            have hO2 := (HOUT.out.alloc (.cells #[.string wd] 9)).aside (OwnS.alloc HLINE.out (.cells #[.string wd] 9)) hgrow
            have hL2' : OwnS w2 h v' (ln ++ [wd]) := by unfold OwnS; simpa using hown'
            have hb2 : Below w.heap.size w w2 := (HB.out.alloc HB.out.size (.cells #[.string wd] 9)).grown hgrow (by simp; have := HB.out.size; omega) (fun k hk => Nat.le_trans hh1 (HLINE.out.lt k hk).1)
            have hs2 : h ≤ w2.heap.size := by have := hgrow.size; simp at this; omega
            obtain ⟨pv, cv, rfl⟩ := owns_shape hown'
            have HO2 := Lib.hid hO2
            have HL2 := Lib.hid hL2'
            have HB2 := Lib.hid hb2
            have hpw : pushW (lstR ln) wd.data.toList = lstR (ln ++ [wd]) := by unfold pushW; rw [if_neg hwe]; simp [lstR]
            have HPW := Lib.hid hpw
            clear hown' hgrow hO2 hL2' hb2 hpw hwe
            obtain ⟨us, hu1, hu2, hu3⟩ := HO2.out
            go_wp2_with (at_builtin; refine wpList_append_own _ rfl _ _ 54 rfl w.heap.size 35 i35 (.slice none 0 0) 1 24 Tryd.underlying54 hi35 hz350 hz351 hz352 rfl (by decide) _ LL.length us rfl (hu2.alloc _) ⟨w2.heap.size, 0, none⟩ 1 1 [.slice pv (ln.length + 1) cv] rfl rfl ?d1n10 ?d2n10 ?d3n10 ?d4n10 ?d5n10 ?_)
            case d1n10 =>
              intro j u hj
              match j, hj with
              | 0, hj => simp at hj; subst hj; exact cell_new (by simp) rfl
            case d2n10 => intro u hu; simp at hu; subst hu; rfl
            case d3n10 => unfold maxLen; omega
            case d4n10 => omega
            case d5n10 => simp; have := HB2.out.size; omega
            intro v3 w3 hown3 hgrow3 _
            have hpush := OwnSS.push (ws := ln ++ [wd]) hu1 (hu2.alloc (.cells #[.slice pv (ln.length + 1) cv] 35)) (fun j hj => ⟨OwnS.alloc (hu3 j hj).1 _, (hu3 j hj).2⟩) (OwnS.alloc (owns_base HL2.out hh1) _) (by simp; omega) hown3 hgrow3
            have hb3 : Below w.heap.size w w3 := (HB2.out.alloc HB2.out.size (.cells #[.slice pv (ln.length + 1) cv] 35)).grown hgrow3 (by simp; have := HB2.out.size; omega) (fun k hk => (hu2.lt k hk).1)
            obtain ⟨p3, c3, rfl⟩ := owns_shape hown3
            have HPU := Lib.hid hpush
            have HB3 := Lib.hid hb3
            clear hown3 hgrow3 hpush hb3 hu1 hu2 hu3
            go_wp2
            go_roundw
            case rel => exact ⟨k + 1, w3.heap.size, LL ++ [ln ++ [wd]], [], ⟨#[]⟩, by omega, by go_num, rfl, by rw [show lstL (LL ++ [ln ++ [wd]]) = lstL LL ++ [pushW (lstR ln) wd.data.toList] by rw [HPW.out]; simp [lstL]]; exact HNX.out, HPU.out, OwnS.nil _ _, HB3.out.size, Nat.le_refl _, by simp; omega, by simp, by simp [ByteArray.size], HB3.out⟩
            case measure => simp [intOf]; omega

      · have hsf : sepB c = false := by simpa using hsep
        have n1 : c ≠ 32 := fun e => by rw [e] at hsf; revert hsf; decide
        have n2 : c ≠ 9 := fun e => by rw [e] at hsf; revert hsf; decide
        have n3 : c ≠ 10 := fun e => by rw [e] at hsf; revert hsf; decide
        have t1 : ((s[k].toNat : Int) != 32) = true := by rw [hbk]; simp; intro e; exact n1 (UInt8.toNat_inj.1 (by show c.toNat = 32; omega))
        have t2 : ((s[k].toNat : Int) != 9) = true := by rw [hbk]; simp; intro e; exact n2 (UInt8.toNat_inj.1 (by show c.toNat = 9; omega))
        have t3 : ((s[k].toNat : Int) != 10) = true := by rw [hbk]; simp; intro e; exact n3 (UInt8.toNat_inj.1 (by show c.toNat = 10; omega))
        have HNX := Lib.hid (HAT.out.letter (by rw [← HLEN.out]; exact hlt) (by rw [HC.out]; exact hsf))
        have HMD := Lib.hid (more_data wd s k hlt)
        have hxz : (s.extract k (k + 1)).size = 1 := by rw [ByteArray.size_extract]; omega
        have hcz : (wd ++ s.extract k (k + 1)).size = wd.size + 1 := by rw [ByteArray.size_append, hxz]
        have HCZ := Lib.hid hcz
        have hsum : (wd.size : Int) + ((s.extract k (k + 1)).size : Int) ≤ 9223372036854775807 := by rw [hxz]; omega
        clear hbk hsep hsf n1 n2 n3 hcz
        go_wp2
        go_roundw
        case rel =>
          have h1 := HNX.out
          rw [HC.out, ← HC.out, ← HMD.out] at h1
          exact ⟨k + 1, h, LL, ln, _, by omega, by go_num, rfl, h1, HOUT.out, HLINE.out, hh1, hh2, by omega, by omega, by rw [HCZ.out]; omega, HB.out⟩
        case measure => simp [intOf]; omega
    · by_cases hk1 : k = s.size
      · have hke : ¬ (k : Int) < (s.size : Int) := by omega
        have t5 : ((k : Int) == (s.size : Int)) = true := by rw [hk1]; simp
        have t6 : decide ((k : Int) < (s.size : Int)) = false := decide_eq_false hke
        by_cases hs0 : s.size = 0
        · have t7 : decide ((k : Int) > 0) = false := decide_eq_false (by omega)
          have HNX : Hid (AtL s.data.toList (k + 1) (lstL LL) (pushW (lstR ln) wd.data.toList) []) := Lib.hid (by
            have h1 := HAT.out
            rw [hk1, HLEN.out] at h1 ⊢
            exact h1.done (.inl (by rw [← HLEN.out]; exact hs0)) _)
          have hwe : wd.data.toList = [] := List.eq_nil_of_length_eq_zero (by rw [← Lib.size_eq]; omega)
          have w1 : wd.toList.isEmpty = true := by rw [ByteArray.toList_eq, hwe]; rfl
          have w2' : wd.toList = [] := by rw [ByteArray.toList_eq, hwe]
          have hO2 := HOUT.out
          have hL2' := HLINE.out
          have HO2 := Lib.hid hO2
          have HL2 := Lib.hid hL2'
          have HB2 := HB
          have hs2 := hh2
          have hpw : pushW (lstR ln) wd.data.toList = lstR ln := by unfold pushW; rw [if_pos hwe]
          have HPW := Lib.hid hpw
          have HWE := Lib.hid hwe
          clear hO2 hL2' hpw hwe
          go_wp2
          go_roundw
          case rel => exact ⟨k + 1, h, LL, ln, wd, by omega, by go_num, rfl, by have h9 := HNX.out; rw [← HPW.out]; rw [HWE.out] at h9 ⊢; exact h9, HO2.out, HL2.out, hh1, hs2, by omega, by omega, by omega, HB2.out⟩
          case measure => simp [intOf]; omega
        · obtain ⟨q, hq⟩ : ∃ q, s.size = q + 1 := ⟨s.size - 1, by omega⟩
          obtain rfl : k = q + 1 := by omega
          have t7 : decide ((q : Int) + 1 > 0) = true := decide_eq_true (by omega)
          have t5b : ((q : Int) + 1 == (s.size : Int)) = true := by rw [hq]; simp
          have t6b : decide ((q : Int) + 1 < (s.size : Int)) = false := decide_eq_false (by omega)
          clear t5 t6 hke
          have hqs : q < s.size := by omega
          have hbk := byte_at s q hqs
          have hq1 : s.data.toList.length - 1 = q := by rw [← HLEN.out]; omega
          have hlq : s.data.toList.length = q + 1 := by rw [← HLEN.out]; exact hq
          have hpos : 0 < s.data.toList.length := by omega
          by_cases h10 : s.data.toList.getD q 0 = 10
          · have t8 : ((s[q].toNat : Int) != 10) = false := by rw [hbk, h10]; rfl
            have HNX : Hid (AtL s.data.toList (q + 1 + 1) (lstL LL) (pushW (lstR ln) wd.data.toList) []) := Lib.hid (by
              have h1 := HAT.out
              rw [← hlq] at h1 ⊢
              exact h1.done (.inr (by rw [hq1]; exact h10)) _)
            clear hbk h10 hq1 hlq hpos hs0 hq hk1
            by_cases hwe : wd.data.toList = []
            · have w1 : wd.toList.isEmpty = true := by rw [ByteArray.toList_eq, hwe]; rfl
              have w2' : wd.toList = [] := by rw [ByteArray.toList_eq, hwe]
              have hO2 := HOUT.out
              have hL2' := HLINE.out
              have HO2 := Lib.hid hO2
              have HL2 := Lib.hid hL2'
              have HB2 := HB
              have hs2 := hh2
              have hpw : pushW (lstR ln) wd.data.toList = lstR ln := by unfold pushW; rw [if_pos hwe]
              have HPW := Lib.hid hpw
              have HWE := Lib.hid hwe
              clear hO2 hL2' hpw hwe
              go_wp2
              go_roundw
              case rel => exact ⟨q + 1 + 1, h, LL, ln, wd, by omega, by go_num, rfl, by have h9 := HNX.out; rw [← HPW.out]; rw [HWE.out] at h9 ⊢; exact h9, HO2.out, HL2.out, hh1, hs2, by omega, by omega, by omega, HB2.out⟩
              case measure => simp [intOf]; omega

            · have w1 : wd.toList.isEmpty = false := by rw [ByteArray.toList_eq]; simpa using hwe
              have w2' : ¬ wd.toList = [] := by rw [ByteArray.toList_eq]; exact hwe
              go_wp2_with (at_builtin; refine wpList_append_own _ rfl _ _ 35 rfl h 9 i9 (.string ByteArray.empty) 1 16 Tryd.underlying35 hi9 hz90 hz91 hz92 rfl (by decide) _ ln.length (ln.map Value.string) rfl (World.ownsRow.alloc HLINE.out _) ⟨wr.heap.size, 0, none⟩ 1 1 [.string wd] rfl rfl ?c1Q ?c2Q ?c3Q ?c4Q ?c5Q ?_)
              case c1Q =>
                intro j u hj
                match j, hj with
                | 0, hj => simp at hj; subst hj; exact cell_new (by simp) rfl
              case c2Q => intro u hu; simp at hu; subst hu; rfl
              case c3Q => unfold maxLen; omega
              case c4Q => omega
              case c5Q => simp; omega
              intro v' w2 hown' hgrow _
              have hO2 := (HOUT.out.alloc (.cells #[.string wd] 9)).aside (OwnS.alloc HLINE.out (.cells #[.string wd] 9)) hgrow
              have hL2' : OwnS w2 h v' (ln ++ [wd]) := by unfold OwnS; simpa using hown'
              have hb2 : Below w.heap.size w w2 := (HB.out.alloc HB.out.size (.cells #[.string wd] 9)).grown hgrow (by simp; have := HB.out.size; omega) (fun k hk => Nat.le_trans hh1 (HLINE.out.lt k hk).1)
              have hs2 : h ≤ w2.heap.size := by have := hgrow.size; simp at this; omega
              obtain ⟨pv, cv, rfl⟩ := owns_shape hown'
              have HO2 := Lib.hid hO2
              have HL2 := Lib.hid hL2'
              have HB2 := Lib.hid hb2
              have hpw : pushW (lstR ln) wd.data.toList = lstR (ln ++ [wd]) := by unfold pushW; rw [if_neg hwe]; simp [lstR]
              have HPW := Lib.hid hpw
              clear hown' hgrow hO2 hL2' hb2 hpw hwe
              go_wp2
              go_roundw
              case rel => exact ⟨q + 1 + 1, h, LL, ln ++ [wd], ⟨#[]⟩, by omega, by go_num, rfl, by rw [← HPW.out]; exact HNX.out, HO2.out, HL2.out, hh1, hs2, by omega, by simp; omega, by simp [ByteArray.size], HB2.out⟩
              case measure => simp [intOf]; omega
          · have t8 : ((s[q].toNat : Int) != 10) = true := by
              rw [hbk, bne_iff_ne]
              intro e
              exact h10 (UInt8.toNat_inj.1 (by show (s.data.toList.getD q 0).toNat = 10; omega))
            have HNX : Hid (AtL s.data.toList (q + 1 + 1) (lstL LL ++ [pushW (lstR ln) wd.data.toList]) [] []) := Lib.hid (by
              have h1 := HAT.out
              rw [← hlq] at h1 ⊢
              exact h1.last hpos (by rw [hq1]; exact h10))
            clear hbk h10 hq1 hlq hpos hs0 hq hk1
            by_cases hwe : wd.data.toList = []
            · have w1 : wd.toList.isEmpty = true := by rw [ByteArray.toList_eq, hwe]; rfl
              have w2' : wd.toList = [] := by rw [ByteArray.toList_eq, hwe]
              have hO2 := HOUT.out
              have hL2' := HLINE.out
              have HO2 := Lib.hid hO2
              have HL2 := Lib.hid hL2'
              have HB2 := HB
              have hs2 := hh2
              have hpw : pushW (lstR ln) wd.data.toList = lstR ln := by unfold pushW; rw [if_pos hwe]
              have HPW := Lib.hid hpw
              have HWE := Lib.hid hwe
              clear hO2 hL2' hpw hwe
              obtain ⟨us, hu1, hu2, hu3⟩ := HO2.out
              go_wp2_with (at_builtin; refine wpList_append_own _ rfl _ _ 54 rfl w.heap.size 35 i35 (.slice none 0 0) 1 24 Tryd.underlying54 hi35 hz350 hz351 hz352 rfl (by decide) _ LL.length us rfl (hu2.alloc _) ⟨wr.heap.size, 0, none⟩ 1 1 [.slice pl ln.length cl] rfl rfl ?d1Le ?d2Le ?d3Le ?d4Le ?d5Le ?_)
              case d1Le =>
                intro j u hj
                match j, hj with
                | 0, hj => simp at hj; subst hj; exact cell_new (by simp) rfl
              case d2Le => intro u hu; simp at hu; subst hu; rfl
              case d3Le => unfold maxLen; omega
              case d4Le => omega
              case d5Le => simp; have := HB2.out.size; omega
              intro v3 w3 hown3 hgrow3 _
              have hpush := OwnSS.push (ws := ln) hu1 (hu2.alloc (.cells #[.slice pl ln.length cl] 35)) (fun j hj => ⟨OwnS.alloc (hu3 j hj).1 _, (hu3 j hj).2⟩) (OwnS.alloc (owns_base HL2.out hh1) _) (by simp; omega) hown3 hgrow3
              have hb3 : Below w.heap.size w w3 := (HB2.out.alloc HB2.out.size (.cells #[.slice pl ln.length cl] 35)).grown hgrow3 (by simp; have := HB2.out.size; omega) (fun k hk => (hu2.lt k hk).1)
              obtain ⟨p3, c3, rfl⟩ := owns_shape hown3
              have HPU := Lib.hid hpush
              have HB3 := Lib.hid hb3
              clear hown3 hgrow3 hpush hb3 hu1 hu2 hu3
              go_wp2
              go_roundw
              case rel => exact ⟨q + 1 + 1, w3.heap.size, LL ++ [ln], [], wd, by omega, by go_num, rfl, by rw [HWE.out, show lstL (LL ++ [ln]) = lstL LL ++ [pushW (lstR ln) wd.data.toList] by rw [HPW.out]; simp [lstL]]; exact HNX.out, HPU.out, OwnS.nil _ _, HB3.out.size, Nat.le_refl _, by simp; omega, by simp, by omega, HB3.out⟩
              case measure => simp [intOf]; omega

            · have w1 : wd.toList.isEmpty = false := by rw [ByteArray.toList_eq]; simpa using hwe
              have w2' : ¬ wd.toList = [] := by rw [ByteArray.toList_eq]; exact hwe
              go_wp2_with (at_builtin; refine wpList_append_own _ rfl _ _ 35 rfl h 9 i9 (.string ByteArray.empty) 1 16 Tryd.underlying35 hi9 hz90 hz91 hz92 rfl (by decide) _ ln.length (ln.map Value.string) rfl (World.ownsRow.alloc HLINE.out _) ⟨wr.heap.size, 0, none⟩ 1 1 [.string wd] rfl rfl ?c1L ?c2L ?c3L ?c4L ?c5L ?_)
              case c1L =>
                intro j u hj
                match j, hj with
                | 0, hj => simp at hj; subst hj; exact cell_new (by simp) rfl
              case c2L => intro u hu; simp at hu; subst hu; rfl
              case c3L => unfold maxLen; omega
              case c4L => omega
              case c5L => simp; omega
              intro v' w2 hown' hgrow _
              have hO2 := (HOUT.out.alloc (.cells #[.string wd] 9)).aside (OwnS.alloc HLINE.out (.cells #[.string wd] 9)) hgrow
              have hL2' : OwnS w2 h v' (ln ++ [wd]) := by unfold OwnS; simpa using hown'
              have hb2 : Below w.heap.size w w2 := (HB.out.alloc HB.out.size (.cells #[.string wd] 9)).grown hgrow (by simp; have := HB.out.size; omega) (fun k hk => Nat.le_trans hh1 (HLINE.out.lt k hk).1)
              have hs2 : h ≤ w2.heap.size := by have := hgrow.size; simp at this; omega
              obtain ⟨pv, cv, rfl⟩ := owns_shape hown'
              have HO2 := Lib.hid hO2
              have HL2 := Lib.hid hL2'
              have HB2 := Lib.hid hb2
              have hpw : pushW (lstR ln) wd.data.toList = lstR (ln ++ [wd]) := by unfold pushW; rw [if_neg hwe]; simp [lstR]
              have HPW := Lib.hid hpw
              clear hown' hgrow hO2 hL2' hb2 hpw hwe
              obtain ⟨us, hu1, hu2, hu3⟩ := HO2.out
              go_wp2_with (at_builtin; refine wpList_append_own _ rfl _ _ 54 rfl w.heap.size 35 i35 (.slice none 0 0) 1 24 Tryd.underlying54 hi35 hz350 hz351 hz352 rfl (by decide) _ LL.length us rfl (hu2.alloc _) ⟨w2.heap.size, 0, none⟩ 1 1 [.slice pv (ln.length + 1) cv] rfl rfl ?d1Ln ?d2Ln ?d3Ln ?d4Ln ?d5Ln ?_)
              case d1Ln =>
                intro j u hj
                match j, hj with
                | 0, hj => simp at hj; subst hj; exact cell_new (by simp) rfl
              case d2Ln => intro u hu; simp at hu; subst hu; rfl
              case d3Ln => unfold maxLen; omega
              case d4Ln => omega
              case d5Ln => simp; have := HB2.out.size; omega
              intro v3 w3 hown3 hgrow3 _
              have hpush := OwnSS.push (ws := ln ++ [wd]) hu1 (hu2.alloc (.cells #[.slice pv (ln.length + 1) cv] 35)) (fun j hj => ⟨OwnS.alloc (hu3 j hj).1 _, (hu3 j hj).2⟩) (OwnS.alloc (owns_base HL2.out hh1) _) (by simp; omega) hown3 hgrow3
              have hb3 : Below w.heap.size w w3 := (HB2.out.alloc HB2.out.size (.cells #[.slice pv (ln.length + 1) cv] 35)).grown hgrow3 (by simp; have := HB2.out.size; omega) (fun k hk => (hu2.lt k hk).1)
              obtain ⟨p3, c3, rfl⟩ := owns_shape hown3
              have HPU := Lib.hid hpush
              have HB3 := Lib.hid hb3
              clear hown3 hgrow3 hpush hb3 hu1 hu2 hu3
              go_wp2
              go_roundw
              case rel => exact ⟨q + 1 + 1, w3.heap.size, LL ++ [ln ++ [wd]], [], ⟨#[]⟩, by omega, by go_num, rfl, by rw [show lstL (LL ++ [ln ++ [wd]]) = lstL LL ++ [pushW (lstR ln) wd.data.toList] by rw [HPW.out]; simp [lstL]]; exact HNX.out, HPU.out, OwnS.nil _ _, HB3.out.size, Nat.le_refl _, by simp; omega, by simp, by simp [ByteArray.size], HB3.out⟩
              case measure => simp [intOf]; omega
      · obtain rfl : k = s.size + 1 := by omega
        have hall := HAT.out.all (by rw [← HLEN.out]; omega)
        have HALL := Lib.hid hall
        clear hall
        go_wp2
        go_ret
        exact ⟨_, LL, rfl, HOUT.out.upto hh2, HALL.out, hL1, HB.out⟩
end L
end Go.Proofs.YtlkhabdpancjjaaDoor
