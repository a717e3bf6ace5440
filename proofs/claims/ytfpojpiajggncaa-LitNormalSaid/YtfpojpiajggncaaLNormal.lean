/- LitNormal: the walk. -/
import Derived.Test.YtfpojpiajggncaaLChecks
import Derived.Test.YtfpojpiajggncaaP
import Derived.Test.YtfpojpiajggncaaM
namespace Go.Proofs.Ytfpojpiajggncaa
open Go.RowKit
namespace L
open K

theorem inc_adj {r : List Int} (h : Inc r) {k : Nat} (hk : k + 1 < r.length) : av (r.getD k 0) < av (r.getD (k + 1) 0) := by
  have := List.pairwise_iff_getElem.1 h k (k + 1) (by omega) hk (by omega)
  rw [List.getD, List.getD, List.getElem?_eq_getElem (by omega), List.getElem?_eq_getElem hk]
  exact this
theorem wrap_neg_ne {a b : Int} (hb : I64 b) (h : av a < av b) : (a == wrap64 (-b)) = false := by
  unfold I64 at hb
  simp only [beq_eq_false_iff_ne, ne_eq, wrap64]
  unfold av at h
  split at h <;> split at h <;> omega

theorem cover (n t s : Nat) (hs : s < n) : ∃ i, i < n ∧ (n - 1 - i + t) % n = s := by
  have h0 : 0 < n := by omega
  refine ⟨(n - 1 + t - s) % n, Nat.mod_lt _ h0, ?_⟩
  have h1 := Nat.mod_lt (n - 1 + t - s) h0
  have h2 := Nat.div_add_mod (n - 1 + t - s) n
  have h3 : n - 1 - (n - 1 + t - s) % n + t = s + n * ((n - 1 + t - s) / n) := by omega
  rw [h3, Nat.add_mul_mod_self_left, Nat.mod_eq_of_lt hs]

set_option maxRecDepth 100000 in
set_option maxHeartbeats 4000000 in
theorem normal_walk (vc : Value) (c : List Int) (turn : Int) (w : World) (hC : IntsW .i64 w vc c) (hn0 : (Lit.int .u8 turn).wf = true) :
    Calls Try.prog 7 #[vc, .int .u8 turn] w fun e w' => e = .returned (.bool true) ∧ Below w.heap.size w w' := by
  have hlc := IntsW.wf64 hC
  have hshc : ∃ p cap, vc = .slice p c.length cap := by obtain ⟨p, cap, hv, _⟩ := hC; exact ⟨p, cap, hv⟩
  by_cases h1 : 60 < c.length
  · obtain ⟨pc, capc, rfl⟩ := hshc
    clear hC hlc hn0
    go_enter Try.func7, Try.ntmps7
    go_wp2_with (go_at_call 12; refine (known_any _).mono ?_; rintro e w' ⟨rfl, hbw⟩)
    go_ret
    exact ⟨rfl, by assumption⟩
  have ht : 0 ≤ turn ∧ turn ≤ 255 := by simpa [Lit.wf, IntKind.min, IntKind.max, IntKind.signed, IntKind.bits] using hn0
  obtain ⟨t, rfl⟩ := Int.eq_ofNat_of_zero_le ht.1
  have ht2 : t ≤ 255 := by omega
  clear ht hn0
  have hIc := hC.ints (by omega)
  obtain ⟨pc, capc, rfl⟩ := hshc
  clear hC
  go_enter Try.func7, Try.ntmps7
  go_wp2_with fail
  refine (norm_any _ c _ hlc hIc).mono ?_
  rintro e w1 ⟨vx, rfl, hIx, hb⟩
  have hIc1 := hIc.below hb
  clear hIc
  obtain ⟨r, hr⟩ : ∃ r, r = (normR c).getD [] := ⟨_, rfl⟩
  rw [← hr] at hIx
  have hinc : Inc r := by
    rw [hr]
    cases hn : normR c with
    | none => exact List.Pairwise.nil
    | some q => exact (norm_some hn).1
  have hrc : ∀ x ∈ r, x ∈ c ∧ x ≠ 0 := by
    rw [hr]
    cases hn : normR c with
    | none => simp
    | some q => exact fun x hx => ((norm_some hn).2 x).1 hx
  have hr64 : ∀ x ∈ r, I64 x := fun x hx => hlc x (hrc x hx).1
  have HR := Lib.hid hr
  have HRC := Lib.hid hrc
  have HR64 := Lib.hid hr64
  have HINC := Lib.hid hinc
  have HLC := Lib.hid hlc
  clear hr hrc hinc hr64 hlc
  have hIx0 := hIx
  have hIc0 := hIc1
  obtain ⟨px, capx, rfl, hcx, hmx, hcellx⟩ := hIx
  obtain ⟨pc', capc', he, hcc, hmc, hcellc⟩ := hIc1
  simp only [Value.slice.injEq, true_and] at he
  obtain ⟨rfl, rfl⟩ := he
  have HCX := Lib.hid hcellx
  have HCC := Lib.hid hcellc
  clear hcellx hcellc
  go_wp2
  go_loopw [7] (fun i wr => ∃ k : Nat, k ≤ r.length ∧ i = .int .i64 k ∧ Below w1.heap.size w1 wr) (fun i _ => r.length - (intOf i).toNat)
  case atStart => exact ⟨0, Nat.zero_le _, rfl, Below.refl _ _⟩
  case round =>
    obtain ⟨k, hk, rfl, hb1⟩ := hrel
    by_cases hlt : k + 1 < r.length
    · obtain ⟨b1, o1, rfl, e1⟩ := HCX.out (by omega)
      have d1 := (hb1.cell (p := ⟨b1, o1 + k, none⟩) (World.block_lt_of_cell? _ _ (e1 k (by omega)))).trans (e1 k (by omega))
      have d2 := (hb1.cell (p := ⟨b1, o1 + (k + 1), none⟩) (World.block_lt_of_cell? _ _ (e1 (k + 1) hlt))).trans (e1 (k + 1) hlt)
      have hadj := inc_adj HINC.out hlt
      have ha64 := HR64.out _ (mem_getD (l := r) (k := k) (by omega))
      have hb64 := HR64.out _ (mem_getD (l := r) hlt)
      clear e1
      generalize r.getD k 0 = a at d1 hadj ha64
      generalize r.getD (k + 1) 0 = b at d2 hadj hb64
      have hlab : lessB a b = true := by simp [lessB, hadj]
      have hne := wrap_neg_ne hb64 hadj
      go_wp2
      go_quiet ((go_at_call 19; exact Calls.quiet_of_same ((less_any _ _ (by assumption) (by assumption) _).mono fun _ _ h => ⟨h.1, h.2.symm⟩)))
      go_wp2
      go_roundw
      case rel => exact ⟨k + 1, by omega, by go_num, below_drewN hb1 _⟩
      case measure => simp [intOf]; omega
    · cases hn : normR c with
      | none =>
        have HN := Lib.hid hn
        rw [Option.isNone_none]

        obtain ⟨w2, rfl⟩ : ∃ w2 : World, w2 = wr := ⟨_, rfl⟩
        obtain ⟨i3, hi3, hz30, hz31, hz32⟩ := info_parts info3
        have hI2x := hIx0.below hb1
        have hI2c := hIc0.below hb1
        have hbw2 := hb.trans (hb1.mono hb.size)
        clear hIx0 hIc0 hb hb1

        go_wp2

        go_loopw [10, 11] (fun o i wr => ∃ (j : Nat) (xs : List Int), j ≤ c.length ∧ i = .int .i64 j ∧ xs.length ≤ 2 * j ∧ (∀ x ∈ xs, x ∈ c) ∧ (∀ i, i < j → c.getD ((c.length - 1 - i + t) % c.length) 0 ∈ xs) ∧ wr.ownsRow w2.heap.size 3 1 o xs.length (xs.map (Value.int .i64)) ∧ Below w2.heap.size w2 wr) (fun _ i _ => c.length - (intOf i).toNat)
        case atStart => exact ⟨0, [], Nat.zero_le _, rfl, Nat.le_refl _, by simp, fun i hi => absurd hi (Nat.not_lt_zero _), World.ownsRow_nil _ _ _ _, Below.refl _ _⟩
        case round =>
          obtain ⟨j, xs, hj, rfl, hxj, hxs, hcov, hown, hb2⟩ := hrel
          have HXS := Lib.hid hxs
          have HCOV := Lib.hid hcov
          clear hxs hcov
          by_cases hltc : j < c.length
          · obtain ⟨pcc, capcc, he, _, _, hcc2⟩ := hI2c
            cases he
            obtain ⟨b1, o1, rfl, e1⟩ := hcc2 (by omega)
            have hic : (c.length - 1 - j + t) % c.length < c.length := Nat.mod_lt _ (by omega)
            have e2 := e1 _ hic
            have e3 := e1 j hltc
            have d1 := (hb2.cell (p := ⟨b1, o1 + (c.length - 1 - j + t) % c.length, none⟩) (World.block_lt_of_cell? _ _ e2)).trans e2
            have d2 := (hb2.cell (p := ⟨b1, o1 + j, none⟩) (World.block_lt_of_cell? _ _ e3)).trans e3
            have hm1 := mem_getD hic
            have hm2 := mem_getD hltc
            have hcv : ∀ xs' : List Int, (∀ x ∈ xs, x ∈ xs') → c.getD ((c.length - 1 - j + t) % c.length) 0 ∈ xs' → ∀ i, i < j + 1 → c.getD ((c.length - 1 - i + t) % c.length) 0 ∈ xs' := fun xs' h1 h2 i hi => by
              by_cases hij : i = j
              · subst hij; exact h2
              · exact h1 _ (HCOV.out i (by omega))
            have HCV := Lib.hid hcv
            have HM1 := Lib.hid hm1
            have HM2 := Lib.hid hm2
            have D3 := Lib.hid (World.block_lt_of_cell? _ _ e3)
            clear e1 e2 e3 hcc2 hcv hm1 hm2
            generalize c.getD ((c.length - 1 - j + t) % c.length) 0 = x1 at d1 HM1 HCV
            generalize c.getD j 0 = x2 at d2 HM2
            have HIC := Lib.hid hic
            clear hic
            have hcast : ((c.length : Int) - 1 - (j : Int) + (t : Int)) = ((c.length - 1 - j + t : Nat) : Int) := by omega
            have hbz := hb2.size
            have hi1 : (((c.length - 1 - j : Nat) : Int) + (t : Int)) % (c.length : Int) < (c.length : Int) := Int.emod_lt_of_pos _ (by omega)
            have hi2 : 0 ≤ (((c.length - 1 - j : Nat) : Int) + (t : Int)) % (c.length : Int) := Int.emod_nonneg _ (by omega)
            cases h3 : ((j : Int) % 3 == 1) with
            | false =>
              go_wp2_with (at_builtin; refine wpList_append_own _ rfl (.tmp 116) (.tmp 121) 22 rfl w2.heap.size 3 i3 (.int .i64 0) 1 8 Try.underlying22 hi3 hz30 hz31 hz32 rfl (by decide) _ _ _ rfl (hown.alloc _) ⟨wr.heap.size, 0, none⟩ 1 1 [.int .i64 x1] rfl rfl (cell_one_new _ _ _) ?c2 ?c3 ?c4 ?c5 ?_)
              case c2 => first | rfl | (intro u hu; simp at hu; subst hu; rfl)
              case c3 => unfold maxLen; omega
              case c4 => omega
              case c5 => first | omega | (simp; omega)
              intro v' w3 hown' hgrow _
              have hlt2 := fun k hk => (hown.lt k hk).1
              have hb' := (hb2.alloc hb2.size (.cells #[.int .i64 x1] 3)).grown hgrow (by simp; omega) hlt2
              clear hown hgrow
              go_wp2
              go_roundw
              case rel => exact ⟨j + 1, xs ++ [x1], by omega, by go_num, by simp; omega, fun x hx => (List.mem_append.1 hx).elim (HXS.out x) (fun h => by simp at h; subst h; exact HM1.out), HCV.out _ (fun x hx => by simp [hx]) (by simp), by simpa using hown', hb'⟩
              case measure => simp [intOf]; omega
            | true =>
              go_wp2_with (at_builtin; refine wpList_append_own _ rfl (.tmp 116) (.tmp 121) 22 rfl w2.heap.size 3 i3 (.int .i64 0) 1 8 Try.underlying22 hi3 hz30 hz31 hz32 rfl (by decide) _ _ _ rfl (hown.alloc _) ⟨wr.heap.size, 0, none⟩ 1 1 [.int .i64 x1] rfl rfl (cell_one_new _ _ _) ?f2 ?f3 ?f4 ?f5 ?_)
              case f2 => first | rfl | (intro u hu; simp at hu; subst hu; rfl)
              case f3 => unfold maxLen; omega
              case f4 => omega
              case f5 => first | omega | (simp; omega)
              intro v' w3 hown' hgrow _
              have hlt2 := fun k hk => (hown.lt k hk).1
              have hb' := (hb2.alloc hb2.size (.cells #[.int .i64 x1] 3)).grown hgrow (by simp; omega) hlt2
              have hbz3 := hb'.size
              have d3 := (hb'.cell (p := ⟨b1, o1 + j, none⟩) (World.block_lt_of_cell? _ _ ((hb2.cell (p := ⟨b1, o1 + j, none⟩) (by have := World.block_lt_of_cell? _ _ d2; exact D3.out)).symm.trans d2))).trans ((hb2.cell (p := ⟨b1, o1 + j, none⟩) D3.out).symm.trans d2)
              have e5 : (xs.map (Value.int .i64) ++ [.int .i64 x1]) = (xs ++ [x1]).map (Value.int .i64) := by simp
              rw [e5] at hown'
              clear hown hgrow d2 d1 e5
              go_wp2_with (at_builtin; refine wpList_append_own _ rfl (.tmp 126) (.tmp 131) 22 rfl w2.heap.size 3 i3 (.int .i64 0) 1 8 Try.underlying22 hi3 hz30 hz31 hz32 rfl (by decide) _ _ _ rfl (hown'.alloc _) ⟨w3.heap.size, 0, none⟩ 1 1 [.int .i64 x2] rfl rfl (cell_one_new _ _ _) ?g2 ?g3 ?g4 ?g5 ?_)
              case g2 => first | rfl | (intro u hu; simp at hu; subst hu; rfl)
              case g3 => unfold maxLen; omega
              case g4 => omega
              case g5 => first | omega | (simp; omega)
              intro v4 w4 hown4 hgrow4 _
              have hlt4 := fun k hk => (hown'.lt k hk).1
              have hb4 := (hb'.alloc hb'.size (.cells #[.int .i64 x2] 3)).grown hgrow4 (by simp; omega) hlt4
              clear hown' hgrow4
              go_wp2
              go_roundw
              case rel => exact ⟨j + 1, (xs ++ [x1]) ++ [x2], by omega, by go_num, by simp; omega, fun x hx => by
                  simp at hx
                  rcases hx with h | h | h
                  · exact HXS.out x h
                  · subst h; exact HM1.out
                  · subst h; exact HM2.out, HCV.out _ (fun x hx => by simp [hx]) (by simp), by simpa using hown4, hb4⟩
              case measure => simp [intOf]; omega

          · have hkc : j = c.length := by omega
            subst hkc
            have hEq : normR xs = normR c := norm_congr fun x _ => ⟨fun h => HXS.out x h, fun h => by
              obtain ⟨s, hs, rfl⟩ := List.mem_iff_getElem.1 h
              obtain ⟨i, hi, he⟩ := cover c.length t s hs
              have := HCOV.out i hi
              rw [he, List.getD, List.getElem?_eq_getElem hs] at this
              exact this⟩
            have hrr : normR r = some r := by rw [HR.out, HN.out]; exact norm_of List.Pairwise.nil (by simp)
            have hI := owns_ints hown (by omega)
            have hxs64 : ∀ x ∈ xs, I64 x := fun x hx => HLC.out x (HXS.out x hx)
            have hI3x := hI2x.below hb2
            have hbw3 := hbw2.trans (hb2.mono hbw2.size)
            have HEQ := Lib.hid hEq
            have HRR := Lib.hid hrr
            clear hown hI2x hI2c hb2 hbw2 hEq hrr
            go_wp2_with fail
            refine (norm_any _ xs _ hxs64 hI).mono ?_
            rintro e w3 ⟨vy, rfl, hIy, hb3⟩
            rw [HEQ.out, HN.out] at hIy
            rw [HEQ.out, HN.out, Option.isNone_none]
            have hI4x := hI3x.below hb3
            have hbw4 := hbw3.trans (hb3.mono hbw3.size)
            clear hI hI3x hb3 hbw3
            go_wp2_with fail
            refine (norm_any _ r _ HR64.out hI4x).mono ?_
            rintro e w4 ⟨vz, rfl, hIz, hb4⟩
            rw [HRR.out] at hIz
            rw [HRR.out, Option.isNone_some]
            have hI5x := hI4x.below hb4
            have hIy5 := hIy.below hb4
            have hbw5 := hbw4.trans (hb4.mono hbw4.size)
            clear hI4x hIy hb4 hbw4
            go_wp2_with fail
            have hQ := equal_any _ _ r r w4 hI5x (by first | exact hIy5 | (have h := hIy5; rw [HR.out, HN.out] at *; exact h))
            rw [show decide (r = r) = true from by simp] at hQ
            refine hQ.mono ?_
            rintro e w5 ⟨rfl, hb5⟩
            have hI6x := hI5x.below hb5
            have hIz6 := hIz.below hb5
            have hbw6 := hbw5.trans (hb5.mono hbw5.size)
            clear hI5x hIz hb5 hbw5 hQ hIy5
            go_wp2_with fail
            have hQ := equal_any _ _ r r w5 hI6x hIz6
            rw [show decide (r = r) = true from by simp] at hQ
            refine hQ.mono ?_
            rintro e w6 ⟨rfl, hb6⟩
            have hbw7 := hbw6.trans (hb6.mono hbw6.size)
            clear hI6x hIz6 hb6 hbw6 hQ
            go_wp2_with (go_at_call 12; refine (known_any _).mono ?_; rintro e w' ⟨rfl, hbw⟩)
            go_ret
            exact ⟨rfl, hbw7.trans ((by assumption : Below w6.heap.size w6 _).mono hbw7.size)⟩

      | some q =>
        obtain rfl : r = q := by rw [HR.out, hn]; rfl
        have hmem := (norm_some hn).2
        have HM := Lib.hid hmem
        have HN := Lib.hid hn
        clear hmem
        rw [Option.isNone_some]

        obtain ⟨w2, rfl⟩ : ∃ w2 : World, w2 = wr := ⟨_, rfl⟩
        obtain ⟨i3, hi3, hz30, hz31, hz32⟩ := info_parts info3
        have hI2x := hIx0.below hb1
        have hI2c := hIc0.below hb1
        have hbw2 := hb.trans (hb1.mono hb.size)
        clear hIx0 hIc0 hb hb1

        go_wp2
        go_loop [8] (fun i => ∃ j : Nat, j ≤ c.length ∧ i = .int .i64 j) (fun i => c.length - (intOf i).toNat)
        case atStart => exact ⟨0, Nat.zero_le _, rfl⟩
        case round =>
          obtain ⟨j, hj, rfl⟩ := hrel
          by_cases hltc : j < c.length
          · obtain ⟨pcc, capcc, he, _, _, hcc2⟩ := hI2c
            cases he
            obtain ⟨b1, o1, rfl, e1⟩ := hcc2 (by omega)
            have d1 := e1 j hltc
            have hm := mem_getD hltc
            clear e1 hcc2
            generalize c.getD j 0 = x at d1 hm
            by_cases hx0 : x = 0
            · have hxz : (x != 0) = false := by simp [hx0]
              clear hx0
              go_wp2
              go_round
              case rel => exact ⟨j + 1, by omega, by go_num⟩
              case measure => simp [intOf]; omega
            · have hxz : (x != 0) = true := by simp [hx0]
              have hany : r.any (fun y => y == x) = true := List.any_eq_true.2 ⟨x, (HM.out x).2 ⟨hm, hx0⟩, by simp⟩
              have hH := has_any _ r x w2 hI2x
              rw [hany] at hH
              have HH := Lib.hid hH
              clear hx0 hany hH
              go_wp2_with (go_at_call 23; refine HH.out.mono ?_; rintro e w' ⟨rfl, rfl⟩)
              go_round
              case rel => exact ⟨j + 1, by omega, by go_num⟩
              case measure => simp [intOf]; omega
          · go_wp2
            go_loop [9] (fun i => ∃ j : Nat, j ≤ r.length ∧ i = .int .i64 j) (fun i => r.length - (intOf i).toNat)
            case atStart => exact ⟨0, Nat.zero_le _, rfl⟩
            case round =>
              obtain ⟨j, hj, rfl⟩ := hrel
              by_cases hltr : j < r.length
              · obtain ⟨pxx, capxx, he, _, _, hcx2⟩ := hI2x
                cases he
                obtain ⟨b1, o1, rfl, e1⟩ := hcx2 (by omega)
                have d1 := e1 j hltr
                have hm := mem_getD hltr
                clear e1 hcx2
                generalize r.getD j 0 = x at d1 hm
                have hx0 := ((HM.out x).1 hm).2
                have hxz : (x == 0) = false := by simp [hx0]
                have hany : c.any (fun y => y == x) = true := List.any_eq_true.2 ⟨x, ((HM.out x).1 hm).1, by simp⟩
                have hH := has_any _ c x w2 hI2c
                rw [hany] at hH
                have HH := Lib.hid hH
                clear hx0 hany hH
                go_wp2_with (go_at_call 23; refine HH.out.mono ?_; rintro e w' ⟨rfl, rfl⟩)
                go_round
                case rel => exact ⟨j + 1, by omega, by go_num⟩
                case measure => simp [intOf]; omega
              · go_wp2

                go_loopw [10, 11] (fun o i wr => ∃ (j : Nat) (xs : List Int), j ≤ c.length ∧ i = .int .i64 j ∧ xs.length ≤ 2 * j ∧ (∀ x ∈ xs, x ∈ c) ∧ (∀ i, i < j → c.getD ((c.length - 1 - i + t) % c.length) 0 ∈ xs) ∧ wr.ownsRow w2.heap.size 3 1 o xs.length (xs.map (Value.int .i64)) ∧ Below w2.heap.size w2 wr) (fun _ i _ => c.length - (intOf i).toNat)
                case atStart => exact ⟨0, [], Nat.zero_le _, rfl, Nat.le_refl _, by simp, fun i hi => absurd hi (Nat.not_lt_zero _), World.ownsRow_nil _ _ _ _, Below.refl _ _⟩
                case round =>
                  obtain ⟨j, xs, hj, rfl, hxj, hxs, hcov, hown, hb2⟩ := hrel
                  have HXS := Lib.hid hxs
                  have HCOV := Lib.hid hcov
                  clear hxs hcov
                  by_cases hltc : j < c.length
                  · obtain ⟨pcc, capcc, he, _, _, hcc2⟩ := hI2c
                    cases he
                    obtain ⟨b1, o1, rfl, e1⟩ := hcc2 (by omega)
                    have hic : (c.length - 1 - j + t) % c.length < c.length := Nat.mod_lt _ (by omega)
                    have e2 := e1 _ hic
                    have e3 := e1 j hltc
                    have d1 := (hb2.cell (p := ⟨b1, o1 + (c.length - 1 - j + t) % c.length, none⟩) (World.block_lt_of_cell? _ _ e2)).trans e2
                    have d2 := (hb2.cell (p := ⟨b1, o1 + j, none⟩) (World.block_lt_of_cell? _ _ e3)).trans e3
                    have hm1 := mem_getD hic
                    have hm2 := mem_getD hltc
                    have hcv : ∀ xs' : List Int, (∀ x ∈ xs, x ∈ xs') → c.getD ((c.length - 1 - j + t) % c.length) 0 ∈ xs' → ∀ i, i < j + 1 → c.getD ((c.length - 1 - i + t) % c.length) 0 ∈ xs' := fun xs' h1 h2 i hi => by
                      by_cases hij : i = j
                      · subst hij; exact h2
                      · exact h1 _ (HCOV.out i (by omega))
                    have HCV := Lib.hid hcv
                    have HM1 := Lib.hid hm1
                    have HM2 := Lib.hid hm2
                    have D3 := Lib.hid (World.block_lt_of_cell? _ _ e3)
                    clear e1 e2 e3 hcc2 hcv hm1 hm2
                    generalize c.getD ((c.length - 1 - j + t) % c.length) 0 = x1 at d1 HM1 HCV
                    generalize c.getD j 0 = x2 at d2 HM2
                    have HIC := Lib.hid hic
                    clear hic
                    have hcast : ((c.length : Int) - 1 - (j : Int) + (t : Int)) = ((c.length - 1 - j + t : Nat) : Int) := by omega
                    have hbz := hb2.size
                    have hi1 : (((c.length - 1 - j : Nat) : Int) + (t : Int)) % (c.length : Int) < (c.length : Int) := Int.emod_lt_of_pos _ (by omega)
                    have hi2 : 0 ≤ (((c.length - 1 - j : Nat) : Int) + (t : Int)) % (c.length : Int) := Int.emod_nonneg _ (by omega)
                    cases h3 : ((j : Int) % 3 == 1) with
                    | false =>
                      go_wp2_with (at_builtin; refine wpList_append_own _ rfl (.tmp 116) (.tmp 121) 22 rfl w2.heap.size 3 i3 (.int .i64 0) 1 8 Try.underlying22 hi3 hz30 hz31 hz32 rfl (by decide) _ _ _ rfl (hown.alloc _) ⟨wr.heap.size, 0, none⟩ 1 1 [.int .i64 x1] rfl rfl (cell_one_new _ _ _) ?cs2 ?cs3 ?cs4 ?cs5 ?_)
                      case cs2 => first | rfl | (intro u hu; simp at hu; subst hu; rfl)
                      case cs3 => unfold maxLen; omega
                      case cs4 => omega
                      case cs5 => first | omega | (simp; omega)
                      intro v' w3 hown' hgrow _
                      have hlt2 := fun k hk => (hown.lt k hk).1
                      have hb' := (hb2.alloc hb2.size (.cells #[.int .i64 x1] 3)).grown hgrow (by simp; omega) hlt2
                      clear hown hgrow
                      go_wp2
                      go_roundw
                      case rel => exact ⟨j + 1, xs ++ [x1], by omega, by go_num, by simp; omega, fun x hx => (List.mem_append.1 hx).elim (HXS.out x) (fun h => by simp at h; subst h; exact HM1.out), HCV.out _ (fun x hx => by simp [hx]) (by simp), by simpa using hown', hb'⟩
                      case measure => simp [intOf]; omega
                    | true =>
                      go_wp2_with (at_builtin; refine wpList_append_own _ rfl (.tmp 116) (.tmp 121) 22 rfl w2.heap.size 3 i3 (.int .i64 0) 1 8 Try.underlying22 hi3 hz30 hz31 hz32 rfl (by decide) _ _ _ rfl (hown.alloc _) ⟨wr.heap.size, 0, none⟩ 1 1 [.int .i64 x1] rfl rfl (cell_one_new _ _ _) ?fs2 ?fs3 ?fs4 ?fs5 ?_)
                      case fs2 => first | rfl | (intro u hu; simp at hu; subst hu; rfl)
                      case fs3 => unfold maxLen; omega
                      case fs4 => omega
                      case fs5 => first | omega | (simp; omega)
                      intro v' w3 hown' hgrow _
                      have hlt2 := fun k hk => (hown.lt k hk).1
                      have hb' := (hb2.alloc hb2.size (.cells #[.int .i64 x1] 3)).grown hgrow (by simp; omega) hlt2
                      have hbz3 := hb'.size
                      have d3 := (hb'.cell (p := ⟨b1, o1 + j, none⟩) (World.block_lt_of_cell? _ _ ((hb2.cell (p := ⟨b1, o1 + j, none⟩) (by have := World.block_lt_of_cell? _ _ d2; exact D3.out)).symm.trans d2))).trans ((hb2.cell (p := ⟨b1, o1 + j, none⟩) D3.out).symm.trans d2)
                      have e5 : (xs.map (Value.int .i64) ++ [.int .i64 x1]) = (xs ++ [x1]).map (Value.int .i64) := by simp
                      rw [e5] at hown'
                      clear hown hgrow d2 d1 e5
                      go_wp2_with (at_builtin; refine wpList_append_own _ rfl (.tmp 126) (.tmp 131) 22 rfl w2.heap.size 3 i3 (.int .i64 0) 1 8 Try.underlying22 hi3 hz30 hz31 hz32 rfl (by decide) _ _ _ rfl (hown'.alloc _) ⟨w3.heap.size, 0, none⟩ 1 1 [.int .i64 x2] rfl rfl (cell_one_new _ _ _) ?gs2 ?gs3 ?gs4 ?gs5 ?_)
                      case gs2 => first | rfl | (intro u hu; simp at hu; subst hu; rfl)
                      case gs3 => unfold maxLen; omega
                      case gs4 => omega
                      case gs5 => first | omega | (simp; omega)
                      intro v4 w4 hown4 hgrow4 _
                      have hlt4 := fun k hk => (hown'.lt k hk).1
                      have hb4 := (hb'.alloc hb'.size (.cells #[.int .i64 x2] 3)).grown hgrow4 (by simp; omega) hlt4
                      clear hown' hgrow4
                      go_wp2
                      go_roundw
                      case rel => exact ⟨j + 1, (xs ++ [x1]) ++ [x2], by omega, by go_num, by simp; omega, fun x hx => by
                          simp at hx
                          rcases hx with h | h | h
                          · exact HXS.out x h
                          · subst h; exact HM1.out
                          · subst h; exact HM2.out, HCV.out _ (fun x hx => by simp [hx]) (by simp), by simpa using hown4, hb4⟩
                      case measure => simp [intOf]; omega

                  · have hkc : j = c.length := by omega
                    subst hkc
                    have hEq : normR xs = normR c := norm_congr fun x _ => ⟨fun h => HXS.out x h, fun h => by
                      obtain ⟨s, hs, rfl⟩ := List.mem_iff_getElem.1 h
                      obtain ⟨i, hi, he⟩ := cover c.length t s hs
                      have := HCOV.out i hi
                      rw [he, List.getD, List.getElem?_eq_getElem hs] at this
                      exact this⟩
                    have hrr : normR r = some r := norm_norm HN.out
                    have hI := owns_ints hown (by omega)
                    have hxs64 : ∀ x ∈ xs, I64 x := fun x hx => HLC.out x (HXS.out x hx)
                    have hI3x := hI2x.below hb2
                    have hbw3 := hbw2.trans (hb2.mono hbw2.size)
                    have HEQ := Lib.hid hEq
                    have HRR := Lib.hid hrr
                    clear hown hI2x hI2c hb2 hbw2 hEq hrr
                    go_wp2_with fail
                    refine (norm_any _ xs _ hxs64 hI).mono ?_
                    rintro e w3 ⟨vy, rfl, hIy, hb3⟩
                    rw [HEQ.out, HN.out] at hIy
                    rw [HEQ.out, HN.out, Option.isNone_some]
                    have hI4x := hI3x.below hb3
                    have hbw4 := hbw3.trans (hb3.mono hbw3.size)
                    clear hI hI3x hb3 hbw3
                    go_wp2_with fail
                    refine (norm_any _ r _ HR64.out hI4x).mono ?_
                    rintro e w4 ⟨vz, rfl, hIz, hb4⟩
                    rw [HRR.out] at hIz
                    rw [HRR.out, Option.isNone_some]
                    have hI5x := hI4x.below hb4
                    have hIy5 := hIy.below hb4
                    have hbw5 := hbw4.trans (hb4.mono hbw4.size)
                    clear hI4x hIy hb4 hbw4
                    go_wp2_with fail
                    have hQ := equal_any _ _ r r w4 hI5x (by first | exact hIy5 | (have h := hIy5; rw [HR.out] at *; exact h))
                    rw [show decide (r = r) = true from by simp] at hQ
                    refine hQ.mono ?_
                    rintro e w5 ⟨rfl, hb5⟩
                    have hI6x := hI5x.below hb5
                    have hIz6 := hIz.below hb5
                    have hbw6 := hbw5.trans (hb5.mono hbw5.size)
                    clear hI5x hIz hb5 hbw5 hQ hIy5
                    go_wp2_with fail
                    have hQ := equal_any _ _ r r w5 hI6x hIz6
                    rw [show decide (r = r) = true from by simp] at hQ
                    refine hQ.mono ?_
                    rintro e w6 ⟨rfl, hb6⟩
                    have hbw7 := hbw6.trans (hb6.mono hbw6.size)
                    clear hI6x hIz6 hb6 hbw6 hQ
                    go_wp2_with (go_at_call 12; refine (known_any _).mono ?_; rintro e w' ⟨rfl, hbw⟩)
                    go_ret
                    exact ⟨rfl, hbw7.trans ((by assumption : Below w6.heap.size w6 _).mono hbw7.size)⟩

end L
end Go.Proofs.Ytfpojpiajggncaa
