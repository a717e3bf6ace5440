/- Contract of the reference's Norm. -/
import Derived.Test.YtfpojpiajggncaaQ
import Derived.Test.YtfpojpiajggncaaM
namespace Go.Proofs.Ytfpojpiajggncaa
open Go.RowKit
namespace L
open K

theorem ownsRow_heap {w W : World} {B n : Nat} {v : Value} {xs : List Value} (h : w.ownsRow B 3 1 v n xs) (h1 : W.heap = w.heap) : W.ownsRow B 3 1 v n xs := by
  unfold World.ownsRow at *
  rw [h1]; exact h

set_option maxRecDepth 100000 in
set_option maxHeartbeats 8000000 in
theorem rnorm_any (v : Value) (c : List Int) (w : World) (hl : ∀ x ∈ c, I64 x) (h : Ints w v c) :
    Calls Try.prog 17 #[v] w fun e w' => ∃ v', e = .returned (.tuple #[v', .bool (normR c).isNone]) ∧ Ints w' v' ((normR c).getD []) ∧ Below w.heap.size w w' := by
  obtain ⟨p, cap, rfl, hcap, hm8, hcell⟩ := h
  obtain ⟨i3, hi3, hz30, hz31, hz32⟩ := info_parts info3
  have HCELL := Lib.hid hcell
  have HL := Lib.hid hl
  clear hcell hl
  go_enter Try.func17, Try.ntmps17
  go_wp2
  go_loopw [4, 5] (fun o i wr => ∃ (k : Nat) (out : List Int), k ≤ c.length ∧ i = .int .i64 k ∧ out.length ≤ k ∧ Srt out ∧ (∀ x, x ∈ out ↔ x ∈ c.take k ∧ x ≠ 0) ∧ wr.ownsRow w.heap.size 3 1 o out.length (out.map (Value.int .i64)) ∧ Below w.heap.size w wr) (fun _ i _ => c.length - (intOf i).toNat)
  case atStart => exact ⟨0, [], Nat.zero_le _, rfl, Nat.le_refl _, List.Pairwise.nil, by simp, World.ownsRow_nil _ _ _ _, Below.refl _ _⟩
  case round =>
    obtain ⟨k, out, hk, rfl, hok, hos, hom, hown, hb⟩ := hrel
    have HOS := Lib.hid hos
    have HOM := Lib.hid hom
    clear hos hom
    by_cases hlt : k < c.length
    · obtain ⟨bc, oc, rfl, e1⟩ := HCELL.out (by omega)
      have DC := Lib.hid (e1 k hlt)
      have d1 := (hb.cell (p := ⟨bc, oc + k, none⟩) (World.block_lt_of_cell? _ _ (e1 k hlt))).trans (e1 k hlt)
      have hx64 := HL.out _ (mem_getD hlt)
      clear e1
      obtain ⟨x, hx⟩ : ∃ x, x = c.getD k 0 := ⟨_, rfl⟩
      rw [← hx] at d1 hx64 DC
      have HX := Lib.hid hx.symm
      clear hx
      by_cases hx0 : x = 0
      · have hb0 : (x == 0) = true := by simp [hx0]
        have HX0 := Lib.hid hx0
        clear hx0
        have SK : Hid (∀ y, y ∈ out ↔ y ∈ c.take (k + 1) ∧ y ≠ 0) := fun y => by
          rw [HOM.out y, take_mem_succ hlt, HX.out, HX0.out]
          constructor
          · rintro ⟨h1, h2⟩; exact ⟨Or.inl h1, h2⟩
          · rintro ⟨h1 | h1, h2⟩
            · exact ⟨h1, h2⟩
            · exact absurd h1 h2
        go_wp2
        go_roundw
        case rel => exact ⟨k + 1, out, by omega, by go_num, by omega, HOS.out, SK.out, hown, hb⟩
        case measure => simp [intOf]; omega

      · have hb0 : (x == 0) = false := by simp [hx0]
        have HX0 := Lib.hid hx0
        clear hx0
        go_wp2
        go_loopw [6] (fun at' wr => ∃ a : Nat, a ≤ out.length ∧ at' = .int .i64 a ∧ (∀ j, j < a → lessB (out.getD j 0) x = true) ∧ wr.ownsRow w.heap.size 3 1 u4 out.length (out.map (Value.int .i64)) ∧ Below w.heap.size w wr) (fun at' _ => out.length - (intOf at').toNat)
        case atStart => exact ⟨0, Nat.zero_le _, rfl, fun j hj => absurd hj (Nat.not_lt_zero _), hown, hb⟩
        case round =>
          clear hown hb d1
          obtain ⟨a, ha, rfl, hA1, hown2, hb2⟩ := hrel
          have d1 := (hb2.cell (p := ⟨bc, oc + k, none⟩) (World.block_lt_of_cell? _ _ DC.out)).trans DC.out
          have HA1 := Lib.hid hA1
          clear hA1
          have HBQ : Hid (∀ W : World, W.heap = wr.heap → W.os = wr.os → W.tape = wr.tape → W.output = wr.output → Below w.heap.size w W) := fun W h1 h2 h3 h4 => hb2.trans ⟨h2, h3, h4, by rw [h1]; exact Nat.le_refl _, fun _ _ => by rw [h1]⟩
          by_cases hat : a < out.length
          · rcases hown2.2 with ⟨hv2, h02⟩ | ⟨g2, cap2, cur2, hv2, hbg2, hg2, hn2, hcap2, hszc2, htake2⟩
            · omega
            subst hv2
            clear hg2 hszc2 htake2
            have de := cell_of hown2 (j := a) hat
            have he64 : I64 (out.getD a 0) := HL.out _ (List.mem_of_mem_take ((HOM.out _).1 (mem_getD hat)).1)
            obtain ⟨y, hy⟩ : ∃ y, y = out.getD a 0 := ⟨_, rfl⟩
            rw [← hy] at de he64
            have HY := Lib.hid hy.symm
            clear hy
            have HOQ : Hid (∀ W : World, W.heap = wr.heap → W.ownsRow w.heap.size 3 1 (.slice (some ⟨g2, 0, none⟩) out.length cap2) out.length (out.map (Value.int .i64))) := fun W h1 => ownsRow_heap hown2 h1
            have hg1 : decide ((a : Int) < (out.length : Int)) = true := by simpa using hat
            have hg1n : decide (a < out.length) = true := by simpa using hat
            cases hless : lessB y x with
            | true =>
              have HA1' : Hid (∀ j, j < a + 1 → lessB (out.getD j 0) x = true) := fun j hj => by
                by_cases hja : j = a
                · subst hja; rw [HY.out]; exact hless
                · exact HA1.out j (by omega)
              go_wp2
              go_quiet ((go_at_call 20; exact Calls.quiet_of_same ((rless_any _ _ (by assumption) (by assumption) _).mono fun _ _ h => ⟨h.1, h.2.symm⟩)))
              go_wp2
              go_roundw
              case rel => exact ⟨a + 1, by omega, by go_num, HA1'.out, hown2.kept (row := none) ⟨rfl, rfl, rfl, Nat.le_refl _, fun _ _ _ => rfl⟩ (by simp [Value.ownBlock]), below_drewN hb2 _⟩
              case measure => simp [intOf]; omega
            | false =>
              by_cases hyx : y = x
              · have hq : (y == x) = true := by simp [hyx]
                have HYX := Lib.hid hyx
                clear hyx
                go_wp2
                go_quiet ((go_at_call 20; exact Calls.quiet_of_same ((rless_any _ _ (by assumption) (by assumption) _).mono fun _ _ h => ⟨h.1, h.2.symm⟩)))
                go_wp2
                go_quiet (fail)
                have SK : Hid (∀ z, z ∈ out ↔ z ∈ c.take (k + 1) ∧ z ≠ 0) := fun z => by
                  rw [HOM.out z, take_mem_succ hlt, HX.out]
                  constructor
                  · rintro ⟨h1, h2⟩; exact ⟨Or.inl h1, h2⟩
                  · rintro ⟨h1 | h1, h2⟩
                    · exact ⟨h1, h2⟩
                    · rw [h1, ← HYX.out, ← HY.out]; exact (HOM.out _).1 (mem_getD hat)
                go_wp2
                go_roundw
                case rel => exact ⟨k + 1, out, by omega, by go_num, by omega, HOS.out, SK.out, HOQ.out _ rfl, HBQ.out _ rfl rfl rfl rfl⟩
                case measure => simp [intOf]; omega

              · have hq : (y == x) = false := by simp [hyx]
                have HYX := Lib.hid hyx
                clear hyx
                go_wp2
                go_quiet ((go_at_call 20; exact Calls.quiet_of_same ((rless_any _ _ (by assumption) (by assumption) _).mono fun _ _ h => ⟨h.1, h.2.symm⟩)))
                go_wp2
                go_quiet (fail)
                have HA2 : Hid (a < out.length → lessB x (out.getD a 0) = true) := fun _ => by
                  rw [HY.out]
                  cases h : lessB x y with
                  | true => rfl
                  | false => exact absurd (lessB_tot hless h) HYX.out

                go_wp2_with (at_builtin; refine wpList_append_own _ rfl _ _ 22 rfl w.heap.size 3 i3 (.int .i64 0) 1 8 Try.underlying22 hi3 hz30 hz31 hz32 rfl (by decide) _ _ _ rfl ((HOQ.out _ rfl).alloc _) ⟨_, 0, none⟩ 1 1 [.int .i64 0] rfl rfl (cell_one_new _ _ _) ?cS2 ?cS3 ?cS4 ?cS5 ?_)
                case cS2 => first | rfl | (intro u hu; simp at hu; subst hu; rfl)
                case cS3 => unfold maxLen; omega
                case cS4 => omega
                case cS5 => have := hb2.size; first | omega | (simp; omega)
                intro v5 w5 hown5 hgrow5 hnil5
                have hlt5 := fun k hk => (hown2.lt k hk).1
                have hb5 : Below w.heap.size w w5 := by
                  refine Below.grown (Below.alloc ?_ ?_ _) hgrow5 ?_ hlt5
                  · exact HBQ.out _ rfl rfl rfl rfl
                  · exact hb2.size
                  · have := hb2.size; simp; omega
                rcases hown5.2 with ⟨hv5, h05⟩ | ⟨g5, cap5, cur5, hv5, hbg5, hg5, hn5, hcap5, hszc5, htake5⟩
                · omega
                have e5 : out.map (Value.int .i64) ++ [.int .i64 0] = (out ++ [0]).map (Value.int .i64) := by simp
                rw [e5] at hown5
                subst hv5
                clear hown2 hgrow5 hnil5 hb2 hg5 hszc5 htake5 e5 hlt5
                go_wp2
                go_loopw [7] (fun kk wr => ∃ (m : Nat) (ys : List Int), a ≤ m ∧ m ≤ out.length ∧ kk = .int .i64 m ∧ Shift out ys m ∧ wr.ownsRow w.heap.size 3 1 (.slice (some ⟨g5, 0, none⟩) (out.length + 1) cap5) (out.length + 1) (ys.map (Value.int .i64)) ∧ Below w.heap.size w wr) (fun kk _ => (intOf kk).toNat)
                case atStart => exact ⟨out.length, out ++ [0], by omega, Nat.le_refl _, by go_num, shift_start out, hown5, hb5⟩
                case round =>
                  clear hown5 hb5
                  obtain ⟨m, ys, ham, hmn, rfl, hsh, hown6, hb6⟩ := hrel
                  have hyl := hsh.1
                  by_cases hma : a < m
                  · have d1 := cell_of hown6 (j := m - 1) (by omega)
                    have d2 := cell_of hown6 (j := m) (by omega)
                    have f2 := hown6.frozenAt m
                    have HS := Lib.hid (shift_step hsh (by omega) hmn)
                    have HO := Lib.hid (hown6.stored m (.int .i64 (ys.getD (m - 1) 0))).1
                    have HSET := Lib.hid (List.map_set (f := Value.int .i64) (l := ys) (i := m) (a := ys.getD (m - 1) 0))
                    generalize ys.getD (m - 1) 0 = y1 at d1 HS HO HSET
                    generalize ys.getD m 0 = y2 at d2
                    clear hsh hown6
                    go_wp2
                    go_roundw
                    case rel => exact ⟨m - 1, ys.set m y1, by omega, by omega, by go_num, HS.out, by rw [HSET.out]; exact HO.out, hb6.setCell (p := ⟨g5, m, none⟩) hbg5 _⟩
                    case measure => simp [intOf]; omega
                  · obtain rfl : m = a := by omega
                    obtain ⟨w6, rfl⟩ : ∃ w6 : World, w6 = wr := ⟨_, rfl⟩
                    have d2 := cell_of hown6 (j := m) (by omega)
                    have f2 := hown6.frozenAt m
                    have dc := (hb6.cell (p := ⟨bc, oc + k, none⟩) (World.block_lt_of_cell? _ _ DC.out)).trans DC.out
                    have HO := Lib.hid (hown6.stored m (.int .i64 x)).1
                    have HSET := Lib.hid (List.map_set (f := Value.int .i64) (l := ys) (i := m) (a := x))
                    have HE := Lib.hid (shift_end (x := x) hsh hmn)
                    have HSR := Lib.hid (insL_srt (x := x) HOS.out HA1.out HA2.out hmn)
                    have HLN := Lib.hid (insL_len (x := x) hmn)
                    generalize ys.getD m 0 = y2 at d2
                    clear hsh hown6
                    go_wp2
                    go_roundw
                    case rel =>
                      refine ⟨k + 1, insL out m x, by omega, by go_num, by rw [HLN.out]; omega, HSR.out, fun y => ?_, ?_, hb6.setCell (p := ⟨g5, m, none⟩) hbg5 _⟩
                      · rw [insL_mem, HOM.out y, take_mem_succ hlt, HX.out]
                        constructor
                        · rintro (⟨h1, h2⟩ | h1)
                          · exact ⟨Or.inl h1, h2⟩
                          · exact ⟨Or.inr h1, h1 ▸ HX0.out⟩
                        · rintro ⟨h1 | h1, h2⟩
                          · exact Or.inl ⟨h1, h2⟩
                          · exact Or.inr h1
                      · rw [HLN.out, ← HE.out, HSET.out]; exact HO.out
                    case measure => simp [intOf]; omega

          · obtain ⟨p4, c4, hv4⟩ : ∃ p cc, u4 = .slice p out.length cc := by
              rcases hown2.2 with ⟨hv2, h02⟩ | ⟨g2, cap2, cur2, hv2, _⟩
              · exact ⟨none, 0, by rw [hv2, h02]⟩
              · exact ⟨_, cap2, hv2⟩
            subst hv4
            have hat2 : decide ((a : Int) < (out.length : Int)) = false := by simpa using hat
            have hat3 : decide (a < out.length) = false := by simpa using hat
            have HOQ : Hid (∀ W : World, W.heap = wr.heap → W.ownsRow w.heap.size 3 1 (.slice p4 out.length c4) out.length (out.map (Value.int .i64))) := fun W h1 => ownsRow_heap hown2 h1
            have HA2 : Hid (a < out.length → lessB x (out.getD a 0) = true) := fun h => absurd h hat
            clear hat
            go_wp2
            go_quiet (fail)
            go_wp2
            go_quiet (fail)

            go_wp2_with (at_builtin; refine wpList_append_own _ rfl _ _ 22 rfl w.heap.size 3 i3 (.int .i64 0) 1 8 Try.underlying22 hi3 hz30 hz31 hz32 rfl (by decide) _ _ _ rfl ((HOQ.out _ rfl).alloc _) ⟨_, 0, none⟩ 1 1 [.int .i64 0] rfl rfl (cell_one_new _ _ _) ?dS2 ?dS3 ?dS4 ?dS5 ?_)
            case dS2 => first | rfl | (intro u hu; simp at hu; subst hu; rfl)
            case dS3 => unfold maxLen; omega
            case dS4 => omega
            case dS5 => have := hb2.size; first | omega | (simp; omega)
            intro v5 w5 hown5 hgrow5 hnil5
            have hlt5 := fun k hk => (hown2.lt k hk).1
            have hb5 : Below w.heap.size w w5 := by
              refine Below.grown (Below.alloc ?_ ?_ _) hgrow5 ?_ hlt5
              · exact HBQ.out _ rfl rfl rfl rfl
              · exact hb2.size
              · have := hb2.size; simp; omega
            rcases hown5.2 with ⟨hv5, h05⟩ | ⟨g5, cap5, cur5, hv5, hbg5, hg5, hn5, hcap5, hszc5, htake5⟩
            · omega
            have e5 : out.map (Value.int .i64) ++ [.int .i64 0] = (out ++ [0]).map (Value.int .i64) := by simp
            rw [e5] at hown5
            subst hv5
            clear hown2 hgrow5 hnil5 hb2 hg5 hszc5 htake5 e5 hlt5
            go_wp2
            go_loopw [7] (fun kk wr => ∃ (m : Nat) (ys : List Int), a ≤ m ∧ m ≤ out.length ∧ kk = .int .i64 m ∧ Shift out ys m ∧ wr.ownsRow w.heap.size 3 1 (.slice (some ⟨g5, 0, none⟩) (out.length + 1) cap5) (out.length + 1) (ys.map (Value.int .i64)) ∧ Below w.heap.size w wr) (fun kk _ => (intOf kk).toNat)
            case atStart => exact ⟨out.length, out ++ [0], by omega, Nat.le_refl _, by go_num, shift_start out, hown5, hb5⟩
            case round =>
              clear hown5 hb5
              obtain ⟨m, ys, ham, hmn, rfl, hsh, hown6, hb6⟩ := hrel
              have hyl := hsh.1
              by_cases hma : a < m
              · have d1 := cell_of hown6 (j := m - 1) (by omega)
                have d2 := cell_of hown6 (j := m) (by omega)
                have f2 := hown6.frozenAt m
                have HS := Lib.hid (shift_step hsh (by omega) hmn)
                have HO := Lib.hid (hown6.stored m (.int .i64 (ys.getD (m - 1) 0))).1
                have HSET := Lib.hid (List.map_set (f := Value.int .i64) (l := ys) (i := m) (a := ys.getD (m - 1) 0))
                generalize ys.getD (m - 1) 0 = y1 at d1 HS HO HSET
                generalize ys.getD m 0 = y2 at d2
                clear hsh hown6
                go_wp2
                go_roundw
                case rel => exact ⟨m - 1, ys.set m y1, by omega, by omega, by go_num, HS.out, by rw [HSET.out]; exact HO.out, hb6.setCell (p := ⟨g5, m, none⟩) hbg5 _⟩
                case measure => simp [intOf]; omega
              · obtain rfl : m = a := by omega
                obtain ⟨w6, rfl⟩ : ∃ w6 : World, w6 = wr := ⟨_, rfl⟩
                have d2 := cell_of hown6 (j := m) (by omega)
                have f2 := hown6.frozenAt m
                have dc := (hb6.cell (p := ⟨bc, oc + k, none⟩) (World.block_lt_of_cell? _ _ DC.out)).trans DC.out
                have HO := Lib.hid (hown6.stored m (.int .i64 x)).1
                have HSET := Lib.hid (List.map_set (f := Value.int .i64) (l := ys) (i := m) (a := x))
                have HE := Lib.hid (shift_end (x := x) hsh hmn)
                have HSR := Lib.hid (insL_srt (x := x) HOS.out HA1.out HA2.out hmn)
                have HLN := Lib.hid (insL_len (x := x) hmn)
                generalize ys.getD m 0 = y2 at d2
                clear hsh hown6
                go_wp2
                go_roundw
                case rel =>
                  refine ⟨k + 1, insL out m x, by omega, by go_num, by rw [HLN.out]; omega, HSR.out, fun y => ?_, ?_, hb6.setCell (p := ⟨g5, m, none⟩) hbg5 _⟩
                  · rw [insL_mem, HOM.out y, take_mem_succ hlt, HX.out]
                    constructor
                    · rintro (⟨h1, h2⟩ | h1)
                      · exact ⟨Or.inl h1, h2⟩
                      · exact ⟨Or.inr h1, h1 ▸ HX0.out⟩
                    · rintro ⟨h1 | h1, h2⟩
                      · exact Or.inl ⟨h1, h2⟩
                      · exact Or.inr h1
                  · rw [HLN.out, ← HE.out, HSET.out]; exact HO.out
                case measure => simp [intOf]; omega

    · obtain rfl : k = c.length := by omega
      have hmem : ∀ x, x ∈ out ↔ x ∈ c ∧ x ≠ 0 := fun x => by rw [HOM.out x, List.take_of_length_le (Nat.le_refl _)]
      have HMEM := Lib.hid hmem
      obtain ⟨p4, c4, hv4, hp4⟩ : ∃ p cc, u4 = .slice p out.length cc ∧ (0 < out.length → ∃ g, p = some ⟨g, 0, none⟩) := by
        rcases hown.2 with ⟨hv2, h02⟩ | ⟨g2, cap2, cur2, hv2, _⟩
        · exact ⟨none, 0, by rw [hv2, h02], fun h => by omega⟩
        · exact ⟨_, cap2, hv2, fun _ => ⟨g2, rfl⟩⟩
      subst hv4
      have hcl : out.length ≤ c.length := hok
      have ho64 : ∀ x ∈ out, I64 x := fun x hx => HL.out x ((hmem x).1 hx).1
      have HO64 := Lib.hid ho64
      clear hmem ho64
      go_wp2
      go_loopw [8] (fun ii wr => ∃ m : Nat, m ≤ out.length ∧ ii = .int .i64 m ∧ (∀ j, j < m → j + 1 < out.length → av (out.getD j 0) ≠ av (out.getD (j + 1) 0)) ∧ wr.ownsRow w.heap.size 3 1 (.slice p4 out.length c4) out.length (out.map (Value.int .i64)) ∧ Below w.heap.size w wr) (fun ii _ => out.length - (intOf ii).toNat)
      case atStart => exact ⟨0, Nat.zero_le _, rfl, fun j hj => absurd hj (Nat.not_lt_zero _), hown, hb⟩
      case round =>
        clear hown hb
        obtain ⟨m, hm, rfl, hno, hown, hb⟩ := hrel
        have HNO := Lib.hid hno
        clear hno
        by_cases hlt2 : m + 1 < out.length
        · obtain ⟨g, rfl⟩ := hp4 (by omega)
          have d1 := cell_of hown (j := m) (by omega)
          have d2 := cell_of hown (j := m + 1) hlt2
          have hy64 := HO64.out _ (mem_getD (l := out) (k := m) (by omega))
          have hz64 := HO64.out _ (mem_getD (l := out) hlt2)
          obtain ⟨y, hy⟩ : ∃ y, y = out.getD m 0 := ⟨_, rfl⟩
          obtain ⟨z, hz⟩ : ∃ z, z = out.getD (m + 1) 0 := ⟨_, rfl⟩
          rw [← hy] at d1 hy64
          rw [← hz] at d2 hz64
          have HY := Lib.hid hy
          have HZ := Lib.hid hz
          have HBQ : Hid (∀ W : World, W.heap = wr.heap → W.os = wr.os → W.tape = wr.tape → W.output = wr.output → Below w.heap.size w W) := fun W h1 h2 h3 h4 => hb.trans ⟨h2, h3, h4, by rw [h1]; exact Nat.le_refl _, fun _ _ => by rw [h1]⟩
          have HOQ : Hid (∀ W : World, W.heap = wr.heap → W.ownsRow w.heap.size 3 1 (.slice (some ⟨g, 0, none⟩) out.length c4) out.length (out.map (Value.int .i64))) := fun W h1 => ownsRow_heap hown h1
          clear hy hz hp4 hown hb
          cases hv : (av y == av z) with
          | true =>
            have HN : Hid (normR c = none) := by
              have hc := srt_clash HOS.out (fun x hx => ((HMEM.out x).1 hx).2) hlt2 (by rw [← HY.out, ← HZ.out]; simpa using hv)
              obtain ⟨x1, x2, h1, h2, h3⟩ := hc
              exact clash_none ⟨x1, x2, ((HMEM.out _).1 h1).1, ((HMEM.out _).1 h2).1, h3⟩
            go_wp2
            go_quiet ((go_at_call 25; exact Calls.quiet_of_same ((size_any _ (by assumption) _).mono fun _ _ h => ⟨h.1, h.2.symm⟩)))
            go_wp2
            go_ret2
            rw [HN.out]
            exact ⟨_, rfl, ⟨none, 0, rfl, Nat.le_refl _, by simp, fun h => by simp at h⟩, HBQ.out _ rfl rfl rfl rfl⟩
          | false =>
            have HNO2 : Hid (∀ j, j < m + 1 → j + 1 < out.length → av (out.getD j 0) ≠ av (out.getD (j + 1) 0)) := fun j hj hj2 => by
              by_cases hjm : j = m
              · subst hjm; rw [← HY.out, ← HZ.out]; simpa using hv
              · exact HNO.out j (by omega) hj2
            go_wp2
            go_quiet ((go_at_call 25; exact Calls.quiet_of_same ((size_any _ (by assumption) _).mono fun _ _ h => ⟨h.1, h.2.symm⟩)))
            go_wp2
            go_roundw
            case rel => exact ⟨m + 1, by omega, by go_num, HNO2.out, HOQ.out _ rfl, HBQ.out _ rfl rfl rfl rfl⟩
            case measure => simp [intOf]; omega
        · have HN : Hid (normR c = some out) := norm_of (srt_inc HOS.out (fun j hj => HNO.out j (by omega) hj)) HMEM.out
          have HI := Lib.hid (owns_ints hown (by omega))
          clear hown
          go_wp2
          go_ret2
          rw [HN.out]
          exact ⟨_, rfl, HI.out, hb⟩
end L
end Go.Proofs.Ytfpojpiajggncaa
