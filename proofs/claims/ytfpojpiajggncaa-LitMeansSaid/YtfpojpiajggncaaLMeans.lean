/- LitMeans: the walk. -/
import Derived.Test.YtfpojpiajggncaaLChecks
import Derived.Test.YtfpojpiajggncaaP
namespace Go.Proofs.Ytfpojpiajggncaa
open Go.RowKit
namespace L
open K

theorem info4 : (Try.prog.info? 4).map (fun i => (i.zero, i.size, i.bytes)) = some (some (.bool false), 1, 1) := by kernel_rfl

theorem owns_bools {w : World} {base : Nat} {v : Value} {l : List Bool} (h : w.ownsRow base 4 1 v l.length (l.map Value.bool)) (hm : l.length ≤ 140737488351232) : Bools w v l := by
  rcases h.2 with ⟨rfl, h0⟩ | ⟨g, cap, cur, rfl, hb, hg, hn, hcap, hsz, htake⟩
  · exact ⟨none, 0, by rw [h0], by omega, hm, fun h => by omega⟩
  · refine ⟨some ⟨g, 0, none⟩, cap, rfl, hn, hm, fun _ => ⟨g, 0, rfl, fun j hj => ?_⟩⟩
    have := h.cellAt j (by omega)
    rw [Nat.zero_add, this]
    simp [List.getD, hj]

/-- With a value for each variable exactly one of a literal and its negative holds. -/
theorem lit_two (m : List Bool) (x y : Int) (hm : m.length = 30) (hx : x ≠ 0) (hx30 : av x ≤ 30) (hne : x ≠ y) (hv : av x = av y) : litB m x = true ∨ litB m y = true := by
  have h1 : 0 < av x := by have := @av_nonneg x; have := @av_zero x; omega
  have h2 : 0 < av y := by omega
  simp only [litB, ← hv, h1, decide_true, Bool.true_and, hm]
  have h3 : av x ≤ ((30 : Nat) : Int) := by simpa using hx30
  simp only [h3, decide_true, Bool.true_and]
  have h4 : 0 < x ↔ ¬ 0 < y := by unfold av at hv; split at hv <;> split at hv <;> omega
  cases m.getD (av x - 1).toNat false <;> by_cases h5 : 0 < x <;> simp_all
theorem means_none {m : List Bool} {l : List Int} (hm : m.length = 30) (hl : ∀ x ∈ l, av x ≤ 30) (h : normR l = none) : holdsB m l = true := by
  obtain ⟨x, y, hx, hy, hx0, hy0, hne, hv⟩ := norm_none h
  rcases lit_two m x y hm hx0 (hl x hx) hne hv with h1 | h1
  · exact List.any_eq_true.2 ⟨x, hx, h1⟩
  · exact List.any_eq_true.2 ⟨y, hy, h1⟩
theorem means_some {m : List Bool} {l r : List Int} (h : normR l = some r) : holdsB m l = holdsB m r := by
  obtain ⟨_, hm⟩ := norm_some h
  rw [Bool.eq_iff_iff, holdsB, holdsB, List.any_eq_true, List.any_eq_true]
  constructor
  · rintro ⟨x, hx, h1⟩
    refine ⟨x, (hm x).2 ⟨hx, fun h0 => ?_⟩, h1⟩
    subst h0; simp [litB, av] at h1
  · rintro ⟨x, hx, h1⟩
    exact ⟨x, ((hm x).1 hx).1, h1⟩

theorem tmod31 (z : Int) : -30 ≤ z.tmod 31 ∧ z.tmod 31 ≤ 30 := by
  rcases Int.le_total 0 z with h | h
  · rw [Int.tmod_eq_emod_of_nonneg h]; omega
  · have : z.tmod 31 = -((-z) % 31) := by
      rw [← Int.tmod_eq_emod_of_nonneg (by omega), Int.neg_tmod, Int.neg_neg]
    omega

set_option maxHeartbeats 4000000 in
theorem means_walk (vc : Value) (c : List Int) (vals : Int) (w : World) (hC : IntsW .i8 w vc c) (hn0 : (Lit.int .u32 vals).wf = true) :
    Calls Try.prog 8 #[vc, .int .u32 vals] w fun e w' => e = .returned (.bool true) ∧ Below w.heap.size w w' := by
  obtain ⟨p, cap, rfl, hcap, hmax, hwf, hcell⟩ := hC
  by_cases h1 : 60 < c.length
  · clear hcell hwf hcap
    go_enter Try.func8, Try.ntmps8
    go_wp2_with (go_at_call 12; refine (known_any _).mono ?_; rintro e w' ⟨rfl, hbw⟩)
    go_ret
    exact ⟨rfl, by assumption⟩
  have hv : 0 ≤ vals ∧ vals ≤ 4294967295 := by simpa [Lit.wf, IntKind.min, IntKind.max, IntKind.signed, IntKind.bits] using hn0
  obtain ⟨hv1, hv2⟩ := hv
  have HCELL := Lib.hid hcell
  have HWF := Lib.hid hwf
  have HCAP := Lib.hid hcap
  clear hcell hwf hcap hn0
  obtain ⟨i0, hi, hz0, hz1, hz2⟩ := info_parts info4
  go_enter Try.func8, Try.ntmps8
  go_wp2_with (at_make; refine wpList_make_full _ rfl _ _ 35 rfl w.heap.size 4 i0 (.bool false) 1 Try.underlying35 hi hz0 hz1 .i64 .i64 _ _ 30 rfl rfl rfl rfl (by rw [hz2]; omega) (by unfold maxLen; omega) (Nat.le_refl _) ?_)
  intro w1 hown hgrow
  have hb := (Below.refl w.heap.size w).grown hgrow (Nat.le_refl _) (fun k h => by cases h)
  rw [toList_madeCells_one, ← List.map_replicate (f := Value.bool) (a := false)] at hown
  clear hgrow
  go_wp2
  go_loopw [6] (fun i wr => ∃ (k : Nat) (bs : List Bool), k ≤ 30 ∧ i = .int .i64 k ∧ bs.length = 30 ∧ wr.ownsRow w.heap.size 4 1 (.slice (some ⟨w.heap.size, 0, none⟩) 30 30) 30 (bs.map Value.bool) ∧ Below w.heap.size w wr) (fun i _ => 30 - (intOf i).toNat)
  case atStart => exact ⟨0, List.replicate 30 false, Nat.zero_le _, rfl, by simp, hown, hb⟩
  case round =>
    clear hown hb
    obtain ⟨k, bs, hk, rfl, hbs, hown, hb⟩ := hrel
    by_cases hlt : k < 30
    · have dS := hown.cellAt k (by omega)
      have fS := hown.frozenAt k
      have hkb : k < bs.length := by omega
      rw [List.getElem?_map, List.getElem?_eq_getElem hkb] at dS
      generalize bs[k] = z at dS
      have HO := Lib.hid hown
      have HBS := Lib.hid hbs
      clear hown hbs
      go_wp2
      go_roundw
      case rel =>
        refine ⟨k + 1, bs.set k (bits BinOp.and IntKind.u32 (vals / 2 ^ k) 1 == 1), by omega, by go_num, by simpa using HBS.out, ?_, hb.setCell (Nat.le_refl _) _⟩
        have := (HO.out.stored k (.bool (bits BinOp.and IntKind.u32 (vals / 2 ^ k) 1 == 1))).1
        rwa [← List.map_set] at this
      case measure => simp [intOf]; omega
    · obtain ⟨w2, rfl⟩ : ∃ w2 : World, w2 = wr := ⟨_, rfl⟩
      have hB : Bools w2 (.slice (some ⟨w.heap.size, 0, none⟩) 30 30) bs := by
        have := owns_bools (base := w.heap.size) (v := .slice (some ⟨w.heap.size, 0, none⟩) 30 30) (l := bs) (by rw [hbs]; exact hown) (by omega)
        exact this
      have HBS := Lib.hid hbs
      have hwb := hb
      clear hown hbs
      obtain ⟨i3, hi3, hz30, hz31, hz32⟩ := info_parts info3
      go_wp2
      go_loopw [7, 8] (fun o i wr => ∃ (j : Nat) (xs : List Int), j ≤ c.length ∧ i = .int .i64 j ∧ xs.length ≤ j ∧ (∀ x ∈ xs, av x ≤ 30) ∧ wr.ownsRow w2.heap.size 3 1 o xs.length (xs.map (Value.int .i64)) ∧ Below w2.heap.size w2 wr) (fun _ i _ => c.length - (intOf i).toNat)
      case atStart => exact ⟨0, [], Nat.zero_le _, rfl, Nat.le_refl _, by simp, World.ownsRow_nil _ _ _ _, Below.refl _ _⟩
      case round =>
        obtain ⟨j, xs, hj, rfl, hxj, hxs, hown, hb2⟩ := hrel
        have HXS := Lib.hid hxs
        clear hxs
        by_cases hltc : j < c.length
        · obtain ⟨b1, o1, rfl, e1⟩ := HCELL.out (by omega)
          have e2 := hb.cell (p := ⟨b1, o1 + j, none⟩) (World.block_lt_of_cell? _ _ (e1 j hltc))
          have d1 := (hb2.cell (p := ⟨b1, o1 + j, none⟩) (World.block_lt_of_cell? _ _ (e2.trans (e1 j hltc)))).trans (e2.trans (e1 j hltc))
          have hzwf := HWF.out _ (mem_getD hltc)
          clear e1 e2
          generalize c.getD j 0 = z at d1 hzwf
          have hzb : -128 ≤ z ∧ z ≤ 127 := by simpa [Lit.wf, IntKind.min, IntKind.max, IntKind.signed, IntKind.bits] using hzwf
          obtain ⟨hzb1, hzb2⟩ := hzb
          have hxb := tmod31 z
          obtain ⟨hxb1, hxb2⟩ := hxb
          clear hzwf
          by_cases hx0 : z.tmod 31 = 0
          · have hx1 : (z.tmod 31 != 0) = false := by simp [hx0]
            have HX0 := Lib.hid hx0
            clear hx0
            go_wp2
            go_roundw
            case rel => exact ⟨j + 1, xs, by omega, by go_num, by omega, HXS.out, hown, hb2⟩
            case measure => simp [intOf]; omega
          · have hx1 : (z.tmod 31 != 0) = true := by simp [hx0]
            have HXX : Hid (∀ y ∈ xs ++ [z.tmod 31], av y ≤ 30) := fun y hy => by
              rcases List.mem_append.1 hy with h | h
              · exact HXS.out y h
              · simp at h; subst h; unfold av; split <;> omega
            clear hx0
            go_wp2_with (at_builtin; refine wpList_append_own _ rfl _ _ 22 rfl w2.heap.size 3 i3 (.int .i64 0) 1 8 Try.underlying22 hi3 hz30 hz31 hz32 rfl (by decide) _ _ _ rfl (hown.alloc _) ⟨wr.heap.size, 0, none⟩ 1 1 [.int .i64 (z.tmod 31)] rfl rfl ?c1 ?c2 ?c3 ?c4 ?c5 ?_)
            case c1 =>
              intro j u hj
              match j, hj with
              | 0, hj => simp at hj; subst hj; simp [Addr.add]
            case c2 => intro u hu; simp at hu; subst hu; rfl
            case c3 => unfold maxLen; omega
            case c4 => omega
            case c5 => have := hb2.size; simp; omega
            intro v' w3 hown' hgrow _
            have hlt2 := fun k hk => (hown.lt k hk).1
            have hb' := (hb2.alloc hb2.size (.cells #[.int .i64 (z.tmod 31)] 3)).grown hgrow (by have := hb2.size; simp; omega) hlt2
            clear hown hgrow
            go_wp2
            go_roundw
            case rel => exact ⟨j + 1, xs ++ [z.tmod 31], by omega, by go_num, by simp; omega, HXX.out, by simpa using hown', hb'⟩
            case measure => simp [intOf]; omega
        · have hI := owns_ints hown (by omega)
          have hxs64 : ∀ x ∈ xs, I64 x := fun x hx => by
            have := HXS.out x hx
            unfold av at this; unfold I64; split at this <;> omega
          have hB2 := hB.below hb2
          have hbw := hwb.trans (hb2.mono hwb.size)
          clear hown hB
          go_wp2_with fail
          refine (norm_any _ xs _ hxs64 hI).mono ?_
          rintro e w3 ⟨vr, rfl, hIr, hb3⟩
          have hB3 := hB2.below hb3
          have hI3 := hI.below hb3
          have hbw3 := hbw.trans (hb3.mono hbw.size)
          clear hB2 hI hb3 hbw hb2 hwb hb
          cases hn : normR xs with
          | none =>
            rw [hn] at hIr
            have hT := means_none HBS.out HXS.out hn
            obtain ⟨pr, capr, rfl, _, _, _⟩ := hIr
            go_wp2_with fail
            refine (holds_any _ _ bs xs _ hxs64 hB3 hI3).mono ?_
            rintro e w4 ⟨rfl, rfl⟩
            go_wp2_with (go_at_call 12; refine (known_any _).mono ?_; rintro e w' ⟨rfl, hbw⟩)
            go_ret
            exact ⟨rfl, hbw3.trans ((by assumption : Below w3.heap.size w3 _).mono hbw3.size)⟩
          | some r =>
            rw [hn, Option.getD_some] at hIr
            have hIr2 := hIr
            have HS := Lib.hid (means_some (m := bs) hn)
            have hr64 : ∀ x ∈ r, I64 x := fun x hx => hxs64 x (((norm_some hn).2 x).1 hx).1
            obtain ⟨pr, capr, rfl, _, _, _⟩ := hIr
            by_cases hr0 : r = []
            · subst hr0
              have hF : holdsB bs xs = false := HS.out
              have hN : holdsB bs [] = false := rfl
              have hK1 := holds_any _ _ bs xs w3 hxs64 hB3 hI3
              have hK2 := holds_any _ _ bs [] w3 hr64 hB3 hIr2
              rw [hF] at hK1
              rw [hN] at hK2
              have HK1 := Lib.hid hK1
              have HK2 := Lib.hid hK2
              clear hF hN hK1 hK2
              go_wp2_with fail
              refine HK1.out.mono ?_
              rintro e w4 ⟨rfl, rfl⟩
              go_wp2_with fail
              refine HK1.out.mono ?_
              rintro e w4 ⟨rfl, rfl⟩
              go_wp2_with fail
              refine HK2.out.mono ?_
              rintro e w4 ⟨rfl, rfl⟩
              go_wp2_with (go_at_call 12; refine (known_any _).mono ?_; rintro e w' ⟨rfl, hbw⟩)
              go_ret
              exact ⟨rfl, hbw3.trans ((by assumption : Below w3.heap.size w3 _).mono hbw3.size)⟩
            · have hr1 : ((r.length : Int) == 0) = false := by simpa using hr0
              have hr2 : 0 < r.length := List.length_pos_iff.2 hr0
              clear hr0
              go_wp2_with fail
              refine (holds_any _ _ bs xs _ hxs64 hB3 hI3).mono ?_
              rintro e w4 ⟨rfl, rfl⟩
              go_wp2_with fail
              refine (holds_any _ _ bs r _ hr64 hB3 hIr2).mono ?_
              rintro e w4 ⟨rfl, rfl⟩
              rw [HS.out]
              generalize holdsB bs r = E
              have hE : (E == E) = true := by simp
              go_wp2_with (go_at_call 12; refine (known_any _).mono ?_; rintro e w' ⟨rfl, hbw⟩)
              go_ret
              exact ⟨rfl, hbw3.trans ((by assumption : Below w3.heap.size w3 _).mono hbw3.size)⟩
end L
end Go.Proofs.Ytfpojpiajggncaa
