/- PropChain: the walk. -/
import Derived.Test.YtoffhaamkhfdeaaUF
import Derived.Test.YtoffhaamkhfdeaaZA
namespace Go.Proofs.Ytoffhaamkhfdeaa
open Go.RowKit Go.Conc
namespace L
open K

theorem upL_succ (k : Nat) : upL (k + 1) = upL k ++ [(k : Int) + 1] := by unfold upL; rw [List.range_succ, List.map_append]; rfl
theorem downL_succ (k : Nat) : downL (k + 1) = downL k ++ [-((k : Int) + 1)] := by unfold downL; rw [List.range_succ, List.map_append]; rfl
theorem upL_len (k : Nat) : (upL k).length = k := by simp [upL]
theorem downL_len (k : Nat) : (downL k).length = k := by simp [downL]
def wantL (back : Bool) (k : Nat) : List Int := if back then downL k else upL k
def asL (back : Bool) (m : Nat) : Int := if back then -((m : Int) + 1) else 1
theorem wantL_len (back : Bool) (k : Nat) : (wantL back k).length = k := by cases back <;> simp [wantL, upL_len, downL_len]
theorem chain_ok (back : Bool) {m : Nat} (hm : m ≤ 2000) : okU ((m + 1 : Nat) : Int) (chainL m) [asL back m] (wantL back (m + 1)) = true := by
  have hc : checkU ((m + 1 : Nat) : Int) (chainL m) [asL back m] = 0 := checkU_valid (chain_check hm) (by
    intro x hx
    cases back <;> simp [asL] at hx <;> omega)
  unfold okU
  cases back
  · rw [show unitsR ((m + 1 : Nat) : Int) (chainL m) [asL false m] = (upL (m + 1), false, 0) from unitsR_ok hc (chain_units_up m)]
    simp [wantL]
  · rw [show unitsR ((m + 1 : Nat) : Int) (chainL m) [asL true m] = (downL (m + 1), false, 0) from unitsR_ok hc (chain_units_down m)]
    simp [wantL]
theorem chain_okF {m : Nat} (hm : m ≤ 2000) (h1 : 1 ≤ m) : okF ((m + 1 : Nat) : Int) (chainL m) [1, -((m : Int) + 1)] = true := by
  have hc : checkU ((m + 1 : Nat) : Int) (chainL m) [1, -((m : Int) + 1)] = 0 := checkU_valid (chain_check hm) (by
    intro x hx
    simp at hx
    omega)
  unfold okF
  rw [show unitsR ((m + 1 : Nat) : Int) (chainL m) [1, -((m : Int) + 1)] = ([], true, 0) from unitsR_fails hc (chain_fails h1)]
  rfl

set_option maxRecDepth 100000 in
set_option maxHeartbeats 8000000 in
theorem chain_walk (n : Int) (back : Bool) (w : World) (hn0 : (Lit.int .u16 n).wf = true) :
    Calls Try.prog 6 #[.int .u16 n, .bool back] w fun e w' => e = .returned (.bool true) ∧ Below w.heap.size w w' := by
  have hnb : 0 ≤ n ∧ n ≤ 65535 := by simpa [Lit.wf, IntKind.min, IntKind.max, IntKind.signed, IntKind.bits] using hn0
  obtain ⟨hn1, hn2⟩ := hnb
  obtain ⟨m, hmd⟩ : ∃ m : Nat, (m : Int) = n % 2000 := ⟨(n % 2000).toNat, by omega⟩
  have hm : m ≤ 1999 := by omega
  have ht1 : n.tmod 2000 = (m : Int) := by rw [hmd]; exact Int.tmod_eq_emod_of_nonneg hn1
  have ht2 : n % 2000 = (m : Int) := hmd.symm
  obtain ⟨i0, hi, hz0, hz1, hz2⟩ := info_parts info36
  obtain ⟨i3, hi3, hz30, hz31, hz32⟩ := info_parts info3
  clear hmd hn0
  go_enter Try.func6, Try.ntmps6
  go_wp2
  clear ht1 ht2
  go_loopw [7] (fun i wr => ∃ (j : Nat) (pv : Option Addr) (cv : Nat), j ≤ m ∧ i = .int .i64 ((j : Int) + 1) ∧ Box wr w.heap.size 26 #[.int .i64 (1 + (m : Int)), .slice pv j cv] ∧ OwnL wr (w.heap.size + 1) (.slice pv j cv) (chainL j) ∧ Below w.heap.size w wr ∧ w.heap.size + 1 ≤ wr.heap.size) (fun i _ => m + 1 - (intOf i).toNat)
  case atStart =>
    exact ⟨0, none, 0, Nat.zero_le _, rfl, Box.new _ _ _, OwnL.nil _ _, (Below.refl _ _).alloc (Nat.le_refl _) _, by simp⟩
  case round =>
    clear hn1 hn2
    obtain ⟨j, pv, cv, hj, rfl, hbox, hown, hb, hs⟩ := hrel
    obtain ⟨x, hx⟩ : ∃ x : Int, x = (j : Int) + 1 := ⟨_, rfl⟩
    rw [← hx]
    have c1 : wr.cell? ⟨w.heap.size, 1, none⟩ = some (.slice pv j cv) := hbox.cell 1
    by_cases hlt : j < m
    · have hlt' : x < 1 + (m : Int) := by omega
      have f1 := hbox.frozen 1
      have hneg : IntKind.i64.wrap (-x) = -x := by simp only [IntKind.wrap_i64]; omega
      have hw1 : IntKind.i64.wrap (x + 1) = x + 1 := by simp only [IntKind.wrap_i64]; omega
      obtain ⟨us, hus, howns, hin⟩ := hown
      rw [chainL_len] at hus howns hin
      have HIN := Lib.hid hin
      have HUS := Lib.hid hus
      have HSU : Hid (chainL (j + 1) = chainL j ++ [[-x, x + 1]]) := Lib.hid (by rw [chainL_succ, hx]; congr 3 <;> omega)
      have HX := Lib.hid hx
      have HBOX := Lib.hid hbox
      have HB := Lib.hid hb
      have HOW := Lib.hid howns
      have HOW2 := Lib.hid ((howns.alloc (.cells #[.int .i64 (-x), .int .i64 (x + 1)] 3)).alloc (.cells #[.slice (some ⟨wr.heap.size, 0, none⟩) 2 2] 23))
      clear hin hx hus hbox hb howns
      go_wp2_with (at_builtin; refine wpList_append_own _ rfl _ _ 24 rfl (w.heap.size + 1) 23 i0 (.slice none 0 0) 1 24 Try.underlying24 hi hz0 hz1 hz2 rfl (by decide) _ _ _ rfl HOW2.out ⟨wr.heap.size + 1, 0, none⟩ 1 1 [.slice (some ⟨wr.heap.size, 0, none⟩) 2 2] rfl rfl ?d1 ?d2 ?d3 ?d4 ?d5 ?_)
      case d1 =>
        intro j u hj
        match j, hj with
        | 0, hj => simp at hj; subst hj; exact cell_new (by simp) rfl
      case d2 => intro u hu; simp at hu; subst hu; rfl
      case d3 => unfold maxLen; omega
      case d4 => omega
      case d5 => simp; omega
      intro v' w3 hown' hgrow _
      have hne : ∀ i, i < w.heap.size + 1 → some i ≠ (Value.slice pv j cv).ownBlock := fun i hi he => by have := (HOW.out.lt i he.symm).1; omega
      have hbA : Below w.heap.size w ((wr.alloc (.cells #[.int .i64 (-x), .int .i64 (x + 1)] 3)).alloc (.cells #[.slice (some ⟨wr.heap.size, 0, none⟩) 2 2] 23)) := (HB.out.alloc HB.out.size _).alloc (by have := HB.out.size; simp; omega) _
      have hbB := hbA.grown hgrow (by simp; omega) (fun i hi => by have := (HOW2.out.lt i hi).1; omega)
      have hxB := ((HBOX.out.alloc (.cells #[.int .i64 (-x), .int .i64 (x + 1)] 3)).alloc (.cells #[.slice (some ⟨wr.heap.size, 0, none⟩) 2 2] 23)).grown hgrow (hne _ (by omega))
      have hrow : OwnI ((wr.alloc (.cells #[.int .i64 (-x), .int .i64 (x + 1)] 3)).alloc (.cells #[.slice (some ⟨wr.heap.size, 0, none⟩) 2 2] 23)) (w.heap.size + 1) (.slice (some ⟨wr.heap.size, 0, none⟩) 2 2) [-x, x + 1] :=
        World.ownsRow.alloc (owns_of_box (Box.new wr 3 #[.int .i64 (-x), .int .i64 (x + 1)]) hs rfl rfl (by simp [maxLen])) _
      have hOL := OwnL.push (L := chainL j) (l := [-x, x + 1]) (by rw [chainL_len]; exact HUS.out) (by rw [chainL_len]; exact HOW2.out) (fun i hi => (World.ownsRow.alloc (World.ownsRow.alloc (HIN.out i (by rw [chainL_len] at hi; exact hi)) _) _)) hrow (by rw [chainL_len]; exact hown') hgrow
      obtain ⟨g, cap, rfl, hg1, hg2⟩ := owns_form hown' (by omega)
      have k1 : w3.cell? ⟨w.heap.size, 1, none⟩ = some (.slice pv j cv) := hxB.cell 1
      have k1f := hxB.frozen 1
      have HOL := Lib.hid hOL
      have HBB := Lib.hid hbB
      have HXB := Lib.hid hxB
      have HG3 := Lib.hid hgrow.size
      clear hgrow hOL hbB hxB hown' hrow hbA hne f1 c1
      go_wp2
      go_roundw
      case rel =>
        refine ⟨j + 1, _, _, by omega, ?_, HXB.out.set 1 _, ?_, HBB.out.setCell (by simp) _, ?_⟩
        · have := HX.out; congr 1; omega
        · rw [HSU.out]
          exact HOL.out.setCell (by simp) _
        · have := HG3.out; simp at this ⊢; omega
      case measure => have := HX.out; simp [intOf]; omega
    · have hlt' : ¬ x < 1 + (m : Int) := by omega
      have hjm : j = m := by omega
      subst hjm
      obtain ⟨w2, hw2⟩ : ∃ W, W = wr := ⟨_, rfl⟩
      subst hw2
      have HLL := Lib.hid (hown.lists (by rw [chainL_len]; omega) (fun i hi => by
        obtain ⟨i', _, e⟩ := chainL_mem (mem_getDL hi)
        rw [e]; simp))
      have HBOX := Lib.hid hbox
      have HB := Lib.hid hb
      have HS2 : Hid (w.heap.size < w2.heap.size) := Lib.hid (by omega)
      have hneg0 : IntKind.i64.wrap (-(1 + (j : Int))) = -(1 + (j : Int)) := by simp only [IntKind.wrap_i64]; omega
      clear hown hbox hb hx hs
      cases back
      case' false =>
        go_wp2
        go_loopw [8, 10] (fun o i wi => ∃ k : Nat, k ≤ j + 1 ∧ i = .int .i64 ((k : Int) + 1) ∧ OwnI wi w2.heap.size o (wantL false k) ∧ Below w2.heap.size w2 wi) (fun _ i _ => j + 2 - (intOf i).toNat)
        case atStart => exact ⟨0, Nat.zero_le _, rfl, by simpa [wantL, upL, downL] using OwnI.nil _ _, Below.refl _ _⟩
        case round =>
          obtain ⟨k, hk, rfl, hown2, hb2⟩ := hrel
          obtain ⟨x2, hx2⟩ : ∃ x : Int, x = (k : Int) + 1 := ⟨_, rfl⟩
          rw [← hx2]
          by_cases hle : k < j + 1
          · have hle' : x2 ≤ 1 + (j : Int) := by omega
            have hneg2 : IntKind.i64.wrap (-x2) = -x2 := by simp only [IntKind.wrap_i64]; omega
            have hw2' : IntKind.i64.wrap (x2 + 1) = x2 + 1 := by simp only [IntKind.wrap_i64]; omega
            have hWS : wantL false (k + 1) = wantL false k ++ [x2] := by
              rw [hx2]
              simp only [wantL, upL_succ]
              first | rfl | simp
            have HWS := Lib.hid hWS
            have HX2 := Lib.hid hx2
            have hln := wantL_len false k
            have hsz := hb2.size
            generalize wantL false k = acc at *
            unfold OwnI at hown2
            have HLN := Lib.hid hln
            have hacc : acc.length ≤ 2000 := by omega
            clear hWS hx2 hln
            go_wp2_with (at_builtin; refine wpList_append_own _ rfl _ _ 23 rfl w2.heap.size 3 i3 (.int .i64 0) 1 8 Try.underlying23 hi3 hz30 hz31 hz32 rfl (by decide) _ _ _ rfl (hown2.alloc _) ⟨wr.heap.size, 0, none⟩ 1 1 [.int .i64 (x2)] rfl rfl ?c1 ?c2 ?c3 ?c4 ?c5 ?_)
            case c1 =>
              intro j u hj
              match j, hj with
              | 0, hj => simp at hj; subst hj; exact cell_new (by simp) rfl
            case c2 => intro u hu; simp at hu; subst hu; rfl
            case c3 => unfold maxLen; omega
            case c4 => omega
            case c5 => simp; omega
            intro v' w3 hown' hgrow _
            have hlt2 := fun k hk => (hown2.lt k hk).1
            have hb' := (hb2.alloc hb2.size (.cells #[.int .i64 (x2)] 3)).grown hgrow (by simp; omega) hlt2
            have HB' := Lib.hid hb'
            have HO' := Lib.hid hown'
            clear hgrow hb' hown' hlt2 hown2 hb2
            go_wp2
            go_roundw
            case rel =>
              refine ⟨k + 1, by omega, ?_, by rw [HWS.out]; unfold OwnI; simpa using HO'.out, HB'.out⟩
              have := HX2.out; congr 1; omega
            case measure => have := HX2.out; simp [intOf]; omega
          · have hle' : ¬ x2 ≤ 1 + (j : Int) := by omega
            obtain rfl : k = j + 1 := by omega
            have hneg3 : IntKind.i64.wrap (-(1 + (j : Int))) = -(1 + (j : Int)) := by simp only [IntKind.wrap_i64]; omega
            have g0 : wr.cell? ⟨w.heap.size, 0, none⟩ = some (.int .i64 (1 + (j : Int))) := (hb2.cell (p := ⟨w.heap.size, 0, none⟩) HS2.out).trans (HBOX.out.cell 0)
            have g1 : wr.cell? ⟨w.heap.size, 1, none⟩ = some (.slice pv j cv) := (hb2.cell (p := ⟨w.heap.size, 1, none⟩) HS2.out).trans (HBOX.out.cell 1)
            obtain ⟨po, co, rfl⟩ := owns_shape hown2
            have hba : Below wr.heap.size wr (wr.alloc (.cells #[.int .i64 (1)] 3)) := (Below.refl _ _).alloc (Nat.le_refl _) _
            have hcu := units_any (1 + (j : Int)) _ (chainL j) _ (wantL false (j + 1)) (.slice (some ⟨wr.heap.size, 0, none⟩) 1 1) [1] (wr.alloc (.cells #[.int .i64 (1)] 3)) (by unfold I64; omega) (chain_i64 (by omega)) ((HLL.out.below hb2).below hba) (by intro x hx; simp at hx; unfold I64; omega) (ints_lit wr [1] _ 1 wr.heap.size rfl rfl rfl (by simp)) ((hown2.ints (by rw [wantL_len]; omega)).below hba)
            have hok := chain_ok false (m := j) (by omega)
            rw [show (((j + 1 : Nat) : Int)) = 1 + (j : Int) by omega, show asL false j = 1 by simp [asL]] at hok
            rw [hok] at hcu
            have HB2 := Lib.hid (HB.out.trans (hb2.mono HB.out.size))
            have HLR : Hid (∀ W, Below wr.heap.size wr W → Lists W (.slice pv j cv) (chainL j)) := Lib.hid fun W hW => (HLL.out.below hb2).below hW
            have hsw : w.heap.size < wr.heap.size := World.block_lt_of_cell? _ _ g0
            clear hok hown2 hb2
            go_wp2_with fail
            refine hcu.mono ?_
            rintro e w4 ⟨rfl, hb4⟩
            refine Hid.out ?_
            refine Lib.hid ?_
            have hb4' := hba.trans (hb4.mono hba.size)
            have HB4 := Lib.hid (HB2.out.trans (hb4'.mono HB2.out.size))
            have q0 := (hb4'.cell (p := ⟨w.heap.size, 0, none⟩) hsw).trans g0
            have q1 := (hb4'.cell (p := ⟨w.heap.size, 1, none⟩) hsw).trans g1
            have HL4 : Hid (Lists w4 (.slice pv j cv) (chainL j)) := Lib.hid (HLR.out w4 hb4')
            clear hcu hb4 hb4' hba g0 g1
            by_cases hm0 : j = 0
            · have em : ((1 + (j : Int)) == (1 : Int)) = true := by simp [hm0]
              clear hm0
              go_wp2_with fail
              refine (known4_any _).mono ?_
              rintro e wz ⟨rfl, hbz⟩
              refine Hid.out ?_
              refine Lib.hid ?_
              have HBz := Lib.hid (HB4.out.trans (hbz.mono HB4.out.size))
              clear hbz
              go_wp2
              go_ret
              exact ⟨rfl, HBz.out⟩
            · have em : ((1 + (j : Int)) == (1 : Int)) = false := beq_eq_false_iff_ne.2 (by omega)
              have hbf : Below w4.heap.size w4 (w4.alloc (.cells #[.int .i64 1, .int .i64 (-(1 + (j : Int)))] 3)) := (Below.refl _ _).alloc (Nat.le_refl _) _
              have hcf := fails_any (1 + (j : Int)) _ (chainL j) (.slice (some ⟨w4.heap.size, 0, none⟩) 2 2) [1, -(1 + (j : Int))] (w4.alloc (.cells #[.int .i64 1, .int .i64 (-(1 + (j : Int)))] 3)) (by unfold I64; omega) (chain_i64 (by omega)) (HL4.out.below hbf) (by intro x hx; simp at hx; unfold I64; omega) (ints_lit w4 [1, -(1 + (j : Int))] _ 2 w4.heap.size rfl rfl rfl (by simp))
              have hokf := chain_okF (m := j) (by omega) (by omega)
              rw [show (((j + 1 : Nat) : Int)) = 1 + (j : Int) by omega, show -((j : Int) + 1) = -(1 + (j : Int)) by omega] at hokf
              rw [hokf] at hcf
              have HB5 := Lib.hid (HB4.out.trans (hbf.mono HB4.out.size))
              clear hm0 hokf hbf
              go_wp2_with fail
              refine hcf.mono ?_
              rintro e w6 ⟨rfl, hb6⟩
              refine Hid.out ?_
              refine Lib.hid ?_
              have HB6 := Lib.hid (HB5.out.trans (hb6.mono HB5.out.size))
              clear hcf hb6
              go_wp2_with fail
              refine (known4_any _).mono ?_
              rintro e wz ⟨rfl, hbz⟩
              refine Hid.out ?_
              refine Lib.hid ?_
              have HBz := Lib.hid (HB6.out.trans (hbz.mono HB6.out.size))
              clear hbz
              go_wp2
              go_ret
              exact ⟨rfl, HBz.out⟩
      case' true =>
        go_wp2
        go_loopw [8, 10] (fun o i wi => ∃ k : Nat, k ≤ j + 1 ∧ i = .int .i64 ((k : Int) + 1) ∧ OwnI wi w2.heap.size o (wantL true k) ∧ Below w2.heap.size w2 wi) (fun _ i _ => j + 2 - (intOf i).toNat)
        case atStart => exact ⟨0, Nat.zero_le _, rfl, by simpa [wantL, upL, downL] using OwnI.nil _ _, Below.refl _ _⟩
        case round =>
          obtain ⟨k, hk, rfl, hown2, hb2⟩ := hrel
          obtain ⟨x2, hx2⟩ : ∃ x : Int, x = (k : Int) + 1 := ⟨_, rfl⟩
          rw [← hx2]
          by_cases hle : k < j + 1
          · have hle' : x2 ≤ 1 + (j : Int) := by omega
            have hneg2 : IntKind.i64.wrap (-x2) = -x2 := by simp only [IntKind.wrap_i64]; omega
            have hw2' : IntKind.i64.wrap (x2 + 1) = x2 + 1 := by simp only [IntKind.wrap_i64]; omega
            have hWS : wantL true (k + 1) = wantL true k ++ [-x2] := by
              rw [hx2]
              simp only [wantL, downL_succ]
              first | rfl | simp
            have HWS := Lib.hid hWS
            have HX2 := Lib.hid hx2
            have hln := wantL_len true k
            have hsz := hb2.size
            generalize wantL true k = acc at *
            unfold OwnI at hown2
            have HLN := Lib.hid hln
            have hacc : acc.length ≤ 2000 := by omega
            clear hWS hx2 hln
            go_wp2_with (at_builtin; refine wpList_append_own _ rfl _ _ 23 rfl w2.heap.size 3 i3 (.int .i64 0) 1 8 Try.underlying23 hi3 hz30 hz31 hz32 rfl (by decide) _ _ _ rfl (hown2.alloc _) ⟨wr.heap.size, 0, none⟩ 1 1 [.int .i64 (-x2)] rfl rfl ?c1 ?c2 ?c3 ?c4 ?c5 ?_)
            case c1 =>
              intro j u hj
              match j, hj with
              | 0, hj => simp at hj; subst hj; exact cell_new (by simp) rfl
            case c2 => intro u hu; simp at hu; subst hu; rfl
            case c3 => unfold maxLen; omega
            case c4 => omega
            case c5 => simp; omega
            intro v' w3 hown' hgrow _
            have hlt2 := fun k hk => (hown2.lt k hk).1
            have hb' := (hb2.alloc hb2.size (.cells #[.int .i64 (-x2)] 3)).grown hgrow (by simp; omega) hlt2
            have HB' := Lib.hid hb'
            have HO' := Lib.hid hown'
            clear hgrow hb' hown' hlt2 hown2 hb2
            go_wp2
            go_roundw
            case rel =>
              refine ⟨k + 1, by omega, ?_, by rw [HWS.out]; unfold OwnI; simpa using HO'.out, HB'.out⟩
              have := HX2.out; congr 1; omega
            case measure => have := HX2.out; simp [intOf]; omega
          · have hle' : ¬ x2 ≤ 1 + (j : Int) := by omega
            obtain rfl : k = j + 1 := by omega
            have hneg3 : IntKind.i64.wrap (-(1 + (j : Int))) = -(1 + (j : Int)) := by simp only [IntKind.wrap_i64]; omega
            have g0 : wr.cell? ⟨w.heap.size, 0, none⟩ = some (.int .i64 (1 + (j : Int))) := (hb2.cell (p := ⟨w.heap.size, 0, none⟩) HS2.out).trans (HBOX.out.cell 0)
            have g1 : wr.cell? ⟨w.heap.size, 1, none⟩ = some (.slice pv j cv) := (hb2.cell (p := ⟨w.heap.size, 1, none⟩) HS2.out).trans (HBOX.out.cell 1)
            obtain ⟨po, co, rfl⟩ := owns_shape hown2
            have hba : Below wr.heap.size wr (wr.alloc (.cells #[.int .i64 (-(1 + (j : Int)))] 3)) := (Below.refl _ _).alloc (Nat.le_refl _) _
            have hcu := units_any (1 + (j : Int)) _ (chainL j) _ (wantL true (j + 1)) (.slice (some ⟨wr.heap.size, 0, none⟩) 1 1) [-(1 + (j : Int))] (wr.alloc (.cells #[.int .i64 (-(1 + (j : Int)))] 3)) (by unfold I64; omega) (chain_i64 (by omega)) ((HLL.out.below hb2).below hba) (by intro x hx; simp at hx; unfold I64; omega) (ints_lit wr [-(1 + (j : Int))] _ 1 wr.heap.size rfl rfl rfl (by simp)) ((hown2.ints (by rw [wantL_len]; omega)).below hba)
            have hok := chain_ok true (m := j) (by omega)
            rw [show (((j + 1 : Nat) : Int)) = 1 + (j : Int) by omega, show asL true j = -(1 + (j : Int)) by simp [asL]; omega] at hok
            rw [hok] at hcu
            have HB2 := Lib.hid (HB.out.trans (hb2.mono HB.out.size))
            have HLR : Hid (∀ W, Below wr.heap.size wr W → Lists W (.slice pv j cv) (chainL j)) := Lib.hid fun W hW => (HLL.out.below hb2).below hW
            have hsw : w.heap.size < wr.heap.size := World.block_lt_of_cell? _ _ g0
            clear hok hown2 hb2
            go_wp2_with fail
            refine hcu.mono ?_
            rintro e w4 ⟨rfl, hb4⟩
            refine Hid.out ?_
            refine Lib.hid ?_
            have hb4' := hba.trans (hb4.mono hba.size)
            have HB4 := Lib.hid (HB2.out.trans (hb4'.mono HB2.out.size))
            have q0 := (hb4'.cell (p := ⟨w.heap.size, 0, none⟩) hsw).trans g0
            have q1 := (hb4'.cell (p := ⟨w.heap.size, 1, none⟩) hsw).trans g1
            have HL4 : Hid (Lists w4 (.slice pv j cv) (chainL j)) := Lib.hid (HLR.out w4 hb4')
            clear hcu hb4 hb4' hba g0 g1
            by_cases hm0 : j = 0
            · have em : ((1 + (j : Int)) == (1 : Int)) = true := by simp [hm0]
              clear hm0
              go_wp2_with fail
              refine (known4_any _).mono ?_
              rintro e wz ⟨rfl, hbz⟩
              refine Hid.out ?_
              refine Lib.hid ?_
              have HBz := Lib.hid (HB4.out.trans (hbz.mono HB4.out.size))
              clear hbz
              go_wp2
              go_ret
              exact ⟨rfl, HBz.out⟩
            · have em : ((1 + (j : Int)) == (1 : Int)) = false := beq_eq_false_iff_ne.2 (by omega)
              have hbf : Below w4.heap.size w4 (w4.alloc (.cells #[.int .i64 1, .int .i64 (-(1 + (j : Int)))] 3)) := (Below.refl _ _).alloc (Nat.le_refl _) _
              have hcf := fails_any (1 + (j : Int)) _ (chainL j) (.slice (some ⟨w4.heap.size, 0, none⟩) 2 2) [1, -(1 + (j : Int))] (w4.alloc (.cells #[.int .i64 1, .int .i64 (-(1 + (j : Int)))] 3)) (by unfold I64; omega) (chain_i64 (by omega)) (HL4.out.below hbf) (by intro x hx; simp at hx; unfold I64; omega) (ints_lit w4 [1, -(1 + (j : Int))] _ 2 w4.heap.size rfl rfl rfl (by simp))
              have hokf := chain_okF (m := j) (by omega) (by omega)
              rw [show (((j + 1 : Nat) : Int)) = 1 + (j : Int) by omega, show -((j : Int) + 1) = -(1 + (j : Int)) by omega] at hokf
              rw [hokf] at hcf
              have HB5 := Lib.hid (HB4.out.trans (hbf.mono HB4.out.size))
              clear hm0 hokf hbf
              go_wp2_with fail
              refine hcf.mono ?_
              rintro e w6 ⟨rfl, hb6⟩
              refine Hid.out ?_
              refine Lib.hid ?_
              have HB6 := Lib.hid (HB5.out.trans (hb6.mono HB5.out.size))
              clear hcf hb6
              go_wp2_with fail
              refine (known4_any _).mono ?_
              rintro e wz ⟨rfl, hbz⟩
              refine Hid.out ?_
              refine Lib.hid ?_
              have HBz := Lib.hid (HB6.out.trans (hbz.mono HB6.out.size))
              clear hbz
              go_wp2
              go_ret
              exact ⟨rfl, HBz.out⟩
end L
end Go.Proofs.Ytoffhaamkhfdeaa
