/- OrderParts: Bumps may come in any order, and in parts. -/
import Derived.Test.YtenmgkomffnjaaaWO
namespace Go.Proofs.Ytenmgkomffnjaaa
open Go.RowKit
namespace L
open K HP
set_option maxRecDepth 100000

/-- The activities once those from m on are bumped. -/
def part2 (l : List Int) (m : Nat) : List Int := List.replicate m 0 ++ l.drop m
theorem part2_len {l : List Int} {m : Nat} (h : m ≤ l.length) : (part2 l m).length = l.length := by simp [part2]; omega
theorem part2_get {l : List Int} {m : Nat} : (part2 l (m + 1)).getD m 0 = 0 := by
  simp only [part2, List.getD_eq_getElem?_getD]
  rw [List.getElem?_append_left (by simp)]
  simp
theorem part2_set {l : List Int} {m : Nat} (h : m < l.length) : (part2 l (m + 1)).set m (l.getD m 0) = part2 l m := by
  refine int_ext (by rw [List.length_set, part2_len (by omega), part2_len (by omega)]) fun k hk => ?_
  rw [List.length_set, part2_len (by omega)] at hk
  rw [getD_set_int _ _ _ _ (by rw [part2_len (by omega)]; exact h)]
  simp only [part2, List.getD_eq_getElem?_getD]
  by_cases h1 : k = m
  · subst h1
    rw [if_pos rfl, List.getElem?_append_right (by simp), List.length_replicate, Nat.sub_self, List.getElem?_drop]
    simp
  · rw [if_neg h1]
    by_cases h2 : k < m
    · rw [List.getElem?_append_left (by simp; omega), List.getElem?_append_left (by simp; omega)]
      simp [show k < m + 1 by omega, h2]
    · rw [List.getElem?_append_right (by simp; omega), List.getElem?_append_right (by simp; omega), List.length_replicate, List.length_replicate, List.getElem?_drop, List.getElem?_drop]
      rw [show m + 1 + (k - (m + 1)) = m + (k - m) by omega]
theorem set_set_get {A : List Int} {m : Nat} {x y : Int} (h : m < A.length) : (A.set m x).set m ((A.set m x).getD m 0 + y) = A.set m (x + y) := by
  rw [getD_set_int _ _ _ _ h, if_pos rfl, List.set_set]

set_option maxHeartbeats 8000000 in
theorem parts_walk (v : Value) (l : List Int) (vp : Value) (P : List Int) (w : World) (hW : IntsW .u16 w v l) (hP : IntsW .u16 w vp P) :
    Calls Try.prog 8 #[v, vp] w fun e w' => e = .returned (.bool true) ∧ Below w.heap.size w w' := by
  have hmade := fun (h : l.length ≤ 200) => made_any v l w hW h
  obtain ⟨pv, c, rfl, _, _, hwf, hcell⟩ := hW
  obtain ⟨pp, cp, rfl, hpg, hpm, hwfp, hcellp⟩ := hP
  have hbd := u16_bd hwf
  have hbdp := u16_bd hwfp
  have hplen : (P.length : Int) ≤ 9223372036854775807 := by
    have h1 := hpg.1
    have h2 : cp ≤ 9223372036854775807 := hpm
    omega
  have HK := Lib.hid (fun W => known_any W)
  have HM := Lib.hid hmade
  have HBD := Lib.hid hbd
  have HBP := Lib.hid hbdp
  have HC := Lib.hid hcell
  have HCP := Lib.hid hcellp
  clear hmade hwf hwfp hbd hbdp hcell hcellp hpg hpm
  by_cases h100 : (100 : Int) < l.length
  · go_enter Try.func8, Try.ntmps8
    go_wp2_with (go_at_call 11; refine (HK.out _).mono ?_; rintro e w3 ⟨rfl, hb⟩)
    go_ret
    exact ⟨rfl, hb⟩
  · have hl100 : l.length ≤ 100 := by omega
    go_enter Try.func8, Try.ntmps8
    go_wp2_with (go_at_call 26; refine (HM.out (by omega)).mono ?_; rintro e w1 ⟨p1, rfl, h1, hb1⟩; refine Hid.out ?_)
    have hnew := newH_any l.length w1 (by omega)
    have H1 := Lib.hid h1
    have HB1 := Lib.hid hb1
    have HN := Lib.hid hnew
    have hs01 := hb1.size
    obtain ⟨g1, rfl⟩ := h1.ptr
    clear h1 hb1 hnew
    refine Lib.hid ?_
    go_wp2_with (go_at_call 12; refine (HN.out).mono ?_; rintro e w2 ⟨p2, rfl, h2, hb2⟩; refine Hid.out ?_)
    have HB2 := Lib.hid (HB1.out.trans (hb2.mono HB1.out.size))
    have hall := all_any h2 (by omega)
    have hs12 := hb2.size
    have H12 := Lib.hid (H1.out.grow hb2)
    have HA := Lib.hid hall
    obtain ⟨g2, rfl⟩ := h2.ptr
    clear h2 hb2 hall
    refine Lib.hid ?_
    go_wp2_with (go_at_call 27; refine (HA.out).mono ?_; rintro e w3 ⟨v2, W, rfl, d2, l2, k2, h3, ho2⟩; refine Hid.out ?_)
    have hs23 := ho2.size
    have H13 := Lib.hid (H12.out.out ho2 (.inl (Nat.le_refl _)))
    have HB3 : Hid (Below w.heap.size w w3) := Lib.hid (HB2.out.trans (ho2.to_below HB2.out.size HB1.out.size))
    have hq3 : Held true w1.heap.size w2.heap.size w3 (.pointer (some ⟨g2, 0, none⟩)) (part2 l l.length) (fun x => l.length ≤ x ∧ x < l.length) 0 := by
      have := h3.congr (M' := fun x => l.length ≤ x ∧ x < l.length) (fun x => ⟨fun h => h.elim, fun h => by omega⟩)
      simpa [part2] using this
    have HQ3 := Lib.hid hq3
    clear d2 l2 k2 h3 ho2 hq3
    refine Lib.hid ?_
    go_wp2
    go_loopw [8] (fun iv wr => ∃ (x : Int) (m : Nat), x = (m : Int) - 1 ∧ iv = .int .i64 x ∧ m ≤ l.length ∧ Held true w1.heap.size w2.heap.size wr (.pointer (some ⟨g2, 0, none⟩)) (part2 l m) (fun x => m ≤ x ∧ x < l.length) (l.length - m) ∧ Out w1.heap.size w2.heap.size w3 wr) (fun iv _ => (intOf iv + 1).toNat)
    case atStart => exact ⟨_, l.length, rfl, rfl, Nat.le_refl _, by rw [Nat.sub_self]; exact HQ3.out, Out.refl _ _ _⟩
    case round =>
      clear HQ3
      obtain ⟨x, m, hx, rfl, hm, hh, ho⟩ := hrel
      have hsz := ho.size
      by_cases hm0 : 0 < m
      · obtain ⟨i, rfl⟩ : ∃ i, m = i + 1 := ⟨m - 1, by omega⟩
        obtain rfl : x = (i : Int) := by omega
        clear hx
        have hil : i < l.length := by omega
        have hbw : Below w.heap.size w wr := HB3.out.trans (ho.to_below HB3.out.size hs01)
        obtain ⟨bl, ol, rfl, el⟩ := HC.out (by omega)
        have dl := (hbw.cell (p := ⟨bl, ol + i, none⟩) (World.block_lt_of_cell? _ _ (el i hil))).trans (el i hil)
        have hlx := HBD.out _ (mem_getD hil)
        -- the three calls, for whatever part
        have hcalls : ∀ W, Below wr.heap.size wr W → ∀ f : Int, 0 ≤ f → f ≤ l.getD i 0 → Calls Try.prog 14 #[.pointer (some ⟨g2, 0, none⟩), .int .i64 ((i : Int) + 1), .int .i64 (l.getD i 0 - f)] W fun e w' => e = .returned (.int .i64 0) ∧
            Held true w1.heap.size w2.heap.size w' (.pointer (some ⟨g2, 0, none⟩)) ((part2 l (i + 1)).set i (l.getD i 0 - f)) (fun x => i + 1 ≤ x ∧ x < l.length) (l.length - (i + 1)) ∧ Out w1.heap.size w2.heap.size W w' := fun W hb f h0 h1 =>
          bumpH_ok (hh.grow hb) i _ _ rfl (by rw [part2_len (by omega)]; exact hil) (by omega) (by omega) (by rw [part2_get]; omega) (by rw [part2_get, Int.zero_add])
        have hpush : ∀ (f : Int) (W : World), Held true w1.heap.size w2.heap.size W (.pointer (some ⟨g2, 0, none⟩)) ((part2 l (i + 1)).set i (l.getD i 0 - f)) (fun x => i + 1 ≤ x ∧ x < l.length) (l.length - (i + 1)) →
            Calls Try.prog 18 #[.pointer (some ⟨g2, 0, none⟩), .int .i64 ((i : Int) + 1)] W fun e w' => e = .returned (.int .i64 0) ∧
              Held true w1.heap.size w2.heap.size w' (.pointer (some ⟨g2, 0, none⟩)) ((part2 l (i + 1)).set i (l.getD i 0 - f)) (fun x => i ≤ x ∧ x < l.length) (l.length - i) ∧ Out w1.heap.size w2.heap.size W w' := fun f W h =>
          (pushH_new h i (by rw [List.length_set, part2_len (by omega)]; exact hil) (by omega)).mono fun e w' ⟨e1, e2, e3⟩ => ⟨e1, by
            have := e2.congr (M' := fun x => i ≤ x ∧ x < l.length) (fun x => by omega)
            rwa [show l.length - (i + 1) + 1 = l.length - i by omega] at this, e3⟩
        have hlast : ∀ (f : Int) (W : World), 0 ≤ f → f ≤ l.getD i 0 → Held true w1.heap.size w2.heap.size W (.pointer (some ⟨g2, 0, none⟩)) ((part2 l (i + 1)).set i (l.getD i 0 - f)) (fun x => i ≤ x ∧ x < l.length) (l.length - i) →
            Calls Try.prog 14 #[.pointer (some ⟨g2, 0, none⟩), .int .i64 ((i : Int) + 1), .int .i64 f] W fun e w' => e = .returned (.int .i64 0) ∧
              Held true w1.heap.size w2.heap.size w' (.pointer (some ⟨g2, 0, none⟩)) (part2 l i) (fun x => i ≤ x ∧ x < l.length) (l.length - i) ∧ Out w1.heap.size w2.heap.size W w' := fun f W h0 h1 h =>
          bumpH_ok h i _ _ rfl (by rw [List.length_set, part2_len (by omega)]; exact hil) h0 (by omega) (by rw [getD_set_int _ _ _ _ (by rw [part2_len (by omega)]; exact hil), if_pos rfl]; omega) (by
            rw [set_set_get (by rw [part2_len (by omega)]; exact hil), show l.getD i 0 - f + f = l.getD i 0 by omega]
            exact part2_set hil)
        have HC1 := Lib.hid hcalls
        have HC2 := Lib.hid hpush
        have HC3 := Lib.hid hlast
        have HO := Lib.hid ho
        clear hcalls hpush hlast hh ho el
        by_cases hp0 : 0 < P.length
        · obtain ⟨bp, op, rfl, ep⟩ := HCP.out hp0
          have hir : i % P.length < P.length := Nat.mod_lt _ hp0
          have dp := (hbw.cell (p := ⟨bp, op + i % P.length, none⟩) (World.block_lt_of_cell? _ _ (ep _ hir))).trans (ep _ hir)
          have hpx := HBP.out _ (mem_getD hir)
          have hdv : ((P.length : Int) == 0) = false := beq_eq_false_iff_ne.2 (by omega)
          have hmd : (i : Int).tmod (P.length : Int) = ((i % P.length : Nat) : Int) := by
            rw [Int.tmod_eq_emod_of_nonneg (by omega)]; simp
          have hgt : decide ((P.length : Int) > 0) = true := decide_eq_true (by omega)
          generalize hPL : P.length = pl at *
          clear hPL
          generalize hlxd : l.getD i 0 = lx at *
          generalize P.getD (i % pl) 0 = px at *
          clear hbw ep hlxd
          obtain ⟨hl0, hl1⟩ := hlx
          obtain ⟨hp0', hp1⟩ := hpx
          obtain ⟨f, hf, hf0, hf1⟩ : ∃ f, (if lx < px then lx else px) = f ∧ 0 ≤ f ∧ f ≤ lx := by
            by_cases h : lx < px
            · exact ⟨lx, by rw [if_pos h], hl0, Int.le_refl _⟩
            · exact ⟨px, by rw [if_neg h], hp0', by omega⟩
          have hsub : IntKind.u16.wrap (lx - f) = lx - f := by rw [IntKind.wrap_u16]; omega
          go_wp2
          go_quiet (fail)
          clear hf dp hdv hmd hgt hp0' hp1
          have HBU := Lib.hid (HC1.out (wr.drewN nq) (below_drewN (Below.refl _ _) _) f hf0 hf1)
          go_wp2_with (go_at_call 14; with_reducible refine (HBU.out).mono ?_; rintro e w4 ⟨rfl, h4, ho4⟩; refine Hid.out ?_)
          have HPU := Lib.hid (HC2.out f w4 h4)
          have HO4 := Lib.hid ((HO.out.trod (below_drewN (Below.refl _ _) _)).trans ho4)
          clear h4 ho4
          refine Lib.hid ?_
          go_wp2_with (go_at_call 18; with_reducible refine (HPU.out).mono ?_; rintro e w5 ⟨rfl, h5, ho5⟩; refine Hid.out ?_)
          have HLA := Lib.hid (HC3.out f w5 hf0 hf1 h5)
          have HO5 := Lib.hid (HO4.out.trans ho5)
          clear h5 ho5
          refine Lib.hid ?_
          go_wp2_with (go_at_call 14; with_reducible refine (HLA.out).mono ?_; rintro e w6 ⟨rfl, h6, ho6⟩; refine Hid.out ?_)
          have H6 := Lib.hid h6
          have HO6 := Lib.hid (HO5.out.trans ho6)
          clear h6 ho6
          refine Lib.hid ?_
          go_wp2
          go_roundw
          case rel => exact ⟨_, i, rfl, rfl, by omega, H6.out, HO6.out⟩
          case measure => simp [intOf]
        · have hgt : decide ((P.length : Int) > 0) = false := decide_eq_false (by omega)
          generalize P.length = pl at *
          generalize l.getD i 0 = lx at *
          obtain ⟨hl0, hl1⟩ := hlx
          have h1 := HC1.out wr (Below.refl _ _) 0 (by omega) hl0
          have h2 := HC2.out 0
          have h3 := HC3.out 0
          simp only [Int.sub_zero] at h1 h2 h3
          have HBU := Lib.hid h1
          have HC2' := Lib.hid h2
          have HC3' := Lib.hid h3
          have hsub : IntKind.u16.wrap lx = lx := by rw [IntKind.wrap_u16]; omega
          clear h1 h2 h3 HC1 HC2 HC3 hbw
          go_wp2_with (go_at_call 14; with_reducible refine (HBU.out).mono ?_; rintro e w4 ⟨rfl, h4, ho4⟩; refine Hid.out ?_)
          have HPU := Lib.hid (HC2'.out w4 h4)
          have HO4 := Lib.hid (HO.out.trans ho4)
          clear h4 ho4
          refine Lib.hid ?_
          go_wp2_with (go_at_call 18; with_reducible refine (HPU.out).mono ?_; rintro e w5 ⟨rfl, h5, ho5⟩; refine Hid.out ?_)
          have HLA := Lib.hid (HC3'.out w5 (by omega) hl0 h5)
          have HO5 := Lib.hid (HO4.out.trans ho5)
          clear h5 ho5
          refine Lib.hid ?_
          go_wp2_with (go_at_call 14; with_reducible refine (HLA.out).mono ?_; rintro e w6 ⟨rfl, h6, ho6⟩; refine Hid.out ?_)
          have H6 := Lib.hid h6
          have HO6 := Lib.hid (HO5.out.trans ho6)
          clear h6 ho6
          refine Lib.hid ?_
          go_wp2
          go_roundw
          case rel => exact ⟨_, i, rfl, rfl, by omega, H6.out, HO6.out⟩
          case measure => simp [intOf]
      · obtain rfl : m = 0 := by omega
        obtain rfl : x = -1 := by omega
        clear hx
        have hq : Held true w1.heap.size w2.heap.size wr (.pointer (some ⟨g2, 0, none⟩)) l (fun x => x < l.length) l.length := by
          have := hh.congr (M' := fun x => x < l.length) (fun x => by omega)
          simpa [part2] using this
        have hp := H13.out.out ho (.inl (Nat.le_refl _))
        have hall := all_any hp (by omega)
        have HQ := Lib.hid hq
        have HAL := Lib.hid hall
        have HO := Lib.hid ho
        clear hq hp hall hh ho
        go_wp2_with (go_at_call 27; with_reducible refine (HAL.out).mono ?_; rintro e w4 ⟨v4, o4, rfl, d4, l4, k4, _, ho4⟩; refine Hid.out ?_)
        have hall2 := all_any (HQ.out.out ho4 (.inr (Nat.le_refl _))) (by omega)
        have HAL2 := Lib.hid hall2
        have D4 := Lib.hid d4
        have L4 := Lib.hid l4
        have K4 := Lib.hid k4
        have HO4 := Lib.hid ho4
        have hs4 := ho4.size
        obtain ⟨p4, c4, rfl⟩ := owns_shape k4
        clear hall2 d4 l4 k4 ho4
        refine Lib.hid ?_
        go_wp2_with (go_at_call 27; with_reducible refine (HAL2.out).mono ?_; rintro e w5 ⟨v5, o5, rfl, d5, l5, k5, _, ho5⟩; refine Hid.out ?_)
        have hsame := ends_same (K4.out.out ho5 (by omega)) k5 D4.out d5 (by rw [L4.out]; omega)
        have HS := Lib.hid hsame
        have HB5 : Hid (Below w.heap.size w w5) := Lib.hid (HB3.out.trans (((HO.out.to_below HB3.out.size hs01).trans (HO4.out.to_below (Nat.le_trans HB3.out.size hsz) (Nat.le_refl _))).trans (ho5.to_below (Nat.le_trans (Nat.le_trans HB3.out.size hsz) hs4) hs01)))
        obtain ⟨p5, c5, rfl⟩ := owns_shape k5
        clear hsame d5 k5 ho5
        refine Lib.hid ?_
        go_wp2_with (first
          | (go_at_call 28; with_reducible refine (HS.out).mono ?_; rintro e w6 ⟨rfl, hb6⟩)
          | (go_at_call 11; with_reducible refine (HK.out _).mono ?_; rintro e w7 ⟨rfl, hb7⟩))
        go_ret
        exact ⟨rfl, HB5.out.trans ((hb6.mono HB5.out.size).trans (hb7.mono (Nat.le_trans HB5.out.size hb6.size)))⟩
end L
end Go.Proofs.Ytenmgkomffnjaaa
