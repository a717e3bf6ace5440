/- The queue's walks up and down: rise, sink. -/
import Derived.Test.YtenmgkomffnjaaaHC
namespace Go.Proofs.Ytenmgkomffnjaaa
open Go.RowKit
namespace L
open K HP
section
variable {T : TypeId} {lo hi : Nat} {w : World} {s : Spot} {A : List Int} {R : List Nat} {Q : List Int} {M : Nat → Prop}

set_option maxRecDepth 100000 in
set_option maxHeartbeats 4000000 in
theorem rise_any (h : Mem T lo hi w s A R Q) (i a : Nat) (hr : Rising A M R Q i a) (hR : R.length ≤ 1048576) :
    Calls Try.prog 38 #[.pointer (some ⟨s.g, 0, none⟩), .int .i64 i, .int .i64 a] w fun e w' => e = .returned (.tuple #[]) ∧ (∃ R' Q', Mem T lo hi w' s A R' Q' ∧ HGood A M R' Q' ∧ R'.length = R.length) ∧ Out lo hi w w' := by
  have hi0 := hr.bd
  have hsm := h.small
  have H0 := Lib.hid h
  have HR := Lib.hid hr
  clear h hr
  go_enter Try.func38, Try.ntmps38
  go_wp2
  go_loopw [2] (fun av wr => ∃ (b : Nat) (R1 : List Nat) (Q1 : List Int), av = .int .i64 b ∧ Mem T lo hi wr s A R1 Q1 ∧ Rising A M R1 Q1 i b ∧ R1.length = R.length ∧ Out lo hi w wr) (fun av _ => (intOf av).toNat)
  case atStart => exact ⟨a, R, Q, rfl, H0.out, HR.out, rfl, Out.refl _ _ _⟩
  case round =>
    obtain ⟨b, R1, Q1, rfl, hm, hr, hlen, ho⟩ := hrel
    have hlt := hr.lt
    have hb20 : b ≤ 1048576 := by omega
    have HM := Lib.hid hm
    have HRR := Lib.hid hr
    have HLEN := Lib.hid hlen
    have HO := Lib.hid ho
    have hput := fun (w2 : World) (hb : Below wr.heap.size wr w2) => put_any (hm.below hb hm.hi_w) i b hi0 hlt
    have HPUT := Lib.hid hput
    have hout := fun (w2 : World) (hb : Below wr.heap.size wr w2) => Out.trod ho (hb.mono ho.size)
    have HOUT := Lib.hid hout
    by_cases hb0 : 0 < b
    · have x2 := hm.box.cell 2
      have t2 := hm.tcell (k := (b - 1) / 2) (by omega)
      have hj := hr.other (b := (b - 1) / 2) (by omega) (by omega)
      have hpre := precedes_any hm i (R1.getD ((b - 1) / 2) 0) hi0 hj
      have hstop := fun hp => hr.stop (.inr hp)
      have hstep := fun hp => hr.step hb0 hp
      have hput2 := fun (w2 : World) (hb : Below wr.heap.size wr w2) => put_any (hm.below hb hm.hi_w) (R1.getD ((b - 1) / 2) 0) b hj hlt
      have x2' := fun (w2 : World) (hb : Below wr.heap.size wr w2) => (hm.below hb hm.hi_w).box.cell 2
      have t2' := fun (w2 : World) (hb : Below wr.heap.size wr w2) => (hm.below hb hm.hi_w).tcell (k := (b - 1) / 2) (by omega)
      have HPRE := Lib.hid hpre
      have HSTOP := Lib.hid hstop
      have HSTEP := Lib.hid hstep
      have HPUT2 := Lib.hid hput2
      have HX2 := Lib.hid x2'
      have HT2 := Lib.hid t2'
      clear hm hr ho hput hpre hstop hstep hput2 x2' t2' hlen hout
      have dv : ((b : Int) - 1).tdiv 2 = (((b - 1) / 2 : Nat) : Int) := by
        rw [Int.tdiv_eq_ediv_of_nonneg (by omega)]; omega
      generalize hcd : (b - 1) / 2 = c at *
      have hcb : c < b := by omega
      have hcr : c < R1.length := by omega
      have HCD := Lib.hid hcd
      clear hcd
      generalize R1.getD c 0 = y at *
      generalize hrl : R1.length = rl at *
      have HRL := Lib.hid hrl
      clear hrl
      obtain ⟨sg, sga, sgt, sgp, ca, ct, cp⟩ := s
      simp only at *
      by_cases hp : Pre A i y
      · have hd : decide (Pre A i y) = true := decide_eq_true hp
        rw [hd] at HPRE
        have HST := Lib.hid (HSTEP.out hp)
        clear HSTEP HSTOP hd hp
        go_wp2_with (go_at_call 43; refine (HPRE.out).mono ?_; rintro e w1 ⟨rfl, hb1⟩; refine Hid.out ?_)
        have z2 := HX2.out _ hb1
        have z3 := HT2.out _ hb1
        refine Lib.hid ?_
        go_wp2_with (go_at_call 44; refine (HPUT2.out _ hb1).mono ?_; rintro e w2 ⟨rfl, hm2, ho2⟩; refine Hid.out ?_)
        have hoo := (HOUT.out _ hb1).trans ho2
        have HM2 := Lib.hid hm2
        have HOO := Lib.hid hoo
        clear hm2 ho2 hoo z2 z3 hb1
        refine Lib.hid ?_
        go_wp2
        go_roundw
        case rel => exact ⟨c, _, _, rfl, HM2.out, HST.out, by rw [List.length_set, HRL.out, HLEN.out], HOO.out⟩
        case measure => simp [intOf]; omega
      · have hd : decide (Pre A i y) = false := decide_eq_false hp
        rw [hd] at HPRE
        have HST := Lib.hid (HSTOP.out hp)
        clear HSTEP HSTOP hd hp
        go_wp2_with (go_at_call 43; refine (HPRE.out).mono ?_; rintro e w1 ⟨rfl, hb1⟩; refine Hid.out ?_)
        refine Lib.hid ?_
        go_wp2_with (go_at_call 44; refine (HPUT.out _ hb1).mono ?_; rintro e w2 ⟨rfl, hm2, ho2⟩)
        go_end0
        exact ⟨rfl, ⟨_, _, hm2, HST.out, by rw [List.length_set, HRL.out, HLEN.out]⟩, (HOUT.out _ hb1).trans ho2⟩
    · obtain rfl : b = 0 := by omega
      have hstop := hr.stop (.inl rfl)
      have HST := Lib.hid hstop
      clear hm hr ho hput hstop hlen hout
      go_wp2_with (go_at_call 44; refine (HPUT.out _ (Below.refl _ _)).mono ?_; rintro e w1 ⟨rfl, hm1, ho1⟩)
      go_end0
      exact ⟨rfl, ⟨_, _, hm1, HST.out, by rw [List.length_set, HLEN.out]⟩, HO.out.trans ho1⟩

set_option maxRecDepth 100000 in
set_option maxHeartbeats 4000000 in
theorem sink_any (h : Mem T lo hi w s A R Q) (i a : Nat) (hr : Sinking A M R Q i a) (hR : R.length ≤ 1048576) :
    Calls Try.prog 39 #[.pointer (some ⟨s.g, 0, none⟩), .int .i64 i, .int .i64 a] w fun e w' => e = .returned (.tuple #[]) ∧ (∃ R' Q', Mem T lo hi w' s A R' Q' ∧ HGood A M R' Q' ∧ R'.length = R.length) ∧ Out lo hi w w' := by
  have hi0 := hr.bd
  have hsm := h.small
  have hbl := below_any h a hr.lt hR (fun k hk hne => hr.other hk (fun e => hne e.symm))
  have hm0 := fun (w2 : World) (hb : Below w.heap.size w w2) => h.below hb h.hi_w
  have H0 := Lib.hid hm0
  have HR := Lib.hid hr
  have HBL := Lib.hid hbl
  clear h hr hbl hm0
  go_enter Try.func39, Try.ntmps39
  go_wp2_with (go_at_call 45; refine (HBL.out).mono ?_; rintro e w1 ⟨rfl, hb1⟩; refine Hid.out ?_)
  have hm1 := H0.out _ hb1
  have ho1 : Out lo hi w w1 := Out.of_below hb1 (Nat.le_refl _)
  clear H0 hb1
  refine Lib.hid ?_
  go_wp2
  go_loopw [2, 6] (fun av bv wr => ∃ (b : Nat) (R1 : List Nat) (Q1 : List Int), av = .int .i64 b ∧ bv = .int .i64 (belowT A R1 b : Nat) ∧ Mem T lo hi wr s A R1 Q1 ∧ Sinking A M R1 Q1 i b ∧ R1.length = R.length ∧ Out lo hi w wr) (fun av _ _ => R.length - (intOf av).toNat)
  case atStart => exact ⟨a, R, Q, rfl, rfl, hm1, HR.out, rfl, ho1⟩
  case round =>
    clear hm1 ho1
    obtain ⟨b, R1, Q1, rfl, rfl, hm, hr, hlen, ho⟩ := hrel
    have hlt := hr.lt
    have hb20 : b ≤ 1048576 := by omega
    have hgt := belowT_gt A R1 b
    have hc20 : belowT A R1 b ≤ 4194304 := by unfold belowT; split <;> omega
    have HM := Lib.hid hm
    have HLEN := Lib.hid hlen
    have HO := Lib.hid ho
    have x2 := hm.box.cell 2
    have hput := fun (w2 : World) (hb : Below wr.heap.size wr w2) => put_any (hm.below hb hm.hi_w) i b hi0 hlt
    have HPUT := Lib.hid hput
    have hout := fun (w2 : World) (hb : Below wr.heap.size wr w2) => Out.trod ho (hb.mono ho.size)
    have HOUT := Lib.hid hout
    by_cases hcr : belowT A R1 b < R1.length
    · have t2 := hm.tcell hcr
      have hj := hr.other hcr (by omega)
      have hpre := precedes_any hm (R1.getD (belowT A R1 b) 0) i hj hi0
      have hstop := fun hp => hr.stop (.inr hp)
      have hstep := fun hp => hr.step hcr hp
      have hput2 := fun (w2 : World) (hb : Below wr.heap.size wr w2) => put_any (hm.below hb hm.hi_w) (R1.getD (belowT A R1 b) 0) b hj hlt
      have x2' := fun (w2 : World) (hb : Below wr.heap.size wr w2) => (hm.below hb hm.hi_w).box.cell 2
      have t2' := fun (w2 : World) (hb : Below wr.heap.size wr w2) => (hm.below hb hm.hi_w).tcell hcr
      have HPRE := Lib.hid hpre
      have HSTOP := Lib.hid hstop
      have HSTEP := Lib.hid hstep
      have HPUT2 := Lib.hid hput2
      have HX2 := Lib.hid x2'
      have HT2 := Lib.hid t2'
      clear hm hr ho hput hpre hstop hstep hput2 x2' t2' hout
      generalize hcd : belowT A R1 b = c at *
      have HCD := Lib.hid hcd
      clear hcd
      generalize R1.getD c 0 = y at *
      generalize hrl : R1.length = rl at *
      have HRL := Lib.hid hrl
      clear hrl
      have hrl20 : rl ≤ 1048576 := by omega
      have HLL := Lib.hid hlen
      clear hlen
      obtain ⟨sg, sga, sgt, sgp, ca, ct, cp⟩ := s
      simp only at *
      by_cases hp : Pre A y i
      · have hd : decide (Pre A y i) = true := decide_eq_true hp
        rw [hd] at HPRE
        have HST := Lib.hid (HSTEP.out hp)
        clear HSTEP HSTOP hd hp
        go_wp2_with (go_at_call 43; refine (HPRE.out).mono ?_; rintro e w1 ⟨rfl, hb1⟩; refine Hid.out ?_)
        have z2 := HX2.out _ hb1
        have z3 := HT2.out _ hb1
        refine Lib.hid ?_
        go_wp2_with (go_at_call 44; refine (HPUT2.out _ hb1).mono ?_; rintro e w2 ⟨rfl, hm2, ho2⟩; refine Hid.out ?_)
        have hoo := (HOUT.out _ hb1).trans ho2
        have hbel := below_any hm2 c HST.out.lt (by rw [List.length_set, HRL.out]; exact hrl20) (fun k hk hne => HST.out.other hk (fun e => hne e.symm))
        have hm3 := fun (w3 : World) (hb : Below w2.heap.size w2 w3) => hm2.below hb hm2.hi_w
        have HBEL := Lib.hid hbel
        have HM3 := Lib.hid hm3
        have HOO := Lib.hid hoo
        clear hm2 ho2 hoo z2 z3 hb1 hbel hm3
        refine Lib.hid ?_
        go_wp2_with (go_at_call 45; refine (HBEL.out).mono ?_; rintro e w3 ⟨rfl, hb3⟩; refine Hid.out ?_)
        have HM4 := Lib.hid (HM3.out _ hb3)
        have HO4 := Lib.hid (HOO.out.trod (hb3.mono HOO.out.size))
        clear hb3
        refine Lib.hid ?_
        go_wp2
        go_roundw
        case rel => exact ⟨c, _, _, rfl, rfl, HM4.out, HST.out, by rw [List.length_set, HRL.out, HLL.out], HO4.out⟩
        case measure => have := HLL.out; simp [intOf]; omega
      · have hd : decide (Pre A y i) = false := decide_eq_false hp
        rw [hd] at HPRE
        have HST := Lib.hid (HSTOP.out hp)
        clear HSTEP HSTOP hd hp
        go_wp2_with (go_at_call 43; refine (HPRE.out).mono ?_; rintro e w1 ⟨rfl, hb1⟩; refine Hid.out ?_)
        refine Lib.hid ?_
        go_wp2_with (go_at_call 44; refine (HPUT.out _ hb1).mono ?_; rintro e w2 ⟨rfl, hm2, ho2⟩)
        go_end0
        exact ⟨rfl, ⟨_, _, hm2, HST.out, by rw [List.length_set, HRL.out, HLL.out]⟩, (HOUT.out _ hb1).trans ho2⟩
    · have hstop := hr.stop (.inl (by omega))
      have HST := Lib.hid hstop
      clear hm hr ho hput hstop hout hlen
      generalize hcd : belowT A R1 b = c at *
      have HCD := Lib.hid hcd
      clear hcd
      go_wp2_with (go_at_call 44; refine (HPUT.out _ (Below.refl _ _)).mono ?_; rintro e w1 ⟨rfl, hm1, ho1⟩)
      go_end0
      exact ⟨rfl, ⟨_, _, hm1, HST.out, by rw [List.length_set, HLEN.out]⟩, HO.out.trans ho1⟩
end
end L
end Go.Proofs.Ytenmgkomffnjaaa
