/- OrderNames: the examples of the chapter, limits, nil heaps. -/
import Derived.Test.YtenmgkomffnjaaaWC
namespace Go.Proofs.Ytenmgkomffnjaaa
open Go.RowKit
namespace L
open K HP
set_option maxRecDepth 100000

theorem hasH_nil (v : Int) (w : World) : Calls Try.prog 20 #[.pointer none, .int .i64 v] w fun e w' => e = .returned (.bool false) ∧ w = w' := by
  go_enter Try.func20, Try.ntmps20
  go_wp2
  go_ret
  exact ⟨rfl, rfl⟩
theorem copyH_nil (w : World) : Calls Try.prog 24 #[.pointer none] w fun e w' => e = .returned (.pointer none) ∧ w = w' := by
  go_enter Try.func24, Try.ntmps24
  go_wp2
  go_ret
  exact ⟨rfl, rfl⟩
section
variable {full : Bool} {lo hi : Nat} {w : World} {p : Value} {A : List Int} {M : Nat → Prop} {len : Nat}
theorem has_yes (h : Held full lo hi w p A M len) (v : Int) (hv : InH A M v) : Calls Try.prog 20 #[p, .int .i64 v] w fun e w' => e = .returned (.bool true) ∧ w = w' :=
  (hasH_any h v).mono fun e w' ⟨b, e1, e2, e3⟩ => ⟨by rw [e1, e2.2 hv], e3⟩
theorem has_no (h : Held full lo hi w p A M len) (v : Int) (hv : ¬ InH A M v) : Calls Try.prog 20 #[p, .int .i64 v] w fun e w' => e = .returned (.bool false) ∧ w = w' :=
  (hasH_any h v).mono fun e w' ⟨b, e1, e2, e3⟩ => ⟨by rw [e1]; cases b with
    | false => rfl
    | true => exact absurd (e2.1 rfl) hv, e3⟩
theorem push_at {i : Nat} {M' : Nat → Prop} (h : Held true lo hi w p A M len) (v : Int) (hv : v = (i : Int) + 1) (hi0 : i < A.length) (hM : ¬ M i) (hM' : ∀ x, (M x ∨ x = i) ↔ M' x) :
    Calls Try.prog 18 #[p, .int .i64 v] w fun e w' => e = .returned (.int .i64 0) ∧ Held true lo hi w' p A M' (len + 1) ∧ Out lo hi w w' := by
  subst hv
  exact (pushH_new h i hi0 hM).mono fun e w' ⟨e1, e2, e3⟩ => ⟨e1, e2.congr hM', e3⟩
theorem push_was {i : Nat} (h : Held full lo hi w p A M len) (v : Int) (hv : v = (i : Int) + 1) (hi0 : i < A.length) (hM : M i) :
    Calls Try.prog 18 #[p, .int .i64 v] w fun e w' => e = .returned (.int .i64 0) ∧ w = w' := by
  subst hv
  exact pushH_in h i hi0 hM
theorem pop_at {b : Nat} {M' : Nat → Prop} (h : Held full lo hi w p A M (len + 1)) (r : Int) (hr : r = (b : Int) + 1) (hb : Best A M b) (hM' : ∀ x, (M x ∧ x ≠ b) ↔ M' x) :
    Calls Try.prog 16 #[p] w fun e w' => e = .returned (.tuple #[.int .i64 r, .int .i64 0]) ∧ Held full lo hi w' p A M' len ∧ Out lo hi w w' := by
  subst hr
  exact (popH_at h hb).mono fun e w' ⟨e1, e2, e3⟩ => ⟨e1, e2.congr hM', e3⟩
theorem bumpH_over (h : Held full lo hi w p A M len) (i : Nat) (v b : Int) (hv : v = (i : Int) + 1) (hi0 : i < A.length) (hb0 : 0 ≤ b) (hb1 : b ≤ 1099511627776) (hle : ¬ A.getD i 0 + b ≤ 1152921504606846976) :
    Calls Try.prog 14 #[p, .int .i64 v, .int .i64 b] w fun e w' => e = .returned (.int .i64 3) ∧ Held full lo hi w' p A M len ∧ Out lo hi w w' := by
  subst hv
  exact (bumpH_any h i b hi0 hb0 hb1).mono fun e w' h => h.2 hle
end

theorem get1 (a : Int) : [a].getD 0 0 = a := rfl
theorem set1 (a b : Int) : [a].set 0 ([a].getD 0 0 + b) = [a + b] := rfl
set_option maxHeartbeats 16000000 in
theorem names_walk (w0 : World) : Calls Try.prog 5 #[] w0 fun e w' => e = .returned (.bool true) ∧ Below w0.heap.size w0 w' := by
  go_enter Try.func5, Try.ntmps5
  have HB := Lib.hid (Below.refl w0.heap.size w0)
  have hc := fun W => newH_any 3 W (by omega)
  have HC := Lib.hid hc
  clear hc
  go_wp2_with (go_at_call 12; refine (HC.out _).mono ?_; rintro e w1 ⟨p, rfl, h, hb⟩; refine Hid.out ?_)
  clear HC
  obtain ⟨g, rfl⟩ := h.ptr
  have HLO := Lib.hid HB.out.size
  have HB2 := Lib.hid (HB.out.trans (hb.mono HB.out.size))
  clear HB
  have HB := HB2
  have HS := Lib.hid h
  clear h hb HB2
  have hc := pop_at (b := 0) (M' := fun x => x = 1 ∨ x = 2) HS.out 1 rfl ⟨by omega, fun x hx hne => by rcases (show x = 1 ∨ x = 2 by omega) with rfl | rfl <;> decide⟩ (fun x => by omega)
  have HC := Lib.hid hc
  clear hc
  refine Lib.hid ?_
  go_wp2_with (go_at_call 16; with_reducible refine (HC.out).mono ?_; rintro e w2 ⟨rfl, h, ho⟩; refine Hid.out ?_)
  clear HC
  have HB2 := Lib.hid (HB.out.trans (ho.to_below HB.out.size HLO.out))
  clear HB HS
  have HB := HB2
  have HS := Lib.hid h
  clear h ho HB2
  have hc := lenH_any HS.out
  have HC := Lib.hid hc
  clear hc
  refine Lib.hid ?_
  go_wp2_with (go_at_call 22; with_reducible refine (HC.out).mono ?_; rintro e w3 ⟨rfl, rfl⟩; refine Hid.out ?_)
  clear HC
  have hc := has_no HS.out 1 (fun h => by have := h.2; simp at this)
  have HC := Lib.hid hc
  clear hc
  refine Lib.hid ?_
  go_wp2_with (go_at_call 20; with_reducible refine (HC.out).mono ?_; rintro e w4 ⟨rfl, rfl⟩; refine Hid.out ?_)
  clear HC
  have hc := has_yes HS.out 2 ⟨by simp, .inl (by simp)⟩
  have HC := Lib.hid hc
  clear hc
  refine Lib.hid ?_
  go_wp2_with (go_at_call 20; with_reducible refine (HC.out).mono ?_; rintro e w5 ⟨rfl, rfl⟩; refine Hid.out ?_)
  clear HC
  have hc := has_no HS.out 4 (fun h => by have := h.1; simp at this)
  have HC := Lib.hid hc
  clear hc
  refine Lib.hid ?_
  go_wp2_with (go_at_call 20; with_reducible refine (HC.out).mono ?_; rintro e w6 ⟨rfl, rfl⟩; refine Hid.out ?_)
  clear HC
  have hc := has_no HS.out 0 (fun h => by have := h.1; simp at this)
  have HC := Lib.hid hc
  clear hc
  refine Lib.hid ?_
  go_wp2_with (go_at_call 20; with_reducible refine (HC.out).mono ?_; rintro e w7 ⟨rfl, rfl⟩; refine Hid.out ?_)
  clear HC
  have hc := bumpH_ok HS.out 0 1 5 (by simp) (by simp) (by omega) (by omega) (by decide) (A' := [5, 0, 0]) rfl
  have HC := Lib.hid hc
  clear hc
  refine Lib.hid ?_
  go_wp2_with (go_at_call 14; with_reducible refine (HC.out).mono ?_; rintro e w8 ⟨rfl, h, ho⟩; refine Hid.out ?_)
  clear HC
  have HB2 := Lib.hid (HB.out.trans (ho.to_below HB.out.size HLO.out))
  clear HB HS
  have HB := HB2
  have HS := Lib.hid h
  clear h ho HB2
  have hc := pop_at (b := 1) (M' := fun x => x = 2) HS.out 2 rfl ⟨.inl rfl, fun x hx hne => by rcases (show x = 2 by omega) with rfl; decide⟩ (fun x => by omega)
  have HC := Lib.hid hc
  clear hc
  refine Lib.hid ?_
  go_wp2_with (go_at_call 16; with_reducible refine (HC.out).mono ?_; rintro e w9 ⟨rfl, h, ho⟩; refine Hid.out ?_)
  clear HC
  have HB2 := Lib.hid (HB.out.trans (ho.to_below HB.out.size HLO.out))
  clear HB HS
  have HB := HB2
  have HS := Lib.hid h
  clear h ho HB2
  have hc := push_at (i := 0) (M' := fun x => x = 0 ∨ x = 2) HS.out 1 rfl (by simp) (by omega) (fun x => by omega)
  have HC := Lib.hid hc
  clear hc
  refine Lib.hid ?_
  go_wp2_with (go_at_call 18; with_reducible refine (HC.out).mono ?_; rintro e w10 ⟨rfl, h, ho⟩; refine Hid.out ?_)
  clear HC
  have HB2 := Lib.hid (HB.out.trans (ho.to_below HB.out.size HLO.out))
  clear HB HS
  have HB := HB2
  have HS := Lib.hid h
  clear h ho HB2
  have hc := push_was (i := 0) HS.out 1 rfl (by simp) (.inl rfl)
  have HC := Lib.hid hc
  clear hc
  refine Lib.hid ?_
  go_wp2_with (go_at_call 18; with_reducible refine (HC.out).mono ?_; rintro e w11 ⟨rfl, rfl⟩; refine Hid.out ?_)
  clear HC
  have hc := lenH_any HS.out
  have HC := Lib.hid hc
  clear hc
  refine Lib.hid ?_
  go_wp2_with (go_at_call 22; with_reducible refine (HC.out).mono ?_; rintro e w12 ⟨rfl, rfl⟩; refine Hid.out ?_)
  clear HC
  have hc := pop_at (b := 0) (M' := fun x => x = 2) HS.out 1 rfl ⟨.inl rfl, fun x hx hne => by rcases (show x = 2 by omega) with rfl; decide⟩ (fun x => by omega)
  have HC := Lib.hid hc
  clear hc
  refine Lib.hid ?_
  go_wp2_with (go_at_call 16; with_reducible refine (HC.out).mono ?_; rintro e w13 ⟨rfl, h, ho⟩; refine Hid.out ?_)
  clear HC
  have HB2 := Lib.hid (HB.out.trans (ho.to_below HB.out.size HLO.out))
  clear HB HS
  have HB := HB2
  have HS := Lib.hid h
  clear h ho HB2
  have hc := bumpH_range HS.out 4 1 (by simp)
  have HC := Lib.hid hc
  clear hc
  refine Lib.hid ?_
  go_wp2_with (go_at_call 14; with_reducible refine (HC.out).mono ?_; rintro e w14 ⟨rfl, rfl⟩; refine Hid.out ?_)
  clear HC
  have hc := bumpH_range HS.out 0 1 (by simp)
  have HC := Lib.hid hc
  clear hc
  refine Lib.hid ?_
  go_wp2_with (go_at_call 14; with_reducible refine (HC.out).mono ?_; rintro e w15 ⟨rfl, rfl⟩; refine Hid.out ?_)
  clear HC
  have hc := bumpH_range HS.out 1 (-1) (by simp)
  have HC := Lib.hid hc
  clear hc
  refine Lib.hid ?_
  go_wp2_with (go_at_call 14; with_reducible refine (HC.out).mono ?_; rintro e w16 ⟨rfl, rfl⟩; refine Hid.out ?_)
  clear HC
  have hc := pushH_bad HS.out 4 (by simp)
  have HC := Lib.hid hc
  clear hc
  refine Lib.hid ?_
  go_wp2_with (go_at_call 18; with_reducible refine (HC.out).mono ?_; rintro e w17 ⟨rfl, rfl⟩; refine Hid.out ?_)
  clear HC
  have hc := bumpH_range HS.out 1 1099511627777 (by simp)
  have HC := Lib.hid hc
  clear hc
  refine Lib.hid ?_
  go_wp2_with (go_at_call 14; with_reducible refine (HC.out).mono ?_; rintro e w18 ⟨rfl, rfl⟩; refine Hid.out ?_)
  clear HC
  have hc := bumpH_ok HS.out 0 1 1099511627776 (by simp) (by simp) (by omega) (by omega) (by decide) (A' := [1099511627781, 0, 0]) rfl
  have HC := Lib.hid hc
  clear hc
  refine Lib.hid ?_
  go_wp2_with (go_at_call 14; with_reducible refine (HC.out).mono ?_; rintro e w19 ⟨rfl, h, ho⟩; refine Hid.out ?_)
  clear HC
  have HB2 := Lib.hid (HB.out.trans (ho.to_below HB.out.size HLO.out))
  clear HB HS
  have HB := HB2
  have HS := Lib.hid h
  clear h ho HB2
  have hc := fun W => newH_bad (-1) W (by omega)
  have HC := Lib.hid hc
  clear hc
  refine Lib.hid ?_
  go_wp2_with (go_at_call 12; with_reducible refine (HC.out _).mono ?_; rintro e w20 ⟨rfl, rfl⟩; refine Hid.out ?_)
  clear HC
  have hc := fun W => newH_bad 1048577 W (by omega)
  have HC := Lib.hid hc
  clear hc
  refine Lib.hid ?_
  go_wp2_with (go_at_call 12; with_reducible refine (HC.out _).mono ?_; rintro e w21 ⟨rfl, rfl⟩; refine Hid.out ?_)
  clear HC
  have hc := fun W => newH_any 0 W (by omega)
  have HC := Lib.hid hc
  clear hc
  refine Lib.hid ?_
  go_wp2_with (go_at_call 12; refine (HC.out _).mono ?_; rintro e w22 ⟨p, rfl, h, hb⟩; refine Hid.out ?_)
  clear HC
  clear HS HLO
  obtain ⟨g, rfl⟩ := h.ptr
  have HLO := Lib.hid HB.out.size
  have HB2 := Lib.hid (HB.out.trans (hb.mono HB.out.size))
  clear HB
  have HB := HB2
  have HS := Lib.hid h
  clear h hb HB2
  have hc := popH_none HS.out
  have HC := Lib.hid hc
  clear hc
  refine Lib.hid ?_
  go_wp2_with (go_at_call 16; with_reducible refine (HC.out).mono ?_; rintro e w23 ⟨rfl, rfl⟩; refine Hid.out ?_)
  clear HC
  have hc := lenH_any HS.out
  have HC := Lib.hid hc
  clear hc
  refine Lib.hid ?_
  go_wp2_with (go_at_call 22; with_reducible refine (HC.out).mono ?_; rintro e w24 ⟨rfl, rfl⟩; refine Hid.out ?_)
  clear HC
  have hc := fun W => newH_any 1 W (by omega)
  have HC := Lib.hid hc
  clear hc
  refine Lib.hid ?_
  go_wp2_with (go_at_call 12; refine (HC.out _).mono ?_; rintro e w25 ⟨p, rfl, h, hb⟩; refine Hid.out ?_)
  clear HC
  clear HS HLO
  obtain ⟨g, rfl⟩ := h.ptr
  have HLO := Lib.hid HB.out.size
  have HB2 := Lib.hid (HB.out.trans (hb.mono HB.out.size))
  clear HB
  have HB := HB2
  have HS := Lib.hid h
  clear h hb HB2
  refine Lib.hid ?_
  obtain ⟨lo, hi, hlo, hs⟩ : ∃ lo hi, w0.heap.size ≤ lo ∧ Held true lo hi w25 (.pointer (some ⟨g, 0, none⟩)) [0] (fun x => x < 1) 1 := ⟨_, _, HLO.out, HS.out⟩
  have HS2 := Lib.hid hs
  have HLO2 := Lib.hid hlo
  clear hs hlo HS HLO
  have HBX := Lib.hid HB.out
  clear HB
  go_wp2
  go_loopw [11] (fun iv wr => ∃ k : Nat, k ≤ 1048576 ∧ iv = .int .i64 k ∧ Held true lo hi wr (.pointer (some ⟨g, 0, none⟩)) [(k : Int) * 1099511627776] (fun x => x < 1) 1 ∧ Below w0.heap.size w0 wr) (fun iv _ => 1048576 - (intOf iv).toNat)
  case atStart => exact ⟨0, by omega, rfl, HS2.out, HBX.out⟩
  case round =>
    clear HS2 HBX
    obtain ⟨k, hk, rfl, hh, hb⟩ := hrel
    by_cases hlt : k < 1048576
    · have hc := bumpH_ok hh 0 1 1099511627776 (by simp) (by simp) (by omega) (by omega) (by rw [get1]; omega) (set1 _ _)
      have HC := Lib.hid hc
      have HB := Lib.hid hb
      have hk0 : (0 : Int) ≤ (k : Int) := by omega
      have hltI : (k : Int) < 1048576 := by omega
      have HLT := Lib.hid hlt
      have HKK := Lib.hid hk
      clear hc hh hb hlt hk
      go_wp2_with (go_at_call 14; with_reducible refine (HC.out).mono ?_; rintro e w2z ⟨rfl, h, ho⟩; refine Hid.out ?_)
      have HS := Lib.hid h
      have HB2 := Lib.hid (HB.out.trans (ho.to_below HB.out.size HLO2.out))
      clear h ho HC
      refine Lib.hid ?_
      go_wp2
      go_roundw
      case rel => exact ⟨k + 1, by have := HLT.out; omega, by go_num, by rw [show ((k + 1 : Nat) : Int) * 1099511627776 = (k : Int) * 1099511627776 + 1099511627776 by omega]; exact HS.out, HB2.out⟩
      case measure => have := HLT.out; simp [intOf]; omega
    · have hke : k = 1048576 := by omega
      have hkx : (k : Int) * 1099511627776 = 1152921504606846976 := by omega
      rw [hkx] at hh
      have HKE := Lib.hid hke
      clear hke hkx
      have hcond : ¬ (k : Int) < 1048576 := by omega
      have HLT := Lib.hid hlt
      have HKK := Lib.hid hk
      clear hlt hk
      have HS := Lib.hid hh
      have HB := Lib.hid hb
      have HLO := Lib.hid HLO2.out
      clear hh hb HLO2
      have hc := bumpH_over HS.out 0 1 1 (by simp) (by simp) (by omega) (by omega) (by decide)
      have HC := Lib.hid hc
      clear hc
      go_wp2_with (go_at_call 14; with_reducible refine (HC.out).mono ?_; rintro e w1 ⟨rfl, h, ho⟩; refine Hid.out ?_)
      clear HC
      have HB2 := Lib.hid (HB.out.trans (ho.to_below HB.out.size HLO.out))
      clear HB HS
      have HB := HB2
      have HS := Lib.hid h
      clear h ho HB2
      have hc := bumpH_ok HS.out 0 1 0 (by simp) (by simp) (by omega) (by omega) (by decide) (A' := [1152921504606846976]) rfl
      have HC := Lib.hid hc
      clear hc
      refine Lib.hid ?_
      go_wp2_with (go_at_call 14; with_reducible refine (HC.out).mono ?_; rintro e w2 ⟨rfl, h, ho⟩; refine Hid.out ?_)
      clear HC
      have HB2 := Lib.hid (HB.out.trans (ho.to_below HB.out.size HLO.out))
      clear HB HS
      have HB := HB2
      have HS := Lib.hid h
      clear h ho HB2
      clear HS
      have hc := fun W => popH_nil W
      have HC := Lib.hid hc
      clear hc
      refine Lib.hid ?_
      go_wp2_with (go_at_call 16; with_reducible refine (HC.out _).mono ?_; rintro e w3 ⟨rfl, rfl⟩; refine Hid.out ?_)
      clear HC
      have hc := fun W => bumpH_nil 9 (-1) W
      have HC := Lib.hid hc
      clear hc
      refine Lib.hid ?_
      go_wp2_with (go_at_call 14; with_reducible refine (HC.out _).mono ?_; rintro e w4 ⟨rfl, rfl⟩; refine Hid.out ?_)
      clear HC
      have hc := fun W => pushH_nil 9 W
      have HC := Lib.hid hc
      clear hc
      refine Lib.hid ?_
      go_wp2_with (go_at_call 18; with_reducible refine (HC.out _).mono ?_; rintro e w5 ⟨rfl, rfl⟩; refine Hid.out ?_)
      clear HC
      have hc := fun W => hasH_nil 1 W
      have HC := Lib.hid hc
      clear hc
      refine Lib.hid ?_
      go_wp2_with (go_at_call 20; with_reducible refine (HC.out _).mono ?_; rintro e w6 ⟨rfl, rfl⟩; refine Hid.out ?_)
      clear HC
      have hc := fun W => lenH_nil W
      have HC := Lib.hid hc
      clear hc
      refine Lib.hid ?_
      go_wp2_with (go_at_call 22; with_reducible refine (HC.out _).mono ?_; rintro e w7 ⟨rfl, rfl⟩; refine Hid.out ?_)
      clear HC
      have hc := fun W => copyH_nil W
      have HC := Lib.hid hc
      clear hc
      refine Lib.hid ?_
      go_wp2_with (go_at_call 24; with_reducible refine (HC.out _).mono ?_; rintro e w8 ⟨rfl, rfl⟩; refine Hid.out ?_)
      clear HC
      have hc := fun W => known_any W
      have HC := Lib.hid hc
      clear hc
      refine Lib.hid ?_
      go_wp2_with (go_at_call 11; with_reducible refine (HC.out _).mono ?_; rintro e w9 ⟨rfl, hbk⟩; refine Hid.out ?_)
      clear HC
      have HB2 := Lib.hid (HB.out.trans (hbk.mono HB.out.size))
      clear hbk
      refine Lib.hid ?_
      go_wp2
      go_ret
      exact ⟨rfl, HB2.out⟩
end L
end Go.Proofs.Ytenmgkomffnjaaa
