/- OrderOdd: what is refused changes nothing. -/
import Derived.Test.YtenmgkomffnjaaaHO
namespace Go.Proofs.Ytenmgkomffnjaaa
open Go.RowKit
namespace L
open K HP
set_option maxRecDepth 100000

/-- Two drained heaps alike. -/
theorem ends_same {w : World} {b1 b2 : Nat} {v1 v2 : Value} {A : List Int} {M : Nat → Prop} {o1 o2 : List Nat} (h1 : OwnI w b1 v1 (nums o1)) (h2 : OwnI w b2 v2 (nums o2)) (d1 : Drains A M o1) (d2 : Drains A M o2) (hl : o1.length ≤ 200) :
    Calls Try.prog 28 #[v1, v2] w fun e w' => e = .returned (.bool true) ∧ Below w.heap.size w w' := by
  obtain rfl := d1.unique d2
  have := same_any v1 v2 (nums o1) (nums o1) w (h1.ints (by rw [nums_len]; omega)) (h2.ints (by rw [nums_len]; omega))
  simpa using this

set_option maxHeartbeats 4000000 in
theorem odd_walk (v : Value) (l : List Int) (x y : Int) (w : World) (hW : IntsW .u16 w v l) (_hx : (Lit.int .i64 x).wf = true) (_hy : (Lit.int .i64 y).wf = true) :
    Calls Try.prog 10 #[v, .int .i64 x, .int .i64 y] w fun e w' => e = .returned (.bool true) ∧ Below w.heap.size w w' := by
  have hmade := fun (W : World) (hb : Below w.heap.size w W) (h : l.length ≤ 200) => made_any v l W (IntsW.below hW hb) h
  obtain ⟨pv, c, rfl, _⟩ := hW
  have hk := fun W => known_any W
  have HK := Lib.hid hk
  have HM := Lib.hid hmade
  clear hk hmade
  by_cases h100 : (100 : Int) < l.length
  · go_enter Try.func10, Try.ntmps10
    go_wp2_with (go_at_call 11; refine (HK.out _).mono ?_; rintro e w3 ⟨rfl, hb⟩)
    go_ret
    exact ⟨rfl, hb⟩
  · go_enter Try.func10, Try.ntmps10
    go_wp2_with (go_at_call 26; refine (HM.out _ (Below.refl _ _) (by omega)).mono ?_; rintro e w1 ⟨p1, rfl, h1, hb1⟩; refine Hid.out ?_)
    have H1 := Lib.hid h1
    have HB1 := Lib.hid hb1
    obtain ⟨g1, rfl⟩ := h1.ptr
    clear h1 hb1
    refine Lib.hid ?_
    go_wp2_with (go_at_call 26; refine (HM.out _ HB1.out (by omega)).mono ?_; rintro e w2 ⟨p2, rfl, h2, hb2⟩; refine Hid.out ?_)
    have H2 := Lib.hid h2
    have HB2 := Lib.hid (HB1.out.trans (hb2.mono HB1.out.size))
    have H12 := Lib.hid (H1.out.grow hb2)
    obtain ⟨g2, rfl⟩ := h2.ptr
    clear h2 hb2
    refine Lib.hid ?_
    have hfin : Calls Try.prog 27 #[.pointer (some ⟨g1, 0, none⟩)] w2 fun e w' => ∃ v out, e = .returned v ∧ Drains l (fun z => z < l.length) out ∧ out.length = l.length ∧ OwnI w' w2.heap.size v (nums out) ∧ Held true w.heap.size w1.heap.size w' (.pointer (some ⟨g1, 0, none⟩)) l (fun _ => False) 0 ∧ Out w.heap.size w1.heap.size w2 w' :=
      all_any H12.out (by omega)
    have hx1 : ¬ (1 ≤ x ∧ x ≤ (l.length : Int)) → Calls Try.prog 14 #[.pointer (some ⟨g1, 0, none⟩), .int .i64 x, .int .i64 1] w2 fun e w' => e = .returned (.int .i64 3) ∧ w2 = w' := fun h => bumpH_range H12.out x 1 (fun h' => h h'.1)
    have hx2 : ¬ (1 ≤ x ∧ x ≤ (l.length : Int)) → Calls Try.prog 18 #[.pointer (some ⟨g1, 0, none⟩), .int .i64 x] w2 fun e w' => e = .returned (.int .i64 3) ∧ w2 = w' := fun h => pushH_bad H12.out x h
    have hx3 : ¬ (1 ≤ x ∧ x ≤ (l.length : Int)) → Calls Try.prog 20 #[.pointer (some ⟨g1, 0, none⟩), .int .i64 x] w2 fun e w' => e = .returned (.bool false) ∧ w2 = w' := fun h => (hasH_any H12.out x).mono fun e w' ⟨b, h1, h2, h3⟩ => ⟨by rw [h1]; cases b with
      | false => rfl
      | true => exact absurd (h2.1 rfl).1 h, h3⟩
    have hy1 : ¬ (0 ≤ y ∧ y ≤ 1099511627776) → Calls Try.prog 14 #[.pointer (some ⟨g1, 0, none⟩), .int .i64 x, .int .i64 y] w2 fun e w' => e = .returned (.int .i64 3) ∧ w2 = w' := fun h => bumpH_range H12.out x y (fun h' => h h'.2)
    have HF := Lib.hid hfin
    have HX1 := Lib.hid hx1
    have HX2 := Lib.hid hx2
    have HX3 := Lib.hid hx3
    have HY1 := Lib.hid hy1
    clear hfin hx1 hx2 hx3 hy1
    have hlo : (l.length : Int) ≤ 100 := by omega
    have hxc : (x < 1) ∨ (¬ x < 1 ∧ (l.length : Int) < x) ∨ (¬ x < 1 ∧ ¬ (l.length : Int) < x) := by omega
    have hyc : (y < 0) ∨ (¬ y < 0 ∧ (1099511627776 : Int) < y) ∨ (¬ y < 0 ∧ ¬ (1099511627776 : Int) < y) := by omega
    rcases hxc with hx | ⟨hx, hx'⟩ | ⟨hx, hx'⟩ <;> rcases hyc with hy | ⟨hy, hy'⟩ | ⟨hy, hy'⟩ <;> (
      go_wp2_with (first
        | (go_at_call 14; with_reducible refine (HX1.out (by omega)).mono ?_; rintro e w3 ⟨rfl, rfl⟩)
        | (go_at_call 18; with_reducible refine (HX2.out (by omega)).mono ?_; rintro e w3 ⟨rfl, rfl⟩)
        | (go_at_call 20; with_reducible refine (HX3.out (by omega)).mono ?_; rintro e w3 ⟨rfl, rfl⟩)
        | (go_at_call 14; with_reducible refine (HY1.out (by omega)).mono ?_; rintro e w3 ⟨rfl, rfl⟩)
        | (go_at_call 27; with_reducible refine (HF.out).mono ?_; rintro e w3 ⟨v1, o1, rfl, d1, l1, k1, _, ho3⟩; refine Hid.out ?_))
      have D1 := Lib.hid d1
      have L1 := Lib.hid l1
      have K1 := Lib.hid k1
      have HO3 := Lib.hid ho3
      have hfin2 := all_any (H2.out.out ho3 (.inr (Nat.le_refl _))) (by omega)
      have HF2 := Lib.hid hfin2
      clear d1 l1 k1 ho3 hfin2
      obtain ⟨p1, c1, rfl⟩ := owns_shape K1.out
      refine Lib.hid ?_
      go_wp2_with (go_at_call 27; with_reducible refine (HF2.out).mono ?_; rintro e w4 ⟨v2, o2, rfl, d2, l2, k2, _, ho4⟩; refine Hid.out ?_)
      have hsame := ends_same (K1.out.out ho4 H2.out.hi_w) k2 D1.out d2 (by rw [L1.out]; omega)
      have HS := Lib.hid hsame
      have HB4 : Hid (Below w.heap.size w w4) := Lib.hid (HB2.out.trans ((HO3.out.to_below HB2.out.size (Nat.le_refl _)).trans (ho4.to_below (Nat.le_trans HB2.out.size HO3.out.size) HB1.out.size)))
      obtain ⟨p2, c2, rfl⟩ := owns_shape k2
      clear hsame d2 k2 ho4
      refine Lib.hid ?_
      go_wp2_with (first
        | (go_at_call 28; with_reducible refine (HS.out).mono ?_; rintro e w5 ⟨rfl, hb5⟩)
        | (go_at_call 11; with_reducible refine (HK.out _).mono ?_; rintro e w6 ⟨rfl, hb6⟩))
      go_ret
      exact ⟨rfl, HB4.out.trans ((hb5.mono HB4.out.size).trans (hb6.mono (Nat.le_trans HB4.out.size hb5.size)))⟩)
end L
end Go.Proofs.Ytenmgkomffnjaaa
