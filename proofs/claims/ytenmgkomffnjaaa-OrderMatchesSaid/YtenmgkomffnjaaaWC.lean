/- OrderCopies: a copy is independent of its heap. -/
import Derived.Test.YtenmgkomffnjaaaWO
import Derived.Test.YtenmgkomffnjaaaHR
namespace Go.Proofs.Ytenmgkomffnjaaa
open Go.RowKit
namespace L
open K HP
set_option maxRecDepth 100000
section
variable {full : Bool} {lo hi : Nat} {w : World} {p : Value} {A : List Int} {M : Nat → Prop} {len : Nat}
/-- Whatever a Bump does. -/
theorem bumpH_all (h : Held full lo hi w p A M len) (v b : Int) :
    Calls Try.prog 14 #[p, .int .i64 v, .int .i64 b] w fun e w' => ∃ r A', e = .returned (.int .i64 r) ∧ Held full lo hi w' p A' M len ∧ Out lo hi w w' := by
  by_cases hv : (1 ≤ v ∧ v ≤ (A.length : Int)) ∧ 0 ≤ b ∧ b ≤ 1099511627776
  · obtain ⟨⟨h1, h2⟩, h3, h4⟩ := hv
    obtain ⟨i, rfl⟩ : ∃ i : Nat, v = (i : Int) + 1 := ⟨(v - 1).toNat, by omega⟩
    refine (bumpH_any h i b (by omega) h3 h4).mono fun e w' hh => ?_
    by_cases hle : A.getD i 0 + b ≤ 1152921504606846976
    · obtain ⟨e1, e2, e3⟩ := hh.1 hle
      exact ⟨_, _, e1, e2, e3⟩
    · obtain ⟨e1, e2, e3⟩ := hh.2 hle
      exact ⟨_, _, e1, e2, e3⟩
  · exact (bumpH_range h v b hv).mono fun e w' ⟨e1, e2⟩ => by subst e2; exact ⟨_, _, e1, h, Out.refl _ _ _⟩
/-- Whatever a Pop does. -/
theorem popH_all (h : Held full lo hi w p A M len) :
    Calls Try.prog 16 #[p] w fun e w' => ∃ r1 r2 M' len', e = .returned (.tuple #[.int .i64 r1, .int .i64 r2]) ∧ Held full lo hi w' p A M' len' ∧ Out lo hi w w' := by
  cases len with
  | zero => exact (popH_none h).mono fun e w' ⟨e1, e2⟩ => by subst e2; exact ⟨_, _, _, _, e1, h, Out.refl _ _ _⟩
  | succ n => exact (popH_some h).mono fun e w' ⟨b, e1, _, _, e4, e5⟩ => ⟨_, _, _, _, e1, e4, e5⟩
end

set_option maxHeartbeats 8000000 in
theorem copies_walk (v : Value) (l : List Int) (x y : Int) (w : World) (hW : IntsW .u16 w v l) (hx : (Lit.int .u8 x).wf = true) (hy : (Lit.int .u16 y).wf = true) :
    Calls Try.prog 9 #[v, .int .u8 x, .int .u16 y] w fun e w' => e = .returned (.bool true) ∧ Below w.heap.size w w' := by
  have hmade := fun (W : World) (hb : Below w.heap.size w W) (h : l.length ≤ 200) => made_any v l W (IntsW.below hW hb) h
  have hxb : 0 ≤ x ∧ x ≤ 255 := by simpa [Lit.wf, IntKind.min, IntKind.max, IntKind.signed, IntKind.bits] using hx
  have hyb : 0 ≤ y ∧ y ≤ 65535 := by simpa [Lit.wf, IntKind.min, IntKind.max, IntKind.signed, IntKind.bits] using hy
  obtain ⟨pv, c, rfl, _⟩ := hW
  have HK := Lib.hid (fun W => known_any W)
  have HM := Lib.hid hmade
  clear hmade hx hy
  obtain ⟨hx1, hx2⟩ := hxb
  obtain ⟨hy1, hy2⟩ := hyb
  by_cases h100 : (100 : Int) < l.length
  · go_enter Try.func9, Try.ntmps9
    go_wp2_with (go_at_call 11; refine (HK.out _).mono ?_; rintro e w3 ⟨rfl, hb⟩)
    go_ret
    exact ⟨rfl, hb⟩
  · go_enter Try.func9, Try.ntmps9
    go_wp2_with (go_at_call 26; refine (HM.out _ (Below.refl _ _) (by omega)).mono ?_; rintro e w1 ⟨p1, rfl, h1, hb1⟩; refine Hid.out ?_)
    have H1 := Lib.hid h1
    have HB1 := Lib.hid hb1
    obtain ⟨g1, rfl⟩ := h1.ptr
    clear h1 hb1
    refine Lib.hid ?_
    go_wp2_with (go_at_call 26; refine (HM.out _ HB1.out (by omega)).mono ?_; rintro e w2 ⟨p2, rfl, h2, hb2⟩; refine Hid.out ?_)
    have HB2 := Lib.hid (HB1.out.trans (hb2.mono HB1.out.size))
    have hs01 := HB1.out.size
    have hs12 := hb2.size
    have h12 := H1.out.grow hb2
    have H12 := Lib.hid h12
    have H22 := Lib.hid h2
    have HC1 := Lib.hid (fun W (hb : Below w2.heap.size w2 W) => copyH_any (h12.grow hb))
    obtain ⟨g2, rfl⟩ := h2.ptr
    clear h2 hb2 h12 H1
    refine Lib.hid ?_
    go_wp2_with (go_at_call 24; with_reducible refine (HC1.out _ (Below.refl _ _)).mono ?_; rintro e w3 ⟨p3, rfl, h3, hb3⟩; refine Hid.out ?_)
    have hs23 := hb3.size
    have H3 := Lib.hid h3
    have HB3 := Lib.hid hb3
    obtain ⟨g3, rfl⟩ := h3.ptr
    clear h3 hb3
    refine Lib.hid ?_
    go_wp2_with (go_at_call 24; with_reducible refine (HC1.out _ HB3.out).mono ?_; rintro e w4 ⟨p4, rfl, h4, hb4⟩; refine Hid.out ?_)
    have hs34 := hb4.size
    have hb24 : Below w2.heap.size w2 w4 := HB3.out.trans (hb4.mono hs23)
    have hbump := bumpH_all (H3.out.grow hb4) x (y + 1)
    have HBU := Lib.hid hbump
    have H4 := Lib.hid h4
    have H14 := Lib.hid (H12.out.below hb24 (by omega))
    have H24 := Lib.hid (H22.out.below hb24 (Nat.le_refl _))
    have HB4 : Hid (Below w.heap.size w w4) := Lib.hid (HB2.out.trans (hb24.mono HB2.out.size))
    obtain ⟨g4, rfl⟩ := h4.ptr
    clear h4 hb4 hb24 hbump H12 H22 HC1 HB3 H3
    refine Lib.hid ?_
    go_wp2_with (go_at_call 14; with_reducible refine (HBU.out).mono ?_; rintro e w5 ⟨r5, A5, rfl, h5, ho5⟩; refine Hid.out ?_)
    have hpop := popH_all h5
    have HPO := Lib.hid hpop
    have HO5 := Lib.hid ho5
    clear h5 ho5 hpop
    refine Lib.hid ?_
    go_wp2_with (go_at_call 16; with_reducible refine (HPO.out).mono ?_; rintro e w6 ⟨r6, s6, M6, n6, rfl, _, ho6⟩; refine Hid.out ?_)
    have ho46 := HO5.out.trans ho6
    have hs46 := ho46.size
    have hqall := all_any (H24.out.out ho46 (.inl (Nat.le_refl _))) (by omega)
    have HQA := Lib.hid hqall
    have H16 := Lib.hid (H14.out.out ho46 (.inl (by omega)))
    have H46 := Lib.hid (H4.out.out ho46 (.inr (Nat.le_refl _)))
    have HB6 : Hid (Below w.heap.size w w6) := Lib.hid (HB4.out.trans (ho46.to_below HB4.out.size (by omega)))
    clear ho46 ho6 hqall H14 H24 H4 HO5
    refine Lib.hid ?_
    go_wp2_with (go_at_call 27; with_reducible refine (HQA.out).mono ?_; rintro e w7 ⟨v7, o7, rfl, d7, l7, k7, _, ho7⟩; refine Hid.out ?_)
    have hs67 := ho7.size
    have hpall := all_any (H16.out.out ho7 (.inl (Nat.le_refl _))) (by omega)
    have HPA := Lib.hid hpall
    have H47 := Lib.hid (H46.out.out ho7 (.inr (by omega)))
    have D7 := Lib.hid d7
    have L7 := Lib.hid l7
    have K7 := Lib.hid k7
    have HB7 : Hid (Below w.heap.size w w7) := Lib.hid (HB6.out.trans (ho7.to_below HB6.out.size hs01))
    obtain ⟨p7, c7, rfl⟩ := owns_shape k7
    clear hpall d7 l7 k7 ho7 H16 H46
    refine Lib.hid ?_
    go_wp2_with (go_at_call 27; with_reducible refine (HPA.out).mono ?_; rintro e w8 ⟨v8, o8, rfl, d8, l8, k8, _, ho8⟩; refine Hid.out ?_)
    have hs78 := ho8.size
    have k78 := K7.out.out ho8 (by omega)
    have hsame := ends_same k8 k78 d8 D7.out (by rw [l8]; omega)
    have HS := Lib.hid hsame
    have H48 := Lib.hid (H47.out.out ho8 (.inr (by omega)))
    have K78 := Lib.hid k78
    have HB8 : Hid (Below w.heap.size w w8) := Lib.hid (HB7.out.trans (ho8.to_below HB7.out.size (Nat.le_refl _)))
    obtain ⟨p8, c8, rfl⟩ := owns_shape k8
    clear hsame d8 l8 k8 ho8 k78 H47
    refine Lib.hid ?_
    go_wp2_with (go_at_call 28; with_reducible refine (HS.out).mono ?_; rintro e w9 ⟨rfl, hb9⟩; refine Hid.out ?_)
    have hdall := all_any (H48.out.grow hb9) (by omega)
    have HDA := Lib.hid hdall
    have hs89 := hb9.size
    have K79 : Hid (OwnI w9 w6.heap.size (.slice p7 (nums o7).length c7) (nums o7)) := Lib.hid (owns_below K78.out hb9 (Nat.le_refl _))
    have HB9 : Hid (Below w.heap.size w w9) := Lib.hid (HB8.out.trans (hb9.mono HB8.out.size))
    clear hdall hb9
    refine Lib.hid ?_
    go_wp2_with (go_at_call 27; with_reducible refine (HDA.out).mono ?_; rintro e wA ⟨vA, oA, rfl, dA, lA, kA, _, hoA⟩; refine Hid.out ?_)
    have hsame := ends_same kA (K79.out.out hoA (by omega)) dA D7.out (by rw [lA]; omega)
    have HS2 := Lib.hid hsame
    have HBA : Hid (Below w.heap.size w wA) := Lib.hid (HB9.out.trans (hoA.to_below HB9.out.size (by omega)))
    obtain ⟨pA, cA, rfl⟩ := owns_shape kA
    clear hsame dA lA kA hoA
    refine Lib.hid ?_
    go_wp2_with (first
      | (go_at_call 28; with_reducible refine (HS2.out).mono ?_; rintro e wB ⟨rfl, hbB⟩)
      | (go_at_call 11; with_reducible refine (HK.out _).mono ?_; rintro e wC ⟨rfl, hbC⟩))
    go_ret
    exact ⟨rfl, HBA.out.trans ((hbB.mono HBA.out.size).trans (hbC.mono (Nat.le_trans HBA.out.size hbB.size)))⟩
end L
end Go.Proofs.Ytenmgkomffnjaaa
