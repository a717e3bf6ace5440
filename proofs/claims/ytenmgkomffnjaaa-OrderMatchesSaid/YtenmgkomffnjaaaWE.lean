/- OrderEnds: after any calls all variables are popped as by the reference. -/
import Derived.Test.YtenmgkomffnjaaaHW
import Derived.Test.YtenmgkomffnjaaaOC
import Derived.Deep.RegionHeld3
namespace Go.Proofs.Ytenmgkomffnjaaa
open Go.RowKit
namespace L
open K HP
set_option maxRecDepth 100000

theorem CallsW.below {w w' : World} {v : Value} {L : List (Int × Int × Int)} (h : CallsW w v L) (hb : Below w.heap.size w w') : CallsW w' v L := by
  obtain ⟨p, cap, hv, h1, h2, h3, h4⟩ := h
  refine ⟨p, cap, hv, h1, h2, h3, fun h0 => ?_⟩
  obtain ⟨b, off, hp, hc⟩ := h4 h0
  refine ⟨b, off, hp, fun j hj => ?_⟩
  obtain ⟨c0, c1, c2⟩ := hc j hj
  exact ⟨(hb.cell (World.block_lt_of_cell? _ _ c0)).trans c0, (hb.cell (World.block_lt_of_cell? _ _ c1)).trans c1, (hb.cell (World.block_lt_of_cell? _ _ c2)).trans c2⟩
theorem mem_getDC {L : List (Int × Int × Int)} {j : Nat} (h : j < L.length) : L.getD j (0, 0, 0) ∈ L := by simp [List.getD, h]

theorem Held.cell2 {full : Bool} {lo hi g : Nat} {w : World} {A : List Int} {M : Nat → Prop} {len : Nat} (h : Held full lo hi w (.pointer (some ⟨g, 0, none⟩)) A M len) : slen ((w.cell? ⟨g, 2, none⟩).getD undef) = len := by
  obtain ⟨s, R, Q, hp, h⟩ := h
  simp only [Value.pointer.injEq, Option.some.injEq, Addr.mk.injEq, and_true] at hp
  have := h.mem.box.cell 2
  rw [← hp] at this
  rw [this]
  simpa [slen] using h.len
set_option maxHeartbeats 8000000 in
theorem ends_walk (n : Int) (v : Value) (L : List (Int × Int × Int)) (w : World) (hn : (Lit.int .u8 n).wf = true) (hW : CallsW w v L) :
    Calls Try.prog 4 #[.int .u8 n, v] w fun e w' => e = .returned (.bool true) ∧ Below w.heap.size w w' := by
  have hnb : 0 ≤ n ∧ n ≤ 255 := by simpa [Lit.wf, IntKind.min, IntKind.max, IntKind.signed, IntKind.bits] using hn
  obtain ⟨N, rfl⟩ : ∃ N : Nat, n = (N : Int) := ⟨n.toNat, by omega⟩
  obtain ⟨pv, c, rfl, _, _, _, hcell⟩ := hW
  have HK := Lib.hid (fun W => known_any W)
  have HC := Lib.hid hcell
  clear hcell hn
  by_cases h100 : (100 : Int) < L.length
  · go_enter Try.func4, Try.ntmps4
    go_wp2_with (go_at_call 11; refine (HK.out _).mono ?_; rintro e w3 ⟨rfl, hb⟩)
    go_ret
    exact ⟨rfl, hb⟩
  · have hl100 : L.length ≤ 100 := by omega
    have hm : ((N : Int)).tmod 60 = ((N % 60 : Nat) : Int) := by rw [Int.tmod_eq_emod_of_nonneg (by omega)]; omega
    have hm2 : ((N : Int)) % 60 = ((N % 60 : Nat) : Int) := by omega
    have hV0 : N % 60 ≤ 59 := by omega
    generalize hkd : N % 60 = k at *
    clear hkd
    have hV : 1 + (k : Int) = ((1 + k : Nat) : Int) := by omega
    obtain ⟨V, hVd⟩ : ∃ V, 1 + k = V := ⟨_, rfl⟩
    have hV60 : V ≤ 60 := by omega
    rw [hVd] at hV
    have hnew := newH_any V w (by omega)
    have HN := Lib.hid hnew
    have HVD := Lib.hid hVd
    clear hnew hVd
    go_enter Try.func4, Try.ntmps4
    go_wp2_with (go_at_call 12; refine (HN.out).mono ?_; rintro e w1 ⟨p1, rfl, h1, hb1⟩; refine Hid.out ?_)
    have hrn := rnew_any V w1 (by omega)
    have HRN := Lib.hid hrn
    have H1 := Lib.hid h1
    have HB1 := Lib.hid hb1
    have hs01 := hb1.size
    obtain ⟨g1, rfl⟩ := h1.ptr
    clear h1 hb1 hrn
    refine Lib.hid ?_
    go_wp2_with (go_at_call 13; refine (HRN.out).mono ?_; rintro e w2 ⟨p2, rfl, h2, hb2⟩; refine Hid.out ?_)
    have hs12 := hb2.size
    have H12 := Lib.hid (H1.out.grow hb2)
    have H2 := Lib.hid h2
    have HB2 := Lib.hid (HB1.out.trans (hb2.mono hs01))
    obtain ⟨g2, rfl⟩ := h2.ptr
    have HLK := Lib.hid (like_start V)
    clear h2 hb2
    refine Lib.hid ?_
    go_wp2
    go_loopw [9] (fun iv wr => ∃ (i : Nat) (A : List Int), i ≤ L.length ∧ iv = .int .i64 i ∧ A.length = V ∧ Held true w.heap.size w1.heap.size wr (.pointer (some ⟨g1, 0, none⟩)) A (fun x => x < V) V ∧ RefAt w1.heap.size w2.heap.size wr (.pointer (some ⟨g2, 0, none⟩)) A (inTo V V) ∧ Out w.heap.size w2.heap.size w2 wr) (fun iv _ => L.length - (intOf iv).toNat)
    case atStart => exact ⟨0, _, Nat.zero_le _, rfl, by simp, H12.out, H2.out, Out.refl _ _ _⟩
    case round =>
      clear H12 H2
      obtain ⟨i, A, hi, rfl, hA, hh, hr, ho⟩ := hrel
      have hsz := ho.size
      have hbw : Below w.heap.size w wr := HB2.out.trans (ho.to_below HB2.out.size (Nat.le_refl _))
      by_cases hlt : i < L.length
      · obtain ⟨b, off, rfl, ec⟩ := HC.out (by omega)
        obtain ⟨c0, c1, c2⟩ := ec i hlt
        have l1 : b < w.heap.size := World.block_lt_of_cell? _ _ c1
        have d1 := (hbw.cell (p := ⟨b, off + i * 3 + 1, none⟩) l1).trans c1
        have d2 := (hbw.cell (p := ⟨b, off + i * 3 + 2, none⟩) l1).trans c2
        generalize hvd : (L.getD i (0, 0, 0)).2.1 = x at *
        generalize hbd : (L.getD i (0, 0, 0)).2.2 = y at *
        have hB1 : ∀ W, Out w1.heap.size w2.heap.size wr W → Calls Try.prog 14 #[.pointer (some ⟨g1, 0, none⟩), .int .i64 x, .int .i64 y] W fun e w' => e = .returned (.int .i64 (bumpR A x y).1) ∧ Held true w.heap.size w1.heap.size w' (.pointer (some ⟨g1, 0, none⟩)) (bumpR A x y).2 (fun x => x < V) V ∧ Out w.heap.size w1.heap.size W w' := fun W hW => bumpH_pure (hh.out hW (.inl (Nat.le_refl _))) x y
        have hB2 : ∀ W, Out w.heap.size w1.heap.size wr W → Calls Try.prog 15 #[.pointer (some ⟨g2, 0, none⟩), .int .i64 x, .int .i64 y] W fun e w' => e = .returned (.int .i64 (bumpR A x y).1) ∧ RefAt w1.heap.size w2.heap.size w' (.pointer (some ⟨g2, 0, none⟩)) (bumpR A x y).2 (inTo V V) ∧ Out w1.heap.size w2.heap.size W w' := fun W hW => rbump_pure (hr.out hW (.inr (Nat.le_refl _))) x y
        have hlen := bumpR_len A x y
        have HB1' := Lib.hid hB1
        have HB2' := Lib.hid hB2
        have HLEN := Lib.hid hlen
        have HO := Lib.hid ho
        have e1 : ∀ W, Out w.heap.size w1.heap.size wr W → W.cell? ⟨b, off + i * 3 + 1, none⟩ = some (.int .i64 x) ∧ W.cell? ⟨b, off + i * 3 + 2, none⟩ = some (.int .i64 y) := fun W hW =>
          ⟨(hW.cell (p := ⟨b, off + i * 3 + 1, none⟩) (show b < wr.heap.size by omega) (.inl l1)).trans d1, (hW.cell (p := ⟨b, off + i * 3 + 2, none⟩) (show b < wr.heap.size by omega) (.inl l1)).trans d2⟩
        have e2 : ∀ W, Out w.heap.size w2.heap.size wr W → W.cell? ⟨b, off + i * 3 + 1, none⟩ = some (.int .i64 x) ∧ W.cell? ⟨b, off + i * 3 + 2, none⟩ = some (.int .i64 y) := fun W hW =>
          ⟨(hW.cell (p := ⟨b, off + i * 3 + 1, none⟩) (show b < wr.heap.size by omega) (.inl l1)).trans d1, (hW.cell (p := ⟨b, off + i * 3 + 2, none⟩) (show b < wr.heap.size by omega) (.inl l1)).trans d2⟩
        have HE := Lib.hid e2
        clear hB1 hB2 hlen hh hr ho ec hbw e1 e2 hvd hbd c0 c1 c2
        obtain ⟨R1, A', hR⟩ : ∃ R1 A', bumpR A x y = (R1, A') := ⟨_, _, rfl⟩
        rw [hR] at HB1' HB2' HLEN
        clear hR
        have hne : (R1 != R1) = false := by simp
        go_wp2
        go_region_held3 (fun w' => w'.cell? ⟨b, off + i * 3 + 1, none⟩ = some (.int .i64 x) ∧ w'.cell? ⟨b, off + i * 3 + 2, none⟩ = some (.int .i64 y))
          (first
            | go_keep
            | (exact HE.out _ ((oD.mono (Nat.le_refl _) hs12).trans ((oH.mono (Nat.le_refl _) hs12).trans (oQ.mono hs01 (Nat.le_refl _)))))
            | (exact HE.out _ ((oD.mono (Nat.le_refl _) hs12).trans ((oQ.mono hs01 (Nat.le_refl _)).trans (oH.mono (Nat.le_refl _) hs12))))
            | (exact HE.out _ ((oD.mono (Nat.le_refl _) hs12).trans (oH.mono (Nat.le_refl _) hs12)))
            | (exact HE.out _ ((oD.mono (Nat.le_refl _) hs12).trans (oQ.mono hs01 (Nat.le_refl _)))))
          (first
            | (go_at_call 14
               with_reducible refine (HB1'.out _ (by first | exact Out.trans (Out.of_below (Below.refl _ _).drew (Nat.le_refl _)) oQ | exact Out.of_below (Below.refl _ _).drew (Nat.le_refl _))).mono ?_
               rintro e wH ⟨rfl, hH, oH⟩
               have oD : Out w.heap.size w1.heap.size wr wr.drew := Out.of_below (Below.refl _ _).drew (Nat.le_refl _))
            | (go_at_call 15
               with_reducible refine (HB2'.out _ (by first | exact Out.trans (Out.of_below (Below.refl _ _).drew (Nat.le_refl _)) oH | exact Out.of_below (Below.refl _ _).drew (Nat.le_refl _))).mono ?_
               rintro e wQ ⟨rfl, hQ, oQ⟩
               have oD : Out w.heap.size w1.heap.size wr wr.drew := Out.of_below (Below.refl _ _).drew (Nat.le_refl _)))
        have HH2 := Lib.hid (hH.out oQ (.inl (Nat.le_refl _)))
        have HQ2 := Lib.hid hQ
        have HO2 := Lib.hid (HO.out.trans ((oD.mono (Nat.le_refl _) hs12).trans ((oH.mono (Nat.le_refl _) hs12).trans (oQ.mono hs01 (Nat.le_refl _)))))
        clear hH hQ oH oQ oD d1 d2
        go_wp2
        go_roundw
        case rel => exact ⟨i + 1, A', by omega, by go_num, by rw [← hA]; exact HLEN.out, HH2.out, HQ2.out, HO2.out⟩
        case measure => simp [intOf]; omega
      · obtain rfl : i = L.length := by omega
        have HHx := Lib.hid hh
        have HRx := Lib.hid hr
        have HBw := Lib.hid hbw
        have HLKx : Hid (Like A (fun x => x < V) (inTo V V)) := Lib.hid (HLK.out.bump (by rw [hA]; simp))
        have HAV := Lib.hid hA
        have hsI : (inTo V V).length = A.length := by rw [hA]; simp [inTo]
        have HSI := Lib.hid hsI
        have hV60' : V ≤ 60 := hV60
        clear hh hr ho hbw hsI hA
        go_wp2
        go_loopw [] (fun W2 => ∃ (M : Nat → Prop) (S : List Bool) (m : Nat), Like A M S ∧ S.length = A.length ∧ Held true w.heap.size w1.heap.size W2 (.pointer (some ⟨g1, 0, none⟩)) A M m ∧ RefAt w1.heap.size w2.heap.size W2 (.pointer (some ⟨g2, 0, none⟩)) A S ∧ Below w.heap.size w W2) (fun W2 => slen ((W2.cell? ⟨g1, 2, none⟩).getD undef))
        case atStart => exact ⟨_, _, V, HLKx.out, HSI.out, HHx.out, HRx.out, HBw.out⟩
        case round =>
          obtain ⟨M, S, m, hlk, hs, hh, hr, hb⟩ := hrel
          rename World => W2
          have hsz2 := hb.size
          cases m with
          | zero =>
            have hpn := popH_none hh
            have hrp := rpop_none hr (fun x hx => hh.empty x ((hlk x).2 hx))
            have HPN := Lib.hid hpn
            have HRP := Lib.hid hrp
            have HHz := Lib.hid hh
            have HLz := Lib.hid hlk
            have HSz := Lib.hid hs
            have HBz := Lib.hid hb
            have HRz := Lib.hid hr
            clear hpn hrp hh hlk hs hb hr HHx HRx HBw HLKx HSI
            go_wp2_with (go_at_call 16; with_reducible refine (HPN.out).mono ?_; rintro e w4 ⟨rfl, rfl⟩)
            go_wp2_with (go_at_call 17; with_reducible refine (HRP.out).mono ?_; rintro e w5 ⟨rfl, hr5, ho5⟩; refine Hid.out ?_)
            have hl1 := lenH_any (HHz.out.out ho5 (.inl (Nat.le_refl _)))
            have hl2 := rlen_any hr5
            rw [Held.count HHz.out HLz.out HSz.out] at hl2
            have HL1 := Lib.hid hl1
            have HL2 := Lib.hid hl2
            have HB5 : Hid (Below w.heap.size w w5) := Lib.hid (HBz.out.trans (ho5.to_below HBz.out.size hs01))
            clear hl1 hl2 hr5 ho5
            refine Lib.hid ?_
            go_wp2_with (first
              | (go_at_call 22; with_reducible refine (HL1.out).mono ?_; rintro e w6 ⟨rfl, rfl⟩)
              | (go_at_call 23; with_reducible refine (HL2.out).mono ?_; rintro e w6 ⟨rfl, rfl⟩)
              | (go_at_call 11; with_reducible refine (HK.out _).mono ?_; rintro e w7 ⟨rfl, hb7⟩))
            go_ret
            exact ⟨rfl, HB5.out.trans (hb7.mono HB5.out.size)⟩
          | succ m =>
            have hps := popH_some hh
            have HPS := Lib.hid hps
            have HMZ := Lib.hid (Held.cell2 hh)
            have HLz := Lib.hid hlk
            have HSz := Lib.hid hs
            have HBz := Lib.hid hb
            have HRz := Lib.hid hr
            clear hps hh hlk hs hb hr HHx HRx HBw HLKx HSI
            go_wp2_with (go_at_call 16; with_reducible refine (HPS.out).mono ?_; rintro e w4 ⟨b, rfl, h1, h2, h3, h4⟩; refine Hid.out ?_)
            have hrp := rpop_some (HRz.out.out h4 (.inr (Nat.le_refl _))) (Best.congr h1 HLz.out)
            have HRP := Lib.hid hrp
            have H3 := Lib.hid h3
            have HL4 := Lib.hid (HLz.out.pop HSz.out h2)
            have HS4 : Hid ((S.set b false).length = A.length) := Lib.hid (by rw [List.length_set]; exact HSz.out)
            have HB4 : Hid (Below w.heap.size w w4) := Lib.hid (HBz.out.trans (h4.to_below hsz2 (Nat.le_refl _)))
            have hb20 : b ≤ 60 := by have := HAV.out; omega
            clear hrp h1 h2 h3 h4
            refine Lib.hid ?_
            go_wp2_with (go_at_call 17; with_reducible refine (HRP.out).mono ?_; rintro e w5 ⟨rfl, hr5, ho5⟩; refine Hid.out ?_)
            have hh5 := H3.out.out ho5 (.inl (Nat.le_refl _))
            have hl1 := lenH_any hh5
            have hl2 := rlen_any hr5
            rw [Held.count hh5 HL4.out HS4.out] at hl2
            have HL1 := Lib.hid hl1
            have HL2 := Lib.hid hl2
            have HH5 := Lib.hid hh5
            have HR5 := Lib.hid hr5
            have HM5 := Lib.hid (Held.cell2 hh5)
            have HB5 : Hid (Below w.heap.size w w5) := Lib.hid (HB4.out.trans (ho5.to_below HB4.out.size hs01))
            clear hl1 hl2 hr5 ho5 hh5
            refine Lib.hid ?_
            go_wp2_with (first
              | (go_at_call 22; with_reducible refine (HL1.out).mono ?_; rintro e w6 ⟨rfl, rfl⟩)
              | (go_at_call 23; with_reducible refine (HL2.out).mono ?_; rintro e w6 ⟨rfl, rfl⟩))
            go_roundw
            case rel => exact ⟨_, _, m, HL4.out, HS4.out, HH5.out, HR5.out, HB5.out⟩
            case measure => rw [HM5.out, HMZ.out]; omega
end L
end Go.Proofs.Ytenmgkomffnjaaa
