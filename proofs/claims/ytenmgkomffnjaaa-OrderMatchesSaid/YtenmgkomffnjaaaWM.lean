/- OrderMatches: heaps do what the reference does, call by call. -/
import Derived.Test.YtenmgkomffnjaaaWE
import Derived.Test.YtenmgkomffnjaaaHX
namespace Go.Proofs.Ytenmgkomffnjaaa
open Go.RowKit
namespace L
open K HP
set_option maxRecDepth 100000

/-- A pair of Pushes. -/
theorem push_pair {lo1 hi1 lo2 hi2 : Nat} {w : World} {p1 p2 : Value} {A : List Int} {M : Nat → Prop} {S : List Bool} {m : Nat} (h : Held true lo1 hi1 w p1 A M m) (r : RefAt lo2 hi2 w p2 A S) (hl : Like A M S) (hs : S.length = A.length) (h12 : hi1 ≤ lo2) (x : Int) :
    ∃ R1 M' S' m', Like A M' S' ∧ S'.length = A.length ∧
      (∀ W, Out lo2 hi2 w W → Calls Try.prog 18 #[p1, .int .i64 x] W fun e w' => e = .returned (.int .i64 R1) ∧ Held true lo1 hi1 w' p1 A M' m' ∧ Out lo1 hi1 W w') ∧
      (∀ W, Out lo1 hi1 w W → Calls Try.prog 19 #[p2, .int .i64 x] W fun e w' => e = .returned (.int .i64 R1) ∧ RefAt lo2 hi2 w' p2 A S' ∧ Out lo2 hi2 W w') := by
  by_cases hv : 1 ≤ x ∧ x ≤ (A.length : Int)
  · obtain ⟨i, rfl⟩ : ∃ i : Nat, x = (i : Int) + 1 := ⟨(x - 1).toNat, by omega⟩
    have hi0 : i < A.length := by omega
    have hr : ∀ W, Out lo1 hi1 w W → Calls Try.prog 19 #[p2, .int .i64 ((i : Int) + 1)] W fun e w' => e = .returned (.int .i64 0) ∧ RefAt lo2 hi2 w' p2 A (S.set i true) ∧ Out lo2 hi2 W w' := fun W ho => rpush_any (r.out ho (.inr h12)) i hi0
    have hss : (S.set i true).length = A.length := by rw [List.length_set]; exact hs
    by_cases hM : M i
    · refine ⟨0, M, S.set i true, m, ?_, hss, fun W ho => ?_, hr⟩
      · intro y
        have := (hl.push hs hi0) y
        rw [← this]
        exact ⟨fun h => .inl h, fun h => h.elim id (fun e => e ▸ hM)⟩
      · exact (pushH_in (h.out ho (.inl h12)) i hi0 hM).mono fun e w' ⟨e1, e2⟩ => by subst e2; exact ⟨e1, h.out ho (.inl h12), Out.refl _ _ _⟩
    · exact ⟨0, _, S.set i true, m + 1, hl.push hs hi0, hss, fun W ho => pushH_new (h.out ho (.inl h12)) i hi0 hM, hr⟩
  · refine ⟨3, M, S, m, hl, hs, fun W ho => ?_, fun W ho => ?_⟩
    · exact (pushH_bad (h.out ho (.inl h12)) x hv).mono fun e w' ⟨e1, e2⟩ => by subst e2; exact ⟨e1, h.out ho (.inl h12), Out.refl _ _ _⟩
    · exact (rpush_bad (r.out ho (.inr h12)) x hv).mono fun e w' ⟨e1, e2⟩ => by subst e2; exact ⟨e1, r.out ho (.inr h12), Out.refl _ _ _⟩
/-- A pair of Pops. -/
theorem pop_pair {full : Bool} {lo1 hi1 : Nat} {w : World} {p1 : Value} {A : List Int} {M : Nat → Prop} {S : List Bool} {m : Nat} (h : Held full lo1 hi1 w p1 A M m) (hl : Like A M S) (hs : S.length = A.length) :
    Calls Try.prog 16 #[p1] w fun e w' => ∃ R1 R2 M' S' m', e = .returned (.tuple #[.int .i64 R1, .int .i64 R2]) ∧ Held full lo1 hi1 w' p1 A M' m' ∧ Out lo1 hi1 w w' ∧ Like A M' S' ∧ S'.length = A.length ∧
      ∀ lo2 hi2 W p2, RefAt lo2 hi2 W p2 A S → Calls Try.prog 17 #[p2] W fun e w' => e = .returned (.tuple #[.int .i64 R1, .int .i64 R2]) ∧ RefAt lo2 hi2 w' p2 A S' ∧ Out lo2 hi2 W w' := by
  cases m with
  | zero =>
    exact (popH_none h).mono fun e w' ⟨e1, e2⟩ => by
      subst e2
      exact ⟨0, 6, M, S, 0, e1, h, Out.refl _ _ _, hl, hs, fun _ _ W p2 r => rpop_none r (fun x hx => h.empty x ((hl x).2 hx))⟩
  | succ m =>
    exact (popH_some h).mono fun e w' ⟨b, e1, e2, e3, e4, e5⟩ =>
      ⟨(b : Int) + 1, 0, _, S.set b false, m, e1, e4, e5, hl.pop hs e3, by rw [List.length_set]; exact hs, fun _ _ W p2 r => rpop_some r (Best.congr e2 hl)⟩

set_option maxHeartbeats 16000000 in
theorem matches_walk (n : Int) (v : Value) (L : List (Int × Int × Int)) (w : World) (_hn : (Lit.int .i64 n).wf = true) (hW : CallsW w v L) :
    Calls Try.prog 3 #[.int .i64 n, v] w fun e w' => e = .returned (.bool true) ∧ Below w.heap.size w w' := by
  obtain ⟨pv, c, rfl, _, _, hwf, hcell⟩ := hW
  have HK := Lib.hid (fun W => known_any W)
  have HC := Lib.hid hcell
  have HWF := Lib.hid hwf
  clear hcell hwf
  by_cases h200 : (200 : Int) < L.length
  · go_enter Try.func3, Try.ntmps3
    go_wp2_with (go_at_call 11; refine (HK.out _).mono ?_; rintro e w3 ⟨rfl, hb⟩)
    go_ret
    exact ⟨rfl, hb⟩
  have hd0 : decide ((L.length : Int) > 200) = false := decide_eq_false h200
  by_cases hmid : n > 300 ∧ n ≤ 1048576
  · obtain ⟨hm1, hm2⟩ := hmid
    have hd1 : decide (n > 300) = true := decide_eq_true hm1
    have hd2 : decide (n ≤ 1048576) = true := decide_eq_true hm2
    go_enter Try.func3, Try.ntmps3
    go_wp2_with (go_at_call 11; refine (HK.out _).mono ?_; rintro e w3 ⟨rfl, hb⟩)
    go_ret
    exact ⟨rfl, hb⟩
  by_cases hbad : n < 0 ∨ 1048576 < n
  · have hN := fun W => newH_bad n W hbad
    have hR := fun W => rnew_bad n W hbad
    have HN := Lib.hid hN
    have HR := Lib.hid hR
    clear hN hR
    rcases hbad with hb0 | hb0
    · have hd1 : decide (n > 300) = false := decide_eq_false (by omega)
      clear hmid
      go_enter Try.func3, Try.ntmps3
      go_wp2_with (first
        | (go_at_call 12; with_reducible refine (HN.out _).mono ?_; rintro e w3 ⟨rfl, rfl⟩)
        | (go_at_call 13; with_reducible refine (HR.out _).mono ?_; rintro e w3 ⟨rfl, rfl⟩))
      go_loopw [9] (fun iv wr => iv = .int .i64 0 ∧ w = wr) (fun _ _ => 0)
      case atStart => exact ⟨rfl, rfl⟩
      case round =>
        obtain ⟨rfl, rfl⟩ := hrel
        go_wp2_with (go_at_call 11; refine (HK.out _).mono ?_; rintro e w3 ⟨rfl, hb⟩)
        go_ret
        exact ⟨rfl, hb⟩
    · have hd1 : decide (n > 300) = true := decide_eq_true (by omega)
      have hd2 : decide (n ≤ 1048576) = false := decide_eq_false (by omega)
      clear hmid
      go_enter Try.func3, Try.ntmps3
      go_wp2_with (first
        | (go_at_call 12; with_reducible refine (HN.out _).mono ?_; rintro e w3 ⟨rfl, rfl⟩)
        | (go_at_call 13; with_reducible refine (HR.out _).mono ?_; rintro e w3 ⟨rfl, rfl⟩))
      go_loopw [9] (fun iv wr => iv = .int .i64 0 ∧ w = wr) (fun _ _ => 0)
      case atStart => exact ⟨rfl, rfl⟩
      case round =>
        obtain ⟨rfl, rfl⟩ := hrel
        go_wp2_with (go_at_call 11; refine (HK.out _).mono ?_; rintro e w3 ⟨rfl, hb⟩)
        go_ret
        exact ⟨rfl, hb⟩
  obtain ⟨V, rfl⟩ : ∃ V : Nat, n = (V : Int) := ⟨n.toNat, by omega⟩
  have hV : V ≤ 300 := by omega
  have hl200 : L.length ≤ 200 := by omega
  have hd1 : decide ((V : Int) > 300) = false := decide_eq_false (by omega)
  clear hmid hbad
  have HN := Lib.hid (newH_any V w (by omega))
  go_enter Try.func3, Try.ntmps3
  go_wp2_with (go_at_call 12; refine (HN.out).mono ?_; rintro e w1 ⟨p1, rfl, h1, hb1⟩; refine Hid.out ?_)
  have hrn := rnew_any V w1 (by omega)
  have HRN := Lib.hid hrn
  have H1 := Lib.hid h1
  have HB1 := Lib.hid hb1
  have hs01 := hb1.size
  obtain ⟨g1, rfl⟩ := h1.ptr
  clear h1 hb1 hrn
  refine Lib.hid ?_
  go_wp2_with (go_at_call 13; refine (HRN.out).mono ?_; rintro e w2 ⟨p2, rfl, h2, hb2⟩; refine Hid.out ?_)
  have hs12 := hb2.size
  have H12 := Lib.hid (H1.out.grow hb2)
  have H2 := Lib.hid h2
  have HB2 := Lib.hid (HB1.out.trans (hb2.mono hs01))
  obtain ⟨g2, rfl⟩ := h2.ptr
  have HLK := Lib.hid (like_start V)
  clear h2 hb2
  refine Lib.hid ?_
  go_wp2
  go_loopw [9] (fun iv wr => ∃ (i : Nat) (A : List Int) (M : Nat → Prop) (S : List Bool) (m : Nat), i ≤ L.length ∧ iv = .int .i64 i ∧ Like A M S ∧ S.length = A.length ∧ Held true w.heap.size w1.heap.size wr (.pointer (some ⟨g1, 0, none⟩)) A M m ∧ RefAt w1.heap.size w2.heap.size wr (.pointer (some ⟨g2, 0, none⟩)) A S ∧ Out w.heap.size w2.heap.size w2 wr) (fun iv _ => L.length - (intOf iv).toNat)
  case atStart => exact ⟨0, _, _, _, _, Nat.zero_le _, rfl, HLK.out, by simp [inTo], H12.out, H2.out, Out.refl _ _ _⟩
  case round =>
    clear H12 H2
    obtain ⟨i, A, M, S, m, hi, rfl, hlk, hS, hh, hr, ho⟩ := hrel
    have hsz := ho.size
    have hbw : Below w.heap.size w wr := HB2.out.trans (ho.to_below HB2.out.size (Nat.le_refl _))
    by_cases hlt : i < L.length
    · obtain ⟨b, off, rfl, ec⟩ := HC.out (by omega)
      obtain ⟨c0, c1, c2⟩ := ec i hlt
      have hwf := (HWF.out _ (mem_getDC hlt)).1
      have l1 : b < w.heap.size := World.block_lt_of_cell? _ _ c1
      have d0 := (hbw.cell (p := ⟨b, off + i * 3, none⟩) l1).trans c0
      have d1 := (hbw.cell (p := ⟨b, off + i * 3 + 1, none⟩) l1).trans c1
      have d2 := (hbw.cell (p := ⟨b, off + i * 3 + 2, none⟩) l1).trans c2
      generalize hwd : (L.getD i (0, 0, 0)).1 = z at *
      generalize hvd : (L.getD i (0, 0, 0)).2.1 = x at *
      generalize hbd : (L.getD i (0, 0, 0)).2.2 = y at *
      have hz : 0 ≤ z ∧ z ≤ 255 := by simpa [Lit.wf, IntKind.min, IntKind.max, IntKind.signed, IntKind.bits] using hwf
      obtain ⟨hz0, hz1⟩ := hz
      have HO := Lib.hid ho
      have HBW := Lib.hid hbw
      have e2 : ∀ W, Out w.heap.size w2.heap.size wr W → W.cell? ⟨b, off + i * 3 + 1, none⟩ = some (.int .i64 x) ∧ W.cell? ⟨b, off + i * 3 + 2, none⟩ = some (.int .i64 y) := fun W hW =>
        ⟨(hW.cell (p := ⟨b, off + i * 3 + 1, none⟩) (show b < wr.heap.size by omega) (.inl l1)).trans d1, (hW.cell (p := ⟨b, off + i * 3 + 2, none⟩) (show b < wr.heap.size by omega) (.inl l1)).trans d2⟩
      have HE := Lib.hid e2
      have hcase : z.tmod 5 = z % 5 ∧ (z % 5 = 0 ∨ z % 5 = 1 ∨ z % 5 = 2 ∨ z % 5 = 3 ∨ z % 5 = 4) := ⟨Int.tmod_eq_emod_of_nonneg hz0, by omega⟩
      obtain ⟨htm, hcase⟩ := hcase
      clear hwf ec ho hbw e2 hwd hvd hbd c0 c1 c2
      rcases hcase with hq | hq | hq | hq | hq <;> rw [hq] at htm
      · have hB1 : ∀ W, Out w1.heap.size w2.heap.size wr W → Calls Try.prog 14 #[.pointer (some ⟨g1, 0, none⟩), .int .i64 x, .int .i64 y] W fun e w' => e = .returned (.int .i64 (bumpR A x y).1) ∧ Held true w.heap.size w1.heap.size w' (.pointer (some ⟨g1, 0, none⟩)) (bumpR A x y).2 M m ∧ Out w.heap.size w1.heap.size W w' := fun W hW => bumpH_pure (hh.out hW (.inl (Nat.le_refl _))) x y
        have hB2 : ∀ W, Out w.heap.size w1.heap.size wr W → Calls Try.prog 15 #[.pointer (some ⟨g2, 0, none⟩), .int .i64 x, .int .i64 y] W fun e w' => e = .returned (.int .i64 (bumpR A x y).1) ∧ RefAt w1.heap.size w2.heap.size w' (.pointer (some ⟨g2, 0, none⟩)) (bumpR A x y).2 S ∧ Out w1.heap.size w2.heap.size W w' := fun W hW => rbump_pure (hr.out hW (.inr (Nat.le_refl _))) x y
        have hlen := bumpR_len A x y
        have HB1' := Lib.hid hB1
        have HB2' := Lib.hid hB2
        have HLEN := Lib.hid hlen
        have HLK2 := Lib.hid (hlk.bump hlen)
        have HS2 := Lib.hid (hS.trans hlen.symm)
        clear hB1 hB2 hlen hh hr hlk hS hq
        obtain ⟨R1, A', hR⟩ : ∃ R1 A', bumpR A x y = (R1, A') := ⟨_, _, rfl⟩
        rw [hR] at HB1' HB2' HLEN HLK2 HS2
        clear hR
        have hne : (R1 != R1) = false := by simp
        go_wp2
        go_region_held3 (fun w' => w'.cell? ⟨b, off + i * 3 + 1, none⟩ = some (.int .i64 x) ∧ w'.cell? ⟨b, off + i * 3 + 2, none⟩ = some (.int .i64 y))
          (first
            | go_keep
            | (exact HE.out _ ((oD.mono (Nat.le_refl _) hs12).trans ((oH.mono (Nat.le_refl _) hs12).trans (oQ.mono hs01 (Nat.le_refl _)))))
            | (exact HE.out _ ((oD.mono (Nat.le_refl _) hs12).trans (oH.mono (Nat.le_refl _) hs12))))
          (first
            | (go_at_call 14
               with_reducible refine (HB1'.out _ (Out.of_below (Below.refl _ _).drew (Nat.le_refl _))).mono ?_
               rintro e wH ⟨rfl, hH, oH⟩
               have oD : Out w.heap.size w1.heap.size wr wr.drew := Out.of_below (Below.refl _ _).drew (Nat.le_refl _))
            | (go_at_call 15
               with_reducible refine (HB2'.out _ (Out.trans (Out.of_below (Below.refl _ _).drew (Nat.le_refl _)) oH)).mono ?_
               rintro e wQ ⟨rfl, hQ, oQ⟩))
        have HH2 := Lib.hid (hH.out oQ (.inl (Nat.le_refl _)))
        have HQ2 := Lib.hid hQ
        have HO2 := Lib.hid (HO.out.trans ((oD.mono (Nat.le_refl _) hs12).trans ((oH.mono (Nat.le_refl _) hs12).trans (oQ.mono hs01 (Nat.le_refl _)))))
        clear hH hQ oH oQ oD d0 d1 d2
        go_wp2
        go_roundw
        case rel => exact ⟨i + 1, A', M, S, m, by omega, by go_num, HLK2.out, HS2.out, HH2.out, HQ2.out, HO2.out⟩
        case measure => simp [intOf]; omega
      · have hpp := pop_pair hh hlk hS
        have HPP := Lib.hid hpp
        have HR := Lib.hid hr
        clear hpp hh hr hlk hS hq
        go_wp2_with (go_at_call 16; with_reducible refine (HPP.out).mono ?_; rintro e w4 ⟨R1, R2, M', S', m', rfl, h4, ho4, hlk', hs', hrp⟩; refine Hid.out ?_)
        have hrp' := hrp _ _ w4 _ (HR.out.out ho4 (.inr (Nat.le_refl _)))
        have HRP := Lib.hid hrp'
        have H4 := Lib.hid h4
        have HO4 := Lib.hid (HO.out.trans (ho4.mono (Nat.le_refl _) hs12))
        have HLK' := Lib.hid hlk'
        have HS' := Lib.hid hs'
        have hn1 : (R1 != R1) = false := by simp
        have hn2 : (R2 != R2) = false := by simp
        clear hrp hrp' h4 ho4 hlk' hs'
        refine Lib.hid ?_
        go_wp2_with (go_at_call 17; with_reducible refine (HRP.out).mono ?_; rintro e w5 ⟨rfl, h5, ho5⟩; refine Hid.out ?_)
        have H5 := Lib.hid h5
        have H45 := Lib.hid (H4.out.out ho5 (.inl (Nat.le_refl _)))
        have HO5 := Lib.hid (HO4.out.trans (ho5.mono hs01 (Nat.le_refl _)))
        clear h5 ho5
        refine Lib.hid ?_
        go_wp2
        go_roundw
        case rel => exact ⟨i + 1, A, M', S', m', by omega, by go_num, HLK'.out, HS'.out, H45.out, H5.out, HO5.out⟩
        case measure => simp [intOf]; omega
      · obtain ⟨R1, M', S', m', hlk', hs', hP1, hP2⟩ := push_pair hh hr hlk hS (Nat.le_refl _) x
        have HB1' := Lib.hid hP1
        have HB2' := Lib.hid hP2
        have HLK2 := Lib.hid hlk'
        have HS2 := Lib.hid hs'
        have hne : (R1 != R1) = false := by simp
        have e3 : ∀ W, Out w.heap.size w2.heap.size wr W → W.cell? ⟨b, off + i * 3 + 1, none⟩ = some (.int .i64 x) := fun W hW => (HE.out W hW).1
        have HE3 := Lib.hid e3
        clear hP1 hP2 hlk' hs' hh hr hlk hS hq e3
        go_wp2
        go_region_held3 (fun w' => w'.cell? ⟨b, off + i * 3 + 1, none⟩ = some (.int .i64 x))
          (first
            | go_keep
            | (exact HE3.out _ ((oD.mono (Nat.le_refl _) hs12).trans ((oH.mono (Nat.le_refl _) hs12).trans (oQ.mono hs01 (Nat.le_refl _)))))
            | (exact HE3.out _ ((oD.mono (Nat.le_refl _) hs12).trans (oH.mono (Nat.le_refl _) hs12))))
          (first
            | (go_at_call 18
               with_reducible refine (HB1'.out _ (Out.of_below (Below.refl _ _).drew (Nat.le_refl _))).mono ?_
               rintro e wH ⟨rfl, hH, oH⟩
               have oD : Out w.heap.size w1.heap.size wr wr.drew := Out.of_below (Below.refl _ _).drew (Nat.le_refl _))
            | (go_at_call 19
               with_reducible refine (HB2'.out _ (Out.trans (Out.of_below (Below.refl _ _).drew (Nat.le_refl _)) oH)).mono ?_
               rintro e wQ ⟨rfl, hQ, oQ⟩))
        have HH2 := Lib.hid (hH.out oQ (.inl (Nat.le_refl _)))
        have HQ2 := Lib.hid hQ
        have HO2 := Lib.hid (HO.out.trans ((oD.mono (Nat.le_refl _) hs12).trans ((oH.mono (Nat.le_refl _) hs12).trans (oQ.mono hs01 (Nat.le_refl _)))))
        clear hH hQ oH oQ oD d0 d1 d2
        go_wp2
        go_roundw
        case rel => exact ⟨i + 1, A, M', S', m', by omega, by go_num, HLK2.out, HS2.out, HH2.out, HQ2.out, HO2.out⟩
        case measure => simp [intOf]; omega
      · obtain ⟨q, hq1, hq2⟩ : ∃ q : Bool, (∀ X : Later wr.heap.size wr, Calls Try.prog 20 #[.pointer (some ⟨g1, 0, none⟩), .int .i64 x] X.W fun e w' => e = .returned (.bool q) ∧ X.W = w') ∧ (∀ X : Later wr.heap.size wr, Calls Try.prog 21 #[.pointer (some ⟨g2, 0, none⟩), .int .i64 x] X.W fun e w' => e = .returned (.bool q) ∧ X.W = w') := by
          have hiff : InH A M x ↔ InH A (fun x => S.getD x false = true) x := by
            unfold InH
            constructor
            · rintro ⟨h1, h2⟩; exact ⟨h1, ((hlk _).1 h2).2⟩
            · rintro ⟨h1, h2⟩; exact ⟨h1, (hlk _).2 ⟨by omega, h2⟩⟩
          classical
          refine ⟨decide (InH A M x), fun X => (hasH_any (hh.grow X.ok) x).mono fun e w' ⟨b, e1, e2, e3⟩ => ⟨by rw [e1]; congr 2; rw [Bool.eq_iff_iff, decide_eq_true_eq]; exact e2, e3⟩, fun X => (rhas_any (hr.grow X.ok) x).mono fun e w' ⟨b, e1, e2, e3⟩ => ⟨by rw [e1]; congr 2; rw [Bool.eq_iff_iff, decide_eq_true_eq, hiff]; exact e2, e3⟩⟩
        have hl1 : ∀ X : Later wr.heap.size wr, Calls Try.prog 22 #[.pointer (some ⟨g1, 0, none⟩)] X.W fun e w' => e = .returned (.int .i64 m) ∧ X.W = w' := fun X => lenH_any (hh.grow X.ok)
        have hl2 : ∀ X : Later wr.heap.size wr, Calls Try.prog 23 #[.pointer (some ⟨g2, 0, none⟩)] X.W fun e w' => e = .returned (.int .i64 m) ∧ X.W = w' := fun X => by
          have := rlen_any (hr.grow X.ok)
          rwa [Held.count hh hlk hS] at this
        have k1 : ∀ X : Later wr.heap.size wr, X.W.cell? ⟨b, off + i * 3 + 1, none⟩ = some (.int .i64 x) := fun X => (X.cell (show b < wr.heap.size by omega)).trans d1
        have hqq : (q != q) = false := by simp
        have hmm : ((m : Int) != (m : Int)) = false := by simp
        have HQ1 := Lib.hid hq1
        have HQ2 := Lib.hid hq2
        have HL1 := Lib.hid hl1
        have HL2 := Lib.hid hl2
        have HHH := Lib.hid hh
        have HRR := Lib.hid hr
        have HLL := Lib.hid hlk
        have HSS := Lib.hid hS
        clear hq1 hq2 hl1 hl2 hh hr hlk hS hq d1 d2
        go_wp2
        refine wp_region_later (w0 := wr) (B := wr.heap.size) (by kernel_rfl) (by kernel_rfl) (Below.refl _ _) ?_
        repeat (go_big_quiet_step (first
          | (go_at_call 20; exact later_same _ (HQ1.out _))
          | (go_at_call 21; exact later_same _ (HQ2.out _))
          | (go_at_call 22; exact later_same _ (HL1.out _))
          | (go_at_call 23; exact later_same _ (HL2.out _))))
        refine wpQuiet_nil ?_
        rintro _ ⟨X, rfl⟩
        have hX := X.ok
        clear k1
        generalize X.W = wx at *
        have HHX := Lib.hid (HHH.out.grow hX)
        have HRX := Lib.hid (HRR.out.grow hX)
        have HOX := Lib.hid (HO.out.below (hX.mono hsz) (Nat.le_refl _))
        clear hX d0
        go_wp2
        go_roundw
        case rel => exact ⟨i + 1, A, M, S, m, by omega, by go_num, HLL.out, HSS.out, HHX.out, HRX.out, HOX.out⟩
        case measure => simp [intOf]; omega
      · have hcp := copyH_any hh
        have HCP := Lib.hid hcp
        have HHH := Lib.hid hh
        have HRR := Lib.hid hr
        have HLL := Lib.hid hlk
        have HSS := Lib.hid hS
        clear hcp hh hr hlk hS hq
        go_wp2_with (go_at_call 24; with_reducible refine (HCP.out).mono ?_; rintro e w3 ⟨p3, rfl, h3, hb3⟩; refine Hid.out ?_)
        have hpp := pop_pair h3 HLL.out HSS.out
        have HPP := Lib.hid hpp
        have HB3 := Lib.hid hb3
        have hs3 := hb3.size
        obtain ⟨g3, rfl⟩ := h3.ptr
        clear hpp h3 hb3
        refine Lib.hid ?_
        go_wp2_with (go_at_call 16; with_reducible refine (HPP.out).mono ?_; rintro e w4 ⟨R1, R2, M', S', m', rfl, _, ho4, _, _, hrp⟩; refine Hid.out ?_)
        have hs4 := ho4.size
        have hb4 : Below wr.heap.size wr w4 := HB3.out.trans (ho4.to_below hs3 (Nat.le_refl _))
        have hrc := rcopy_any (HRR.out.grow hb4)
        have HRC := Lib.hid hrc
        have HRP := Lib.hid hrp
        have HB4 := Lib.hid hb4
        have hn1 : (R1 != R1) = false := by simp
        have hn2 : (R2 != R2) = false := by simp
        clear hrc hrp hb4 ho4
        refine Lib.hid ?_
        go_wp2_with (go_at_call 25; with_reducible refine (HRC.out).mono ?_; rintro e w5 ⟨p5, rfl, h5, hb5⟩; refine Hid.out ?_)
        have hrp5 := HRP.out _ _ w5 _ h5
        have HRP5 := Lib.hid hrp5
        have hs5 := hb5.size
        have HB5 := Lib.hid (HB4.out.trans (hb5.mono (Nat.le_trans hs3 hs4)))
        obtain ⟨g5, rfl⟩ := h5.ptr
        clear hrp5 h5 hb5
        refine Lib.hid ?_
        go_wp2_with (go_at_call 17; with_reducible refine (HRP5.out).mono ?_; rintro e w6 ⟨rfl, _, ho6⟩; refine Hid.out ?_)
        have hb6 : Below wr.heap.size wr w6 := HB5.out.trans (ho6.to_below (by omega) (by omega))
        have HHX := Lib.hid (HHH.out.grow hb6)
        have HRX := Lib.hid (HRR.out.grow hb6)
        have HOX := Lib.hid (HO.out.below (hb6.mono hsz) (Nat.le_refl _))
        clear ho6 hb6 d0 d1 d2
        refine Lib.hid ?_
        go_wp2
        go_roundw
        case rel => exact ⟨i + 1, A, M, S, m, by omega, by go_num, HLL.out, HSS.out, HHX.out, HRX.out, HOX.out⟩
        case measure => simp [intOf]; omega
    · obtain rfl : i = L.length := by omega
      have HB := Lib.hid hbw
      clear hh hr ho hbw hlk hS
      go_wp2_with (go_at_call 11; refine (HK.out _).mono ?_; rintro e w3 ⟨rfl, hb⟩)
      go_ret
      exact ⟨rfl, HB.out.trans (hb.mono HB.out.size)⟩
end L
end Go.Proofs.Ytenmgkomffnjaaa
