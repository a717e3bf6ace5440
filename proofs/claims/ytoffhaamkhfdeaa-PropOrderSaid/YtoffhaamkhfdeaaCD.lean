/- Contract of seek: the next literal of a clause. -/
import Derived.Test.YtoffhaamkhfdeaaCB
namespace Go.Proofs.Ytoffhaamkhfdeaa
open Go.RowKit Go.Conc
namespace L
open K

theorem upd_upd {β : Type} {f : Nat → β} {k : Nat} {a b : β} : U.upd (U.upd f k a) k b = U.upd f k b := by
  funext j
  by_cases h : j = k
  · subst h; rw [U.upd_same, U.upd_same]
  · rw [U.upd_ne h, U.upd_ne h, U.upd_ne h]
/-- The number in a cell. -/
def intAt (w : World) (a : Addr) : Int := (w.cell? a).elim 0 intOf

theorem seekL_at {kn : Nat → Int} {o : Int} {l : List Int} {m : Nat} (h : m < l.length) :
    U.seekL kn o (l.drop m) = if l.getD m 0 ≠ o ∧ kn (l.getD m 0).natAbs ≠ -(l.getD m 0) then (l.getD m 0, 1) else ((U.seekL kn o (l.drop (m + 1))).1, (U.seekL kn o (l.drop (m + 1))).2 + 1) := by
  have e : l.drop m = l.getD m 0 :: l.drop (m + 1) := by
    rw [List.drop_eq_getElem_cons h]
    simp [List.getD, h]
  rw [e]
  rfl

set_option maxHeartbeats 2000000 in
theorem seek_any {w : World} {p : Bl} {al : Nat → Value} {N : Nat} {vs : Int → Value} {s : U.St} (h : Mem w p al N vs s) {i j : Nat} (hi : i < p.M) (hj : j = 4 * i) (c : List Int) (hc : ∀ W, Below p.B w W → Ints W (al i) c) (hv : ∀ x ∈ c, x.natAbs ≤ p.n)
    (hnx : s.nx i ≤ c.length) (o : Int) :
    Calls Try.prog 47 #[.pointer (some ⟨p.pb, 0, none⟩), .pointer (some ⟨p.cb, j, none⟩), .int .i64 o] w fun e w' => e = .returned (.int .i64 (U.seekR s i c o)) ∧ Mem w' p al N vs (U.seekS s i c o) ∧ Below p.B w w' := by
  subst hj
  obtain ⟨pp, cap, hal, hcap, hlim, hcell⟩ := hc w (Below.refl _ _)
  have hB : p.B ≤ w.heap.size := by have := h.ord; have := h.siz; omega
  have HC := Lib.hid hc
  have HV := Lib.hid hv
  clear hc hv hcell
  have HR : Hid (U.seekR s i c o = (U.seekL s.kn o (c.drop (s.nx i))).1 ∧ U.seekS s i c o = { s with nx := U.upd s.nx i (s.nx i + (U.seekL s.kn o (c.drop (s.nx i))).2) }) := Lib.hid ⟨rfl, rfl⟩
  generalize U.seekR s i c o = r at *
  generalize U.seekS s i c o = sf at *
  have hM := Lib.hid h
  have hdif : p.cb ≠ p.pb := Ne.symm h.dif.2.2.1
  have hord := h.ord.1.2.2.2.1
  clear h
  go_enter Try.func47, Try.ntmps47
  go_wp2
  go_loopw [] (fun wr => ∃ m : Nat, s.nx i ≤ m ∧ m ≤ c.length ∧ Mem wr p al N vs { s with nx := U.upd s.nx i m } ∧ Below p.B w wr ∧ U.seekL s.kn o (c.drop (s.nx i)) = ((U.seekL s.kn o (c.drop m)).1, (m - s.nx i) + (U.seekL s.kn o (c.drop m)).2)) (fun wr => c.length - (intAt wr ⟨p.cb, 4 * i + 1, none⟩).toNat)
  case atStart =>
    refine ⟨s.nx i, Nat.le_refl _, hnx, ?_, Below.refl _ _, by simp⟩
    have e : U.upd s.nx i (s.nx i) = s.nx := by
      funext j
      by_cases e : j = i
      · subst e; rw [U.upd_same]
      · rw [U.upd_ne e]
    rw [e]
    exact hM.out
  case round =>
    obtain ⟨m, hm0, hm1, hm, hb, hs⟩ := hrel
    have HS := Lib.hid hs
    clear hs
    obtain ⟨l0, l1, _, _, lf⟩ := hm.l hi
    simp only [U.upd_same] at l1
    rw [hal] at l0
    have HM := Lib.hid hm
    have HB := Lib.hid hb
    have hmea : Hid ((intAt wr ⟨p.cb, 4 * i + 1, none⟩).toNat = m) := Lib.hid (by simp [intAt, l1, intOf])
    by_cases hlt : m < c.length
    · have hlt' : (m : Int) < (c.length : Int) := by omega
      obtain ⟨pp2, cap2, hal2, hcap2, hlim2, hcell0⟩ := HC.out wr hb
      rw [hal] at hal2
      cases hal2
      obtain ⟨b, off, rfl, hcell1⟩ := hcell0 (by omega)
      have hx := hcell1 m hlt
      clear hcell0 hcell1
      obtain ⟨x, ex⟩ : ∃ x, c.getD m 0 = x := ⟨_, rfl⟩
      rw [ex] at hx
      have hxn : x.natAbs ≤ p.n := HV.out x (by rw [← ex]; exact U.getD_mem hlt)
      have hstep := seekL_at (kn := s.kn) (o := o) hlt
      rw [ex] at hstep
      have HST := Lib.hid hstep
      clear hstep ex
      have f1 := lf (4 * i + 1)
      have hw1 : IntKind.i64.wrap ((m : Int) + 1) = (m : Int) + 1 := by simp only [IntKind.wrap_i64]; omega
      have hset : ∀ q, Mem ((wr.drewN q).setCell ⟨p.cb, 4 * i + 1, none⟩ (.int .i64 ((m : Int) + 1))) p al N vs { s with nx := U.upd s.nx i (m + 1) } := fun q => by
        have h1 := (hm.heap (w' := wr.drewN q) rfl).setCl (4 * i + 1) (.int .i64 ((m : Int) + 1)) (al' := al) (nx' := U.upd s.nx i (m + 1)) (b0' := s.b0) (b1' := s.b1) (fun cs h2 => by
          have h3 := h2.setNx i (m + 1)
          rw [upd_upd] at h3
          simpa using h3)
        exact h1
      have HSE := Lib.hid hset
      have HBE : Hid (∀ q, Below p.B w ((wr.drewN q).setCell ⟨p.cb, 4 * i + 1, none⟩ (.int .i64 ((m : Int) + 1)))) := Lib.hid fun q => below_setCell (below_drewN hb q) hord _
      have HIN : Hid (∀ q W, Below ((wr.drewN q).setCell ⟨p.cb, 4 * i + 1, none⟩ (.int .i64 ((m : Int) + 1))).heap.size ((wr.drewN q).setCell ⟨p.cb, 4 * i + 1, none⟩ (.int .i64 ((m : Int) + 1))) W → (intAt W ⟨p.cb, 4 * i + 1, none⟩).toNat = m + 1) := Lib.hid fun q W hW => by
        have h1 := ((hset q).below hW).l hi
        simp only [U.upd_same] at h1
        simp [intAt, h1.2.1, intOf]
      have HCA : Hid (∀ q, Calls Try.prog 44 #[.pointer (some ⟨p.pb, 0, none⟩), .int .i64 x] ((wr.drewN q).setCell ⟨p.cb, 4 * i + 1, none⟩ (.int .i64 ((m : Int) + 1))) fun e w' => e = .returned (.bool (decide (s.kn x.natAbs = -x))) ∧ Below ((wr.drewN q).setCell ⟨p.cb, 4 * i + 1, none⟩ (.int .i64 ((m : Int) + 1))).heap.size ((wr.drewN q).setCell ⟨p.cb, 4 * i + 1, none⟩ (.int .i64 ((m : Int) + 1))) w') := Lib.hid fun q => isF_any (hset q) x hxn
      clear hm hb lf hset
      by_cases hxo : x = o
      · have hne : (x != o) = false := by simp [hxo]
        have HXO := Lib.hid hxo
        clear hxo
        go_wp2
        go_quiet (fail)
        go_wp2
        go_quiet (fail)
        go_wp2
        go_roundw
        case rel =>
          refine ⟨m + 1, by omega, by omega, HSE.out _, HBE.out _, ?_⟩
          have h1 := HST.out
          rw [if_neg (fun h => h.1 HXO.out)] at h1
          rw [HS.out, h1]
          simp only [Prod.mk.injEq, true_and]
          omega
        case measure =>
          rw [HIN.out _ _ (Below.refl _ _), hmea.out]
          omega
      · have hne : (x != o) = true := by simp [hxo]
        have HXO := Lib.hid hxo
        clear hxo
        by_cases hF : s.kn x.natAbs = -x
        · have hd : decide (s.kn x.natAbs = -x) = true := decide_eq_true hF
          rw [hd] at HCA
          have HF := Lib.hid hF
          clear hF hd
          go_wp2
          go_quiet (fail)
          go_wp2
          go_quiet (fail)
          go_wp2_with fail
          refine (HCA.out _).mono ?_
          rintro e w3 ⟨rfl, hb3⟩
          refine Hid.out ?_
          refine Lib.hid ?_
          have HB3 := Lib.hid hb3
          clear hb3
          go_wp2
          go_roundw
          case rel =>
            refine ⟨m + 1, by omega, by omega, (HSE.out _).below HB3.out, (HBE.out _).trans (HB3.out.mono (Nat.le_trans hB (HBE.out _).size)), ?_⟩
            have h1 := HST.out
            rw [if_neg (fun h => h.2 HF.out)] at h1
            rw [HS.out, h1]
            simp only [Prod.mk.injEq, true_and]
            omega
          case measure =>
            rw [HIN.out _ _ HB3.out, hmea.out]
            omega
        · have hd : decide (s.kn x.natAbs = -x) = false := decide_eq_false hF
          rw [hd] at HCA
          have HF := Lib.hid hF
          clear hF hd
          go_wp2
          go_quiet (fail)
          go_wp2
          go_quiet (fail)
          go_wp2_with fail
          refine (HCA.out _).mono ?_
          rintro e w3 ⟨rfl, hb3⟩
          refine Hid.out ?_
          refine Lib.hid ?_
          have HB3 := Lib.hid hb3
          clear hb3
          go_wp2
          go_ret
          obtain ⟨r1, r2⟩ := HR.out
          have h1 := HST.out
          rw [if_pos ⟨HXO.out, HF.out⟩] at h1
          have h3 := HS.out
          rw [h1] at h3
          rw [h3] at r1 r2
          refine ⟨by rw [r1]; rfl, ?_, (HBE.out _).trans (HB3.out.mono (Nat.le_trans hB (HBE.out _).size))⟩
          rw [r2]
          have e : s.nx i + (m - s.nx i + 1) = m + 1 := by omega
          simp only [e]
          exact (HSE.out _).below HB3.out
    · have hlt' : ¬ ((m : Int) < (c.length : Int)) := by omega
      obtain rfl : m = c.length := by omega
      clear hm hb lf
      go_wp2
      go_quiet (fail)
      go_wp2
      go_ret
      obtain ⟨r1, r2⟩ := HR.out
      have h3 := HS.out
      simp only [List.drop_length, U.seekL] at h3
      rw [h3] at r1 r2
      refine ⟨by rw [r1]; rfl, ?_, below_drewN HB.out _⟩
      rw [r2]
      have e : s.nx i + (c.length - s.nx i + 0) = c.length := by omega
      simp only [e]
      exact HM.out.heap rfl
end L
end Go.Proofs.Ytoffhaamkhfdeaa
