/- Contracts of learnAll and watchAll. -/
import Derived.Test.YtoffhaamkhfdeaaCF
namespace Go.Proofs.Ytoffhaamkhfdeaa
open Go.RowKit Go.Conc
namespace L
open K

theorem dom_cases {n : Nat} {cs : List (List Int)} {A : List Int} {m : Nat} {x : Int} {rest : List Nat} {s : U.St} (h : U.Inv n cs A m x rest s) (y : Int) (_hy : y ≠ 0) : s.kn y.natAbs = 0 ∨ s.kn y.natAbs = y ∨ s.kn y.natAbs = -y := by
  rcases h.dom y.natAbs with e | ⟨e, _⟩
  · exact .inl e
  · right; omega

def LAPost (w : World) (p : Bl) (al : Nat → Value) (N : Nat) (vs : Int → Value) (s : U.St) (cs : List (List Int)) (A : List Int) (e : Ending) (w' : World) : Prop :=
  ∃ b s', e = .returned (.bool b) ∧ Mem w' p al N vs s' ∧ Below p.B w w' ∧ (b = true → U.Inv p.n cs A 0 0 [] s' ∧ (∀ x ∈ A, s'.kn x.natAbs = x) ∧ U.mea p.n s' ≤ U.mea p.n s) ∧ (b = false → U.Bad cs A)

set_option maxHeartbeats 2000000 in
theorem learnAll_any {w : World} {p : Bl} {al : Nat → Value} {N : Nat} {vs : Int → Value} {s : U.St} {cs : List (List Int)} {A : List Int} (h : Mem w p al N vs s) (hI : U.Inv p.n cs A 0 0 [] s) (v : Value) (hl : ∀ W, Below p.B w W → Ints W v A) (hv : U.Val p.n A)
    (hk : ∀ y : Int, y ≠ 0 → s.kn y.natAbs = y → y ∈ A) :
    Calls Try.prog 27 #[.pointer (some ⟨p.pb, 0, none⟩), v] w fun e w' => LAPost w p al N vs s cs A e w' := by
  obtain ⟨pp, cap, rfl, hcap, hlim, _⟩ := hl w (Below.refl _ _)
  have HL := Lib.hid hl
  have HV := Lib.hid hv
  have HK := Lib.hid hk
  have HM := Lib.hid h
  have HI := Lib.hid hI
  clear hl hv h hI hk
  go_enter Try.func27, Try.ntmps27
  go_wp2
  go_loopw [9] (fun i wr => ∃ (k : Nat) (s' : U.St), k ≤ A.length ∧ i = .int .i64 k ∧ Mem wr p al N vs s' ∧ Below p.B w wr ∧ U.Inv p.n cs A 0 0 [] s' ∧ (∀ j, j < k → s'.kn (A.getD j 0).natAbs = A.getD j 0) ∧ (∀ y : Int, y ≠ 0 → s'.kn y.natAbs = y → y ∈ A) ∧ U.mea p.n s' ≤ U.mea p.n s) (fun i _ => A.length - (intOf i).toNat)
  case atStart => exact ⟨0, s, Nat.zero_le _, rfl, HM.out, Below.refl _ _, HI.out, fun j hj => absurd hj (Nat.not_lt_zero _), HK.out, Nat.le_refl _⟩
  case round =>
    obtain ⟨k, s', hkl, rfl, hm, hb, hi, hj, hk, hmea⟩ := hrel
    have HM1 := Lib.hid hm
    have HB1 := Lib.hid hb
    have HI1 := Lib.hid hi
    have HJ := Lib.hid hj
    have HK1 := Lib.hid hk
    have HE := Lib.hid hmea
    clear hj hk hmea
    by_cases hlt : k < A.length
    · have hlt' : (k : Int) < (A.length : Int) := by omega
      obtain ⟨pp2, cap2, hal2, hcap2, hlim2, hcell0⟩ := HL.out wr hb
      cases hal2
      obtain ⟨b, off, rfl, hcell1⟩ := hcell0 (by omega)
      have hx := hcell1 k hlt
      obtain ⟨x, ex⟩ : ∃ x, A.getD k 0 = x := ⟨_, rfl⟩
      rw [ex] at hx
      have hxA : x ∈ A := by rw [← ex]; exact U.getD_mem hlt
      obtain ⟨x0, xn⟩ := HV.out x hxA
      have hc := learn_any hm x x0 xn (dom_cases hi x x0) (fun h0 => hi.room x0 xn h0)
      have HEX := Lib.hid ex
      have HXA := Lib.hid hxA
      have HX0 := Lib.hid x0
      have HXN := Lib.hid xn
      clear hcell0 hcell1 hm hb hi ex hxA x0 xn
      by_cases ht : (U.learn s' x).1 = true
      · rw [ht] at hc
        obtain ⟨j1, j2, j3, j4, j5, j6⟩ := U.learn_inv HI1.out HX0.out HXN.out (.assume HXA.out) ht
        have J1 := Lib.hid j1
        have J2 := Lib.hid j2
        have J3 := Lib.hid j3
        have J4 := Lib.hid j4
        have HKN : Hid (∀ y : Int, y ≠ 0 → (U.learn s' x).2.kn y.natAbs = y → y ∈ A) := Lib.hid fun y hy e => by
          unfold U.learn at e
          split at e
          · exact HK1.out y hy e
          · split at e
            · exact HK1.out y hy e
            · simp only [U.learnS] at e
              by_cases e2 : y.natAbs = x.natAbs
              · rw [e2, U.upd_same] at e
                rw [← e]; exact HXA.out
              · rw [U.upd_ne e2] at e
                exact HK1.out y hy e
        clear ht j1 j2 j3 j4 j5 j6
        generalize (U.learn s' x).2 = s2 at *
        go_wp2_with fail
        refine hc.mono ?_
        rintro e w2 ⟨rfl, hm2, hb2⟩
        refine Hid.out ?_
        refine Lib.hid ?_
        have HM2 := Lib.hid hm2
        have HB2 := Lib.hid (HB1.out.trans hb2)
        clear hm2 hb2 hc hx
        go_wp2
        go_roundw
        case rel =>
          refine ⟨k + 1, s2, by omega, by go_num, HM2.out, HB2.out, J1.out, fun j hj => ?_, HKN.out, Nat.le_trans J4.out HE.out⟩
          by_cases e : j = k
          · rw [e, HEX.out]; exact J3.out
          · have := HJ.out j (by omega)
            exact J2.out _ (HV.out _ (U.getD_mem (by omega))).1 this
        case measure => simp [intOf]; omega
      · have ht' : (U.learn s' x).1 = false := by simpa using ht
        rw [ht'] at hc
        have hbad : U.Bad cs A := by
          have hF : s'.kn x.natAbs = -x := Classical.byContradiction fun h1 => ht (by
            unfold U.learn
            rw [if_neg h1]
            split <;> rfl)
          exact .inl ⟨x, HXA.out, HK1.out (-x) (by have := HX0.out; omega) (by simpa using hF)⟩
        have HBAD := Lib.hid hbad
        clear ht ht' hbad
        generalize (U.learn s' x).2 = s2 at *
        go_wp2_with fail
        refine hc.mono ?_
        rintro e w2 ⟨rfl, hm2, hb2⟩
        refine Hid.out ?_
        refine Lib.hid ?_
        have HM2 := Lib.hid hm2
        have HB2 := Lib.hid (HB1.out.trans hb2)
        clear hm2 hb2 hc hx
        go_wp2
        go_ret
        unfold LAPost
        exact ⟨false, s2, rfl, HM2.out, HB2.out, fun h => absurd h (by simp), fun _ => HBAD.out⟩
    · have hlt' : ¬ (k : Int) < (A.length : Int) := by omega
      have HKE := Lib.hid (show k = A.length by omega)
      clear hm hb hi
      go_wp2
      go_ret
      unfold LAPost
      refine ⟨true, s', rfl, HM1.out, HB1.out, fun _ => ⟨HI1.out, fun x hx => ?_, HE.out⟩, fun h => absurd h (by simp)⟩
      obtain ⟨j, hj, rfl⟩ := U.mem_at hx
      exact HJ.out j (by have := HKE.out; omega)
end L
end Go.Proofs.Ytoffhaamkhfdeaa
