/- Contract of Units: it finds what follows, or that it fails, or says which error. -/
import Derived.Test.YtoffhaamkhfdeaaCG
import Derived.Test.YtoffhaamkhfdeaaCJ
import Derived.Test.YtoffhaamkhfdeaaCK
namespace Go.Proofs.Ytoffhaamkhfdeaa
open Go.RowKit Go.Conc
namespace L
open K

/-- What Units returns. -/
def UPost (w w' : World) (n : Int) (cs : List (List Int)) (A : List Int) (r : Value) : Prop :=
  (checkU n cs A ≠ 0 ∧ r = .tuple #[.slice none 0 0, .bool false, .int .i64 (checkU n cs A)]) ∨
  (checkU n cs A = 0 ∧ U.unitsOf n.toNat cs A = none ∧ r = .tuple #[.slice none 0 0, .bool true, .int .i64 0]) ∨
  (checkU n cs A = 0 ∧ ∃ l vl, U.unitsOf n.toNat cs A = some l ∧ r = .tuple #[vl, .bool false, .int .i64 0] ∧ OwnI w' w.heap.size vl l)

theorem val_of_any {n : Nat} {l : List Int} (h : l.any (fun x => decide (x = 0) || decide ((n : Int) < av x)) = false) : U.Val n l := by
  intro x hx
  rw [List.any_eq_false] at h
  have := h x hx
  simp only [Bool.or_eq_true, decide_eq_true_eq, not_or] at this
  refine ⟨this.1, ?_⟩
  have h2 := this.2
  unfold av at h2
  split at h2 <;> omega
theorem val_of_checkE {n : Nat} {l : List Int} (h : checkE n l = 0) : U.Val n l := by
  unfold checkE at h
  split at h
  · cases h
  · split at h
    · cases h
    · split at h
      · cases h
      · rename_i h3
        exact val_of_any (by simpa using h3)
theorem firstE_mem {n : Int} : ∀ {cs : List (List Int)}, firstE n cs = 0 → ∀ c ∈ cs, checkE n c = 0
  | [], _, c, hc => by simp at hc
  | l :: r, h, c, hc => by
    simp only [firstE] at h
    split at h
    · rename_i h1
      rcases List.mem_cons.1 hc with rfl | h2
      · exact h1
      · exact firstE_mem h c h2
    · rename_i h1; exact absurd h h1
theorem checkF_ok {n : Nat} {cs : List (List Int)} (h : checkF n cs = 0) : n ≤ 1048576 ∧ cs.length ≤ 1048576 ∧ ∀ c ∈ cs, U.Val n c := by
  unfold checkF at h
  split at h
  · cases h
  · split at h
    · cases h
    · exact ⟨by omega, by omega, fun c hc => val_of_checkE (firstE_mem h c hc)⟩
theorem checkU_ok {n : Int} {cs : List (List Int)} {A : List Int} (h : checkU n cs A = 0) : ∃ m : Nat, n = m ∧ m ≤ 1048576 ∧ cs.length ≤ 1048576 ∧ (∀ c ∈ cs, U.Val m c) ∧ U.Val m A := by
  unfold checkU at h
  split at h
  · rename_i h1; exact absurd h h1
  · rename_i h1
    have h1 : checkF n cs = 0 := Classical.byContradiction h1
    have hr := checkF_range h1
    refine ⟨n.toNat, by omega, ?_⟩
    obtain ⟨m, rfl⟩ : ∃ m : Nat, n = m := ⟨n.toNat, by omega⟩
    obtain ⟨a, b, c⟩ := checkF_ok h1
    split at h
    · cases h
    · rename_i h2
      simp only [Int.toNat_natCast]
      exact ⟨a, b, c, val_of_any (by simpa using h2)⟩

/-- What stands when nothing is left. -/
theorem units_done {n : Nat} {cs : List (List Int)} {A : List Int} {s : U.St} (hI : U.Inv n cs A cs.length 0 [] s) (hq : s.q = []) (hA : ∀ a ∈ A, s.kn a.natAbs = a) (hv : U.Val n A) : U.unitsOf n cs A = some (litsK s.kn (n + 1)) := by
  rw [U.unitsOf_closed (hI.closed rfl hq fun a ha => ⟨(hv a ha).1, hA a ha⟩) (fun x hx => hI.snd x hx.1 hx.2), ← U.lits_known hI.dom]
  rfl

set_option maxHeartbeats 4000000 in
theorem punits_any (n : Int) (v : Value) (cs : List (List Int)) (u : Value) (A : List Int) (w : World) (hn : I64 n) (hl : ∀ c ∈ cs, ∀ x ∈ c, I64 x) (h : Lists w v cs) (hl2 : ∀ x ∈ A, I64 x) (hu : Ints w u A) :
    Calls Try.prog 13 #[.agg #[.int .i64 n, v], u] w fun e w' => ∃ r, e = .returned r ∧ UPost w w' n cs A r ∧ Below w.heap.size w w' := by
  have hC := fun W (hb : Below w.heap.size w W) => pcheck_any n v cs u A W hn hl (h.below hb) hl2 (hu.below hb)
  obtain ⟨pv, cv, ev, _, _, _⟩ := h
  have HC := Lib.hid hC
  by_cases h0 : checkU n cs A = 0
  · obtain ⟨m, rfl, hm, hcs, hv, hvA⟩ := checkU_ok h0
    have HS := Lib.hid (fun W => start_any m cs.length cv pv W hm hcs)
    have HV := Lib.hid hv
    have HVA := Lib.hid hvA
    have HL := Lib.hid (show Lists w v cs from ⟨pv, cv, ev, by assumption, by assumption, by assumption⟩)
    have HU := Lib.hid hu
    have H0 := Lib.hid h0
    rw [h0] at HC
    have HEV := Lib.hid ev
    rw [ev] at HC
    rw [ev]
    clear hC hl hl2 hu h0 ev
    go_enter Try.func13, Try.ntmps13
    go_wp2_with fail
    refine (HC.out _ ((Below.refl _ _).alloc (Nat.le_refl _) _)).mono ?_
    rintro e w1 ⟨rfl, hb1⟩
    refine Hid.out ?_
    refine Lib.hid ?_
    have HB1 : Hid (Below w.heap.size w w1) := Lib.hid (((Below.refl _ w).alloc (Nat.le_refl _) _).trans (hb1.mono (by simp)))
    have hx0 : w1.cell? ⟨w.heap.size, 0, none⟩ = some (.int .i64 m) := (hb1.cell (p := ⟨w.heap.size, 0, none⟩) (by simp)).trans (by simp)
    have hx1 : w1.cell? ⟨w.heap.size, 1, none⟩ = some (.slice pv cs.length cv) := (hb1.cell (p := ⟨w.heap.size, 1, none⟩) (by simp)).trans (by simp)
    have hlt1 : w.heap.size < w1.heap.size := World.block_lt_of_cell? _ _ hx0
    have HX : Hid (∀ W, Below w1.heap.size w1 W → W.cell? ⟨w.heap.size, 1, none⟩ = some (.slice pv cs.length cv)) := Lib.hid fun W hW => (hW.cell (p := ⟨w.heap.size, 1, none⟩) hlt1).trans hx1
    clear hb1
    go_wp2_with fail
    refine (HS.out w1).mono ?_
    rintro e w2 ⟨p, rfl, ⟨hpB, hpn, hpM⟩, hm2, hb2⟩
    refine Hid.out ?_
    refine Lib.hid ?_
    have HPB := Lib.hid hpB
    have HPN := Lib.hid hpn
    have HPM := Lib.hid hpM
    have HM2 := Lib.hid hm2
    have HB2 := Lib.hid hb2
    have hVA : U.Val p.n A := by rw [hpn]; exact HVA.out
    have hVC : ∀ c ∈ cs, U.Val p.n c := by rw [hpn]; exact HV.out
    have hb2' : Below p.B w1 w2 := by rw [hpB]; exact hb2
    have hla := learnAll_any (cs := cs) hm2 (U.Inv.start p.n cs A) u (fun W hW => by
      have h1 := hb2'.trans hW
      rw [hpB] at h1
      exact (HU.out.below HB1.out).below h1) hVA (fun y hy e => absurd e.symm (by simpa [U.start0] using hy))
    have HVC := Lib.hid hVC
    have HVA2 := Lib.hid hVA
    have HB2' := Lib.hid hb2'
    have hx2 := HX.out w2 hb2
    clear hpB hpn hpM hm2 hb2 hVA hVC hb2' hx0 hx1
    go_wp2_with fail
    refine hla.mono ?_
    rintro e w3 hpost
    unfold LAPost at hpost
    obtain ⟨b, s3, rfl, hm3, hb3, hgood, hbad⟩ := hpost
    refine Hid.out ?_
    refine Lib.hid ?_
    have HM3 := Lib.hid hm3
    have HB3 := Lib.hid (HB2'.out.trans hb3)
    have HBW3 : Hid (Below w.heap.size w w3) := Lib.hid (HB1.out.trans (by
      have h1 := HB3.out
      rw [HPB.out] at h1
      exact h1.mono (by omega)))
    cases b with
    | false =>
      have HBAD := Lib.hid (hbad rfl)
      clear hm3 hb3 hgood hbad hla hx2
      go_wp2
      go_ret3
      exact ⟨_, rfl, .inr (.inl ⟨H0.out, by simpa using U.unitsOf_bad HBAD.out, rfl⟩), HBW3.out⟩
    | true =>
      have HG := Lib.hid (hgood rfl)
      have hx3 := HX.out w3 (by have h1 := HB3.out; rw [HPB.out] at h1; exact h1)
      have hwa := watchAll_any (w0 := w1) hm3 HG.out.1 (.slice pv cs.length cv) HPB.out.symm HB3.out (by rw [← HEV.out]; exact HL.out.below HB1.out) HPM.out HVC.out
      clear hm3 hb3 hgood hbad hla hx2
      go_wp2_with fail
      refine hwa.mono ?_
      rintro e w4 hpost
      unfold WAPost at hpost
      obtain ⟨b, s4, al4, N4, vs4, rfl, hm4, hb4, hgood, hbad⟩ := hpost
      refine Hid.out ?_
      refine Lib.hid ?_
      have HM4 := Lib.hid hm4
      have HB4 := Lib.hid (HB3.out.trans hb4)
      have HB34 := Lib.hid hb4
      have HBW4 : Hid (Below w.heap.size w w4) := Lib.hid (HB1.out.trans (by
        have h1 := HB4.out
        rw [HPB.out] at h1
        exact h1.mono (by omega)))
      cases b with
      | false =>
        have HBAD := Lib.hid (hbad rfl)
        clear hm4 hb4 hgood hbad hwa hx3
        go_wp2
        go_ret3
        exact ⟨_, rfl, .inr (.inl ⟨H0.out, by simpa using U.unitsOf_bad HBAD.out, rfl⟩), HBW4.out⟩
      | true =>
        have HG4 := Lib.hid (hgood rfl)
        have hru := run_any hm4 HG4.out.1 HPM.out HVC.out (fun i hi W hW => HG4.out.2.2.2.2 i hi W (HB34.out.trans hW)) (by
          have h1 := HG4.out.2.2.1
          have h2 := HG.out.2.2
          have h3 : U.mea p.n U.start0 = 2 * p.n := by simp [U.mea, U.start0, U.unk_zero]
          have h4 := HG4.out.2.2.2.1
          have h5 := HPN.out
          omega)
        clear hm4 hb4 hgood hbad hwa hx3
        go_wp2_with fail
        refine hru.mono ?_
        rintro e w5 hpost
        unfold RunPost at hpost
        obtain ⟨b, s5, N5, vs5, rfl, hm5, hb5, hgood, hbad⟩ := hpost
        refine Hid.out ?_
        refine Lib.hid ?_
        have HM5 := Lib.hid hm5
        have HB5 := Lib.hid (HB4.out.trans hb5)
        have HBW5 : Hid (Below w.heap.size w w5) := Lib.hid (HB1.out.trans (by
          have h1 := HB5.out
          rw [HPB.out] at h1
          exact h1.mono (by omega)))
        cases b with
        | false =>
          have HBAD := Lib.hid (hbad rfl)
          clear hm5 hb5 hgood hbad hru
          go_wp2
          go_ret3
          exact ⟨_, rfl, .inr (.inl ⟨H0.out, by simpa using U.unitsOf_bad HBAD.out, rfl⟩), HBW5.out⟩
        | true =>
          have HG5 := Lib.hid (hgood rfl)
          have hli := literals_any hm5
          have HDONE : Hid (U.unitsOf m cs A = some (litsK s5.kn (p.n + 1))) := Lib.hid (by
            have h1 := units_done HG5.out.1 HG5.out.2.1 (fun a ha => HG5.out.2.2 a (HVA2.out a ha).1 (HG4.out.2.1 a (HVA2.out a ha).1 (HG.out.2.1 a ha))) HVA2.out
            rw [HPN.out] at h1 ⊢
            exact h1)
          clear hm5 hb5 hgood hbad hru
          go_wp2_with fail
          refine hli.mono ?_
          rintro e w6 ⟨vl, rfl, ho, hb6⟩
          refine Hid.out ?_
          refine Lib.hid ?_
          have HO := Lib.hid ho
          have HBW6 := Lib.hid (HBW5.out.trans (hb6.mono HBW5.out.size))
          have HSZ := Lib.hid HBW5.out.size
          clear ho hb6 hli
          go_wp2
          go_ret3
          exact ⟨_, rfl, .inr (.inr ⟨H0.out, _, vl, by simpa using HDONE.out, rfl, owns_base HO.out HSZ.out⟩), HBW6.out⟩
  · have HU : Hid (checkU n cs A ≠ 0) := Lib.hid h0
    clear hC hl hl2 hu hn
    obtain ⟨r, er⟩ : ∃ r, checkU n cs A = r := ⟨_, rfl⟩
    rw [er] at HC h0
    have e1 : (r != (0 : Int)) = true := by simp [h0]
    have HE := Lib.hid er
    clear er h0
    subst ev
    go_enter Try.func13, Try.ntmps13
    go_wp2_with fail
    refine (HC.out _ ((Below.refl _ _).alloc (Nat.le_refl _) _)).mono ?_
    rintro e w1 ⟨rfl, hb1⟩
    refine Hid.out ?_
    refine Lib.hid ?_
    have HB1 : Hid (Below w.heap.size w w1) := Lib.hid (((Below.refl _ w).alloc (Nat.le_refl _) _).trans (hb1.mono (by simp)))
    clear hb1
    go_wp2
    go_ret3
    exact ⟨_, rfl, .inl ⟨HU.out, by rw [HE.out]; rfl⟩, HB1.out⟩
end L
end Go.Proofs.Ytoffhaamkhfdeaa
