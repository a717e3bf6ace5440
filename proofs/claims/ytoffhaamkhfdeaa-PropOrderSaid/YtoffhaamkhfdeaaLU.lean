/- Contracts of the laws' helpers: units, fails, three, known. -/
import Derived.Test.YtoffhaamkhfdeaaCU
import Derived.Test.YtoffhaamkhfdeaaUE
import Derived.Test.YtoffhaamkhfdeaaXH
namespace Go.Proofs.Ytoffhaamkhfdeaa
open Go.RowKit Go.Conc
namespace L
open K

/-- What Units returns, as one. -/
noncomputable def unitsR (n : Int) (cs : List (List Int)) (A : List Int) : List Int × Bool × Int :=
  if checkU n cs A ≠ 0 then ([], false, checkU n cs A) else match U.unitsOf n.toNat cs A with | none => ([], true, 0) | some l => (l, false, 0)
theorem unitsOf_len {n : Nat} {cs : List (List Int)} {A l : List Int} (h : U.unitsOf n cs A = some l) : l.length ≤ n + 1 := by
  unfold U.unitsOf at h
  split at h
  · cases h
  · cases h; exact U.lits_length _ _
theorem upost_r {w w' : World} {n : Int} {cs : List (List Int)} {A : List Int} {r : Value} (h : UPost w w' n cs A r) :
    ∃ vl, r = .tuple #[vl, .bool (unitsR n cs A).2.1, .int .i64 (unitsR n cs A).2.2] ∧ OwnI w' w.heap.size vl (unitsR n cs A).1 ∧ (unitsR n cs A).1.length ≤ 1048577 := by
  unfold unitsR
  rcases h with ⟨h1, h2⟩ | ⟨h1, h2, h3⟩ | ⟨h1, l, vl, h2, h3, h4⟩
  · rw [if_pos h1]
    exact ⟨_, h2, OwnI.nil _ _, by simp⟩
  · rw [if_neg (by simp [h1]), h2]
    exact ⟨_, h3, OwnI.nil _ _, by simp⟩
  · rw [if_neg (by simp [h1]), h2]
    refine ⟨vl, h3, h4, ?_⟩
    obtain ⟨m, rfl, hm, _⟩ := checkU_ok h1
    have := unitsOf_len h2
    simp at this ⊢
    omega
theorem unitsR_ok {n : Nat} {cs : List (List Int)} {A l : List Int} (h : checkU n cs A = 0) (h2 : U.unitsOf n cs A = some l) : unitsR n cs A = (l, false, 0) := by
  unfold unitsR
  rw [if_neg (by simp [h])]
  simp [h2]
theorem unitsR_fails {n : Nat} {cs : List (List Int)} {A : List Int} (h : checkU n cs A = 0) (h2 : U.unitsOf n cs A = none) : unitsR n cs A = ([], true, 0) := by
  unfold unitsR
  rw [if_neg (by simp [h])]
  simp [h2]
theorem unitsR_bad {n : Int} {cs : List (List Int)} {A : List Int} {e : Int} (h : checkU n cs A = e) (h2 : e ≠ 0) : unitsR n cs A = ([], false, e) := by
  unfold unitsR
  rw [if_pos (by rw [h]; exact h2), h]

noncomputable def okU (n : Int) (cs : List (List Int)) (A want : List Int) : Bool := decide ((unitsR n cs A).1 = want) && !(unitsR n cs A).2.1 && decide ((unitsR n cs A).2.2 = 0)
noncomputable def okF (n : Int) (cs : List (List Int)) (A : List Int) : Bool := decide ((unitsR n cs A).1.length = 0) && (unitsR n cs A).2.1 && decide ((unitsR n cs A).2.2 = 0)

set_option maxHeartbeats 2000000 in
theorem units_any (n : Int) (v : Value) (cs : List (List Int)) (vw : Value) (want : List Int) (u : Value) (A : List Int) (w : World) (hn : I64 n) (hl : ∀ c ∈ cs, ∀ x ∈ c, I64 x) (h : Lists w v cs) (hl2 : ∀ x ∈ A, I64 x) (hu : Ints w u A) (hw : Ints w vw want) :
    Calls Try.prog 18 #[.agg #[.int .i64 n, v], vw, u] w fun e w' => e = .returned (.bool (okU n cs A want)) ∧ Below w.heap.size w w' := by
  have hC := fun W (hb : Below w.heap.size w W) => punits_any n v cs u A W hn hl (h.below hb) hl2 (hu.below hb)
  obtain ⟨pv, cv, rfl, _, _, _⟩ := id h
  have HC := Lib.hid hC
  have HW := Lib.hid hw
  obtain ⟨ok, eok⟩ : ∃ ok, okU n cs A want = ok := ⟨_, rfl⟩
  rw [eok]
  have HOK := Lib.hid eok
  clear hC hu hw eok h
  go_enter Try.func18, Try.ntmps18
  go_wp2_with fail
  refine (HC.out _ ((Below.refl _ _).alloc (Nat.le_refl _) _)).mono ?_
  rintro e w1 ⟨r, rfl, hp, hb1⟩
  refine Hid.out ?_
  refine Lib.hid ?_
  obtain ⟨vl, rfl, ho, hlen⟩ := upost_r hp
  have hb : Below w.heap.size w w1 := ((Below.refl _ w).alloc (Nat.le_refl _) _).trans (hb1.mono (by simp))
  have he := equal_any vl vw _ want w1 (ho.ints (by omega)) (HW.out.below hb)
  obtain ⟨⟨R1, R2, R3⟩, eR⟩ : ∃ R, unitsR n cs A = R := ⟨_, rfl⟩
  unfold okU at HOK
  rw [eR] at HOK he ⊢
  dsimp only at HOK he ⊢
  have HB := Lib.hid hb
  clear hp ho hlen hb hb1 eR
  by_cases a1 : R1 = want
  · rw [decide_eq_true a1] at he HOK
    clear a1
    cases R2 with
    | false =>
      by_cases a3 : R3 = 0
      · have e3 : (R3 == (0 : Int)) = true := by simp [a3]
        rw [decide_eq_true a3] at HOK
        clear a3
        go_wp2_with fail
        refine he.mono ?_
        rintro e w2 ⟨rfl, hb2⟩
        refine Hid.out ?_
        refine Lib.hid ?_
        have HB2 := Lib.hid (HB.out.trans (hb2.mono HB.out.size))
        clear hb2 he
        go_wp2
        go_ret
        exact ⟨ret_bool (by rw [← HOK.out]; rfl), HB2.out⟩
      · have e3 : (R3 == (0 : Int)) = false := by simp [a3]
        rw [decide_eq_false a3] at HOK
        clear a3
        go_wp2_with fail
        refine he.mono ?_
        rintro e w2 ⟨rfl, hb2⟩
        refine Hid.out ?_
        refine Lib.hid ?_
        have HB2 := Lib.hid (HB.out.trans (hb2.mono HB.out.size))
        clear hb2 he
        go_wp2
        go_ret
        exact ⟨ret_bool (by rw [← HOK.out]; rfl), HB2.out⟩
    | true =>
      go_wp2_with fail
      refine he.mono ?_
      rintro e w2 ⟨rfl, hb2⟩
      refine Hid.out ?_
      refine Lib.hid ?_
      have HB2 := Lib.hid (HB.out.trans (hb2.mono HB.out.size))
      clear hb2 he
      go_wp2
      go_ret
      exact ⟨ret_bool (by rw [← HOK.out]; rfl), HB2.out⟩
  · rw [decide_eq_false a1] at he HOK
    clear a1
    go_wp2_with fail
    refine he.mono ?_
    rintro e w2 ⟨rfl, hb2⟩
    refine Hid.out ?_
    refine Lib.hid ?_
    have HB2 := Lib.hid (HB.out.trans (hb2.mono HB.out.size))
    clear hb2 he
    go_wp2
    go_ret
    exact ⟨ret_bool (by rw [← HOK.out]; rfl), HB2.out⟩

set_option maxHeartbeats 2000000 in
theorem fails_any (n : Int) (v : Value) (cs : List (List Int)) (u : Value) (A : List Int) (w : World) (hn : I64 n) (hl : ∀ c ∈ cs, ∀ x ∈ c, I64 x) (h : Lists w v cs) (hl2 : ∀ x ∈ A, I64 x) (hu : Ints w u A) :
    Calls Try.prog 20 #[.agg #[.int .i64 n, v], u] w fun e w' => e = .returned (.bool (okF n cs A)) ∧ Below w.heap.size w w' := by
  have hC := fun W (hb : Below w.heap.size w W) => punits_any n v cs u A W hn hl (h.below hb) hl2 (hu.below hb)
  obtain ⟨pv, cv, rfl, _, _, _⟩ := id h
  have HC := Lib.hid hC
  obtain ⟨ok, eok⟩ : ∃ ok, okF n cs A = ok := ⟨_, rfl⟩
  rw [eok]
  have HOK := Lib.hid eok
  clear hC hu eok h
  go_enter Try.func20, Try.ntmps20
  go_wp2_with fail
  refine (HC.out _ ((Below.refl _ _).alloc (Nat.le_refl _) _)).mono ?_
  rintro e w1 ⟨r, rfl, hp, hb1⟩
  refine Hid.out ?_
  refine Lib.hid ?_
  obtain ⟨vl, rfl, ho, hlen⟩ := upost_r hp
  have HB : Hid (Below w.heap.size w w1) := Lib.hid (((Below.refl _ w).alloc (Nat.le_refl _) _).trans (hb1.mono (by simp)))
  obtain ⟨⟨R1, R2, R3⟩, eR⟩ : ∃ R, unitsR n cs A = R := ⟨_, rfl⟩
  unfold okF at HOK
  rw [eR] at HOK ho ⊢
  dsimp only at HOK ho ⊢
  obtain ⟨pl, cl, rfl⟩ := owns_shape ho
  clear hp ho hlen hb1 eR
  generalize R1.length = ln at *
  by_cases a1 : ln = 0
  · rw [decide_eq_true a1] at HOK
    subst a1
    cases R2 with
    | true =>
      by_cases a3 : R3 = 0
      · have e3 : (R3 == (0 : Int)) = true := by simp [a3]
        rw [decide_eq_true a3] at HOK
        clear a3
        go_wp2
        go_ret
        exact ⟨ret_bool (by rw [← HOK.out]; rfl), HB.out⟩
      · have e3 : (R3 == (0 : Int)) = false := by simp [a3]
        rw [decide_eq_false a3] at HOK
        clear a3
        go_wp2
        go_ret
        exact ⟨ret_bool (by rw [← HOK.out]; rfl), HB.out⟩
    | false =>
      go_wp2
      go_ret
      exact ⟨ret_bool (by rw [← HOK.out]; rfl), HB.out⟩
  · have e1 : ((ln : Int) == 0) = false := beq_eq_false_iff_ne.2 (by omega)
    rw [decide_eq_false a1] at HOK
    clear a1
    go_wp2
    go_ret
    exact ⟨ret_bool (by rw [← HOK.out]; rfl), HB.out⟩

theorem three4_any (w : World) :
    Calls Try.prog 19 #[] w fun e w' => ∃ v, e = .returned (.agg #[.int .i64 3, v]) ∧ Lists w' v U.threeL ∧ Below w.heap.size w w' := by
  go_enter Try.func19, Try.ntmps19
  go_wp2
  (try simp only [Exit.inBlock, Exit.then])
  refine bodyPost_ret (res_cell rfl rfl (by simp [go_sem]; rfl)) rfl ?_
  refine ⟨_, rfl, ?_, ?_⟩
  · refine ⟨_, 3, rfl, by simp [U.threeL], by simp [U.threeL], fun _ => ⟨w.heap.size + 1 + 1 + 1 + 1, 0, rfl, fun j hj => ?_⟩⟩
    have h3 : j = 0 ∨ j = 1 ∨ j = 2 := by simp [U.threeL] at hj; omega
    rcases h3 with rfl | rfl | rfl
    · refine ⟨.slice (some ⟨w.heap.size + 1, 0, none⟩) 2 2, (by repeat (first | exact cell_new (by simp) rfl | refine cell_old (by simp <;> omega) ?_)), _, 2, rfl, by simp [U.threeL], by simp [U.threeL], fun _ => ⟨_, _, rfl, fun i hi => ?_⟩⟩
      have h2 : i = 0 ∨ i = 1 := by simp [U.threeL] at hi; omega
      rcases h2 with rfl | rfl <;> (repeat (first | exact cell_new (by simp) rfl | refine cell_old (by simp <;> omega) ?_))
    · refine ⟨.slice (some ⟨w.heap.size + 1 + 1, 0, none⟩) 2 2, (by repeat (first | exact cell_new (by simp) rfl | refine cell_old (by simp <;> omega) ?_)), _, 2, rfl, by simp [U.threeL], by simp [U.threeL], fun _ => ⟨_, _, rfl, fun i hi => ?_⟩⟩
      have h2 : i = 0 ∨ i = 1 := by simp [U.threeL] at hi; omega
      rcases h2 with rfl | rfl <;> (repeat (first | exact cell_new (by simp) rfl | refine cell_old (by simp <;> omega) ?_))
    · refine ⟨.slice (some ⟨w.heap.size + 1 + 1 + 1, 0, none⟩) 2 2, (by repeat (first | exact cell_new (by simp) rfl | refine cell_old (by simp <;> omega) ?_)), _, 2, rfl, by simp [U.threeL], by simp [U.threeL], fun _ => ⟨_, _, rfl, fun i hi => ?_⟩⟩
      have h2 : i = 0 ∨ i = 1 := by simp [U.threeL] at hi; omega
      rcases h2 with rfl | rfl <;> (repeat (first | exact cell_new (by simp) rfl | refine cell_old (by simp <;> omega) ?_))
  · exact (((((Below.refl _ _).alloc (Nat.le_refl _) _).alloc (by simp) _).alloc (by simp; omega) _).alloc (by simp; omega) _).alloc (by simp; omega) _
theorem threeL_i64 : ∀ c ∈ U.threeL, ∀ x ∈ c, I64 x := by simp [I64, U.threeL]
theorem okU_known : okU 3 U.threeL [1] [1, -2, 3] = true := by
  unfold okU
  rw [show unitsR 3 U.threeL [1] = ([1, -2, 3], false, 0) from unitsR_ok (n := 3) (by decide) U.three_known]
  rfl

set_option maxHeartbeats 2000000 in
theorem known4_any (w : World) : Calls Try.prog 12 #[] w fun e w' => e = .returned (.bool true) ∧ Below w.heap.size w w' := by
  go_enter Try.func12, Try.ntmps12
  go_wp2_with fail
  refine (three4_any _).mono ?_
  rintro e w1 ⟨v, rfl, hL, hb⟩
  refine Hid.out ?_
  refine Lib.hid ?_
  obtain ⟨o1, ho1⟩ : ∃ o : Obj, o = .cells #[.int .i64 1, .int .i64 (-2), .int .i64 3] 3 := ⟨_, rfl⟩
  obtain ⟨o2, ho2⟩ : ∃ o : Obj, o = .cells #[.int .i64 1] 3 := ⟨_, rfl⟩
  have hb2 : Below w1.heap.size w1 ((w1.alloc (.cells #[.int .i64 1, .int .i64 (-2), .int .i64 3] 3)).alloc (.cells #[.int .i64 1] 3)) := ((Below.refl _ _).alloc (Nat.le_refl _) _).alloc (by simp) _
  have hc := units_any 3 v U.threeL (.slice (some ⟨w1.heap.size, 0, none⟩) 3 3) [1, -2, 3] (.slice (some ⟨w1.heap.size + 1, 0, none⟩) 1 1) [1] ((w1.alloc (.cells #[.int .i64 1, .int .i64 (-2), .int .i64 3] 3)).alloc (.cells #[.int .i64 1] 3)) (by simp [I64]) threeL_i64 (hL.below hb2) (by simp [I64])
    ⟨_, 1, rfl, by simp, by simp, fun _ => ⟨w1.heap.size + 1, 0, rfl, fun j hj => by
      obtain rfl : j = 0 := by simp at hj; exact hj
      exact cell_new (by simp) rfl⟩⟩
    ⟨_, 3, rfl, by simp, by simp, fun _ => ⟨w1.heap.size, 0, rfl, fun j hj => by
      have h3 : j = 0 ∨ j = 1 ∨ j = 2 := by simp at hj; omega
      rcases h3 with rfl | rfl | rfl <;> exact cell_old (by simp) (cell_new rfl rfl)⟩⟩
  rw [okU_known] at hc
  have HB := Lib.hid (hb.trans (hb2.mono hb.size))
  have hs := hb.size
  clear hL hb hb2 ho1 ho2
  go_wp2_with fail
  refine hc.mono ?_
  rintro e w2 ⟨rfl, hb3⟩
  refine Hid.out ?_
  refine Lib.hid ?_
  have HB3 := Lib.hid (HB.out.trans (hb3.mono HB.out.size))
  clear hb3 hc
  go_wp2
  go_ret
  exact ⟨rfl, HB3.out⟩
end L
end Go.Proofs.Ytoffhaamkhfdeaa
