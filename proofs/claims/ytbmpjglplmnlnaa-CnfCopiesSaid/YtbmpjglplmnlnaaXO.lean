/- CnfCopies: the walk. -/
import Derived.Test.YtbmpjglplmnlnaaXN
import Derived.Test.YtbmpjglplmnlnaaXI
namespace Go.Proofs.Ytbmpjglplmnlnaa
open Go.RowKit
namespace K
/-- A store into one of the rows. -/
theorem OwnL.poke {w : World} {base : Nat} {v : Value} {L : List (List Int)} {us : List Value} {g cap i k : Nat} (x : Int) (h1 : us.length = L.length) (h2 : w.ownsRow base 36 1 v L.length us) (h3 : ∀ j, j < L.length → OwnI w base (us.getD j (.slice none 0 0)) (L.getD j []))
    (hi : i < L.length) (hu : us.getD i (.slice none 0 0) = .slice (some ⟨g, 0, none⟩) (L.getD i []).length cap) :
    ∃ L', OwnL (w.setCell ⟨g, k, none⟩ (.int .i64 x)) base v L' ∧ L'.length = L.length ∧ L'.getD i [] = (L.getD i []).set k x ∧ ∀ j, j < L.length → (L'.getD j []).length = (L.getD j []).length := by
  have hi3 := h3 i hi
  rw [hu] at hi3
  have hne := owns_ne h2 hi3 (by decide)
  let f : Nat → List Int := fun j => if (us.getD j (.slice none 0 0)).ownBlock = some g then (L.getD j []).set k x else L.getD j []
  have hf : ∀ j, j < L.length → ((List.range L.length).map f).getD j [] = f j := fun j hj => by simp [List.getD, hj]
  refine ⟨(List.range L.length).map f, ⟨us, by simp [h1], ?_, fun j hj => ?_⟩, by simp, ?_, fun j hj => ?_⟩
  · have : ((List.range L.length).map f).length = L.length := by simp
    rw [this]
    refine owns_of_block h2 fun k' hk => Deep.blk_setCell_other w _ _ k' fun e => ?_
    rcases hne with h | h
    · rw [h] at hk; cases hk
    · exact h (by rw [hk, e]; rfl)
  · have hj' : j < L.length := by simpa using hj
    rw [hf j hj']
    have hj3 := h3 j hj'
    by_cases hb : (us.getD j (.slice none 0 0)).ownBlock = some g
    · have hfj : f j = (L.getD j []).set k x := by simp only [f]; rw [if_pos hb]
      rw [hfj]
      generalize us.getD j (.slice none 0 0) = u at *
      unfold OwnI at *
      rcases hj3 with ⟨h4, ⟨rfl, _⟩ | ⟨g', cap', cur, rfl, h5⟩⟩
      · cases hb
      · simp only [Value.ownBlock, Option.some.injEq] at hb
        subst hb
        have hst := (World.ownsRow.stored ⟨h4, .inr ⟨g', cap', cur, rfl, h5⟩⟩ k (.int .i64 x)).1
        rw [← List.map_set] at hst
        have : ((L.getD j []).set k x).length = (L.getD j []).length := by simp
        rw [this]
        exact hst
    · have hfj : f j = L.getD j [] := by simp only [f]; rw [if_neg hb]
      rw [hfj]
      exact owns_of_block hj3 fun k' hk => Deep.blk_setCell_other w _ _ k' fun e => hb (by rw [hk, e])
  · rw [hf i hi]
    show (if _ then _ else _) = _
    rw [if_pos (by rw [hu]; rfl)]
  · rw [hf j hj]
    show (if _ then _ else _ : List Int).length = _
    split <;> simp
end K
namespace L
open K

theorem eqF_refl (n : Int) (L : List (List Int)) : eqF n L n L = true := by simp [eqF]
theorem eqF_symm (n m : Int) (L M : List (List Int)) : eqF n L m M = eqF m M n L := by
  simp only [eqF]
  congr 1
  · exact decide_eq_decide.2 ⟨Eq.symm, Eq.symm⟩
  · exact decide_eq_decide.2 ⟨Eq.symm, Eq.symm⟩
theorem eqF_ne {n : Int} {L M : List (List Int)} {i : Nat} (h : L.getD i [] ≠ M.getD i []) : eqF n L n M = false := by
  simp only [eqF, decide_true, Bool.true_and, decide_eq_false_iff_not]
  rintro rfl; exact h rfl
theorem set_ne {l : List Int} {k : Nat} {x : Int} (hk : k < l.length) (h : l.getD k 0 ≠ x) : l ≠ l.set k x := by
  intro e
  apply h
  have : l.getD k 0 = (l.set k x).getD k 0 := by rw [← e]
  rw [this]; simp [List.getD, hk]

set_option maxRecDepth 100000 in
set_option maxHeartbeats 1000000 in
theorem copies_walk (n1 : Int) (v1 : Value) (L1 : List (List Int)) (n2 : Int) (v2 : Value) (L2 : List (List Int)) (i k : Int) (w : World) (hn1 : (Lit.int .i64 n1).wf = true) (hW1 : ListsW .i64 w v1 L1) (hn2 : (Lit.int .i64 n2).wf = true) (hW2 : ListsW .i64 w v2 L2) (hi0 : (Lit.int .u8 i).wf = true) (hk0 : (Lit.int .u8 k).wf = true) :
    Calls Try.prog 5 #[.agg #[.int .i64 n1, v1], .agg #[.int .i64 n2, v2], .int .u8 i, .int .u8 k] w fun e w' => e = .returned (.bool true) ∧ Below w.heap.size w w' := by
  have hib : 0 ≤ i ∧ i ≤ 255 := by simpa [Lit.wf, IntKind.min, IntKind.max, IntKind.signed, IntKind.bits] using hi0
  have hkb : 0 ≤ k ∧ k ≤ 255 := by simpa [Lit.wf, IntKind.min, IntKind.max, IntKind.signed, IntKind.bits] using hk0
  obtain ⟨hib1, hib2⟩ := hib
  obtain ⟨hkb1, hkb2⟩ := hkb
  have hl1 : ∀ l ∈ L1, ∀ x ∈ l, I64 x := fun l h x hx => wf64 (hW1.wf l h x hx)
  have hsm1 := fun W (hb : Below w.heap.size w W) => small_any n1 v1 L1 W (hW1.below hb)
  have hsm2 := fun W (hb : Below w.heap.size w W) => small_any n2 v2 L2 W (hW2.below hb)
  have hv1 : ∃ p c, v1 = .slice p L1.length c := by obtain ⟨p, c, h, _⟩ := hW1; exact ⟨p, c, h⟩
  have hv2 : ∃ p c, v2 = .slice p L2.length c := by obtain ⟨p, c, h, _⟩ := hW2; exact ⟨p, c, h⟩
  have hb0 : Below w.heap.size w ((w.alloc (.cells #[.int .i64 n1, v1] 24)).alloc (.cells #[.int .i64 n2, v2] 24)) := ((Below.refl _ _).alloc (Nat.le_refl _) _).alloc (by simp) _
  by_cases hs1 : smallB L1 = true
  · rw [hs1] at hsm1
    by_cases hs2 : smallB L2 = true
    · rw [hs2] at hsm2
      have hI1 := ListsW.small hW1 hs1
      have hI2 := ListsW.small hW2 hs2
      obtain ⟨p1, c1, rfl⟩ := hv1
      obtain ⟨p2, c2, rfl⟩ := hv2
      have hsl := small_len hs1
      have HSM1 := Lib.hid hsm1
      have HSM2 := Lib.hid hsm2
      have HI1 := Lib.hid hI1
      have HI2 := Lib.hid hI2
      have HL1 := Lib.hid hl1
      have HSL := Lib.hid hsl
      clear hsm1 hsm2 hI1 hI2 hW1 hW2 hl1 hsl hs1 hs2
      go_enter Try.func5, Try.ntmps5
      go_wp2_with fail
      refine (HSM1.out _ hb0).mono ?_
      rintro e w1 ⟨rfl, hb1⟩
      have hB1 := hb0.trans (hb1.mono (by simp; omega))
      have hX1 : Box w1 w.heap.size 24 #[.int .i64 n1, .slice p1 L1.length c1] := ((Box.new w _ _).alloc _).below hb1 (by simp <;> omega)
      have hY1 : Box w1 (w.heap.size + 1) 24 #[.int .i64 n2, .slice p2 L2.length c2] := (Box.at _ _ _ (by simp)).below hb1 (by simp)
      have y0 : w1.cell? ⟨w.heap.size + 1, 0, none⟩ = some (.int .i64 n2) := hY1.cell 0
      have y1 : w1.cell? ⟨w.heap.size + 1, 1, none⟩ = some (.slice p2 L2.length c2) := hY1.cell 1
      clear hb1 hb0
      go_wp2_with fail
      refine (HSM2.out _ hB1).mono ?_
      rintro e w2 ⟨rfl, hb2⟩
      have hB2 := hB1.trans (hb2.mono hB1.size)
      have hX2 := hX1.below hb2 hX1.lt
      have hY2 := hY1.below hb2 hY1.lt
      have x0 : w2.cell? ⟨w.heap.size, 0, none⟩ = some (.int .i64 n1) := hX2.cell 0
      have x1 : w2.cell? ⟨w.heap.size, 1, none⟩ = some (.slice p1 L1.length c1) := hX2.cell 1
      clear hb2 hX1 hY1 y0 y1 hB1
      go_wp2_with fail
      refine (ccopy_any n1 _ L1 _ (HI1.out.below hB2)).mono ?_
      rintro e w3 ⟨v3, rfl, hown3, hb3⟩
      have hB3 := hB2.trans (hb3.mono hB2.size)
      have hX3 := (hX2.below hb3 hX2.lt).alloc (.cells #[.int .i64 n1, v3] 24)
      have hY3 := (hY2.below hb3 hY2.lt).alloc (.cells #[.int .i64 n1, v3] 24)
      have hC3 := Box.new w3 24 #[.int .i64 n1, v3]
      have hown4 := (hown3.down hB2.size).alloc (.cells #[.int .i64 n1, v3] 24)
      have hB4 := hB3.alloc hB3.size (.cells #[.int .i64 n1, v3] 24)
      have hL4 := hown4.lists (by have := HSL.out.1; omega) (fun j hj => by have := HSL.out.2 j hj; omega)
      obtain ⟨p3, c3, rfl⟩ : ∃ p c, v3 = .slice p L1.length c := by obtain ⟨p, c, h, _⟩ := hL4; exact ⟨p, c, h⟩
      have h3w : w.heap.size ≤ w3.heap.size := hB3.size
      clear hb3 hX2 hY2 x0 x1 hB2 hB3 hown3
      go_wp2_with fail
      generalize w3.alloc (.cells #[.int .i64 n1, .slice p3 L1.length c3] 24) = w4 at *
      have k0 : ∀ x : Later w4.heap.size w4, x.W.cell? ⟨w.heap.size, 0, none⟩ = some (.int .i64 n1) := fun x => (hX3.below x.ok hX3.lt).cell 0
      have k1 : ∀ x : Later w4.heap.size w4, x.W.cell? ⟨w.heap.size, 1, none⟩ = some (.slice p1 L1.length c1) := fun x => (hX3.below x.ok hX3.lt).cell 1
      have k2 : ∀ x : Later w4.heap.size w4, x.W.cell? ⟨w.heap.size + 1, 0, none⟩ = some (.int .i64 n2) := fun x => (hY3.below x.ok hY3.lt).cell 0
      have k3 : ∀ x : Later w4.heap.size w4, x.W.cell? ⟨w.heap.size + 1, 1, none⟩ = some (.slice p2 L2.length c2) := fun x => (hY3.below x.ok hY3.lt).cell 1
      have k4 : ∀ x : Later w4.heap.size w4, x.W.cell? ⟨w3.heap.size, 0, none⟩ = some (.int .i64 n1) := fun x => (hC3.below x.ok hC3.lt).cell 0
      have k5 : ∀ x : Later w4.heap.size w4, x.W.cell? ⟨w3.heap.size, 1, none⟩ = some (.slice p3 L1.length c3) := fun x => (hC3.below x.ok hC3.lt).cell 1
      have F1 := fun x : Later w4.heap.size w4 => HI1.out.below (hB4.trans (x.ok.mono hB4.size))
      have F2 := fun x : Later w4.heap.size w4 => HI2.out.below (hB4.trans (x.ok.mono hB4.size))
      have F3 := fun x : Later w4.heap.size w4 => hL4.below x.ok
      have q1 := fun x : Later w4.heap.size w4 => keqf_any n1 n1 _ _ L1 L1 x.W (F3 x) (F1 x)
      have q2 := fun x : Later w4.heap.size w4 => ceqf_any n1 n1 _ _ L1 L1 x.W (F1 x) (F3 x)
      have q3 := fun x : Later w4.heap.size w4 => ceqf_any n1 n2 _ _ L1 L2 x.W (F1 x) (F2 x)
      have q4 := fun x : Later w4.heap.size w4 => keqf_any n1 n2 _ _ L1 L2 x.W (F1 x) (F2 x)
      have q5 := fun x : Later w4.heap.size w4 => ceqf_any n2 n1 _ _ L2 L1 x.W (F2 x) (F1 x)
      rw [eqF_refl] at q1 q2
      rw [← eqF_symm n1 n2] at q5
      generalize eqF n1 L1 n2 L2 = E at *
      have hE : (E != E) = false := by simp
      have Q1 := Lib.hid q1
      have Q2 := Lib.hid q2
      have Q3 := Lib.hid q3
      have Q4 := Lib.hid q4
      have Q5 := Lib.hid q5
      clear q1 q2 q3 q4 q5 F1 F2 F3
      refine wp_region_later (B := w4.heap.size) (w0 := w4) (by kernel_rfl) (by kernel_rfl) (Below.refl _ _) ?_
      repeat (go_big_quiet_step (first
        | (go_at_call 18; with_reducible exact later_mono _ (Nat.le_refl _) (Q1.out _))
        | (go_at_call 18; with_reducible exact later_mono _ (Nat.le_refl _) (Q4.out _))
        | (go_at_call 19; with_reducible exact later_mono _ (Nat.le_refl _) (Q2.out _))
        | (go_at_call 19; with_reducible exact later_mono _ (Nat.le_refl _) (Q3.out _))
        | (go_at_call 19; with_reducible exact later_mono _ (Nat.le_refl _) (Q5.out _))))
      refine wpQuiet_nil ?_
      rintro _ ⟨x, rfl⟩
      have hB5 := hB4.trans (x.ok.mono hB4.size)
      have hown5 := hown4.below x.ok (Nat.le_refl _)
      have hX5 := hX3.below x.ok hX3.lt
      have hC5 := hC3.below x.ok hC3.lt
      obtain ⟨w5, hw5⟩ : ∃ W, W = x.W := ⟨_, rfl⟩
      rw [← hw5] at hB5 hown5 hX5 hC5 ⊢
      clear hw5 x k0 k1 k2 k3 k4 k5 Q1 Q2 Q3 Q4 Q5 hE hB4 hown4 hX3 hY3 hC3 hL4
      have x0 : w5.cell? ⟨w.heap.size, 0, none⟩ = some (.int .i64 n1) := hX5.cell 0
      have x1 : w5.cell? ⟨w.heap.size, 1, none⟩ = some (.slice p1 L1.length c1) := hX5.cell 1
      have z0 : w5.cell? ⟨w3.heap.size, 0, none⟩ = some (.int .i64 n1) := hC5.cell 0
      have z1 : w5.cell? ⟨w3.heap.size, 1, none⟩ = some (.slice p3 L1.length c3) := hC5.cell 1
      by_cases hz : L1.length = 0
      · have hz1 : ((L1.length : Int) == 0) = true := by simp [hz]
        clear hz
        go_wp2_with fail
        refine (known_any _).mono ?_
        rintro e w9 ⟨rfl, hb9⟩
        go_wp2
        go_ret
        exact ⟨rfl, hB5.trans (hb9.mono hB5.size)⟩
      · have hz1 : ((L1.length : Int) == 0) = false := beq_eq_false_iff_ne.2 (by omega)
        have hi1 := Int.tmod_nonneg (L1.length : Int) hib1
        have hi2 := Int.tmod_lt_of_pos i (show 0 < (L1.length : Int) by omega)
        obtain ⟨ii, hii⟩ : ∃ ii : Nat, i.tmod (L1.length : Int) = ii := ⟨(i.tmod (L1.length : Int)).toNat, by omega⟩
        rw [hii] at hi1 hi2
        have hiL : ii < L1.length := by omega
        have hown6 := hown5
        obtain ⟨us, hus, howns, hin⟩ := hown5
        obtain ⟨g3, cap3, he3, hg3, hg3'⟩ := owns_form howns (by omega)
        simp only [Value.slice.injEq] at he3
        obtain ⟨rfl, -, rfl⟩ := he3
        have hiu : ii < us.length := by rw [hus]; exact hiL
        have hu : w5.cell? ⟨g3, ii, none⟩ = some (us.getD ii (.slice none 0 0)) := by
          rw [howns.cellAt ii (by rw [Nat.mul_one]; exact hiL)]
          simp [List.getD, hiu]
        have hui := hin ii hiL
        obtain ⟨pu, cu, hue⟩ := owns_shape hui
        rw [hue] at hu hui
        have HU := Lib.hid hue
        have HIN := Lib.hid hin
        have HUS := Lib.hid hus
        have HOWN := Lib.hid howns
        have hll := HSL.out.2 ii hiL
        have HLG : Hid (L1.getD ii [] = L1.getD ii []) := rfl
        generalize hlg : L1.getD ii [] = l at *
        have HLL := Lib.hid hlg
        clear hue hin hus howns hlg HLG hz
        by_cases hz2 : l.length = 0
        · have hz3 : ((l.length : Int) == 0) = true := by simp [hz2]
          clear hz2
          go_wp2
          go_quiet (fail)
          have hB6 := below_drewN hB5 nq
          go_wp2_with fail
          refine (known_any _).mono ?_
          rintro e w9 ⟨rfl, hb9⟩
          go_wp2
          go_ret
          exact ⟨rfl, hB6.trans (hb9.mono hB6.size)⟩
        · have hz3 : ((l.length : Int) == 0) = false := beq_eq_false_iff_ne.2 (by omega)
          have hl0 : 0 < l.length := by omega
          obtain ⟨gi, ci, hge, hgi, hgi'⟩ := owns_form hui hl0
          simp only [Value.slice.injEq] at hge
          obtain ⟨rfl, -, rfl⟩ := hge
          have hk1 := Int.emod_nonneg k (show (l.length : Int) ≠ 0 by omega)
          have hk2 := Int.emod_lt_of_pos k (show 0 < (l.length : Int) by omega)
          obtain ⟨kk, hkk⟩ : ∃ kk : Nat, k % (l.length : Int) = kk := ⟨(k % (l.length : Int)).toNat, by omega⟩
          rw [hkk] at hk1 hk2
          have hkl : kk < l.length := by omega
          have hz64 : I64 (l.getD kk 0) := HL1.out l (by rw [← HLL.out]; exact mem_getDL hiL) _ (mem_getD hkl)
          have hzc : w5.cell? ⟨gi, kk, none⟩ = some (.int .i64 (l.getD kk 0)) := by
            rw [World.ownsRow.cellAt hui kk (by omega)]
            simp [List.getD, hkl]
          have hzf := World.ownsRow.frozenAt hui kk
          have HZ : Hid (l.getD kk 0 = l.getD kk 0) := rfl
          generalize hzd : l.getD kk 0 = z at *
          have HZD := Lib.hid hzd
          have HUI := Lib.hid hui
          have HOWN6 := Lib.hid hown6
          clear hz2 hui hown6 HZ hzd
          go_wp2
          go_quiet (fail)
          have hB6 := below_drewN hB5 nq
          have hs6 : (w5.drewN nq).heap.size = w5.heap.size := rfl
          go_wp2_with fail
          refine (copyf_any n1 _ L1 _ (HI1.out.below hB6)).mono ?_
          rintro e w6 ⟨v6, rfl, hown6, hb6⟩
          obtain ⟨p6, c6, rfl⟩ : ∃ p c, v6 = .slice p L1.length c := by
            rcases hown6.shape with ⟨h1, h2⟩ | ⟨g, c, h⟩
            · exact ⟨none, 0, by rw [h1, h2]⟩
            · exact ⟨_, _, h⟩
          rw [hs6] at hb6 hown6
          have hb56 : Below w5.heap.size w5 w6 := ⟨hb6.os, hb6.tape, hb6.output, hb6.size, fun j hj => hb6.block j hj⟩
          have hB7 := hB5.trans (hb56.mono hB5.size)
          have e1 : w6.cell? ⟨gi, kk, none⟩ = some (.int .i64 z) := (hb56.cell (p := ⟨gi, kk, none⟩) hgi').trans hzc
          have e2 : w6.frozen? ⟨gi, kk, none⟩ = false := (hb56.frozen (p := ⟨gi, kk, none⟩) hgi').trans hzf
          have hs56 := hb56.size
          have hal : Below w6.heap.size w6 (w6.alloc (.cells #[.int .i64 n1, .slice p6 L1.length c6] 24)) := (Below.refl _ _).alloc (Nat.le_refl _) _
          have e3 : (w6.alloc (.cells #[.int .i64 n1, .slice p6 L1.length c6] 24)).cell? ⟨gi, kk, none⟩ = some (.int .i64 z) := (hal.cell (p := ⟨gi, kk, none⟩) (by simp; omega)).trans e1
          have e4 : (w6.alloc (.cells #[.int .i64 n1, .slice p6 L1.length c6] 24)).frozen? ⟨gi, kk, none⟩ = false := (hal.frozen (p := ⟨gi, kk, none⟩) (by simp; omega)).trans e2
          clear hb6 hzc hzf hs6 hB6 x0 x1 z0 z1 hu e1 e2
          have hzne : z ≠ wrap64 (z + 1) := by
            have h1 : wrap64 (z + 1) = IntKind.i64.wrap (z + 1) := by rw [IntKind.wrap_i64]; simp only [wrap64]
            rw [h1, IntKind.wrap_i64]; unfold I64 at hz64; omega
          obtain ⟨W8, hW8⟩ : ∃ W, W = (w6.alloc (.cells #[.int .i64 n1, .slice p6 L1.length c6] 24)).setCell ⟨gi, kk, none⟩ (.int .i64 (wrap64 (z + 1))) := ⟨_, rfl⟩
          have hbne : ∀ {b : Nat} {cs : Array Value}, Box w5 b 24 cs → b ≠ gi := by
            rintro b cs hb rfl
            obtain ⟨cur, hcur⟩ := owns_typed HUI.out _ rfl
            unfold Box at hb
            rw [hb] at hcur
            simp at hcur
          have hX8 : Box W8 w.heap.size 24 #[.int .i64 n1, .slice p1 L1.length c1] := by
            rw [hW8]; exact ((hX5.below hb56 hX5.lt).alloc _).setOther ⟨gi, kk, none⟩ (hbne hX5) _
          have hC8 : Box W8 w3.heap.size 24 #[.int .i64 n1, .slice (some ⟨g3, 0, none⟩) L1.length c3] := by
            have h1 := (hC5.below hb56 hC5.lt).alloc (.cells #[.int .i64 n1, .slice p6 L1.length c6] 24)
            rw [hW8]; exact h1.setOther ⟨gi, kk, none⟩ (hbne hC5) _
          have hW8x : Box W8 w6.heap.size 24 #[.int .i64 n1, .slice p6 L1.length c6] := by
            rw [hW8]; exact (Box.new _ _ _).setOther _ (by simp; omega) _
          have hB8 : Below w.heap.size w W8 := by rw [hW8]; exact (hB7.alloc hB7.size _).setCell (by simp; omega) _
          have hO8 : OwnL W8 w5.heap.size (.slice p6 L1.length c6) L1 := by rw [hW8]; exact (hown6.alloc _).setCell (by simp; omega) _
          have hLw : Lists W8 (.slice p6 L1.length c6) L1 := hO8.lists (by have := HSL.out.1; omega) (fun j hj => by have := HSL.out.2 j hj; omega)
          have hLf : Lists W8 (.slice p1 L1.length c1) L1 := HI1.out.below hB8
          have hW7 : Below w5.heap.size w5 (w6.alloc (.cells #[.int .i64 n1, .slice p6 L1.length c6] 24)) := hb56.alloc hb56.size _
          obtain ⟨L', hL1, hL2, hL3, hL4⟩ := OwnL.poke (w := w6.alloc (.cells #[.int .i64 n1, .slice p6 L1.length c6] 24)) (k := kk) (wrap64 (z + 1)) HUS.out (owns_below HOWN.out hW7 (Nat.le_refl _)) (fun j hj => owns_below (HIN.out j hj) hW7 (Nat.le_refl _)) hiL (by rw [HU.out, ← HLL.out])
          rw [← hW8] at hL1
          have hLc : Lists W8 (.slice (some ⟨g3, 0, none⟩) L1.length c3) L' := hL1.lists (by have := HSL.out.1; omega) (fun j hj => by rw [hL4 j (by omega)]; have := HSL.out.2 j (by omega); omega)
          have hneq : eqF n1 L1 n1 L' = false := eqF_ne (i := ii) (by rw [hL3, HLL.out]; exact set_ne hkl (by rw [HZD.out]; exact hzne))
          have hq1 := keqf_any n1 n1 _ _ L1 L1 W8 hLf hLw
          rw [eqF_refl] at hq1
          have hq2 := fun W (hb : Below W8.heap.size W8 W) => ceqf_any n1 n1 _ _ L1 L' W (hLf.below hb) (hLc.below hb)
          rw [hneq] at hq2
          have HQ2 := Lib.hid hq2
          have x0 : W8.cell? ⟨w.heap.size, 0, none⟩ = some (.int .i64 n1) := hX8.cell 0
          have x1 : W8.cell? ⟨w.heap.size, 1, none⟩ = some (.slice p1 L1.length c1) := hX8.cell 1
          have a0 : W8.cell? ⟨w6.heap.size, 0, none⟩ = some (.int .i64 n1) := hW8x.cell 0
          have a1 : W8.cell? ⟨w6.heap.size, 1, none⟩ = some (.slice p6 L1.length c6) := hW8x.cell 1
          have HW8 := Lib.hid hW8
          rw [hW8] at x0 x1 a0 a1
          clear hq2 hL1 hL2 hL3 hL4 hLc hLf hLw hO8 hneq hW7 hzne hW8 hX5 hC5 hown6 hb56
          go_wp2_with fail
          rw [← HW8.out]
          refine hq1.mono ?_
          rintro e w9 ⟨rfl, hb9⟩
          have hX9 := hX8.below hb9 hX8.lt
          have hC9 := hC8.below hb9 hC8.lt
          have hB9 := hB8.trans (hb9.mono hB8.size)
          have y0 : w9.cell? ⟨w.heap.size, 0, none⟩ = some (.int .i64 n1) := hX9.cell 0
          have y1 : w9.cell? ⟨w.heap.size, 1, none⟩ = some (.slice p1 L1.length c1) := hX9.cell 1
          have b0 : w9.cell? ⟨w3.heap.size, 0, none⟩ = some (.int .i64 n1) := hC9.cell 0
          have b1 : w9.cell? ⟨w3.heap.size, 1, none⟩ = some (.slice (some ⟨g3, 0, none⟩) L1.length c3) := hC9.cell 1
          clear hq1 x0 x1 a0 a1 hX8 hC8 hW8x hB8
          go_wp2_with fail
          refine (HQ2.out _ hb9).mono ?_
          rintro e w10 ⟨rfl, hb10⟩
          have hB10 := hB9.trans (hb10.mono hB9.size)
          clear hb9 hb10 hX9 hC9 hB9 y0 y1 b0 b1
          go_wp2_with fail
          refine (known_any _).mono ?_
          rintro e w11 ⟨rfl, hb11⟩
          go_wp2
          go_ret
          exact ⟨rfl, hB10.trans (hb11.mono hB10.size)⟩
    · have hs2' : smallB L2 = false := by simpa using hs2
      rw [hs2'] at hsm2
      obtain ⟨p1, c1, rfl⟩ := hv1
      obtain ⟨p2, c2, rfl⟩ := hv2
      have HSM1 := Lib.hid hsm1
      have HSM2 := Lib.hid hsm2
      clear hsm1 hsm2 hW1 hW2 hl1 hs1 hs2 hs2'
      go_enter Try.func5, Try.ntmps5
      go_wp2_with fail
      refine (HSM1.out _ hb0).mono ?_
      rintro e w1 ⟨rfl, hb1⟩
      have hB1 := hb0.trans (hb1.mono (by simp; omega))
      have hY1 : Box w1 (w.heap.size + 1) 24 #[.int .i64 n2, .slice p2 L2.length c2] := (Box.at _ _ _ (by simp)).below hb1 (by simp)
      have y0 : w1.cell? ⟨w.heap.size + 1, 0, none⟩ = some (.int .i64 n2) := hY1.cell 0
      have y1 : w1.cell? ⟨w.heap.size + 1, 1, none⟩ = some (.slice p2 L2.length c2) := hY1.cell 1
      clear hb1 hb0
      go_wp2_with fail
      refine (HSM2.out _ hB1).mono ?_
      rintro e w2 ⟨rfl, hb2⟩
      have hB2 := hB1.trans (hb2.mono hB1.size)
      clear hb2 hY1 y0 y1 hB1
      go_wp2_with fail
      refine (known_any _).mono ?_
      rintro e w9 ⟨rfl, hb9⟩
      go_wp2
      go_ret
      exact ⟨rfl, hB2.trans (hb9.mono hB2.size)⟩
  · have hs1' : smallB L1 = false := by simpa using hs1
    rw [hs1'] at hsm1
    obtain ⟨p1, c1, rfl⟩ := hv1
    obtain ⟨p2, c2, rfl⟩ := hv2
    have HSM1 := Lib.hid hsm1
    clear hsm1 hsm2 hW1 hW2 hl1 hs1 hs1'
    go_enter Try.func5, Try.ntmps5
    go_wp2_with fail
    refine (HSM1.out _ hb0).mono ?_
    rintro e w1 ⟨rfl, hb1⟩
    have hB1 := hb0.trans (hb1.mono (by simp; omega))
    clear hb1 hb0
    go_wp2_with fail
    refine (known_any _).mono ?_
    rintro e w9 ⟨rfl, hb9⟩
    go_wp2
    go_ret
    exact ⟨rfl, hB1.trans (hb9.mono hB1.size)⟩
end L
end Go.Proofs.Ytbmpjglplmnlnaa
