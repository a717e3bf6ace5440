/- CnfNormal: plain facts, and the walk. -/
import Derived.Test.YtbmpjglplmnlnaaYD
import Derived.Test.YtbmpjglplmnlnaaXT
import Derived.Test.YtbmpjglplmnlnaaP
namespace Go.Proofs.Ytbmpjglplmnlnaa
open Go.RowKit
namespace L
open K

theorem lit_either (m : List Bool) (x y : Int) (hx : x ≠ 0) (hxm : av x ≤ m.length) (hne : x ≠ y) (hv : av x = av y) : litB m x = true ∨ litB m y = true := by
  have h1 : 0 < av x := by have := @av_nonneg x; have := @av_zero x; omega
  have h2 : 0 < av y := by omega
  simp only [litB, ← hv, h1, decide_true, Bool.true_and]
  simp only [hxm, decide_true, Bool.true_and]
  have h4 : 0 < x ↔ ¬ 0 < y := by unfold av at hv; split at hv <;> split at hv <;> omega
  cases m.getD (av x - 1).toNat false <;> by_cases h5 : 0 < x <;> simp_all
theorem norm_holds_none {m : List Bool} {l : List Int} (hl : ∀ x ∈ l, av x ≤ m.length) (h : normR l = none) : holdsB m l = true := by
  obtain ⟨x, y, hx, hy, hx0, hy0, hne, hv⟩ := norm_none h
  rcases lit_either m x y hx0 (hl x hx) hne hv with h1 | h1
  · exact List.any_eq_true.2 ⟨x, hx, h1⟩
  · exact List.any_eq_true.2 ⟨y, hy, h1⟩
theorem norm_holds_some {m : List Bool} {l r : List Int} (h : normR l = some r) : holdsB m l = holdsB m r := by
  obtain ⟨_, hm⟩ := norm_some h
  rw [Bool.eq_iff_iff, holdsB, holdsB, List.any_eq_true, List.any_eq_true]
  constructor
  · rintro ⟨x, hx, h1⟩
    refine ⟨x, (hm x).2 ⟨hx, fun h0 => ?_⟩, h1⟩
    subst h0; simp [litB, av] at h1
  · rintro ⟨x, hx, h1⟩
    exact ⟨x, ((hm x).1 hx).1, h1⟩
theorem normGo_len (s : List Int) : ∀ acc r, normGo acc s = some r → r.length ≤ acc.length + s.length := by
  induction s with
  | nil => intro acc r h; simp [normGo] at h; subst h; simp
  | cons x t ih =>
    intro acc r h
    unfold normGo at h
    split at h
    · have := ih _ _ h; simp; omega
    · split at h
      · have := ih _ _ h; simp at this ⊢; omega
      · split at h
        · have := ih _ _ h; simp; omega
        · split at h
          · cases h
          · have := ih _ _ h; simp at this ⊢; omega
theorem norm_len {c r : List Int} (h : normR c = some r) : r.length ≤ c.length := by
  have := normGo_len _ _ _ h
  rw [len_sortI] at this
  simpa using this

def normL (F : List (List Int)) : List (List Int) := F.filterMap normR
theorem normL_none {F : List (List Int)} {k : Nat} (hk : k < F.length) (h : normR (F.getD k []) = none) : normL (F.take (k + 1)) = normL (F.take k) := by
  rw [take_succL F k hk, normL, List.filterMap_append]
  simp only [List.filterMap_cons, h, List.filterMap_nil, List.append_nil]
  rfl
theorem normL_some {F : List (List Int)} {k : Nat} {r : List Int} (hk : k < F.length) (h : normR (F.getD k []) = some r) : normL (F.take (k + 1)) = normL (F.take k) ++ [r] := by
  rw [take_succL F k hk, normL, List.filterMap_append]
  simp only [List.filterMap_cons, h, List.filterMap_nil]
  rfl
theorem normL_len {F : List (List Int)} : (normL F).length ≤ F.length := List.length_filterMap_le _ _
theorem normL_mem {F : List (List Int)} {r : List Int} (h : r ∈ normL F) : ∃ l ∈ F, normR l = some r := by
  simpa [normL, List.mem_filterMap] using h
theorem norm_valid {V : Int} {L : List (List Int)} (h1 : 1 ≤ V) (h2 : V ≤ 1000) (h : fitOk L = true) : checkF V (normL (fitL V L)) = 0 ∧ ∀ r ∈ normL (fitL V L), ∀ x ∈ r, I64 x := by
  constructor
  · have h6 := (fit_len (V := V) h).1
    have h8 := normL_len (F := fitL V L)
    have h7 : firstE V (normL (fitL V L)) = 0 := firstE_zero fun r hr => by
      obtain ⟨l, hl, hn⟩ := normL_mem hr
      have hlen := (fit_len (V := V) h).2 l hl
      have hrl := norm_len hn
      obtain ⟨l', _, rfl⟩ := fitL_mem hl
      have hany : r.any (fun x => decide (x = 0) || decide (V < av x)) = false := by
        rw [List.any_eq_false]
        intro x hx
        have hx2 := ((norm_some hn).2 x).1 hx
        have := fitC_mem h1 h2 x hx2.1
        simp [this.1]; omega
      simp only [checkE, hany]
      rw [if_neg (by omega), if_neg (by omega)]
      rfl
    simp only [checkF, h7]
    rw [if_neg (by omega), if_neg (by omega)]
  · intro r hr x hx
    obtain ⟨l, hl, hn⟩ := normL_mem hr
    have hx2 := ((norm_some hn).2 x).1 hx
    obtain ⟨l', _, rfl⟩ := fitL_mem hl
    exact (fitC_mem h1 h2 x hx2.1).2.2
theorem first_all {m : List Bool} {L : List (List Int)} : firstI m L = -1 ↔ ∀ l ∈ L, holdsB m l = true := by
  rcases first_facts m L with ⟨h1, h2⟩ | ⟨a, h1, h2, h3, h4⟩
  · refine ⟨fun _ l hl => ?_, fun _ => h1⟩
    obtain ⟨j, hj, rfl⟩ := List.getElem_of_mem hl
    have := h2 j hj
    simpa [List.getD, hj] using this
  · constructor
    · intro h; omega
    · intro h
      have := h _ (mem_getDL h2)
      rw [h4] at this; cases this
theorem norm_first {V : Int} {L : List (List Int)} {m : List Bool} (h1 : 1 ≤ V) (h2 : V ≤ 1000) (hm : (m.length : Int) = V) : (firstI m (fitL V L) = -1) ↔ (firstI m (normL (fitL V L)) = -1) := by
  rw [first_all, first_all]
  constructor
  · intro h r hr
    obtain ⟨l, hl, hn⟩ := normL_mem hr
    rw [← norm_holds_some hn]; exact h l hl
  · intro h l hl
    cases hn : normR l with
    | none =>
      obtain ⟨l', _, rfl⟩ := fitL_mem hl
      exact norm_holds_none (fun x hx => by have := (fitC_mem h1 h2 x hx).2.1; omega) hn
    | some r =>
      rw [norm_holds_some hn]
      exact h r (by simp only [normL, List.mem_filterMap]; exact ⟨l, hl, hn⟩)

set_option maxRecDepth 100000 in
set_option maxHeartbeats 1000000 in
theorem normal_walk (n : Int) (v : Value) (L8 : List (List Int)) (b : Int) (w : World) (hn0 : (Lit.int .u8 n).wf = true) (hW : ListsW .i8 w v L8) (hb0 : (Lit.int .u16 b).wf = true) :
    Calls Try.prog 9 #[.int .u8 n, v, .int .u16 b] w fun e w' => e = .returned (.bool true) ∧ Below w.heap.size w w' := by
  have hfit := fit_any n v L8 w hn0 hW
  have hV : 1 ≤ 1 + n % 12 ∧ 1 + n % 12 ≤ 12 := by omega
  have hv : ∃ p c, v = .slice p L8.length c := by obtain ⟨p, c, h, _⟩ := hW; exact ⟨p, c, h⟩
  obtain ⟨p, c, rfl⟩ := hv
  obtain ⟨V, hVd⟩ : ∃ V : Nat, (V : Int) = 1 + n % 12 := ⟨(1 + n % 12).toNat, by omega⟩
  rw [← hVd] at hfit hV
  have hmod := fun W => model_any V b W (by omega) hb0
  obtain ⟨i0, hi, hz0, hz1, hz2⟩ := info_parts info36
  clear hVd hn0 hW hb0
  go_enter Try.func9, Try.ntmps9
  go_wp2_with fail
  refine hfit.mono ?_
  rintro e w1 ⟨r, rfl, hpost, hb1⟩
  rcases hpost with ⟨hok, v', rfl, hown⟩ | ⟨hok, rfl⟩
  · have hF := fit_len (V := V) hok
    have hck := fit_check hV.1 (by omega) hok
    have hnv := norm_valid hV.1 (by omega) hok
    have hnf := fun m => norm_first (L := L8) (m := m) hV.1 (by omega)
    have hi64 := fit_i64 (L := L8) hV.1 (by omega)
    have hL0 := fit_own hok hown
    obtain ⟨hF1, hF2⟩ := hF
    have hsh := hown.shape
    clear hown hok hfit
    generalize fitL V L8 = F at *
    obtain ⟨pv, cv, hv'⟩ : ∃ p c, v' = .slice p F.length c := by obtain ⟨p, c, h, _⟩ := hL0; exact ⟨p, c, h⟩
    subst hv'
    have HF2 := Lib.hid hF2
    have HI := Lib.hid hi64
    have HNV := Lib.hid hnv
    have HNF := Lib.hid hnf
    have HCK := Lib.hid hck
    have hL0' := hL0
    obtain ⟨pv', cv', hpe, _, _, hcells⟩ := hL0
    cases hpe
    have HCELLS := Lib.hid hcells
    clear hF2 hi64 hsh hnv hnf hck hcells
    go_wp2
    have hB0 : Below w1.heap.size w1 ((w1.alloc (.cells #[.int .i64 V, .slice pv F.length cv] 24)).alloc (.cells #[.int .i64 V, .slice none 0 0] 24)) := ((Below.refl _ _).alloc (Nat.le_refl _) _).alloc (by simp) _
    have hX0 : Box ((w1.alloc (.cells #[.int .i64 V, .slice pv F.length cv] 24)).alloc (.cells #[.int .i64 V, .slice none 0 0] 24)) w1.heap.size 24 #[.int .i64 V, .slice pv F.length cv] := (Box.new w1 _ _).alloc _
    have hY0 : Box ((w1.alloc (.cells #[.int .i64 V, .slice pv F.length cv] 24)).alloc (.cells #[.int .i64 V, .slice none 0 0] 24)) (w1.heap.size + 1) 24 #[.int .i64 V, .slice none 0 0] := Box.at _ _ _ (by simp)
    go_loopw [10] (fun i wr => ∃ (k : Nat) (vg : Value), k ≤ F.length ∧ i = .int .i64 k ∧ Below w1.heap.size w1 wr ∧ Box wr w1.heap.size 24 #[.int .i64 V, .slice pv F.length cv] ∧ Box wr (w1.heap.size + 1) 24 #[.int .i64 V, vg] ∧ OwnT wr (w1.heap.size + 2) vg (normL (F.take k))) (fun i _ => F.length - (intOf i).toNat)
    case atStart => exact ⟨0, _, Nat.zero_le _, rfl, hB0, hX0, hY0, OwnT.nil _ _⟩
    case round =>
      clear hB0 hX0 hY0
      obtain ⟨k, vg, hk, rfl, hB, hX, hY, hown⟩ := hrel
      obtain ⟨w3, hw3⟩ : ∃ W, W = wr := ⟨_, rfl⟩
      subst hw3
      have k0 : w3.cell? ⟨w1.heap.size, 0, none⟩ = some (.int .i64 V) := hX.cell 0
      have k1 : w3.cell? ⟨w1.heap.size, 1, none⟩ = some (.slice pv F.length cv) := hX.cell 1
      obtain ⟨us, hus, howns, hin⟩ := hown
      have HIN := Lib.hid hin
      have HUS := Lib.hid hus
      clear hin hus
      obtain ⟨pg, cg, rfl⟩ := owns_shape howns
      by_cases hlt : k < F.length
      · obtain ⟨b1, o1, rfl, hcell⟩ := HCELLS.out (by omega)
        obtain ⟨u, hu, hiu⟩ := hcell k hlt
        have d1 := (hB.cell (p := ⟨b1, o1 + k, none⟩) (World.block_lt_of_cell? _ _ hu)).trans hu
        have hnorm := norm_any u (F.getD k []) w3 (HI.out _ (mem_getDL hlt)) (hiu.below hB)
        have HN0 := Lib.hid (fun h => normL_none (F := F) hlt h)
        have HN1 := Lib.hid (fun r h => normL_some (F := F) (r := r) hlt h)
        obtain ⟨pu, cu, rfl, _⟩ := hiu
        clear hcell hu
        generalize F.getD k [] = l at *
        cases hn : normR l with
        | none =>
          rw [hn] at hnorm
          have HN := Lib.hid (HN0.out hn)
          clear hn HN0 HN1
          go_wp2_with fail
          refine hnorm.mono ?_
          rintro e w4 ⟨v4, rfl, hi4, hb4, ht4⟩
          obtain ⟨p4, c4, rfl, _⟩ := hi4
          have hB4 := hB.trans (hb4.mono hB.size)
          have hX4 := hX.below hb4 hX.lt
          have hY4 := hY.below hb4 hY.lt
          have hO4 : OwnT w4 (w1.heap.size + 2) (.slice pg (normL (F.take k)).length cg) (normL (F.take k)) := OwnT.below ⟨us, HUS.out, howns, HIN.out⟩ hb4 (Nat.le_refl _)
          clear hnorm
          go_wp2
          go_roundw
          case rel => exact ⟨k + 1, _, by omega, by go_num, hB4, hX4, hY4, by rw [HN.out]; exact hO4⟩
          case measure => simp [intOf] <;> omega
        | some r =>
          rw [hn] at hnorm
          have HN := Lib.hid (HN1.out r hn)
          clear hn HN0 HN1
          go_wp2_with fail
          refine hnorm.mono ?_
          rintro e w4 ⟨v4, rfl, hi4, hb4, ht4⟩
          simp only [Option.getD_some] at hi4
          obtain ⟨p4, c4, rfl⟩ : ∃ p c, v4 = .slice p r.length c := by obtain ⟨p, c, h, _⟩ := hi4; exact ⟨p, c, h⟩
          have hB4 := hB.trans (hb4.mono hB.size)
          have hX4 := hX.below hb4 hX.lt
          have hY4 := hY.below hb4 hY.lt
          have howns4 := owns_below howns hb4 (Nat.le_refl _)
          have y1 : w4.cell? ⟨w1.heap.size + 1, 1, none⟩ = some (.slice pg (normL (F.take k)).length cg) := hY4.cell 1
          have hnl : (normL (F.take k)).length ≤ 30 := Nat.le_trans normL_len (by simp; omega)
          have hs4 := hY4.lt
          clear hnorm
          go_wp2_with (at_builtin; refine wpList_append_own _ rfl _ _ 22 rfl (w1.heap.size + 2) 36 i0 (.slice none 0 0) 1 24 Try.underlying22 hi hz0 hz1 hz2 rfl (by decide) _ _ _ rfl (howns4.alloc _) ⟨w4.heap.size, 0, none⟩ 1 1 [.slice p4 r.length c4] rfl rfl ?d1 ?d2 ?d3 ?d4 ?d5 ?_)
          case d1 =>
            intro j u hj
            match j, hj with
            | 0, hj => simp at hj; subst hj; exact cell_new (by simp) rfl
          case d2 => intro u hu; simp at hu; subst hu; rfl
          case d3 => unfold maxLen; omega
          case d4 => omega
          case d5 => simp; omega
          intro v5 w5 hown5 hgrow _
          have hne : ∀ i, i < w1.heap.size + 2 → some i ≠ (Value.slice pg (normL (F.take k)).length cg).ownBlock := fun i hi he => by have := (howns4.lt i he.symm).1; omega
          have hbA := hB4.alloc (by omega) (.cells #[.slice p4 r.length c4] 36)
          have hbB := hbA.grown hgrow (by simp; omega) (fun i hi => by have := (howns4.lt i hi).1; omega)
          have hX5 := (hX4.alloc (.cells #[.slice p4 r.length c4] 36)).grown hgrow (hne _ (by omega))
          have hY5 := (hY4.alloc (.cells #[.slice p4 r.length c4] 36)).grown hgrow (hne _ (by omega))
          have hbal : Below w4.heap.size w4 (w4.alloc (.cells #[.slice p4 r.length c4] 36)) := (Below.refl _ _).alloc (Nat.le_refl _) _
          have hOL := OwnT.push (L := normL (F.take k)) HUS.out (howns4.alloc (.cells #[.slice p4 r.length c4] 36)) (fun j hj => ⟨((HIN.out j hj).1.below (hb4)).below hbal, TypedI.alloc (TypedI.below (HIN.out j hj).2 hb4 (Nat.le_refl _)) _⟩) (hi4.below hbal) (TypedI.alloc ht4 _) hown5 hgrow
          obtain ⟨g, cap, rfl, hg1, hg2⟩ := owns_form hown5 (by omega)
          have k11 : w5.cell? ⟨w1.heap.size + 1, 1, none⟩ = some (.slice pg (normL (F.take k)).length cg) := hY5.cell 1
          have k11f := hY5.frozen 1
          clear hgrow hX hY hX4 hY4 howns howns4 hown5 hb4 hB hB4 hbA hi4 ht4 hbal y1
          go_wp2
          go_roundw
          case rel => exact ⟨k + 1, _, by omega, by go_num, hbB.setCell (by simp) _, hX5.setOther _ (by simp) _, hY5.set 1 _, by rw [HN.out]; exact hOL.setCell (a := ⟨w1.heap.size + 1, 1, none⟩) (by simp) ⟨_, 24, hY5, by decide⟩ _⟩
          case measure => simp [intOf] <;> omega
      · have hkl : F.take k = F := List.take_of_length_le (by omega)
        have hO : OwnT w3 (w1.heap.size + 2) (.slice pg (normL (F.take k)).length cg) (normL (F.take k)) := ⟨us, HUS.out, howns, HIN.out⟩
        rw [hkl] at hO
        have y0 : w3.cell? ⟨w1.heap.size + 1, 0, none⟩ = some (.int .i64 V) := hY.cell 0
        have y1 : w3.cell? ⟨w1.heap.size + 1, 1, none⟩ = some (.slice pg (normL F).length cg) := by have := hY.cell 1; rw [hkl] at this; exact this
        have hGL := hO.lists (by have := normL_len (F := F); omega)
        have hFL := hL0'.below hB
        rw [hkl] at hY
        clear hkl hO howns
        go_wp2_with fail
        refine (hmod _).mono ?_
        rintro e w4 ⟨vm, rfl, hom, hb4⟩
        have hm : Bools w4 vm (modelR V b) := owns_bools (base := _) (by rw [modelR_len]; exact hom) (by rw [modelR_len]; omega)
        have hml := modelR_len V b
        generalize modelR V b = m at *
        obtain ⟨pm, cm, hvm⟩ : ∃ p c, vm = .slice p m.length c := by obtain ⟨p, c, h, _⟩ := hm; exact ⟨p, c, h⟩
        subst hvm
        have hf1 := first_any V (.slice pv F.length cv) (.slice pm m.length cm) F m w4 (by unfold I64; omega) HI.out (hFL.below hb4) hm
        rw [firstF_ok HCK.out (by omega)] at hf1
        have hX4 := hX.below hb4 hX.lt
        have hY4 := hY.below hb4 hY.lt
        have hG4 := hGL.below hb4
        have hB4 := hB.trans (hb4.mono hB.size)
        have x0 : w4.cell? ⟨w1.heap.size, 0, none⟩ = some (.int .i64 V) := hX4.cell 0
        have x1 : w4.cell? ⟨w1.heap.size, 1, none⟩ = some (.slice pv F.length cv) := hX4.cell 1
        have hiff := HNF.out m (by omega)
        have HML := Lib.hid hml
        generalize firstI m F = A at *
        clear hom hb4 hX hY hGL hFL hB y0 y1 k0 k1 hmod hml
        go_wp2_with fail
        refine hf1.mono ?_
        rintro e w5 ⟨rfl, hb5⟩
        have hf2 := first_any V (.slice pg (normL F).length cg) (.slice pm m.length cm) (normL F) m w5 (by unfold I64; omega) HNV.out.2 (hG4.below hb5) (hm.below hb5)
        rw [firstF_ok HNV.out.1 (by rw [HML.out])] at hf2
        have hY5 := hY4.below hb5 hY4.lt
        have y0 : w5.cell? ⟨w1.heap.size + 1, 0, none⟩ = some (.int .i64 V) := hY5.cell 0
        have y1 : w5.cell? ⟨w1.heap.size + 1, 1, none⟩ = some (.slice pg (normL F).length cg) := hY5.cell 1
        have hB5 := hB4.trans (hb5.mono hB4.size)
        generalize firstI m (normL F) = D at *
        clear hf1 hX4 hY4 hG4 hb5 hB4 x0 x1 hm hY5
        go_wp2_with fail
        refine hf2.mono ?_
        rintro e w6 ⟨rfl, hb6⟩
        have hB6 := hB5.trans (hb6.mono hB5.size)
        have hBw := hb1.trans (hB6.mono hb1.size)
        have hcase : (A == -1) = true ∧ (D == -1) = true ∨ (A == -1) = false ∧ (D == -1) = false := by
          by_cases h : A = -1
          · exact .inl ⟨by simp [h], by simp [hiff.1 h]⟩
          · exact .inr ⟨by simp [h], by simp; exact fun h2 => h (hiff.2 h2)⟩
        clear hf2 hb6 hB5 hB6 y0 y1 hiff
        rcases hcase with ⟨h1, h2⟩ | ⟨h1, h2⟩
        all_goals
          go_wp2_with fail
          refine (known_any _).mono ?_
          rintro e w7 ⟨rfl, hb7⟩
          go_wp2
          go_ret
          exact ⟨rfl, hBw.trans (hb7.mono hBw.size)⟩
  · have hB := hb1.alloc hb1.size (.cells #[.int .i64 0, .slice none 0 0] 24)
    go_wp2_with fail
    refine (known_any _).mono ?_
    rintro e w2 ⟨rfl, hb2⟩
    go_wp2
    go_ret
    exact ⟨rfl, hB.trans (hb2.mono hB.size)⟩
end L
end Go.Proofs.Ytbmpjglplmnlnaa
