/- CnfUnused: the walk. -/
import Derived.Test.YtbmpjglplmnlnaaYD
import Derived.Test.YtbmpjglplmnlnaaXK
import Derived.Deep.RegionHeld3
import Derived.Deep.AppendLies
namespace Go.Proofs.Ytbmpjglplmnlnaa
open Go.RowKit
namespace L
open K

theorem fit_checkW {V W : Int} {L : List (List Int)} (h1 : 1 ≤ V) (h2 : V ≤ W) (h3 : W ≤ 1000) (h : fitOk L = true) : checkF W (fitL V L) = 0 := by
  obtain ⟨h4, h5⟩ := fitOk_bound h
  have h6 := (fit_len (V := V) h).1
  have h7 : firstE W (fitL V L) = 0 := firstE_zero fun l hl => by
    have hlen := (fit_len (V := V) h).2 l hl
    obtain ⟨l', _, rfl⟩ := fitL_mem hl
    have hany : (fitC V l').any (fun x => decide (x = 0) || decide (W < av x)) = false := by
      rw [List.any_eq_false]
      intro x hx
      have := fitC_mem h1 (by omega) x hx
      simp [this.1]; omega
    simp only [checkE, hany]
    rw [if_neg (by omega), if_neg (by omega)]
    rfl
  simp only [checkF, h7]
  rw [if_neg (by omega), if_neg (by omega)]
theorem litB_ext {m : List Bool} {b : Bool} {x : Int} (h : av x ≤ m.length) : litB (m ++ [b]) x = litB m x := by
  unfold litB
  by_cases h0 : 0 < av x
  · have h1 : (m ++ [b]).getD (av x - 1).toNat false = m.getD (av x - 1).toNat false := by
      simp only [List.getD_eq_getElem?_getD]
      rw [List.getElem?_append_left (by omega)]
    have h2 : decide (av x ≤ ((m ++ [b]).length : Int)) = true := by simp; omega
    have h3 : decide (av x ≤ (m.length : Int)) = true := by simp; omega
    rw [h1, h2, h3]
  · simp [h0]
theorem fit_ext {V : Int} {L : List (List Int)} {m : List Bool} {x : Bool} (h1 : 1 ≤ V) (h2 : V ≤ 1000) (hm : (m.length : Int) = V) : firstI (m ++ [x]) (fitL V L) = firstI m (fitL V L) := by
  have hh : ∀ l ∈ fitL V L, holdsB (m ++ [x]) l = holdsB m l := by
    intro l hl
    obtain ⟨l', _, rfl⟩ := fitL_mem hl
    unfold holdsB
    have : ∀ y ∈ fitC V l', litB (m ++ [x]) y = litB m y := fun y hy => litB_ext (by have := (fitC_mem h1 h2 y hy).2.1; omega)
    generalize fitC V l' = c at this
    induction c with
    | nil => rfl
    | cons a r ih => simp only [List.any_cons, this a (by simp), ih fun y hy => this y (by simp [hy])]
  rcases first_facts m (fitL V L) with ⟨h3, h4⟩ | ⟨a, h3, h4, h5, h6⟩
  · rw [h3]; exact firstI_upto (fun j hj => by rw [hh _ (mem_getDL hj)]; exact h4 j hj) (Nat.le_refl _)
  · rw [h3]; exact firstI_at (fun j hj => by rw [hh _ (mem_getDL (by omega))]; exact h5 j hj) h4 (by rw [hh _ (mem_getDL h4)]; exact h6)

set_option maxRecDepth 100000 in
set_option maxHeartbeats 4000000 in
theorem unused_walk (n : Int) (v : Value) (L8 : List (List Int)) (b : Int) (last : Bool) (w : World) (hn0 : (Lit.int .u8 n).wf = true) (hW : ListsW .i8 w v L8) (hb0 : (Lit.int .u16 b).wf = true) :
    Calls Try.prog 10 #[.int .u8 n, v, .int .u16 b, .bool last] w fun e w' => e = .returned (.bool true) ∧ Below w.heap.size w w' := by
  have hfit := fit_any n v L8 w hn0 hW
  have hV : 1 ≤ 1 + n % 12 ∧ 1 + n % 12 ≤ 12 := by omega
  have hv : ∃ p c, v = .slice p L8.length c := by obtain ⟨p, c, h, _⟩ := hW; exact ⟨p, c, h⟩
  obtain ⟨p, c, rfl⟩ := hv
  obtain ⟨V, hVd⟩ : ∃ V : Nat, (V : Int) = 1 + n % 12 := ⟨(1 + n % 12).toNat, by omega⟩
  rw [← hVd] at hfit hV
  have hmod := fun W => model_any V b W (by omega) hb0
  clear hVd hn0 hW hb0
  go_enter Try.func10, Try.ntmps10
  go_wp2_with fail
  refine hfit.mono ?_
  rintro e w1 ⟨r, rfl, hpost, hb1⟩
  rcases hpost with ⟨hok, v', rfl, hown⟩ | ⟨hok, rfl⟩
  · have hB0 := hb1.alloc hb1.size (.cells #[.int .i64 V, v'] 24)
    have hX0 := Box.new w1 24 #[.int .i64 V, v']
    have hL0 := fit_own hok (hown.alloc (.cells #[.int .i64 V, v'] 24))
    have hF := fit_len (V := V) hok
    have hck := fit_check hV.1 (by omega) hok
    have hck1 := fit_checkW (W := (V : Int) + 1) hV.1 (by omega) (by omega) hok
    have hF3 := fun m x => fit_ext (V := V) (L := L8) (m := m) (x := x) hV.1 (by omega)
    have hi64 := fit_i64 (L := L8) hV.1 (by omega)
    obtain ⟨hF1, hF2⟩ := hF
    clear hown hok hfit
    generalize fitL V L8 = F at *
    have HCK1 := Lib.hid hck1
    have HF3 := Lib.hid hF3
    clear hck1 hF3
    obtain ⟨pv, cv, hv'⟩ : ∃ p c, v' = .slice p F.length c := by obtain ⟨p, c, h, _⟩ := hL0; exact ⟨p, c, h⟩
    subst hv'
    have hF2' := Lib.hid hF2
    have HI := Lib.hid hi64
    clear hF2 hi64
    go_wp2_with fail
    refine (hmod _).mono ?_
    rintro e w2 ⟨vm, rfl, hom, hb2⟩
    have hB := hB0.trans (hb2.mono hB0.size)
    have hX := hX0.below hb2 (by simp)
    have hL := hL0.below hb2
    have hm : Bools w2 vm (modelR V b) := owns_bools (base := _) (by rw [modelR_len]; exact hom) (by rw [modelR_len]; omega)
    have hml := modelR_len V b
    have hsm : w1.heap.size < w2.heap.size := hX.lt
    clear hB0 hX0 hL0 hb2 hmod
    generalize modelR V b = m at *
    have HOM := Lib.hid hom
    clear hom
    have hfirst := first_any V (.slice pv F.length cv) vm F m w2 (by unfold I64; omega) HI.out hL hm
    rw [firstF_ok hck (by omega)] at hfirst
    obtain ⟨pm, cm, hvm⟩ : ∃ p c, vm = .slice p m.length c := by obtain ⟨p, c, h, _⟩ := hm; exact ⟨p, c, h⟩
    subst hvm
    have k0 : w2.cell? ⟨w1.heap.size, 0, none⟩ = some (.int .i64 V) := hX.cell 0
    have k1 : w2.cell? ⟨w1.heap.size, 1, none⟩ = some (.slice pv F.length cv) := hX.cell 1
    have hAb : -1 ≤ firstI m F ∧ firstI m F < F.length := by
      rcases first_facts m F with ⟨h, _⟩ | ⟨a, h, h2, _⟩ <;> rw [h] <;> omega
    have hfacts := Lib.hid (first_facts m F)
    generalize hAe : firstI m F = A at *
    have HAE := Lib.hid hAe
    clear hAe
    obtain ⟨hA1, hA2⟩ := hAb
    have HCK := Lib.hid hck
    have HML := Lib.hid hml
    clear hck hml
    go_wp2_with fail
    refine hfirst.mono ?_
    rintro e w3 ⟨rfl, hb3⟩
    have hB' := hB.trans (hb3.mono hB.size)
    have hX' := hX.below hb3 hX.lt
    have hL' := hL.below hb3
    have hm' := hm.below hb3
    have k1' : w3.cell? ⟨w1.heap.size, 1, none⟩ = some (.slice pv F.length cv) := hX'.cell 1
    have hol2 := owns_below HOM.out hb3 (Nat.le_refl _)
    have k0' : w3.cell? ⟨w1.heap.size, 0, none⟩ = some (.int .i64 V) := hX'.cell 0
    have hcf := copyf_any V (.slice pv F.length cv) F w3 hL'
    clear hB hX hL hm k0 k1 hfirst hb3
    go_wp2_with fail
    refine hcf.mono ?_
    rintro e w4 ⟨v2, rfl, hoc, hb4⟩
    obtain ⟨p2, c2, hv2⟩ : ∃ p c, v2 = .slice p F.length c := by
      rcases hoc.shape with ⟨h1, h2⟩ | ⟨g, c, h⟩
      · exact ⟨none, 0, by rw [h1, h2]⟩
      · exact ⟨_, _, h⟩
    subst hv2
    have hwr : IntKind.i64.wrap ((V : Int) + 1) = V + 1 := by rw [IntKind.wrap_i64]; omega
    clear hcf
    have hB4 := hB'.trans (hb4.mono hB'.size)
    have hol4 := owns_base (base' := w1.heap.size + 1) (owns_below hol2 hb4 (Nat.le_refl _)) (by simp)
    have hX5 := Box.new w4 24 #[.int .i64 ((V : Int) + 1), .slice p2 F.length c2]
    have hoc5 := hoc.alloc (.cells #[.int .i64 ((V : Int) + 1), .slice p2 F.length c2] 24)
    have hol5 := hol4.alloc (.cells #[.int .i64 ((V : Int) + 1), .slice p2 F.length c2] 24)
    have hB5 := hB4.alloc hB4.size (.cells #[.int .i64 ((V : Int) + 1), .slice p2 F.length c2] 24)
    have hs5 : (w4.alloc (.cells #[.int .i64 ((V : Int) + 1), .slice p2 F.length c2] 24)).heap.size = w4.heap.size + 1 := by simp
    have hmb : ∀ k, (Value.slice pm m.length cm).ownBlock = some k → k < w4.heap.size := fun k hk => (hol4.lt k hk).2
    obtain ⟨i4, hi4, hz40, hz41, hz42⟩ := info_parts info4
    have hm24 : m.length = V := HML.out
    have hww : w.heap.size ≤ w1.heap.size := hb1.size
    have hw1 : w1.heap.size + 1 ≤ w4.heap.size := by have := hb4.size; have := hX'.lt; omega
    clear hoc hol4 hB4 hb4 hB' hL' hm' hX' k0' k1' hol2
    go_wp2_with fail
    generalize w4.alloc (.cells #[.int .i64 ((V : Int) + 1), .slice p2 F.length c2] 24) = w5 at *
    have HX5 := Lib.hid hX5
    have HOL5 := Lib.hid hol5
    have HOC5 := Lib.hid hoc5
    have HMB := Lib.hid hmb
    have HM24 := Lib.hid hm24
    have HB5 := Lib.hid hB5
    have k5 : w5.cell? ⟨w4.heap.size, 0, none⟩ = some (.int .i64 ((V : Int) + 1)) := hX5.cell 0
    have k6 : w5.cell? ⟨w4.heap.size, 1, none⟩ = some (.slice p2 F.length c2) := hX5.cell 1
    have hlt5 : w4.heap.size < w5.heap.size := by omega
    clear hX5 hol5 hoc5 hmb hm24 hB5 hs5
    rw [HM24.out] at HOL5
    go_region_held3 (fun w' => w'.cell? ⟨w4.heap.size, 0, none⟩ = some (.int .i64 ((V : Int) + 1)) ∧ w'.cell? ⟨w4.heap.size, 1, none⟩ = some (.slice p2 F.length c2))
      (first
        | go_keep
        | (go_split_ands
           exact ⟨(hb7.cell (p := ⟨w4.heap.size, 0, none⟩) (by have := hgrow.size; simp at this ⊢; omega)).trans (by assumption), (hb7.cell (p := ⟨w4.heap.size, 1, none⟩) (by have := hgrow.size; simp at this ⊢; omega)).trans (by assumption)⟩)
        | (go_split_ands
           exact ⟨(hgrow.cell_far ⟨w4.heap.size, 0, none⟩ (by simp; omega) (fun h => by have := HMB.out _ (by rw [HM24.out]; exact h.symm); simp at this)).trans (by assumption), (hgrow.cell_far ⟨w4.heap.size, 1, none⟩ (by simp; omega) (fun h => by have := HMB.out _ (by rw [HM24.out]; exact h.symm); simp at this)).trans (by assumption)⟩))
      (first
        | (refine step_append_lies _ (by rfl) _ _ _ (by rfl) (w1.heap.size + 1) 4 i4 _ 1 1 Try.underlying29 hi4 hz40 hz41 hz42 rfl (by omega) (.slice pm V cm) V (m.map Value.bool) (by rfl) (owns_heap (HOL5.out.alloc (.cells #[.bool last] 4)) rfl)
            ⟨w5.heap.size, 0, none⟩ 1 1 [.bool last] (by rfl) (by rfl) (World.news_of_block (cs := #[.bool last]) (t := 4) (fr := (0, 0)) (heap_alloc_new w5 _)) (by simp [Value.oneCell'])
            (by omega) (by unfold maxLen; omega) (by omega) (by simp; omega) (w5.heap.size + 1) (by simp) ?_; intro gg cap w6 hown6 hgrow hat hlt)
        | (go_at_call 15
           refine (first_any ((V : Int) + 1) (.slice p2 F.length c2) (.slice (some ⟨gg, 0, none⟩) (V + 1) cap) F (m ++ [last]) w6 (by unfold I64; omega) HI.out ?hLL ?hMM).mono ?_
           · exact (OwnL.grown (OwnL.heap (w' := (w5.alloc (.cells #[.bool last] 4)).drew) (HOC5.out.alloc (.cells #[.bool last] 4)) rfl) (hgrow) (fun k hk => by obtain ⟨cur, hcur⟩ := owns_typed (owns_heap (w' := (w5.alloc (.cells #[.bool last] 4)).drew) (HOL5.out.alloc (.cells #[.bool last] 4)) rfl) k hk; exact ⟨cur, _, hcur, by decide, by decide⟩)).lists (by omega) (fun j hj => by have := hF2'.out _ (mem_getDL hj); omega)
           · have hl : (m ++ [last]).length = V + 1 := by simp [HM24.out]
             exact owns_bools (base := w1.heap.size + 1) (by rw [hl]; simpa using hown6) (by rw [hl]; omega)
           rintro e w7 ⟨rfl, hb7⟩))
    have hfe : firstF ((V : Int) + 1) F (m ++ [last]) = (A, 0) := by
      rw [firstF_ok HCK1.out (by simp [HM24.out]), HF3.out m last (by rw [HM24.out]), HAE.out]
    rw [hfe]
    clear hfe
    have hLL : Lists w6 (.slice p2 F.length c2) F := (OwnL.grown (OwnL.heap (w' := (w5.alloc (.cells #[.bool last] 4)).drew) (HOC5.out.alloc (.cells #[.bool last] 4)) rfl) (hgrow) (fun k hk => by obtain ⟨cur, hcur⟩ := owns_typed (owns_heap (w' := (w5.alloc (.cells #[.bool last] 4)).drew) (HOL5.out.alloc (.cells #[.bool last] 4)) rfl) k hk; exact ⟨cur, _, hcur, by decide, by decide⟩)).lists (by omega) (fun j hj => by have := hF2'.out _ (mem_getDL hj); omega)
    have hck := fcheck_any ((V : Int) + 1) (.slice p2 F.length c2) F w7 (by unfold I64; omega) HI.out (hLL.below hb7)
    rw [HCK1.out] at hck
    have hEA : (A == A) = true := by simp
    have hB6 : Below w.heap.size w w6 := (HB5.out.alloc HB5.out.size (.cells #[.bool last] 4)).drew.grown hgrow (by have := HB5.out.size; simp; omega) (fun k hk => by have := (HOL5.out.lt k hk).1; omega)
    have hB7 := hB6.trans (hb7.mono hB6.size)
    clear hLL hgrow hown6 hat hb7 hB6
    go_wp2_with fail
    refine hck.mono ?_
    rintro e w8 ⟨rfl, hb8⟩
    have hB8 := hB7.trans (hb8.mono hB7.size)
    clear hB7 hb8 hck
    go_wp2_with fail
    refine (known_any _).mono ?_
    rintro e w9 ⟨rfl, hb9⟩
    go_wp2
    go_ret
    exact ⟨rfl, hB8.trans (hb9.mono hB8.size)⟩
  · have hB := hb1.alloc hb1.size (.cells #[.int .i64 0, .slice none 0 0] 24)
    go_wp2_with fail
    refine (known_any _).mono ?_
    rintro e w2 ⟨rfl, hb2⟩
    go_wp2
    go_ret
    exact ⟨rfl, hB.trans (hb2.mono hB.size)⟩
end L
end Go.Proofs.Ytbmpjglplmnlnaa
