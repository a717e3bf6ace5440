/- DimacsValid: the walk. -/
import Derived.Test.YtddmanphhfjngaaDoorGB
import Derived.Test.YtddmanphhfjngaaDoorPH
namespace Go.Proofs.YtddmanphhfjngaaDoor
open Go.RowKit PA
namespace L
open K

theorem lists_nil' (w : World) : Lists w (.slice none 0 0) [] := ⟨none, 0, rfl, Nat.le_refl _, by decide, fun h => absurd h (by decide)⟩
theorem clause_check {n : Int} {c : List Int} (h0 : 0 ≤ n) (h1 : n ≤ 1048576) (h : ClauseOk n c) : checkE n c = 0 := by
  obtain ⟨h2, h3⟩ := h
  have hany : c.any (fun x => decide (x = 0) || decide (n < av x)) = false := by
    rw [List.any_eq_false]
    intro x hx
    have := h3 x hx
    have ha : av x ≤ n := by unfold av; split <;> omega
    simp [this.1]; omega
  simp only [checkE, hany]
  rw [if_neg (by omega), if_neg (by omega)]
  rfl
theorem clauses_check {n : Int} {L : List (List Int)} (h0 : 0 ≤ n) (h1 : n ≤ 1048576) (hL : L.length ≤ 1048576) (h : ∀ c ∈ L, ClauseOk n c) : checkF n L = 0 := by
  have h5 : firstE n L = 0 := firstE_zero fun l hl => clause_check h0 h1 (h l hl)
  simp only [checkF, h5]
  rw [if_neg (by omega), if_neg (by omega)]
theorem count_step (l : List UInt8) (k : Nat) (h : k < l.length) : (l.take (k + 1)).count 10 = (l.take k).count 10 + (if l.getD k 0 = 10 then 1 else 0) := by
  rw [take_snoc h, List.count_append, List.count_singleton]
  by_cases hq : l.getD k 0 = 10 <;> simp [hq]

set_option maxRecDepth 100000 in
set_option maxHeartbeats 8000000 in
theorem valid_walk (S : ByteArray) (w : World) (ht : Tab w) (hsz : S.size ≤ 9223372036854775807) :
    Calls Tryd.prog 7 #[.string S] w fun e w' => e = .returned (.bool true) ∧ Below w.heap.size w w' := by
  have HT := Lib.hid ht
  clear ht
  by_cases h2 : (2000 : Int) < S.size
  · go_enter Tryd.func7, Tryd.ntmps7
    go_wp2_with (go_at_call 12; refine (known_any _ HT.out).mono ?_; rintro e w6 ⟨rfl, hb6⟩)
    go_ret
    exact ⟨rfl, hb6⟩
  have hp := parse_any S w hsz
  have hlen : S.size = S.data.toList.length := Lib.size_eq S
  rcases parse_short S.data.toList (by omega) with ⟨n, L, hpe, n0, n1, hL, hco, htx⟩ | ⟨ln, er, hpe, he, hl1, hl2⟩
  · rw [hpe] at hp
    have hck := clauses_check n0 n1 hL hco
    have hi : ∀ l ∈ L, ∀ x ∈ l, I64 x := fun l hl x hx => by have := (hco l hl).2 x hx; unfold I64; omega
    have hfm : fmtS n L = (textT n L, 0) := by unfold fmtS; rw [if_neg (by omega), if_neg (by omega)]
    have hps := parse_text n L n0 n1 hL hco htx
    have HLC : Hid (∀ j, j < L.length → (L.getD j []).length * 8 ≤ 140737488351232) := Lib.hid (fun j hj => by have := (hco _ (mem_getDL hj)).1; omega)
    have HI := Lib.hid hi
    have hpt := fun W => parse_any ⟨(textT n L).toArray⟩ W (by show (textT n L).toArray.size ≤ _; simp; omega)
    have hpd : (⟨(textT n L).toArray⟩ : ByteArray).data.toList = textT n L := by simp
    rw [hpd, hps] at hpt
    have HPT := Lib.hid hpt
    have HFM := Lib.hid hfm
    have HCK := Lib.hid hck
    clear hpe hco htx hi hfm hck hpt hpd hps hlen
    go_enter Tryd.func7, Tryd.ntmps7
    go_wp2_with (go_at_call 15; refine hp.mono ?_; rintro e w1 ⟨v1, B1, rfl, hb1, hB1, ho1⟩; refine Hid.out ?_)
    refine Lib.hid ?_
    have hl1 : Lists w1 v1 L := ho1.lists (by omega) HLC.out
    obtain ⟨p1, c1, rfl, _⟩ := id hl1
    have hal : Below w1.heap.size w1 (w1.alloc (.cells #[.int .i64 n, .slice p1 L.length c1] 24)) := (Below.refl _ _).alloc (Nat.le_refl _) _
    have hX0 := Box.new w1 24 #[.int .i64 n, .slice p1 L.length c1]
    have hL0 := hl1.below hal
    have HB0 := Lib.hid (hb1.trans (hal.mono hb1.size))
    have x0 := hX0.cell 0
    have x1 := hX0.cell 1
    have xs := hX0.lt
    simp only [List.getElem?_toArray, List.getElem?_cons_zero, List.getElem?_cons_succ] at x0 x1
    have hf := format_any n (.slice p1 L.length c1) L _ (by unfold I64; omega) HI.out hL0 (HT.out.below HB0.out)
    rw [HFM.out] at hf
    simp only at hf
    have HL0 := Lib.hid hL0
    clear hp hal hX0 hl1 hL0 hb1 hB1 ho1
    generalize textT n L = TX at *
    go_wp2_with (go_at_call 13; refine hf.mono ?_; rintro e w2 ⟨rfl, hb2⟩; refine Hid.out ?_)
    refine Lib.hid ?_
    have x0' := (hb2.cell (p := ⟨w1.heap.size, 0, none⟩) xs).trans x0
    have x1' := (hb2.cell (p := ⟨w1.heap.size, 1, none⟩) xs).trans x1
    have xs' := Nat.lt_of_lt_of_le xs hb2.size
    have HB2 := Lib.hid (HB0.out.trans (hb2.mono HB0.out.size))
    have HL2 := Lib.hid (HL0.out.below hb2)
    clear hf x0 x1 xs hb2 HL0 HB0
    generalize (⟨TX.toArray⟩ : ByteArray) = S2 at *
    go_wp2_with (go_at_call 15; refine (HPT.out _).mono ?_; rintro e w3 ⟨v3, B3, rfl, hb3, hB3, ho3⟩; refine Hid.out ?_)
    refine Lib.hid ?_
    have y0 := (hb3.cell (p := ⟨w1.heap.size, 0, none⟩) xs').trans x0'
    have y1 := (hb3.cell (p := ⟨w1.heap.size, 1, none⟩) xs').trans x1'
    have ys := Nat.lt_of_lt_of_le xs' hb3.size
    have hl3 : Lists w3 v3 L := ho3.lists (by omega) HLC.out
    obtain ⟨p3, c3, rfl, _⟩ := id hl3
    have hX3 := Box.new w3 24 #[.int .i64 n, .slice p3 L.length c3]
    have z0 := hX3.cell 0
    have z1 := hX3.cell 1
    have zs := hX3.lt
    simp only [List.getElem?_toArray, List.getElem?_cons_zero, List.getElem?_cons_succ] at z0 z1
    have hal : Below w3.heap.size w3 (w3.alloc (.cells #[.int .i64 n, .slice p3 L.length c3] 24)) := (Below.refl _ _).alloc (Nat.le_refl _) _
    have y0' := (hal.cell (p := ⟨w1.heap.size, 0, none⟩) ys).trans y0
    have y1' := (hal.cell (p := ⟨w1.heap.size, 1, none⟩) ys).trans y1
    have ys' := Nat.lt_of_lt_of_le ys hal.size
    have HB3 := Lib.hid (HB2.out.trans (hb3.mono HB2.out.size))
    have HB4 := Lib.hid (HB3.out.trans (hal.mono HB3.out.size))
    have HLA := Lib.hid ((HL2.out.below hb3).below hal)
    have HLB := Lib.hid (hl3.below hal)
    have hck := fcheck_any n (.slice p1 L.length c1) L _ (by unfold I64; omega) HI.out HLA.out
    rw [HCK.out] at hck
    have HC := Lib.hid hck
    have hee : eqF n L n L = true := by simp [eqF]
    have HEE := Lib.hid hee
    clear hck hal hl3 ho3 hB3 hb3 hX3 x0' x1' xs' y0 y1 ys hee HL2
    go_wp2_with (go_at_call 19; refine HC.out.mono ?_; rintro e w5 ⟨rfl, hb5⟩; refine Hid.out ?_)
    refine Lib.hid ?_
    have a0 := (hb5.cell (p := ⟨w1.heap.size, 0, none⟩) ys').trans y0'
    have a1 := (hb5.cell (p := ⟨w1.heap.size, 1, none⟩) ys').trans y1'
    have b0 := (hb5.cell (p := ⟨w3.heap.size, 0, none⟩) zs).trans z0
    have b1 := (hb5.cell (p := ⟨w3.heap.size, 1, none⟩) zs).trans z1
    have HB5 := Lib.hid (HB4.out.trans (hb5.mono HB4.out.size))
    have HQ := Lib.hid (keqf_any n n (.slice p1 L.length c1) (.slice p3 L.length c3) L L _ (HLA.out.below hb5) (HLB.out.below hb5))
    rw [HEE.out] at HQ
    clear y0' y1' ys' z0 z1 zs hb5
    go_wp2_with (first
      | (go_at_call 17; refine HQ.out.mono ?_; rintro e w7 ⟨rfl, hb7⟩; have HB7 := Lib.hid (HB5.out.trans (hb7.mono HB5.out.size)); clear hb7)
      | (go_at_call 12; refine (known_any _ (HT.out.below HB7.out)).mono ?_; rintro e w8 ⟨rfl, hb8⟩))
    have hB8 := HB7.out.trans (hb8.mono HB7.out.size)
    go_ret
    exact ⟨rfl, hB8⟩
  · rw [hpe] at hp
    have hne : (er != 0) = true := by simpa using he
    have hct : S.data.toList.count 10 ≤ S.data.toList.length := List.count_le_length
    have HLEN := Lib.hid hlen
    have HL2 := Lib.hid hl2
    clear hpe he hlen hl2
    go_enter Tryd.func7, Tryd.ntmps7
    go_wp2_with (go_at_call 15; refine hp.mono ?_; rintro e w1 ⟨v1, B1, rfl, hb1, hB1, ho1⟩; refine Hid.out ?_)
    refine Lib.hid ?_
    have hla : Lists w1 v1 [] := ho1.lists (by simp) (by simp)
    obtain ⟨p1, c1, rfl, _⟩ := id hla
    have hal : Below w1.heap.size w1 (w1.alloc (.cells #[.int .i64 0, .slice p1 ([] : List (List Int)).length c1] 24)) := (Below.refl _ _).alloc (Nat.le_refl _) _
    have HB0 := Lib.hid (hb1.trans (hal.mono hb1.size))
    have hX0 := Box.new w1 24 #[.int .i64 0, .slice p1 ([] : List (List Int)).length c1]
    have x0 := hX0.cell 0
    have x1 := hX0.cell 1
    have xs := hX0.lt
    simp only [List.getElem?_toArray, List.getElem?_cons_zero, List.getElem?_cons_succ] at x0 x1
    have HQ := Lib.hid (keqf_any 0 0 (.slice p1 ([] : List (List Int)).length c1) (.slice none 0 0) [] [] _ (hla.below hal) (lists_nil' _))
    rw [show eqF 0 [] 0 [] = true by decide] at HQ
    clear hp hal hX0 hla hb1 hB1 ho1
    go_wp2
    go_loop [6, 7] (fun a i => ∃ k : Nat, k ≤ S.size ∧ i = .int .i64 k ∧ a = .int .i64 (1 + ((S.data.toList.take k).count 10 : Int))) (fun _ i => S.size - (intOf i).toNat)
    case atStart => exact ⟨0, Nat.zero_le _, rfl, rfl⟩
    case round =>
      obtain ⟨k, hk, rfl, rfl⟩ := hrel
      have hck : (S.data.toList.take k).count 10 ≤ k := Nat.le_trans List.count_le_length (by rw [List.length_take]; omega)
      by_cases hlt : k < S.size
      · have hst := count_step S.data.toList k (by rw [← HLEN.out]; exact hlt)
        rw [← byte_at S k hlt] at hst
        have HST := Lib.hid hst
        clear hst
        generalize (S.data.toList.take k).count 10 = C at *
        by_cases hd : ((S[k].toNat : Int) == 10) = true
        · have hd' : S[k] = 10 := by rw [beq_iff_eq] at hd; exact UInt8.toNat_inj.1 (by show S[k].toNat = 10; omega)
          have h1 := HST.out
          rw [if_pos hd'] at h1
          have HST := Lib.hid h1
          clear h1 hd'
          go_wp2
          go_round
          case rel => exact ⟨k + 1, by omega, by go_num, by rw [HST.out]; go_num⟩
          case measure => simp [intOf]; omega
        · have hd2 : ((S[k].toNat : Int) == 10) = false := by simpa using hd
          have hd' : ¬ S[k] = 10 := by intro h; apply hd; rw [h]; rfl
          have h1 := HST.out
          rw [if_neg hd'] at h1
          have HST := Lib.hid h1
          clear h1 hd' hd
          go_wp2
          go_round
          case rel => exact ⟨k + 1, by omega, by go_num, by rw [HST.out]; go_num⟩
          case measure => simp [intOf]; omega
      · obtain rfl : k = S.size := by omega
        have hfull : S.data.toList.take S.size = S.data.toList := List.take_of_length_le (by rw [← HLEN.out]; exact Nat.le_refl _)
        rw [hfull]
        have hln2 := HL2.out
        have hct2 : S.data.toList.count 10 ≤ 2000 := by rw [hfull] at hck; omega
        generalize S.data.toList.count 10 = C at *
        have hc1 : 1 ≤ ln := hl1
        have hc2 : ln ≤ 1 + (C : Int) + 1 := by omega
        go_wp2_with (first
          | (go_at_call 17; refine HQ.out.mono ?_; rintro e w7 ⟨rfl, hb7⟩; have HB7 := Lib.hid (HB0.out.trans (hb7.mono HB0.out.size)); clear hb7)
          | (go_at_call 12; refine (known_any _ (HT.out.below HB7.out)).mono ?_; rintro e w8 ⟨rfl, hb8⟩))
        have hB8 := HB7.out.trans (hb8.mono HB7.out.size)
        go_ret
        exact ⟨rfl, hB8⟩
end L
end Go.Proofs.YtddmanphhfjngaaDoor
