/- DimacsEnds: the walk. -/
import Derived.Test.YtddmanphhfjngaaDoorGB
import Derived.Test.YtddmanphhfjngaaDoorPG
import Derived.Lib.Split
namespace Go.Proofs.YtddmanphhfjngaaDoor
open Go.RowKit PA
namespace L
open K

theorem lists_nil (w : World) : Lists w (.slice none 0 0) [] := ⟨none, 0, rfl, Nat.le_refl _, by decide, fun h => absurd h (by decide)⟩
theorem parse_err {w w' : World} {ln : Int} {e : Ending} (h : ParseEnd w (0, [], ln, 4) e w') : ∃ p c, e = .returned (.tuple #[.agg #[.int .i64 0, .slice p 0 c], .int .i64 ln, .int .i64 4]) ∧ Below w.heap.size w w' ∧ Lists w' (.slice p 0 c) [] := by
  obtain ⟨v, B, rfl, hb, hB, ho⟩ := h
  have hl : Lists w' v [] := ho.lists (by simp) (by simp)
  obtain ⟨p, c, rfl, _⟩ := id hl
  exact ⟨p, c, rfl, hb, hl⟩
/-- What the ends of a text are read as. -/
structure EndsOk (T : List UInt8) (N : Nat) : Prop where
  len : T.length ≤ 60000
  len3 : 3 ≤ T.length
  less : ∃ ln : Int, parseS (T.take (T.length - 2)) = (0, [], ln, 4) ∧ (N : Int) + 1 ≤ ln ∧ ln ≤ N + 2
  more : ∀ b : UInt8, b = 48 ∨ b = 49 → parseS (T ++ [b]) = (0, [], (N : Int) + 2, 4)
theorem good_ends {V : Int} {L : List (List Int)} (h1 : 1 ≤ V) (h2 : V ≤ 1000) (h : fitOk L = true) (hne : fitL V L ≠ []) : EndsOk (textT V (fitL V L)) (fitL V L).length := by
  have hi := fit_i64 (L := L) h1 h2
  obtain ⟨hl, hlc⟩ := fit_len (V := V) h
  have hcl := clauses_len (fitL V L) 442 (fun c hc => by
    have := clause_len c (fun x hx => by have := hi c hc x hx; exact Lib.itoa_length_le x this.1 this.2)
    have := hlc c hc
    omega)
  have hhd := head_len V (fitL V L).length (by omega) (by omega) (by omega)
  have hlen : (textT V (fitL V L)).length ≤ 60000 := by
    unfold textT
    rw [List.length_append]
    have : (fitL V L).length * 442 ≤ 30 * 442 := Nat.mul_le_mul_right _ hl
    omega
  have hco : ∀ c ∈ fitL V L, ClauseOk V c := by
    intro c hc
    refine ⟨by have := hlc c hc; omega, fun x hx => ?_⟩
    obtain ⟨l', _, rfl⟩ := fitL_mem hc
    have := fitC_mem h1 h2 x hx
    refine ⟨this.1, ?_⟩
    have h3 := this.2.1
    unfold av at h3
    split at h3 <;> omega
  generalize fitL V L = F at *
  obtain ⟨G, c, rfl⟩ : ∃ G c, F = G ++ [c] := ⟨F.dropLast, F.getLast hne, (List.dropLast_concat_getLast hne).symm⟩
  have ht := text_less V G c
  have hll : (G ++ [c]).length = G.length + 1 := by simp
  refine ⟨hlen, ht.2, ?_, fun b hb => ?_⟩
  · rw [ht.1]
    have hle : (headed V (G.length + 1) G (c.flatMap litT)).length ≤ 65536 := by
      rw [← ht.1, List.length_take]; omega
    obtain ⟨ln, a1, a2, a3⟩ := parse_less V G c (by omega) (by omega) (by omega) hco hle
    exact ⟨ln, a1, by omega, by omega⟩
  · exact parse_more V (G ++ [c]) b hb (by omega) (by omega) (by omega) hco (by omega)

set_option maxRecDepth 100000 in
set_option maxHeartbeats 8000000 in
theorem ends_walk (n : Int) (v : Value) (L8 : List (List Int)) (m : Int) (w : World) (ht : Tab w) (hn0 : (Lit.int .u8 n).wf = true) (hW : ListsW .i8 w v L8) (hm0 : (Lit.int .i8 m).wf = true) :
    Calls Tryd.prog 10 #[.int .u8 n, v, .int .i8 m] w fun e w' => e = .returned (.bool true) ∧ Below w.heap.size w w' := by
  have hfit := fit_any n v L8 w hn0 hW
  have hV : 1 ≤ 1 + n % 12 ∧ 1 + n % 12 ≤ 12 := by omega
  have hv : ∃ p c, v = .slice p L8.length c := by obtain ⟨p, c, h, _⟩ := hW; exact ⟨p, c, h⟩
  obtain ⟨p, c, rfl⟩ := hv
  obtain ⟨V, hVd⟩ : ∃ V : Nat, (V : Int) = 1 + n % 12 := ⟨(1 + n % 12).toNat, by omega⟩
  rw [← hVd] at hfit hV
  have HT := Lib.hid ht
  obtain ⟨bm, hbm⟩ : ∃ bm, (m.tmod 2 == 0) = bm := ⟨_, rfl⟩
  clear hVd hn0 hW ht hm0
  go_enter Tryd.func10, Tryd.ntmps10
  go_wp2_with fail
  refine hfit.mono ?_
  rintro e w1 ⟨r, rfl, hpost, hb1⟩
  rcases hpost with ⟨hok, v', rfl, hown⟩ | ⟨hok, rfl⟩
  · have hg := good_fit (L := L8) hV.1 (by omega) hok
    have hge := good_ends (L := L8) hV.1 (by omega) hok
    have hB0 := hb1.alloc hb1.size (.cells #[.int .i64 V, v'] 24)
    have hX0 := Box.new w1 24 #[.int .i64 V, v']
    have hL0 := fit_own hok (hown.alloc (.cells #[.int .i64 V, v'] 24))
    clear hown hok hfit
    generalize fitL V L8 = F at *
    obtain ⟨pv, cv, hv'⟩ : ∃ p c, v' = .slice p F.length c := by obtain ⟨p, c, h, _⟩ := hL0; exact ⟨p, c, h⟩
    subst hv'
    have x0 := hX0.cell 0
    have x1 := hX0.cell 1
    have xs := hX0.lt
    simp only [List.getElem?_toArray, List.getElem?_cons_zero, List.getElem?_cons_succ] at x0 x1
    have hf := format_any V (.slice pv F.length cv) F _ (by unfold I64; omega) hg.i64 hL0 (HT.out.below hB0)
    rw [hg.fmt] at hf
    have hF30 := hg.sm
    by_cases hne : F = []
    · subst hne
      clear hf hg hge hL0 hX0
      have HB0 := Lib.hid hB0
      clear hB0
      have hz : ((([] : List (List Int)).length : Int) == 0) = true := rfl
      go_wp2_with (go_at_call 12; refine (known_any _ (HT.out.below HB0.out)).mono ?_; rintro e w6 ⟨rfl, hb6⟩)
      have hB6 := HB0.out.trans (hb6.mono HB0.out.size)
      go_ret
      exact ⟨rfl, hB6⟩
    have hge := hge hne
    have hpos : 0 < F.length := List.length_pos_iff.2 hne
    have hz : ((F.length : Int) == 0) = false := beq_eq_false_iff_ne.2 (by omega)
    obtain ⟨ln, hl1, hl2, hl3⟩ := hge.less
    have hmo := hge.more
    have hlen := hge.len
    have hlen3 := hge.len3
    generalize hN : F.length = N at *
    simp only at hf
    have HB0 := Lib.hid hB0
    have HX := Lib.hid hX0
    have HMO := Lib.hid hmo
    have HL1 := Lib.hid hl1
    clear hg hge hB0 hb1 hL0 hX0 hmo hl1 hne hN
    generalize textT V F = TX at *
    go_wp2_with (go_at_call 13; refine hf.mono ?_; rintro e w2 ⟨rfl, hb2⟩; refine Hid.out ?_)
    refine Lib.hid ?_
    have x0' := (hb2.cell (p := ⟨w1.heap.size, 0, none⟩) xs).trans x0
    have x1' := (hb2.cell (p := ⟨w1.heap.size, 1, none⟩) xs).trans x1
    have xs' := Nat.lt_of_lt_of_le xs hb2.size
    have HB2 := Lib.hid (HB0.out.trans (hb2.mono HB0.out.size))
    have hsz : (⟨TX.toArray⟩ : ByteArray).size = TX.length := by simp [ByteArray.size]
    have hdt : (⟨TX.toArray⟩ : ByteArray).data.toList = TX := by simp
    clear hf x0 x1 xs hb2 HB0 HX
    generalize (⟨TX.toArray⟩ : ByteArray) = S at *
    have hS3 : 3 ≤ S.size := by omega
    have hS6 : S.size ≤ 60000 := by omega
    have HSZ := Lib.hid hsz
    have HDT := Lib.hid hdt
    clear hsz hdt hlen hlen3
    have hp1 := fun W => parse_any (S.extract 0 (S.size - 2)) W (by rw [ByteArray.size_extract]; omega)
    have hd1 : (S.extract 0 (S.size - 2)).data.toList = TX.take (TX.length - 2) := by rw [Lib.extract_from_zero, HDT.out, HSZ.out]
    rw [hd1, HL1.out] at hp1
    have HP1 := Lib.hid hp1
    have hp2 := fun W (b : UInt8) (hb : b = 48 ∨ b = 49) => parse_any (S ++ ⟨#[b]⟩) W (by rw [ByteArray.size_append]; show S.size + 1 ≤ _; omega)
    have HP2 : Hid (∀ W (b : UInt8), b = 48 ∨ b = 49 → Calls Tryd.prog 15 #[.string (S ++ ⟨#[b]⟩)] W (ParseEnd W (0, [], (N : Int) + 2, 4))) := Lib.hid (fun W b hb => by
      have h := hp2 W b hb
      have e : (S ++ (⟨#[b]⟩ : ByteArray)).data.toList = TX ++ [b] := by rw [Go.Joins.data_append, HDT.out]
      rw [e, HMO.out b hb] at h
      exact h)
    clear hp1 hp2 hd1
    go_wp2_with (go_at_call 15; refine (HP1.out _).mono ?_; intro e w3 h3; obtain ⟨pa, ca, rfl, hb3, hla⟩ := parse_err h3; clear h3; refine Hid.out ?_)
    refine Lib.hid ?_
    have hal : Below w3.heap.size w3 (w3.alloc (.cells #[.int .i64 0, .slice pa 0 ca] 24)) := (Below.refl _ _).alloc (Nat.le_refl _) _
    have HB3 := Lib.hid (HB2.out.trans (hb3.mono HB2.out.size))
    have HB4 := Lib.hid (HB3.out.trans (hal.mono HB3.out.size))
    have HQ := Lib.hid (keqf_any 0 0 (.slice pa 0 ca) (.slice none 0 0) [] [] _ (hla.below hal) (lists_nil _))
    rw [show eqF 0 [] 0 [] = true by decide] at HQ
    have hw : IntKind.i64.wrap ((1 + (N : Int)) + 1) = 1 + N + 1 := IntWalk.i64_in _ (by omega)
    have hc1 : ¬ ln < 1 + (N : Int) := by omega
    have hc2 : ¬ 1 + (N : Int) + 1 < ln := by omega
    clear hal hla hb3
    have hc3 : ((N : Int) + 2 == 1 + N + 1) = true := by rw [beq_iff_eq]; omega
    go_wp2_with (first
      | (go_at_call 17; refine HQ.out.mono ?_; rintro e w5 ⟨rfl, hb5⟩; have HB5 := Lib.hid (HB4.out.trans (hb5.mono HB4.out.size)); clear hb5)
      | (go_at_call 15; refine (HP2.out _ _ (by first | exact .inl rfl | exact .inr rfl)).mono ?_; intro e w6 h6; obtain ⟨pb, cb, rfl, hb6, hlb⟩ := parse_err h6; clear h6; refine Hid.out ?_))
    all_goals
      refine Lib.hid ?_
      have hal : Below w6.heap.size w6 (w6.alloc (.cells #[.int .i64 0, .slice pb 0 cb] 24)) := (Below.refl _ _).alloc (Nat.le_refl _) _
      have HB6 := Lib.hid (HB5.out.trans (hb6.mono HB5.out.size))
      have HB7 := Lib.hid (HB6.out.trans (hal.mono HB6.out.size))
      have HQ2 := Lib.hid (keqf_any 0 0 (.slice pb 0 cb) (.slice none 0 0) [] [] _ (hlb.below hal) (lists_nil _))
      rw [show eqF 0 [] 0 [] = true by decide] at HQ2
      clear hal hlb hb6
      go_wp2_with (first
        | (go_at_call 17; refine HQ2.out.mono ?_; rintro e w8 ⟨rfl, hb8⟩; have HB8 := Lib.hid (HB7.out.trans (hb8.mono HB7.out.size)); clear hb8)
        | (go_at_call 12; refine (known_any _ (HT.out.below HB8.out)).mono ?_; rintro e w9 ⟨rfl, hb9⟩))
      have hB9 := HB8.out.trans (hb9.mono HB8.out.size)
      go_ret
      exact ⟨rfl, hB9⟩
  · have hb2 := hb1.alloc hb1.size (.cells #[.int .i64 0, .slice none 0 0] 24)
    go_wp2_with (go_at_call 12; refine (known_any _ (HT.out.below hb2)).mono ?_; rintro e w6 ⟨rfl, hb6⟩)
    have hB6 := hb2.trans (hb6.mono hb2.size)
    go_ret
    exact ⟨rfl, hB6⟩
end L
end Go.Proofs.YtddmanphhfjngaaDoor
