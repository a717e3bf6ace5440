/- DimacsBlank: the walk. -/
import Derived.Test.YtlkhabdpancjjaaDoorQ15
import Derived.Test.YtlkhabdpancjjaaDoorQ17
namespace Go.Proofs.YtlkhabdpancjjaaDoor
open Go.RowKit PA
namespace L
open K
set_option maxRecDepth 100000

set_option maxHeartbeats 4000000 in
theorem odd_any (k : Int) (w : World) (hk1 : 0 ≤ k) (hk2 : k ≤ 255) :
    Calls Tryd.prog 20 #[.int .u8 k] w fun e w' => e = .returned (.string ⟨(oddS (k % 7).toNat).toArray⟩) ∧ Below w.heap.size w w' := by
  have ht : k.tmod 7 = k % 7 := Int.tmod_eq_emod_of_nonneg hk1
  have hr : k % 7 = 0 ∨ k % 7 = 1 ∨ k % 7 = 2 ∨ k % 7 = 3 ∨ k % 7 = 4 ∨ k % 7 = 5 ∨ k % 7 = 6 := by omega
  rcases hr with h | h | h | h | h | h | h
  all_goals
    rw [h] at ht ⊢
    clear h
    go_enter Tryd.func20, Tryd.ntmps20
    go_wp2
    go_ret
    exact ⟨rfl, (Below.refl _ _).alloc (Nat.le_refl _) _⟩

theorem toksT_len (t : List (List UInt8 × Nat)) (h : ∀ x ∈ t, x.1.length ≤ 21) : (toksT t).length ≤ 35 * t.length := by
  induction t with
  | nil => simp [toksT]
  | cons a r ih =>
    have h1 := h a (by simp)
    have h2 := ih fun x hx => h x (by simp [hx])
    have h3 := odd_len a.2
    unfold toksT at h2 ⊢
    simp only [List.map_cons, List.flatten_cons, List.length_append, List.length_cons]
    omega
theorem wordsL_len (L : List (List Int)) (h : ∀ c ∈ L, c.length ≤ 20) : (wordsL L).length ≤ 21 * L.length := by
  induction L with
  | nil => simp [wordsL]
  | cons c r ih =>
    have h1 := h c (by simp)
    have h2 := ih fun x hx => h x (by simp [hx])
    unfold wordsL at h2 ⊢
    simp only [List.flatMap_cons, List.length_append, List.length_map, List.length_cons, List.length_nil]
    omega
theorem blank_len {V : Int} {F : List (List Int)} (hv1 : 0 ≤ V) (hv2 : V ≤ 1000) (hi : ∀ l ∈ F, ∀ x ∈ l, I64 x) (hl : F.length ≤ 30) (hc : ∀ c ∈ F, c.length ≤ 20) (ks : Nat → Nat) : (headT V F.length ++ blankGo ks 0 (F.flatMap clauseT)).length ≤ 30000 := by
  rw [blank_clauses, List.length_append]
  have h1 := head_len V F.length (by omega) (by omega) (by omega)
  have hm := toks_fst ks (wordsL F) 0
  have h2 := toksT_len (toksOf ks 0 (wordsL F)) fun t ht => by
    have h3 : t.1 ∈ wordsL F := by rw [← hm]; exact List.mem_map_of_mem ht
    unfold wordsL at h3
    rw [List.mem_flatMap] at h3
    obtain ⟨c, hcF, hw⟩ := h3
    rcases List.mem_append.1 hw with hw | hw
    · obtain ⟨x, hx, e⟩ := List.mem_map.1 hw
      rw [← e]
      have h4 := hi c hcF x hx
      have h5 := Lib.itoa_length_le x h4.1 h4.2
      omega
    · simp at hw; rw [hw]; simp
  have h3 := congrArg List.length hm
  rw [List.length_map] at h3
  have h4 := wordsL_len F hc
  omega
theorem foldB_text (ks : Nat → Nat) (n : Int) (L : List (List Int)) : (foldB ks (textT n L) (textT n L).length).1 = headT n L.length ++ blankGo ks 0 (L.flatMap clauseT) := by
  have hn : ∀ b ∈ [112, 32, 99, 110, 102, 32] ++ Lib.itoa n ++ [32] ++ Lib.itoa (L.length : Nat), b ≠ (10 : UInt8) := by
    intro b hb e
    subst e
    simp only [List.mem_append] at hb
    rcases hb with ((hb | hb) | hb) | hb
    · exact absurd hb (by decide)
    · exact itoa_10 _ hb
    · exact absurd hb (by decide)
    · exact itoa_10 _ hb
  exact foldB_all hn

def ksOf (ss : List Int) (i : Nat) : Nat := if ss.length = 0 then 0 else ((ss.getD (i % ss.length) 0) % 7).toNat

set_option maxHeartbeats 8000000 in
theorem blank_walk (n : Int) (v : Value) (L8 : List (List Int)) (u : Value) (ss : List Int) (w : World) (ht : Tab w) (hn0 : (Lit.int .u8 n).wf = true) (hW : ListsW .i8 w v L8) (hS : IntsW .u8 w u ss) :
    Calls Tryd.prog 8 #[.int .u8 n, v, u] w fun e w' => e = .returned (.bool true) ∧ Below w.heap.size w w' := by
  have hfit := fit_any n v L8 w hn0 hW
  have hV : 1 ≤ 1 + n % 12 ∧ 1 + n % 12 ≤ 12 := by omega
  have hv : ∃ p c, v = .slice p L8.length c := by obtain ⟨p, c, h, _⟩ := hW; exact ⟨p, c, h⟩
  obtain ⟨p, c, rfl⟩ := hv
  obtain ⟨pu, cu, rfl⟩ : ∃ p c, u = .slice p ss.length c := by obtain ⟨p, c, h, _⟩ := hS; exact ⟨p, c, h⟩
  obtain ⟨V, hVd⟩ : ∃ V : Nat, (V : Int) = 1 + n % 12 := ⟨(1 + n % 12).toNat, by omega⟩
  rw [← hVd] at hfit hV
  have HT := Lib.hid ht
  have HSS := Lib.hid hS
  clear hVd hn0 hW ht hS
  go_enter Tryd.func8, Tryd.ntmps8
  go_wp2_with fail
  refine hfit.mono ?_
  rintro e w1 ⟨r, rfl, hpost, hb1⟩
  rcases hpost with ⟨hok, v', rfl, hown⟩ | ⟨hok, rfl⟩
  · have hg := good_fit (L := L8) hV.1 (by omega) hok
    have hco : ∀ c ∈ fitL V L8, ClauseOk V c := by
      intro c hc
      refine ⟨by have := hg.smc c hc; omega, fun x hx => ?_⟩
      obtain ⟨l', _, rfl⟩ := fitL_mem hc
      have := fitC_mem hV.1 (by omega) x hx
      refine ⟨this.1, ?_⟩
      have h3 := this.2.1
      unfold av at h3
      split at h3 <;> omega
    have HCO := Lib.hid hco
    clear hco
    have hB0 := hb1.alloc hb1.size (.cells #[.int .i64 V, v'] 24)
    have hX0 := Box.new w1 24 #[.int .i64 V, v']
    have hL0 := fit_own hok (hown.alloc (.cells #[.int .i64 V, v'] 24))
    clear hown hok hfit
    generalize fitL V L8 = F at *
    obtain ⟨pv, cv, hv'⟩ : ∃ p c, v' = .slice p F.length c := by obtain ⟨p, c, h, _⟩ := hL0; exact ⟨p, c, h⟩
    subst hv'
    have x0 := hX0.cell 0
    have x1 := hX0.cell 1
    have xs := hX0.lt
    simp only [List.getElem?_toArray, List.getElem?_cons_zero, List.getElem?_cons_succ] at x0 x1
    have hf := format_any V (.slice pv F.length cv) F _ (by unfold I64; omega) hg.i64 hL0 (HT.out.below hB0)
    rw [hg.fmt] at hf
    have HG := Lib.hid hg
    have HB0 := Lib.hid hB0
    have HL0 := Lib.hid hL0
    obtain ⟨S, hS⟩ : ∃ S : ByteArray, (⟨(textT V F).toArray⟩ : ByteArray) = S := ⟨_, rfl⟩
    have HS : Hid (S.data.toList = textT V F) := Lib.hid (by rw [← hS])
    have hSz : S.size ≤ 65536 := by rw [Lib.size_eq, HS.out]; exact hg.len
    simp only [hS] at hf
    have HSZ : Hid (S.data.toList.length = S.size) := Lib.hid (Lib.size_eq S).symm
    clear hS hg hB0 hb1 hL0 hX0
    go_wp2_with (go_at_call 13; refine hf.mono ?_; rintro e w2 ⟨rfl, hb2⟩; refine Hid.out ?_)
    refine Lib.hid ?_
    have x0' := (hb2.cell (p := ⟨w1.heap.size, 0, none⟩) xs).trans x0
    have x1' := (hb2.cell (p := ⟨w1.heap.size, 1, none⟩) xs).trans x1
    have xs' := Nat.lt_of_lt_of_le xs hb2.size
    have HB2 := Lib.hid (HB0.out.trans (hb2.mono HB0.out.size))
    have HL2 := Lib.hid (HL0.out.below hb2)
    clear hf x0 x1 xs hb2 HL0 HB0
    go_wp2
    go_loopw [11, 12, 13, 14, 15, 57, 72, 76] (fun o h a i _ _ _ _ wr => ∃ (k : Nat) (O : ByteArray), k ≤ S.size ∧ i = .int .i64 k ∧ o = .string O ∧ O.data.toList = (foldB (ksOf ss) S.data.toList k).1 ∧ h = .bool (foldB (ksOf ss) S.data.toList k).2.1 ∧ a = .int .i64 ((foldB (ksOf ss) S.data.toList k).2.2 : Int) ∧ Below w2.heap.size w2 wr) (fun _ _ _ i _ _ _ _ _ => S.size - (intOf i).toNat)
    case atStart => exact ⟨0, _, Nat.zero_le _, rfl, rfl, rfl, rfl, rfl, Below.refl _ _⟩
    case round =>
      obtain ⟨k, O, hk, rfl, rfl, hO, rfl, rfl, hb⟩ := hrel
      have hbd := foldB_bound (ksOf ss) S.data.toList k (by rw [HSZ.out]; exact hk)
      have HB := Lib.hid hb
      by_cases hlt : k < S.size
      · have hst := foldB_succ (ks := ksOf ss) (S := S.data.toList) (k := k) (by rw [HSZ.out]; exact hlt)
        have hbk := byte_at S k hlt
        rw [← hbk] at hst
        have HST := Lib.hid hst
        clear hst hbk
        generalize foldB (ksOf ss) S.data.toList k = st at *
        obtain ⟨X, hd, at'⟩ := st
        simp only at hO hbd HST
        obtain ⟨hb1, hb2⟩ := hbd
        have HO := Lib.hid hO
        have hOs : O.size = X.length := by rw [Lib.size_eq, hO]
        have hOs2 : O.size ≤ 14 * 65536 := by rw [hOs]; omega
        clear hO hOs
        have HCH : Hid ((O ++ S.extract k (k + 1)).data.toList = X ++ [S[k]]) := Lib.hid (by
          rw [ByteArray.data_append, Array.toList_append, HO.out, ← ByteArray.toList_eq, Lib.extract_toList]
          congr 1
          rw [show k + 1 - k = 1 by omega]
          have h := byte_at S k hlt
          rw [h, List.take_one, List.head?_drop, List.getElem?_eq_getElem (show k < S.data.toList.length by rw [HSZ.out]; exact hlt)]
          have hk2 : k < S.data.size := hlt
          rw [Array.getElem_toList]
          simp [List.getD, Array.getElem?_eq_getElem hk2])
        have HNL : Hid ((O ++ (⟨#[10]⟩ : ByteArray)).data.toList = X ++ [10]) := Lib.hid (by rw [ByteArray.data_append, Array.toList_append, HO.out])
        have e32 : ∀ {c : UInt8} {m : UInt8}, ((c.toNat : Int) == (m.toNat : Int)) = decide (c = m) := fun {c m} => by
          by_cases h : c = m
          · subst h; simp
          · rw [decide_eq_false h, beq_eq_false_iff_ne]; intro h2; exact h (UInt8.toNat_inj.1 (by omega))
        have hst' := HST.out
        clear hb
        cases hd with
        | true =>
          by_cases h10 : S[k] = 10
          · have e1 : ((S[k].toNat : Int) == 10) = true := by rw [h10]; rfl
            have e2 : ((S[k].toNat : Int) != 10) = false := by rw [h10]; rfl
            rw [h10, stB_nl] at hst'
            have HS2 := Lib.hid hst'
            clear hst' h10
            go_wp2
            go_roundw
            case rel => exact ⟨k + 1, _, by omega, by go_num, rfl, by rw [HS2.out]; exact HNL.out, by rw [HS2.out], by rw [HS2.out], HB.out⟩
            case measure => simp [intOf]; omega
          · have e1 : ((S[k].toNat : Int) == 10) = false := by have := e32 (c := S[k]) (m := 10); rw [decide_eq_false h10] at this; exact this
            have e2 : ((S[k].toNat : Int) != 10) = true := by simp only [bne, e1]; rfl
            rw [stB_head h10] at hst'
            have HS2 := Lib.hid hst'
            clear hst' h10
            go_wp2
            go_roundw
            case rel => exact ⟨k + 1, _, by omega, by go_num, rfl, by rw [HS2.out]; exact HCH.out, by rw [HS2.out], by rw [HS2.out], HB.out⟩
            case measure => simp [intOf]; omega
        | false =>
          by_cases hsep : S[k] = 32 ∨ S[k] = 10
          · rw [stB_sep hsep] at hst'
            have HS2 := Lib.hid hst'
            clear hst'
            obtain ⟨OD, hOD⟩ : ∃ D : ByteArray, (⟨(oddS (ksOf ss at')).toArray⟩ : ByteArray) = D := ⟨_, rfl⟩
            have HOD : Hid ((O ++ OD).data.toList = X ++ oddS (ksOf ss at')) := Lib.hid (by rw [ByteArray.data_append, Array.toList_append, HO.out, ← hOD])
            have hODs : OD.size ≤ 14 := by rw [← hOD]; show (oddS (ksOf ss at')).toArray.size ≤ 14; simp; exact odd_len _
            have HODC : Hid (∀ (kk : Int) (W : World), 0 ≤ kk → kk ≤ 255 → (kk % 7).toNat = ksOf ss at' → Calls Tryd.prog 20 #[.int .u8 kk] W fun e w' => e = .returned (.string OD) ∧ Below W.heap.size W w') := Lib.hid fun kk W h1 h2 h3 => by
              have h := odd_any kk W h1 h2
              rw [h3, hOD] at h
              exact h
            clear hOD
            have hbb : ((S[k].toNat : Int) != 32) = false ∨ (((S[k].toNat : Int) != 32) = true ∧ ((S[k].toNat : Int) != 10) = false) := by
              rcases hsep with h | h
              · left; rw [h]; rfl
              · right; rw [h]; exact ⟨rfl, rfl⟩
            clear hsep
            by_cases hs0 : ss.length = 0
            · have hks : Hid (((0 : Int) % 7).toNat = ksOf ss at') := Lib.hid (by unfold ksOf; rw [if_pos hs0]; rfl)
              have hz0 : decide (0 < ss.length) = false := decide_eq_false (by omega)
              clear hs0
              rcases hbb with hn1 | ⟨hn1, hn2⟩
              all_goals
                go_wp2_with (go_at_call 20; refine (HODC.out 0 _ (by omega) (by omega) hks.out).mono ?_; rintro e w3 ⟨rfl, hb3⟩; have HB3 := Lib.hid (HB.out.trans (hb3.mono HB.out.size)); clear hb3)
                go_roundw
                case rel => exact ⟨k + 1, _, by omega, by go_num, rfl, by rw [HS2.out]; exact HOD.out, by rw [HS2.out], by rw [HS2.out]; rfl, HB3.out⟩
                case measure => simp [intOf]; omega
            · obtain ⟨j, hj⟩ : ∃ j, at' % ss.length = j := ⟨_, rfl⟩
              have hjl : j < ss.length := by rw [← hj]; exact Nat.mod_lt _ (by omega)
              have htm : (at' : Int).tmod (ss.length : Int) = (j : Int) := by rw [← hj]; rw [Int.tmod_eq_emod_of_nonneg (by omega)]; rfl
              have hz0 : 0 < ss.length := by omega
              have hzl : ((ss.length : Int) == 0) = false := beq_eq_false_iff_ne.2 (by omega)
              obtain ⟨b, off, rfl, d1, hwf⟩ : ∃ b off, pu = some ⟨b, off, none⟩ ∧ wr.cell? ⟨b, off + j, none⟩ = some (.int .u8 (ss.getD j 0)) ∧ (Lit.int .u8 (ss.getD j 0)).wf = true := by
                obtain ⟨p', c', e, _, _, h1, h2⟩ := HSS.out
                injection e with e1 e2 e3
                subst e1
                obtain ⟨b, off, e, h3⟩ := h2 hz0
                exact ⟨b, off, e, ((HB2.out.trans (HB.out.mono HB2.out.size)).cell (p := ⟨b, off + j, none⟩) (World.block_lt_of_cell? _ _ (h3 j hjl))).trans (h3 j hjl), h1 _ (mem_getD hjl)⟩
              have hks : Hid (((ss.getD j 0) % 7).toNat = ksOf ss at') := Lib.hid (by unfold ksOf; rw [if_neg hs0, hj])
              generalize ss.getD j 0 = q at *
              have hqb : 0 ≤ q ∧ q ≤ 255 := by simpa [Lit.wf, IntKind.min, IntKind.max, IntKind.signed, IntKind.bits] using hwf
              obtain ⟨hq1, hq2⟩ := hqb
              clear hwf hj hs0
              rcases hbb with hn1 | ⟨hn1, hn2⟩
              all_goals
                go_wp2_with (go_at_call 20; refine (HODC.out q _ hq1 hq2 hks.out).mono ?_; rintro e w3 ⟨rfl, hb3⟩; have HB3 := Lib.hid (HB.out.trans (hb3.mono HB.out.size)); clear hb3)
                go_roundw
                case rel => exact ⟨k + 1, _, by omega, by go_num, rfl, by rw [HS2.out]; exact HOD.out, by rw [HS2.out], by rw [HS2.out]; rfl, HB3.out⟩
                case measure => simp [intOf]; omega
          · have h32 : ((S[k].toNat : Int) != 32) = true := by have := e32 (c := S[k]) (m := 32); rw [decide_eq_false (fun h => hsep (.inl h))] at this; simp only [bne]; rw [show ((S[k].toNat : Int) == 32) = false from this]; rfl
            have h10 : ((S[k].toNat : Int) != 10) = true := by have := e32 (c := S[k]) (m := 10); rw [decide_eq_false (fun h => hsep (.inr h))] at this; simp only [bne]; rw [show ((S[k].toNat : Int) == 10) = false from this]; rfl
            rw [stB_ch hsep] at hst'
            have HS2 := Lib.hid hst'
            clear hst' hsep
            go_wp2
            go_roundw
            case rel => exact ⟨k + 1, _, by omega, by go_num, rfl, by rw [HS2.out]; exact HCH.out, by rw [HS2.out], by rw [HS2.out], HB.out⟩
            case measure => simp [intOf]; omega
      · obtain rfl : k = S.size := by omega
        have hfin : O.data.toList = headT V F.length ++ blankGo (ksOf ss) 0 (F.flatMap clauseT) := by
          have h := hO
          rw [← HSZ.out, HS.out, foldB_text] at h
          exact h
        have hbl := blank_len (V := V) (F := F) (by omega) (by omega) HG.out.i64 HG.out.sm HG.out.smc (ksOf ss)
        have hOs : O.size ≤ 30000 := by rw [Lib.size_eq, hfin]; exact hbl
        have HFIN := Lib.hid hfin
        have z0 := (HB.out.cell (p := ⟨w1.heap.size, 0, none⟩) xs').trans x0'
        have z1 := (HB.out.cell (p := ⟨w1.heap.size, 1, none⟩) xs').trans x1'
        have zs := Nat.lt_of_lt_of_le xs' HB.out.size
        have HBR := Lib.hid (HB2.out.trans (HB.out.mono HB2.out.size))
        have HLR := Lib.hid (HL2.out.below HB.out)
        have HPR0 : Hid (∀ (p : Nat) (D : ByteArray) (W : World), D.data.toList = preS p ++ (headT V F.length ++ blankGo (ksOf ss) 0 (F.flatMap clauseT)) → Calls Tryd.prog 15 #[.string D] W (ParseEnd W (V, F, 0, 0))) := Lib.hid fun p D W hD => by
          have hpl : (preS p).length ≤ 10 := by unfold preS; split <;> simp
          have hlen : (preS p ++ (headT V F.length ++ blankGo (ksOf ss) 0 (F.flatMap clauseT))).length ≤ 65536 := by rw [List.length_append]; omega
          have h := parse_any D W (by rw [Lib.size_eq, hD]; omega)
          rw [hD, parse_made V F (by omega) (by omega) (by have := HG.out.sm; omega) HCO.out p (ksOf ss) hlen] at h
          exact h
        generalize foldB (ksOf ss) S.data.toList S.size = st at *
        clear hO hfin hbl hbd hb x0' x1' xs' hlt hk
        by_cases hs0 : ss.length = 0
        · have hz0 : decide (0 < ss.length) = false := decide_eq_false (by omega)
          have HPR := Lib.hid (HPR0.out 0)
          clear hs0
          go_wp2_with (go_at_call 15; refine (HPR.out _ _ (by first | (rw [HFIN.out]; rfl) | (rw [ByteArray.data_append, Array.toList_append, HFIN.out]; rfl))).mono ?_; rintro e w3 ⟨v3, B3, rfl, hb3, hB3, ho3⟩; refine Hid.out ?_)
          refine Lib.hid ?_
          have y0 := (hb3.cell (p := ⟨w1.heap.size, 0, none⟩) zs).trans z0
          have y1 := (hb3.cell (p := ⟨w1.heap.size, 1, none⟩) zs).trans z1
          have ys : w1.heap.size < w3.heap.size := by have := hb3.size; (try simp at this); omega
          have hl3 : Lists w3 v3 F := ho3.lists (by have := HG.out.sm; omega) (fun j hj => by have := HG.out.smc _ (mem_getDL hj); omega)
          obtain ⟨p3, c3, rfl, _⟩ := id hl3
          have hal : Below w3.heap.size w3 (w3.alloc (.cells #[.int .i64 V, .slice p3 F.length c3] 24)) := (Below.refl _ _).alloc (Nat.le_refl _) _
          have hB3' := HBR.out.trans (hb3.mono HBR.out.size)
          have HB4 := Lib.hid (hB3'.trans (hal.mono hB3'.size))
          have HQ := Lib.hid (keqf_any V V (.slice pv F.length cv) (.slice p3 F.length c3) F F _ ((HLR.out.below hb3).below hal) (hl3.below hal))
          have hee : eqF V F V F = true := by simp [eqF]
          rw [hee] at HQ
          clear hal hB3' hb3 hl3 ho3 hee
          go_wp2_with (first
            | (go_at_call 17; refine HQ.out.mono ?_; rintro e w5 ⟨rfl, hb5⟩; have HB5 := Lib.hid (HB4.out.trans (hb5.mono HB4.out.size)); clear hb5)
            | (go_at_call 12; refine (known_any _ (HT.out.below HB5.out)).mono ?_; rintro e w6 ⟨rfl, hb6⟩))
          have hB6 := HB5.out.trans (hb6.mono HB5.out.size)
          go_ret
          exact ⟨rfl, hB6⟩
        · have hz0 : 0 < ss.length := by omega
          obtain ⟨b, off, rfl, d1, hwf⟩ : ∃ b off, pu = some ⟨b, off, none⟩ ∧ wr.cell? ⟨b, off, none⟩ = some (.int .u8 (ss.getD 0 0)) ∧ (Lit.int .u8 (ss.getD 0 0)).wf = true := by
            obtain ⟨p', c', e, _, _, h1, h2⟩ := HSS.out
            injection e with e1 e2 e3
            subst e1
            obtain ⟨b, off, e, h3⟩ := h2 hz0
            exact ⟨b, off, e, (HBR.out.cell (p := ⟨b, off, none⟩) (World.block_lt_of_cell? _ _ (h3 0 hz0))).trans (h3 0 hz0), h1 _ (mem_getD hz0)⟩
          have dlt : b < wr.heap.size := World.block_lt_of_cell? _ _ d1
          generalize ss.getD 0 0 = q at *
          have hqb : 0 ≤ q ∧ q ≤ 255 := by simpa [Lit.wf, IntKind.min, IntKind.max, IntKind.signed, IntKind.bits] using hwf
          obtain ⟨hq1, hq2⟩ := hqb
          have htm : q.tmod 4 = q % 4 := Int.tmod_eq_emod_of_nonneg hq1
          have hr : q % 4 = 0 ∨ q % 4 = 1 ∨ q % 4 = 2 ∨ q % 4 = 3 := by omega
          clear hwf hs0
          rcases hr with h | h | h | h
          · rw [h] at htm
            clear h
            have HPR := Lib.hid (HPR0.out 0)
            go_wp2_with (go_at_call 15; refine (HPR.out _ _ (by first | (rw [HFIN.out]; rfl) | (rw [ByteArray.data_append, Array.toList_append, HFIN.out]; rfl))).mono ?_; rintro e w3 ⟨v3, B3, rfl, hb3, hB3, ho3⟩; refine Hid.out ?_)
            refine Lib.hid ?_
            have y0 := (hb3.cell (p := ⟨w1.heap.size, 0, none⟩) (by show w1.heap.size < (wr.alloc _).heap.size; simp; omega)).trans ((((Below.refl _ wr).alloc (Nat.le_refl _) _).cell (p := ⟨w1.heap.size, 0, none⟩) zs).trans z0)
            have y1 := (hb3.cell (p := ⟨w1.heap.size, 1, none⟩) (by show w1.heap.size < (wr.alloc _).heap.size; simp; omega)).trans ((((Below.refl _ wr).alloc (Nat.le_refl _) _).cell (p := ⟨w1.heap.size, 1, none⟩) zs).trans z1)
            have ys : w1.heap.size < w3.heap.size := by have := hb3.size; (try simp at this); omega
            have hl3 : Lists w3 v3 F := ho3.lists (by have := HG.out.sm; omega) (fun j hj => by have := HG.out.smc _ (mem_getDL hj); omega)
            obtain ⟨p3, c3, rfl, _⟩ := id hl3
            have hal : Below w3.heap.size w3 (w3.alloc (.cells #[.int .i64 V, .slice p3 F.length c3] 24)) := (Below.refl _ _).alloc (Nat.le_refl _) _
            have hB3' := (HBR.out.alloc HBR.out.size _).trans (hb3.mono (HBR.out.alloc HBR.out.size _).size)
            have HB4 := Lib.hid (hB3'.trans (hal.mono hB3'.size))
            have HQ := Lib.hid (keqf_any V V (.slice pv F.length cv) (.slice p3 F.length c3) F F _ (((HLR.out.below ((Below.refl _ wr).alloc (Nat.le_refl _) _)).below hb3).below hal) (hl3.below hal))
            have hee : eqF V F V F = true := by simp [eqF]
            rw [hee] at HQ
            clear hal hB3' hb3 hl3 ho3 hee
            go_wp2_with (first
              | (go_at_call 17; refine HQ.out.mono ?_; rintro e w5 ⟨rfl, hb5⟩; have HB5 := Lib.hid (HB4.out.trans (hb5.mono HB4.out.size)); clear hb5)
              | (go_at_call 12; refine (known_any _ (HT.out.below HB5.out)).mono ?_; rintro e w6 ⟨rfl, hb6⟩))
            have hB6 := HB5.out.trans (hb6.mono HB5.out.size)
            go_ret
            exact ⟨rfl, hB6⟩
          · rw [h] at htm
            clear h
            have HPR := Lib.hid (HPR0.out 1)
            go_wp2_with (go_at_call 15; refine (HPR.out _ _ (by first | (rw [HFIN.out]; rfl) | (rw [ByteArray.data_append, Array.toList_append, HFIN.out]; rfl))).mono ?_; rintro e w3 ⟨v3, B3, rfl, hb3, hB3, ho3⟩; refine Hid.out ?_)
            refine Lib.hid ?_
            have y0 := (hb3.cell (p := ⟨w1.heap.size, 0, none⟩) (by show w1.heap.size < (wr.alloc _).heap.size; simp; omega)).trans ((((Below.refl _ wr).alloc (Nat.le_refl _) _).cell (p := ⟨w1.heap.size, 0, none⟩) zs).trans z0)
            have y1 := (hb3.cell (p := ⟨w1.heap.size, 1, none⟩) (by show w1.heap.size < (wr.alloc _).heap.size; simp; omega)).trans ((((Below.refl _ wr).alloc (Nat.le_refl _) _).cell (p := ⟨w1.heap.size, 1, none⟩) zs).trans z1)
            have ys : w1.heap.size < w3.heap.size := by have := hb3.size; (try simp at this); omega
            have hl3 : Lists w3 v3 F := ho3.lists (by have := HG.out.sm; omega) (fun j hj => by have := HG.out.smc _ (mem_getDL hj); omega)
            obtain ⟨p3, c3, rfl, _⟩ := id hl3
            have hal : Below w3.heap.size w3 (w3.alloc (.cells #[.int .i64 V, .slice p3 F.length c3] 24)) := (Below.refl _ _).alloc (Nat.le_refl _) _
            have hB3' := (HBR.out.alloc HBR.out.size _).trans (hb3.mono (HBR.out.alloc HBR.out.size _).size)
            have HB4 := Lib.hid (hB3'.trans (hal.mono hB3'.size))
            have HQ := Lib.hid (keqf_any V V (.slice pv F.length cv) (.slice p3 F.length c3) F F _ (((HLR.out.below ((Below.refl _ wr).alloc (Nat.le_refl _) _)).below hb3).below hal) (hl3.below hal))
            have hee : eqF V F V F = true := by simp [eqF]
            rw [hee] at HQ
            clear hal hB3' hb3 hl3 ho3 hee
            go_wp2_with (first
              | (go_at_call 17; refine HQ.out.mono ?_; rintro e w5 ⟨rfl, hb5⟩; have HB5 := Lib.hid (HB4.out.trans (hb5.mono HB4.out.size)); clear hb5)
              | (go_at_call 12; refine (known_any _ (HT.out.below HB5.out)).mono ?_; rintro e w6 ⟨rfl, hb6⟩))
            have hB6 := HB5.out.trans (hb6.mono HB5.out.size)
            go_ret
            exact ⟨rfl, hB6⟩
          · rw [h] at htm
            clear h
            have HPR := Lib.hid (HPR0.out 2)
            go_wp2_with (go_at_call 15; refine (HPR.out _ _ (by first | (rw [HFIN.out]; rfl) | (rw [ByteArray.data_append, Array.toList_append, HFIN.out]; rfl))).mono ?_; rintro e w3 ⟨v3, B3, rfl, hb3, hB3, ho3⟩; refine Hid.out ?_)
            refine Lib.hid ?_
            have y0 := (hb3.cell (p := ⟨w1.heap.size, 0, none⟩) (by show w1.heap.size < (wr.alloc _).heap.size; simp; omega)).trans ((((Below.refl _ wr).alloc (Nat.le_refl _) _).cell (p := ⟨w1.heap.size, 0, none⟩) zs).trans z0)
            have y1 := (hb3.cell (p := ⟨w1.heap.size, 1, none⟩) (by show w1.heap.size < (wr.alloc _).heap.size; simp; omega)).trans ((((Below.refl _ wr).alloc (Nat.le_refl _) _).cell (p := ⟨w1.heap.size, 1, none⟩) zs).trans z1)
            have ys : w1.heap.size < w3.heap.size := by have := hb3.size; (try simp at this); omega
            have hl3 : Lists w3 v3 F := ho3.lists (by have := HG.out.sm; omega) (fun j hj => by have := HG.out.smc _ (mem_getDL hj); omega)
            obtain ⟨p3, c3, rfl, _⟩ := id hl3
            have hal : Below w3.heap.size w3 (w3.alloc (.cells #[.int .i64 V, .slice p3 F.length c3] 24)) := (Below.refl _ _).alloc (Nat.le_refl _) _
            have hB3' := (HBR.out.alloc HBR.out.size _).trans (hb3.mono (HBR.out.alloc HBR.out.size _).size)
            have HB4 := Lib.hid (hB3'.trans (hal.mono hB3'.size))
            have HQ := Lib.hid (keqf_any V V (.slice pv F.length cv) (.slice p3 F.length c3) F F _ (((HLR.out.below ((Below.refl _ wr).alloc (Nat.le_refl _) _)).below hb3).below hal) (hl3.below hal))
            have hee : eqF V F V F = true := by simp [eqF]
            rw [hee] at HQ
            clear hal hB3' hb3 hl3 ho3 hee
            go_wp2_with (first
              | (go_at_call 17; refine HQ.out.mono ?_; rintro e w5 ⟨rfl, hb5⟩; have HB5 := Lib.hid (HB4.out.trans (hb5.mono HB4.out.size)); clear hb5)
              | (go_at_call 12; refine (known_any _ (HT.out.below HB5.out)).mono ?_; rintro e w6 ⟨rfl, hb6⟩))
            have hB6 := HB5.out.trans (hb6.mono HB5.out.size)
            go_ret
            exact ⟨rfl, hB6⟩
          · rw [h] at htm
            clear h
            have HPR := Lib.hid (HPR0.out 3)
            go_wp2_with (go_at_call 15; refine (HPR.out _ _ (by first | (rw [HFIN.out]; rfl) | (rw [ByteArray.data_append, Array.toList_append, HFIN.out]; rfl))).mono ?_; rintro e w3 ⟨v3, B3, rfl, hb3, hB3, ho3⟩; refine Hid.out ?_)
            refine Lib.hid ?_
            have y0 := (hb3.cell (p := ⟨w1.heap.size, 0, none⟩) (by show w1.heap.size < (wr.alloc _).heap.size; simp; omega)).trans ((((Below.refl _ wr).alloc (Nat.le_refl _) _).cell (p := ⟨w1.heap.size, 0, none⟩) zs).trans z0)
            have y1 := (hb3.cell (p := ⟨w1.heap.size, 1, none⟩) (by show w1.heap.size < (wr.alloc _).heap.size; simp; omega)).trans ((((Below.refl _ wr).alloc (Nat.le_refl _) _).cell (p := ⟨w1.heap.size, 1, none⟩) zs).trans z1)
            have ys : w1.heap.size < w3.heap.size := by have := hb3.size; (try simp at this); omega
            have hl3 : Lists w3 v3 F := ho3.lists (by have := HG.out.sm; omega) (fun j hj => by have := HG.out.smc _ (mem_getDL hj); omega)
            obtain ⟨p3, c3, rfl, _⟩ := id hl3
            have hal : Below w3.heap.size w3 (w3.alloc (.cells #[.int .i64 V, .slice p3 F.length c3] 24)) := (Below.refl _ _).alloc (Nat.le_refl _) _
            have hB3' := (HBR.out.alloc HBR.out.size _).trans (hb3.mono (HBR.out.alloc HBR.out.size _).size)
            have HB4 := Lib.hid (hB3'.trans (hal.mono hB3'.size))
            have HQ := Lib.hid (keqf_any V V (.slice pv F.length cv) (.slice p3 F.length c3) F F _ (((HLR.out.below ((Below.refl _ wr).alloc (Nat.le_refl _) _)).below hb3).below hal) (hl3.below hal))
            have hee : eqF V F V F = true := by simp [eqF]
            rw [hee] at HQ
            clear hal hB3' hb3 hl3 ho3 hee
            go_wp2_with (first
              | (go_at_call 17; refine HQ.out.mono ?_; rintro e w5 ⟨rfl, hb5⟩; have HB5 := Lib.hid (HB4.out.trans (hb5.mono HB4.out.size)); clear hb5)
              | (go_at_call 12; refine (known_any _ (HT.out.below HB5.out)).mono ?_; rintro e w6 ⟨rfl, hb6⟩))
            have hB6 := HB5.out.trans (hb6.mono HB5.out.size)
            go_ret
            exact ⟨rfl, hB6⟩
  · have hb2 := hb1.alloc hb1.size (.cells #[.int .i64 0, .slice none 0 0] 24)
    go_wp2_with (go_at_call 12; refine (known_any _ (HT.out.below hb2)).mono ?_; rintro e w6 ⟨rfl, hb6⟩)
    have hB6 := hb2.trans (hb6.mono hb2.size)
    go_ret
    exact ⟨rfl, hB6⟩
end L
end Go.Proofs.YtlkhabdpancjjaaDoor
