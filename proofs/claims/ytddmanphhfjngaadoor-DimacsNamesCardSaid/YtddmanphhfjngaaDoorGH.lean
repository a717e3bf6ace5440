/- DimacsNames: the walk. -/
import Derived.Test.YtddmanphhfjngaaDoorGA
import Derived.Test.YtddmanphhfjngaaDoorPI
namespace Go.Proofs.YtddmanphhfjngaaDoor
open Go.RowKit PA
namespace L
open K

theorem lists_nil (w : World) : Lists w (.slice none 0 0) [] := ⟨none, 0, rfl, Nat.le_refl _, by decide, fun h => absurd h (by decide)⟩
theorem one_lists (w : World) (b c : Nat) (h1 : Box w c 34 #[.slice (some ⟨b, 0, none⟩) 2 2]) (h2 : Box w b 3 #[.int .i64 1, .int .i64 2]) : Lists w (.slice (some ⟨c, 0, none⟩) 1 1) [[1, 2]] := by
  refine ⟨_, 1, rfl, by decide, by decide, fun _ => ⟨c, 0, rfl, fun j hj => ?_⟩⟩
  have hj2 : j < 1 := hj
  match j, hj2 with
  | 0, _ => exact ⟨_, h1.cell 0, _, 2, rfl, by decide, by decide, fun _ => ⟨b, 0, rfl, fun i hi => by
      have hi2 : i < 2 := hi
      match i, hi2 with
      | 0, _ => exact h2.cell 0
      | 1, _ => exact h2.cell 1⟩⟩
abbrev textRow : Array Value := (badT.map fun x => Value.string ⟨x.1.toArray⟩).toArray
abbrev lineRow : Array Value := (badT.map fun x => Value.int .i64 x.2.1).toArray
abbrev errRow : Array Value := (badT.map fun x => Value.int .i64 x.2.2).toArray
theorem bad_rows (k : Nat) (h : k < 18) : ∃ T l e, textRow[k]? = some (.string ⟨T.toArray⟩) ∧ lineRow[k]? = some (.int .i64 l) ∧ errRow[k]? = some (.int .i64 e) ∧ parseS T = (0, [], l, e) ∧ T.length ≤ 1000 := by
  have hk : k < badT.length := h
  have hm := List.getElem_mem hk
  refine ⟨badT[k].1, badT[k].2.1, badT[k].2.2, ?_, ?_, ?_, bad_parse _ hm, ?_⟩
  · simp [textRow, hk]
  · simp [lineRow, hk]
  · simp [errRow, hk]
  · have : ∀ x ∈ badT, x.1.length ≤ 1000 := by decide
    exact this _ hm
theorem parse_bad {w w' : World} {ln er : Int} {e : Ending} (h : ParseEnd w (0, [], ln, er) e w') : ∃ p c, e = .returned (.tuple #[.agg #[.int .i64 0, .slice p 0 c], .int .i64 ln, .int .i64 er]) ∧ Below w.heap.size w w' ∧ Lists w' (.slice p 0 c) [] := by
  obtain ⟨v, B, rfl, hb, hB, ho⟩ := h
  have hl : Lists w' v [] := ho.lists (by simp) (by simp)
  obtain ⟨p, c, rfl, _⟩ := id hl
  exact ⟨p, c, rfl, hb, hl⟩
theorem all_rep (N : Nat) (bs : List UInt8) (hl : bs.length = N) (h : ∀ j, j < N → bs.getD j 0 = 32) : bs = List.replicate N 32 := by
  refine List.ext_getElem (by rw [List.length_replicate]; exact hl) fun i h1 h2 => ?_
  have := h i (by omega)
  rw [List.getD_eq_getElem?_getD, List.getElem?_eq_getElem h1, Option.getD_some] at this
  rw [this, List.getElem_replicate]
theorem add_at (g o j : Nat) : (⟨g, o, none⟩ : Addr).add j = ⟨g, o + j, none⟩ := by unfold Addr.add; split <;> simp_all
theorem info3n : (Tryd.prog.info? 3).map (fun i => (i.zero, i.size, i.bytes)) = some (some (.int .i64 0), 1, 8) := by kernel_rfl
theorem all_big (M : Nat) (cs : List Int) (hl : cs.length = M) (hM : 4096 = M) (h : ∀ j, j < M → cs.getD j 0 = 524288) : cs = bigC := by
  unfold bigC
  refine List.ext_getElem (by rw [List.length_replicate, hM]; exact hl) fun i h1 h2 => ?_
  have := h i (by omega)
  rw [List.getD_eq_getElem?_getD, List.getElem?_eq_getElem h1, Option.getD_some] at this
  rw [this, List.getElem_replicate]
theorem big_i64 : ∀ l ∈ [bigC, bigC, bigC], ∀ x ∈ l, I64 x := by
  intro l hl x hx
  have hl' : l = bigC := by simpa using hl
  rw [hl'] at hx
  have := (big_ok.2 x hx).2
  unfold I64; omega
theorem big_fmt : fmtS 1048576 [bigC, bigC, bigC] = ([], 5) := by
  have hck : checkF 1048576 [bigC, bigC, bigC] = 0 := by
    have hce : checkE 1048576 bigC = 0 := by
      have hany : bigC.any (fun x => decide (x = 0) || decide ((1048576 : Int) < av x)) = false := by
        rw [List.any_eq_false]
        intro x hx
        have := big_ok.2 x hx
        have ha : av x ≤ 1048576 := by unfold av; split <;> omega
        simp [this.1]; omega
      have hl := big_ok.1
      simp only [checkE, hany]
      rw [if_neg (by omega), if_neg (by omega)]
      rfl
    simp [checkF, firstE, hce]
  unfold fmtS
  rw [if_neg (by omega), if_pos big_len]
theorem nil_lists (w : World) (p : Option Addr) (c : Nat) : Lists w (.slice p 0 c) [] := ⟨p, c, rfl, Nat.zero_le _, by decide, fun h => absurd h (by decide)⟩
set_option maxRecDepth 100000 in
set_option maxHeartbeats 8000000 in
theorem names_walk (w : World) (ht : Tab w) :
    Calls Tryd.prog 5 #[] w fun e w' => e = .returned (.bool true) ∧ Below w.heap.size w w' := by
  have HT := Lib.hid ht
  clear ht
  have hpA := parse_any ⟨exA.toArray⟩ w (by decide)
  have hpB := fun W => parse_any ⟨exB.toArray⟩ W (by decide)
  rw [show (⟨exA.toArray⟩ : ByteArray).data.toList = exA from rfl, exA_parse] at hpA
  rw [show (⟨exB.toArray⟩ : ByteArray).data.toList = exB from rfl, exB_parse] at hpB
  have HPB := Lib.hid hpB
  clear hpB
  go_enter Tryd.func5, Tryd.ntmps5
  go_wp2_with (go_at_call 15; refine hpA.mono ?_; rintro e w1 ⟨v1, B1, rfl, hb1, hB1, ho1⟩; refine Hid.out ?_)
  refine Lib.hid ?_
  have hl1 : Lists w1 v1 [[1, 2]] := ho1.lists (by decide) (by decide)
  obtain ⟨p1, c1, rfl, _⟩ := id hl1
  have HB1 := Lib.hid hb1
  have HL1 := Lib.hid hl1
  clear hb1 hB1 ho1 hpA hl1
  go_wp2_with (first
    | (go_at_call 17
       with_reducible refine (keqf_any 2 2 _ _ [[1, 2]] [[1, 2]] _ ?h1 ?h2).mono ?_
       · exact HL1.out.below ((((Below.refl _ _).alloc (Nat.le_refl _) _).alloc (by simp) _).alloc (by simp; omega) _)
       · exact one_lists _ (w1.heap.size + 1) _ (Box.at _ _ _ (by simp)) ((Box.at _ _ _ (by simp)).alloc _)
       rw [show eqF 2 [[1, 2]] 2 [[1, 2]] = true by decide]
       rintro e w2 ⟨rfl, hb2⟩
       refine Hid.out ?_))
  refine Lib.hid ?_
  have hs1 := HB1.out.size
  have hB2 := (((HB1.out.alloc HB1.out.size (.cells #[.int .i64 2, .slice p1 1 c1] 24)).alloc (by simp; omega) (.cells #[.int .i64 1, .int .i64 2] 3)).alloc (by simp; omega) (.cells #[.slice (some ⟨w1.heap.size + 1, 0, none⟩) 2 2] 34)).trans (hb2.mono (by simp; omega))
  have hX2 : Box w2 w1.heap.size 24 #[.int .i64 2, .slice p1 1 c1] := (((Box.new w1 24 #[.int .i64 2, .slice p1 1 c1]).alloc (.cells #[.int .i64 1, .int .i64 2] 3)).alloc (.cells #[.slice (some ⟨w1.heap.size + 1, 0, none⟩) 2 2] 34)).below hb2 (by simp; omega)
  have HB2 := Lib.hid hB2
  have HX2 := Lib.hid hX2
  clear hb2 hB2 hX2
  go_wp2_with (go_at_call 15; refine (HPB.out _).mono ?_; rintro e w3 ⟨v3, B3, rfl, hb3, hB3, ho3⟩; refine Hid.out ?_)
  refine Lib.hid ?_
  have hl3 : Lists w3 v3 [] := ho3.lists (by decide) (by decide)
  obtain ⟨p3, c3, rfl, _⟩ := id hl3
  have hX3 := HX2.out.below hb3 HX2.out.lt
  have x0 := hX3.cell 0
  have x1 := hX3.cell 1
  have f0 := hX3.frozen 0
  have f1 := hX3.frozen 1
  have xs := hX3.lt
  simp only [List.getElem?_toArray, List.getElem?_cons_zero, List.getElem?_cons_succ] at x0 x1
  have HB3 := Lib.hid (HB2.out.trans (hb3.mono HB2.out.size))
  have HL3 := Lib.hid hl3
  have HX3 := Lib.hid hX3
  clear hb3 hB3 ho3 hl3 hX3
  have hs2 := HB2.out.size
  have hg0 : w.heap.size ≤ w1.heap.size := hs1
  go_wp2_with (first
    | (go_at_call 17
       with_reducible refine (keqf_any 0 0 _ _ [] [] _ ?h3 ?h4).mono ?_
       · exact nil_lists _ p3 c3
       · exact lists_nil _
       rw [show eqF 0 [] 0 [] = true by decide]
       rintro e w5 ⟨rfl, hb5⟩
       refine Hid.out ?_))
  refine Lib.hid ?_
  have hB4 := ((HB3.out.setCell (p := ⟨w1.heap.size, 0, none⟩) hg0 (.int .i64 0)).setCell (p := ⟨w1.heap.size, 1, none⟩) hg0 (.slice p3 0 c3))
  have hB5 := hB4.trans (hb5.mono hB4.size)
  have HB5 := Lib.hid hB5
  clear hB4 hB5 hb5 x0 x1 f0 f1 xs HX3 HL3 HX2 HL1 hs1 hs2 hg0
  go_wp2
  obtain ⟨W6, hW6⟩ : ∃ W6, ((w5.alloc (.cells textRow 9)).alloc (.cells lineRow 3)).alloc (.cells errRow 27) = W6 := ⟨_, rfl⟩
  change Code.wp Tryd.prog _ _ _ (((w5.alloc (.cells textRow 9)).alloc (.cells lineRow 3)).alloc (.cells errRow 27))
  have hsz5 := HB5.out.size
  have HB6 : Hid (Below w.heap.size w W6) := by
    rw [← hW6]
    exact Lib.hid (((HB5.out.alloc hsz5 _).alloc (by simp; omega) _).alloc (by simp; omega) _)
  have HR1 : Hid (Box W6 w5.heap.size 9 textRow) := by rw [← hW6]; exact Lib.hid (((Box.new _ _ _).alloc _).alloc _)
  have HR2 : Hid (Box W6 (w5.heap.size + 1) 3 lineRow) := by rw [← hW6]; exact Lib.hid ((Box.at _ _ _ (by simp)).alloc _)
  have HR3 : Hid (Box W6 (w5.heap.size + 1 + 1) 27 errRow) := by rw [← hW6]; exact Lib.hid (Box.at _ _ _ (by simp))
  rw [hW6]
  clear hW6 hsz5
  go_loopw [7] (fun i wr => ∃ k : Nat, k ≤ 18 ∧ i = .int .i64 k ∧ Below W6.heap.size W6 wr) (fun i _ => 18 - (intOf i).toNat)
  case atStart => exact ⟨0, Nat.zero_le _, rfl, Below.refl _ _⟩
  case round =>
    obtain ⟨k, hk, rfl, hbr⟩ := hrel
    have HBR := Lib.hid hbr
    clear hbr
    by_cases hlt : k < 18
    · obtain ⟨T, l, e, h1, h2, h3, h4, h5⟩ := bad_rows k hlt
      have t1 := (HR1.out.below HBR.out HR1.out.lt).cell k
      have t2 := (HR2.out.below HBR.out HR2.out.lt).cell k
      have t3 := (HR3.out.below HBR.out HR3.out.lt).cell k
      rw [h1] at t1
      rw [h2] at t2
      rw [h3] at t3
      have hp := parse_any ⟨T.toArray⟩ wr (by show T.toArray.size ≤ _; simp; omega)
      rw [show (⟨T.toArray⟩ : ByteArray).data.toList = T by simp, h4] at hp
      generalize (⟨T.toArray⟩ : ByteArray) = S at *
      have e1 : (l != l) = false := by simp
      have e2 : (e != e) = false := by simp
      have HT1 := Lib.hid t1
      have HT2 := Lib.hid t2
      have HT3 := Lib.hid t3
      have HL2 := Lib.hid h2
      have HL3 := Lib.hid h3
      clear h1 h2 h3 h4 h5 t2 t3
      go_wp2_with (go_at_call 15; refine hp.mono ?_; intro e' w7 h7; obtain ⟨pa, ca, rfl, hb7, hla⟩ := parse_bad h7; clear h7; refine Hid.out ?_)
      refine Lib.hid ?_
      have hal : Below w7.heap.size w7 (w7.alloc (.cells #[.int .i64 0, .slice pa 0 ca] 24)) := (Below.refl _ _).alloc (Nat.le_refl _) _
      have HB7 := Lib.hid (HBR.out.trans (hb7.mono HBR.out.size))
      have HB8 := Lib.hid (HB7.out.trans (hal.mono HB7.out.size))
      have HQ := Lib.hid (keqf_any 0 0 (.slice pa 0 ca) (.slice none 0 0) [] [] _ (hla.below hal) (lists_nil _))
      rw [show eqF 0 [] 0 [] = true by decide] at HQ
      clear hal hla hb7 hp t1
      go_wp2_with (go_at_call 17; refine HQ.out.mono ?_; rintro e' w9 ⟨rfl, hb9⟩; have HB9 := Lib.hid (HB8.out.trans (hb9.mono HB8.out.size)); clear hb9; have q2 := (HR2.out.below HB9.out HR2.out.lt).cell k; have q3 := (HR3.out.below HB9.out HR3.out.lt).cell k; rw [HL2.out] at q2; rw [HL3.out] at q3)
      go_roundw
      case rel => exact ⟨k + 1, by omega, by go_num, HB9.out⟩
      case measure => simp [intOf]; omega
    · clear HR1 HR2 HR3
      have HBW := Lib.hid (HB6.out.trans (HBR.out.mono HB6.out.size))
      have hsw := HBW.out.size
      obtain ⟨i0, hi, hz0, hz1, hz2⟩ := info_parts Tryd.info5
      go_wp2_with (at_make; refine wpList_make_full _ rfl _ _ 37 rfl w.heap.size 5 i0 (.int .u8 0) 1 Tryd.underlying37 hi hz0 hz1 .i64 .i64 _ _ 65537 rfl rfl rfl rfl (by rw [hz2]; omega) (by unfold maxLen; omega) hsw ?_)
      intro w8 hown8 hgrow8
      rw [toList_madeCells_one] at hown8
      have hB8 := HBW.out.grown hgrow8 hsw (fun k h => by cases h)
      have hown8' : w8.ownsRow w.heap.size 5 1 (.slice (some ⟨wr.heap.size, 0, none⟩) 65537 65537) 65537 (Lib.byteCells (List.replicate 65537 0)) := by
        unfold Lib.byteCells
        rw [List.map_replicate]
        exact hown8
      have HO8 := Lib.hid hown8'
      have HB8 := Lib.hid hB8
      have HHS : Hid (w.heap.size ≤ wr.heap.size) := Lib.hid hsw
      clear hown8 hown8' hgrow8 hB8 hi hz0 hz1 hz2 hsw
      generalize wr.heap.size = gb at *
      generalize hN : (65537 : Nat) = N at *
      have hN1 : 60000 ≤ N := by omega
      have hN3 : ¬ N = 1 := by omega
      have hN4 : ¬ N - 1 = 0 := by omega
      have hN2 : N ≤ 70000 := by omega
      have HN := Lib.hid hN
      clear hN
      go_wp2
      go_loopw [12] (fun i wq => ∃ (k : Nat) (bs : List UInt8), k ≤ N ∧ i = .int .i64 k ∧ bs.length = N ∧ (∀ j, j < k → bs.getD j 0 = 32) ∧ wq.ownsRow w.heap.size 5 1 (.slice (some ⟨gb, 0, none⟩) N N) N (Lib.byteCells bs) ∧ Below w.heap.size w wq) (fun i _ => N - (intOf i).toNat)
      case atStart => exact ⟨0, List.replicate N 0, Nat.zero_le _, rfl, List.length_replicate, fun j hj => absurd hj (Nat.not_lt_zero _), HO8.out, HB8.out⟩
      case round =>
        obtain ⟨k, bs, hk, rfl, hbs, hval, hown, hb⟩ := hrel
        have HV := Lib.hid hval
        clear hval
        by_cases hlt : k < N
        · have dS := hown.cellAt k (by omega)
          have fS := hown.frozenAt k
          have hkb : k < bs.length := by omega
          unfold Lib.byteCells at dS
          rw [List.getElem?_map, List.getElem?_eq_getElem hkb] at dS
          simp only [Option.map_some] at dS
          generalize (bs[k].toNat : Int) = z at dS
          have HO := Lib.hid hown
          have HBS := Lib.hid hbs
          have HKB := Lib.hid hkb
          have HBQ := Lib.hid hb
          clear hown hbs hkb hb
          go_wp2
          go_roundw
          case rel =>
            refine ⟨k + 1, bs.set k 32, by omega, by go_num, by simpa using HBS.out, fun j hj => ?_, ?_, HBQ.out.setCell HHS.out _⟩
            · by_cases hjk : j = k
              · subst hjk; simp [List.getD, HKB.out]
              · have := HV.out j (by omega)
                simp only [List.getD_eq_getElem?_getD, List.getElem?_set, show ¬ k = j by omega, if_false] at this ⊢
                exact this
            · have := (HO.out.stored k (.int .u8 32)).1
              unfold Lib.byteCells
              rw [List.map_set]
              exact this
          case measure => simp [intOf]; omega
        · have hkN : N = k := by omega
          subst hkN
          have hcells : ∀ (W : World), W.ownsRow w.heap.size 5 1 (.slice (some ⟨gb, 0, none⟩) N N) N (Lib.byteCells bs) → ∀ j (hj : j < bs.length), W.cell? ⟨gb, j, none⟩ = some (.int .u8 (bs[j].toNat : Int)) := fun W hW j hj => by
            rw [hW.cellAt j (by omega)]
            simp [Lib.byteCells, hj]
          have hc1 := fun (W : World) hW => run_convert_bytes_back (P := Tryd.prog) W 37 9 5 ⟨gb, 0, none⟩ N bs Tryd.underlying37 Tryd.underlying5 Tryd.underlying9 (fun j hj => by rw [add_at, Nat.zero_add]; exact hcells W hW j hj)
          have hd : (bs.drop 1).length = N - 1 := by rw [List.length_drop, hbs]
          have hc2 := fun (W : World) hW => run_convert_bytes_back (P := Tryd.prog) W 37 9 5 ⟨gb, 1, none⟩ (N - 1) (bs.drop 1) Tryd.underlying37 Tryd.underlying5 Tryd.underlying9 (fun j hj => by
            rw [add_at, List.getElem_drop]
            exact hcells W hW (1 + j) (by omega))
          rw [hbs] at hc1
          rw [hd] at hc2
          have hp1 := fun W => parse_any ⟨bs.toArray⟩ W (by show bs.toArray.size ≤ _; simp [hbs]; omega)
          have hp2 := fun W => parse_any ⟨(bs.drop 1).toArray⟩ W (by show (bs.drop 1).toArray.size ≤ _; simp [hbs]; omega)
          have e1 : parseS bs = (0, [], 0, 5) := long_any bs (by have := HN.out; omega)
          have e2 : parseS (bs.drop 1) = (0, [], 2, 4) := by
            rw [all_rep (N - 1) (bs.drop 1) hd (fun j hj => by
              have := HV.out (1 + j) (by omega)
              rw [List.getD_eq_getElem?_getD, List.getElem?_drop]
              rwa [List.getD_eq_getElem?_getD] at this)]
            exact blank_any (N - 1) (by have := HN.out; omega) (by have := HN.out; omega)
          rw [show (⟨bs.toArray⟩ : ByteArray).data.toList = bs by simp, e1] at hp1
          rw [show (⟨(bs.drop 1).toArray⟩ : ByteArray).data.toList = bs.drop 1 by simp, e2] at hp2
          have HC2 := Lib.hid hc2
          have HP2 := Lib.hid hp2
          have HOW := Lib.hid hown
          have HBX := Lib.hid hb
          have hcv1 := hc1 _ hown
          have HP1 := Lib.hid hp1
          clear hcells hc1 hc2 hd hp1 hp2 e1 e2 hown hb HV hbs
          generalize (⟨bs.toArray⟩ : ByteArray) = S1 at *
          generalize (⟨(bs.drop 1).toArray⟩ : ByteArray) = S2 at *
          go_wp2_with (go_at_call 15; refine (HP1.out _).mono ?_; intro e' w10 h10; obtain ⟨pa, ca, rfl, hb10, hla⟩ := parse_bad h10; clear h10; refine Hid.out ?_)
          refine Lib.hid ?_
          have ho10 := owns_below HOW.out hb10 (Nat.le_refl _)
          have hcv2 := HC2.out _ ho10
          have HB10 := Lib.hid (HBX.out.trans (hb10.mono HBX.out.size))
          clear hb10 hla hcv1 ho10
          go_wp2_with (go_at_call 15; refine (HP2.out _).mono ?_; intro e' w11 h11; obtain ⟨pb, cb, rfl, hb11, hlb⟩ := parse_bad h11; clear h11; refine Hid.out ?_)
          refine Lib.hid ?_
          have HB11 := Lib.hid (HB10.out.trans (hb11.mono HB10.out.size))
          clear hb11 hcv2 hlb
          have hB12 := HB11.out.alloc HB11.out.size (.cells #[.int .i64 0, .slice pb 0 cb] 24)
          have hs12 := hB12.size
          have HB12 := Lib.hid hB12
          clear hB12
          obtain ⟨i1, hi, hz0, hz1, hz2⟩ := info_parts info3n
          go_wp2_with (at_make; refine wpList_make_full _ rfl _ _ 34 rfl w.heap.size 3 i1 (.int .i64 0) 1 Tryd.underlying34 hi hz0 hz1 .i64 .i64 _ _ 4096 rfl rfl rfl rfl (by rw [hz2]; omega) (by unfold maxLen; omega) hs12 ?_)
          intro w13 hown13 hgrow13
          rw [toList_madeCells_one] at hown13
          have hB13 := HB12.out.grown hgrow13 hs12 (fun k h => by cases h)
          have hown13' : w13.ownsRow w.heap.size 3 1 (.slice (some ⟨w11.heap.size + 1, 0, none⟩) 4096 4096) 4096 ((List.replicate 4096 (0 : Int)).map (Value.int .i64)) := by
            rw [List.map_replicate]
            exact hown13
          have HO13 := Lib.hid hown13'
          have HB13 := Lib.hid hB13
          have HHC : Hid (w.heap.size ≤ w11.heap.size + 1) := Lib.hid (by simpa using hs12)
          clear hown13 hown13' hgrow13 hB13 hi hz0 hz1 hz2 hs12
          generalize w11.heap.size + 1 = gc at *
          generalize hM : (4096 : Nat) = M at *
          have hM1 : 1 ≤ M := by omega
          have hM2 : M ≤ 70000 := by omega
          have HM := Lib.hid hM
          clear hM
          go_wp2
          go_loopw [17] (fun i wq => ∃ (k : Nat) (bs : List Int), k ≤ M ∧ i = .int .i64 k ∧ bs.length = M ∧ (∀ j, j < k → bs.getD j 0 = 524288) ∧ wq.ownsRow w.heap.size 3 1 (.slice (some ⟨gc, 0, none⟩) M M) M (bs.map (Value.int .i64)) ∧ Below w.heap.size w wq) (fun i _ => M - (intOf i).toNat)
          case atStart => exact ⟨0, List.replicate M 0, Nat.zero_le _, rfl, List.length_replicate, fun j hj => absurd hj (Nat.not_lt_zero _), HO13.out, HB13.out⟩
          case round =>
            obtain ⟨k2, cs, hk2, rfl, hcs, hval, hown, hb⟩ := hrel
            have HV := Lib.hid hval
            clear hval
            by_cases hlt2 : k2 < M
            · have dS := hown.cellAt k2 (by omega)
              have fS := hown.frozenAt k2
              have hkb : k2 < cs.length := by omega
              rw [List.getElem?_map, List.getElem?_eq_getElem hkb] at dS
              simp only [Option.map_some] at dS
              generalize cs[k2] = z at dS
              have HO := Lib.hid hown
              have HBS := Lib.hid hcs
              have HKB := Lib.hid hkb
              have HBQ := Lib.hid hb
              clear hown hcs hkb hb
              go_wp2
              go_roundw
              case rel =>
                refine ⟨k2 + 1, cs.set k2 524288, by omega, by go_num, by simpa using HBS.out, fun j hj => ?_, ?_, HBQ.out.setCell HHC.out _⟩
                · by_cases hjk : j = k2
                  · subst hjk; simp [List.getD, HKB.out]
                  · have := HV.out j (by omega)
                    simp only [List.getD_eq_getElem?_getD, List.getElem?_set, show ¬ k2 = j by omega, if_false] at this ⊢
                    exact this
                · have := (HO.out.stored k2 (.int .i64 524288)).1
                  rw [List.map_set]
                  exact this
              case measure => simp [intOf]; omega
            · have hkM : M = k2 := by omega
              subst hkM
              have hbig : cs = bigC := all_big _ cs hcs HM.out HV.out
              have HBIG := Lib.hid hbig
              have HO := Lib.hid hown
              have HBQ := Lib.hid hb
              have HCS := Lib.hid hcs
              clear hown hb HV hbig hcs
              have hlq := (HO.out.lt _ rfl).2
              have HLQ := Lib.hid hlq
              clear hlq
              have hXM := Box.new wr 24 #[.int .i64 1048576, .slice none 0 0]
              have hBM := HBQ.out.alloc HBQ.out.size (.cells #[.int .i64 1048576, .slice none 0 0] 24)
              have hOM := HO.out.alloc (.cells #[.int .i64 1048576, .slice none 0 0] 24)
              have HXM := Lib.hid hXM
              have HBM := Lib.hid hBM
              have HOM := Lib.hid hOM
              have hgcm : gc < wr.heap.size := HLQ.out
              have HSM : Hid ((wr.alloc (.cells #[.int .i64 1048576, .slice none 0 0] 24)).heap.size = wr.heap.size + 1) := Lib.hid (by simp)
              clear hXM hBM hOM HLQ
              go_wp2
              generalize (wr.alloc (.cells #[.int .i64 1048576, .slice none 0 0] 24)) = wm at *
              have HGM : Hid (w.heap.size ≤ wr.heap.size) := Lib.hid HBQ.out.size
              generalize wr.heap.size = gm at *
              have HGC := Lib.hid hgcm
              clear hgcm
              go_loopw [19] (fun i wq => ∃ (k : Nat) (v : Value), k ≤ 3 ∧ i = .int .i64 k ∧ Box wq gm 24 #[.int .i64 1048576, v] ∧ wq.ownsRow (gm + 1) 34 1 v k (List.replicate k (.slice (some ⟨gc, 0, none⟩) M M)) ∧ wq.ownsRow w.heap.size 3 1 (.slice (some ⟨gc, 0, none⟩) M M) M (cs.map (Value.int .i64)) ∧ Below w.heap.size w wq) (fun i _ => 3 - (intOf i).toNat)
              case atStart => exact ⟨0, .slice none 0 0, Nat.zero_le _, rfl, HXM.out, World.ownsRow_nil _ _ _ _, HOM.out, HBM.out⟩
              case round =>
                obtain ⟨k3, v9, hk3, rfl, hx, hrow, hoc, hb⟩ := hrel
                obtain ⟨pv9, cv9, rfl⟩ := owns_shape hrow
                have HX := Lib.hid hx
                have HR := Lib.hid hrow
                have HO9 := Lib.hid hoc
                have HB9 := Lib.hid hb
                have d0 := hx.cell 0
                have d1 := hx.cell 1
                simp only [List.getElem?_toArray, List.getElem?_cons_zero, List.getElem?_cons_succ] at d0 d1
                have hlt9 := hx.lt
                have HL9 := Lib.hid hlt9
                clear hx hrow hoc hb hlt9
                by_cases hlt3 : k3 < 3
                · obtain ⟨i2, hi, hz0, hz1, hz2⟩ := info_parts info36
                  go_wp2_with (at_builtin; refine wpList_append_own _ rfl _ _ 22 rfl (gm + 1) 34 i2 (.slice none 0 0) 1 24 Tryd.underlying22 hi hz0 hz1 hz2 rfl (by decide) _ _ _ rfl (HR.out.alloc _) ⟨wr.heap.size, 0, none⟩ 1 1 [.slice (some ⟨gc, 0, none⟩) M M] rfl rfl ?d1 ?d2 ?d3 ?d4 ?d5 ?_)
                  case d1 =>
                    intro j u hj
                    match j, hj with
                    | 0, hj => simp at hj; subst hj; exact cell_new (by simp) rfl
                  case d2 => intro u hu; simp at hu; subst hu; rfl
                  case d3 => unfold maxLen; omega
                  case d4 => omega
                  case d5 => have := HL9.out; simp; omega
                  intro v14 w14 hown' hgrow' _
                  have hb14 : Below w.heap.size w w14 := (HB9.out.alloc HB9.out.size (.cells #[.slice (some ⟨gc, 0, none⟩) M M] 34)).grown hgrow' (by have := HB9.out.size; simp; omega) (fun i hi => by have := (HR.out.lt i hi).1; have := HGM.out; omega)
                  have hx14 := (HX.out.alloc (.cells #[.slice (some ⟨gc, 0, none⟩) M M] 34)).grown hgrow' (fun e => by have := (HR.out.lt gm e.symm).1; omega)
                  have ho14 := (HO9.out.alloc (.cells #[.slice (some ⟨gc, 0, none⟩) M M] 34)).kept hgrow' (.inr (fun e => by have := (HR.out.lt gc e.symm).1; have := HGC.out; omega))
                  obtain ⟨p14, c14, rfl⟩ := owns_shape hown'
                  have q1 := hx14.cell 1
                  have q1f := hx14.frozen 1
                  simp only [List.getElem?_toArray, List.getElem?_cons_zero, List.getElem?_cons_succ] at q1
                  have HOW' := Lib.hid hown'
                  have HX14 := Lib.hid hx14
                  have HO14 := Lib.hid ho14
                  have HB14 := Lib.hid hb14
                  clear hown' hgrow' hx14 ho14 hb14 d0 d1
                  go_wp2
                  go_roundw
                  case rel =>
                    refine ⟨k3 + 1, _, by omega, by go_num, HX14.out.set 1 _, ?_, ?_, HB14.out.setCell HGM.out _⟩
                    · rw [List.replicate_succ']
                      exact owns_of_block HOW'.out (fun k hk => Deep.blk_setCell_other _ _ _ _ (by have := (HOW'.out.lt k hk).1; show k ≠ gm; omega))
                    · exact owns_of_block HO14.out (fun k hk => Deep.blk_setCell_other _ _ _ _ (by simp only [Value.ownBlock, Option.some.injEq] at hk; have := HGC.out; show k ≠ gm; omega))
                  case measure => simp [intOf]; omega
                · obtain rfl : k3 = 3 := by omega
                  have hlm : Lists wr (.slice pv9 3 cv9) [bigC, bigC, bigC] := by
                    obtain ⟨g, cap, hv, h1, h2⟩ := owns_form HR.out (by omega)
                    injection hv with hv1 hv2 hv3
                    subst hv1
                    refine ⟨_, _, rfl, ?_, by decide, fun _ => ⟨g, 0, rfl, fun j hj => ?_⟩⟩
                    · rcases HR.out.2 with ⟨_, h0⟩ | ⟨g', cap', cur, hv', _, _, hn, _⟩
                      · omega
                      · injection hv' with a1 a2 a3
                        rw [a3]; exact hn
                    · have hj3 : j < 3 := hj
                      refine ⟨.slice (some ⟨gc, 0, none⟩) M M, ?_, ?_⟩
                      · rw [Nat.zero_add, HR.out.cellAt j (by omega)]
                        rw [List.getElem?_replicate, if_pos hj3]
                      · have hin : Ints wr (.slice (some ⟨gc, 0, none⟩) M M) cs := by
                          have h9 := HO9.out
                          rw [← HCS.out] at h9 ⊢
                          exact owns_ints h9 (by rw [HCS.out]; omega)
                        have e : [bigC, bigC, bigC].getD j [] = bigC := by
                          match j, hj3 with
                          | 0, _ => rfl
                          | 1, _ => rfl
                          | 2, _ => rfl
                        rw [e, ← HBIG.out]
                        exact hin
                  have hfm := format_any 1048576 (.slice pv9 3 cv9) [bigC, bigC, bigC] wr (by unfold I64; omega) big_i64 hlm (HT.out.below HB9.out)
                  rw [big_fmt] at hfm
                  have HFM := Lib.hid hfm
                  clear hlm hfm
                  go_wp2_with (first
                    | (go_at_call 13; refine HFM.out.mono ?_; rintro e' w15 ⟨rfl, hb15⟩; have HB15 := Lib.hid (HB9.out.trans (hb15.mono HB9.out.size)); clear hb15)
                    | (go_at_call 12; refine (known_any _ (HT.out.below HB15.out)).mono ?_; rintro e' w16 ⟨rfl, hb16⟩))
                  have hB16 := HB15.out.trans (hb16.mono HB15.out.size)
                  go_ret
                  exact ⟨rfl, hB16⟩
end L
end Go.Proofs.YtddmanphhfjngaaDoor
