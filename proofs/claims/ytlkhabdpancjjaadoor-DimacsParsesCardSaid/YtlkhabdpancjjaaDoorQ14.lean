/- Several texts, joined. -/
import Derived.Test.YtlkhabdpancjjaaDoorQ11
import Derived.Test.YtlkhabdpancjjaaDoorQ12
import Derived.Test.YtlkhabdpancjjaaDoorQ13
import Derived.Lib.SmallJoins
import Derived.Deep.RegionHeld3

/- Contract of dimacs.Format. -/
section
namespace Go.Proofs.YtlkhabdpancjjaaDoor
open Go.RowKit PA
namespace L
open K

theorem Tryd.gpow : Tryd.prog.globalNamed "internal/strconv.uint64pow10" = some 0 := by kernel_rfl
abbrev Tab (w : World) : Prop := Lib.TabIs Tryd.prog w "internal/strconv.uint64pow10" .u64 Lib.pow10Tab
theorem Tab.below {w w' : World} (h : Tab w) (hb : Below w.heap.size w w') : Tab w' := Go.Joins.tab_stays Tryd.gpow h hb (Nat.le_refl _)
theorem itoa_any (i : Int) (hi : I64 i) (w : World) (ht : Tab w) : Calls Tryd.prog 22 #[.int .i64 i] w fun e w' => e = .returned (.string ⟨(Lib.itoa i).toArray⟩) ∧ Below w.heap.size w w' :=
  (Tryd.strconv_Itoa i hi.1 hi.2 w ht).mono fun e w' h => ⟨h.1, by obtain ⟨k, os, e⟩ := h.2; rw [e]; exact Lib.below_grow w.heap.size w (Nat.le_refl _) k os⟩

theorem ownM_conv (w : World) (s : ByteArray) (hs : s.size ≤ 140737488355328) : OwnM (Lib.bytesWorld w 5 s) w.heap.size (.slice (some ⟨w.heap.size, 0, none⟩) s.size (grownCap w s.size 0 5)) s.data.toList := by
  have hge := grownCap_ge w s.size 0 5
  have hml : maxLen = 9223372036854775807 := rfl
  have hsz : s.size = s.data.toList.length := Lib.size_eq s
  have hcs : (Lib.bytesCells w 5 s).size = grownCap w s.size 0 5 := by
    unfold Lib.bytesCells
    rw [Array.size_append, Array.size_map, Array.size_replicate]
    show s.size + _ = _
    omega
  refine ⟨w.heap.size, _, _, _, by rw [← hsz], Nat.le_refl _, Lib.bytesWorld_at_new w 5 s, fun k hk => ?_, by omega, grownCap_le_maxLen w _ 0 5 (by omega), hcs, ?_⟩
  · simp only
    omega
  · unfold Lib.bytesCells
    rw [Array.toList_append, Array.toList_map, ← hsz]
    have : s.size = (List.map (fun b : UInt8 => Value.int .u8 b.toNat) s.data.toList).length := by rw [List.length_map, Array.length_toList]; rfl
    rw [this, List.take_left]
    rfl
theorem conv_below (w : World) (s : ByteArray) : Below w.heap.size w (Lib.bytesWorld w 5 s) := by
  refine ⟨rfl, rfl, rfl, by rw [Lib.bytesWorld_size]; omega, fun k hk => Lib.bytesWorld_at_old w 5 s k hk⟩

/-- What Format returns. -/
def fmtS (n : Int) (L : List (List Int)) : List UInt8 × Int := if checkF n L ≠ 0 then ([], checkF n L) else if 65536 < (textT n L).length then ([], 5) else (textT n L, 0)
theorem firstE_all {n : Int} {L : List (List Int)} (h : firstE n L = 0) : ∀ l ∈ L, checkE n l = 0 := by
  induction L with
  | nil => intro l hl; cases hl
  | cons a r ih =>
    unfold firstE at h
    split at h
    · rename_i h0
      intro l hl
      rcases List.mem_cons.1 hl with rfl | hl
      · exact h0
      · exact ih h l hl
    · rename_i h0; exact absurd h h0
theorem checkE_len {n : Int} {l : List Int} (h : checkE n l = 0) : l.length ≤ 4096 := by
  unfold checkE at h
  split at h
  · omega
  · split at h
    · omega
    · omega
theorem checkF_ok {n : Int} {L : List (List Int)} (h : checkF n L = 0) : 0 ≤ n ∧ n ≤ 1048576 ∧ L.length ≤ 1048576 ∧ ∀ l ∈ L, checkE n l = 0 := by
  unfold checkF at h
  split at h
  · omega
  · split at h
    · omega
    · exact ⟨by omega, by omega, by omega, firstE_all h⟩

set_option maxRecDepth 100000 in
set_option maxHeartbeats 2000000 in
theorem format_any (n : Int) (v : Value) (L : List (List Int)) (w : World) (hn : I64 n) (hl : ∀ l ∈ L, ∀ x ∈ l, I64 x) (h : Lists w v L) (ht : Tab w) :
    Calls Tryd.prog 13 #[.agg #[.int .i64 n, v]] w fun e w' => e = .returned (.tuple #[.string ⟨(fmtS n L).1.toArray⟩, .int .i64 (fmtS n L).2]) ∧ Below w.heap.size w w' := by
  have hbal : Below w.heap.size w (w.alloc (.cells #[.int .i64 n, v] 24)) := (Below.refl _ _).alloc (Nat.le_refl _) _
  have hck := fcheck_any n v L (w.alloc (.cells #[.int .i64 n, v] 24)) hn hl (h.below hbal)
  obtain ⟨F, hF⟩ : ∃ F, fmtS n L = F := ⟨_, rfl⟩
  rw [hF]
  unfold fmtS at hF
  have hL := h
  obtain ⟨p, c, rfl, hg, hm, hc⟩ := h
  have hL' := hL.below hbal
  have hbx : Box (w.alloc (.cells #[.int .i64 n, .slice p L.length c] 24)) w.heap.size 24 #[.int .i64 n, .slice p L.length c] := Box.new _ _ _
  have ht' := ht.below hbal
  have HL := Lib.hid hL'
  have HT := Lib.hid ht'
  have HB := Lib.hid hbx
  have HBAL := Lib.hid hbal
  have HLI := Lib.hid hl
  have HC := Lib.hid hc
  clear hL hL' hbx hbal hl hc ht ht'
  by_cases h0 : checkF n L = 0
  · rw [h0] at hck hF
    rw [if_neg (by omega)] at hF
    obtain ⟨n0, n1, ll, hce⟩ := checkF_ok h0
    have HF := Lib.hid hF
    have HCE := Lib.hid hce
    clear hF hce h0
    have hcv := fun (W : World) (s : ByteArray) => Lib.run_convert_string_bytes (P := Tryd.prog) W 9 37 5 s Tryd.underlying9 Tryd.underlying37 Tryd.underlying5
    go_enter Tryd.func13, Tryd.ntmps13
    go_wp2_with (go_at_call 19; refine hck.mono ?_; rintro e w1 ⟨rfl, hb1⟩; refine Hid.out ?_)
    refine Lib.hid ?_
    have hbx1 := HB.out.below hb1 (by simp)
    have c0 := hbx1.cell 0; have c1 := hbx1.cell 1
    simp only [List.getElem?_toArray, List.getElem?_cons_zero, List.getElem?_cons_succ] at c0 c1
    have ht1 := HT.out.below hb1
    have hl1 := HL.out.below hb1
    have hB1 := HBAL.out.trans (hb1.mono (by simp))
    have HT1 := Lib.hid ht1
    have HL1 := Lib.hid hl1
    have HB1 := Lib.hid hB1
    have HBX := Lib.hid hbx1
    have hsz1 : w.heap.size < w1.heap.size := hbx1.lt
    clear ht1 hl1 hB1 hck hb1 hbx1 HL HT HB HBAL
    have hi1 := Lib.itoa_length_le n hn.1 hn.2
    have hi2 := Lib.itoa_length_le (L.length : Int) (by omega) (by omega)
    go_wp2
    have hbd : Below w1.heap.size w1 w1.drew := (Below.refl _ _).drew
    have htb := Lib.tabBelow_of_tabIs HT1.out
    have hl2 := HL1.out
    obtain ⟨p', c', e', hg', hm', hc'⟩ := hl2
    obtain ⟨rfl, rfl⟩ : p = p' ∧ c = c' := by injection e' with e1 e2 e3; exact ⟨e1, e3⟩
    have HTB := Lib.hid htb
    have HC1 := Lib.hid hc'
    clear htb e' hg' hm' hc'
    obtain ⟨T0, hT0⟩ : ∃ T0, headT n L.length = T0 := ⟨_, rfl⟩
    have hT0l : T0.length ≤ 60 := by rw [← hT0]; unfold headT; simp; omega
    have HT0 := Lib.hid hT0
    clear hT0
    go_cut [5] from 10 (fun s5 wc => OwnM wc w1.heap.size s5 T0 ∧ Below w1.heap.size w1 wc)
    case first =>
      go_region_with ((go_at_call 22; refine (itoa_any _ (by unfold I64; omega) _ (HT1.out.below (by assumption))).mono ?_; rintro e wi ⟨rfl, hbi⟩; have hbn : Below w1.heap.size w1 wi := Below.trans (by assumption) (hbi.mono (Below.size (by assumption))); have d0 := (hbn.cell (p := ⟨w.heap.size, 0, none⟩) hsz1).trans c0; have d1 := (hbn.cell (p := ⟨w.heap.size, 1, none⟩) hsz1).trans c1; clear hbi))
      all_goals (
        go_wp2
        go_meet
        case rel =>
          rename_i wi hbn _ _ _ _
          have hz : (⟨#[112, 32, 99, 110, 102, 32]⟩ ++ ⟨(Lib.itoa n).toArray⟩ ++ ⟨#[32]⟩ ++ ⟨(Lib.itoa ↑L.length).toArray⟩ ++ ⟨#[10]⟩ : ByteArray).data.toList = T0 := by rw [← HT0.out]; simp [headT]
          have hz2 := Lib.size_eq (⟨#[112, 32, 99, 110, 102, 32]⟩ ++ ⟨(Lib.itoa n).toArray⟩ ++ ⟨#[32]⟩ ++ ⟨(Lib.itoa ↑L.length).toArray⟩ ++ ⟨#[10]⟩ : ByteArray)
          rw [hz] at hz2
          have ho := ownM_conv wi (⟨#[112, 32, 99, 110, 102, 32]⟩ ++ ⟨(Lib.itoa n).toArray⟩ ++ ⟨#[32]⟩ ++ ⟨(Lib.itoa ↑L.length).toArray⟩ ++ ⟨#[10]⟩ : ByteArray) (by omega)
          rw [hz] at ho
          have hz3 : (⟨#[112, 32, 99, 110, 102, 32]⟩ ++ ⟨(Lib.itoa n).toArray⟩ ++ ⟨#[32]⟩ ++ ⟨(Lib.itoa ↑L.length).toArray⟩ ++ ⟨#[10]⟩ : ByteArray).size = 6 + (Lib.itoa n).length + 1 + (Lib.itoa ↑L.length).length + 1 := by rw [hz2, ← HT0.out]; simp [headT]; omega
          rw [hz3] at ho
          refine ⟨?_, hbn.trans ((conv_below wi _).mono hbn.size)⟩
          obtain ⟨g, cap, cur, fz, e, hB, rest⟩ := ho
          exact ⟨g, cap, cur, fz, e, by injection e with e1; injection e1 with e1; injection e1 with e1; have := hbn.size; omega, rest⟩)
    case rest =>
      obtain ⟨ho, hb⟩ := hcut
      have HO := Lib.hid ho
      have HB2 := Lib.hid hb
      have d1 := (hb.cell (p := ⟨w.heap.size, 1, none⟩) hsz1).trans c1
      clear ho hb
      go_wp2
      go_loopw [5, 30] (fun s5 i wr => ∃ k : Nat, k ≤ L.length ∧ i = .int .i64 k ∧ OwnM wr w1.heap.size s5 (T0 ++ (L.take k).flatMap clauseT) ∧ (T0 ++ (L.take k).flatMap clauseT).length ≤ 65536 ∧ Below w1.heap.size w1 wr) (fun _ i _ => L.length - (intOf i).toNat)
      case atStart => exact ⟨0, Nat.zero_le _, rfl, by simpa using HO.out, by simp; omega, HB2.out⟩
      case round =>
        obtain ⟨k, hk, rfl, ho, hlen, hb⟩ := hrel
        obtain ⟨T, hT⟩ : ∃ T, T0 ++ (L.take k).flatMap clauseT = T := ⟨_, rfl⟩
        rw [hT] at ho hlen
        have HT2 := Lib.hid hT
        have HO2 := Lib.hid ho
        have HBR := Lib.hid hb
        clear ho hb hT
        by_cases hlt : k < L.length
        · obtain ⟨b, o, rfl, e1⟩ := HC1.out (by omega)
          obtain ⟨u, hu, hiu⟩ := e1 k hlt
          have dk := (HBR.out.cell (p := ⟨b, o + k, none⟩) (World.block_lt_of_cell? _ _ hu)).trans hu
          have hlc := checkE_len (HCE.out _ (mem_getDL hlt))
          have hxi := HLI.out _ (mem_getDL hlt)
          have hsn := flat_snoc L [] k hlt clauseT
          generalize L.getD k [] = c3 at *
          obtain ⟨p3, k3, rfl, hg3, hm3, hc3⟩ := hiu
          have HC3 := Lib.hid hc3
          have HXI := Lib.hid hxi
          have HSN := Lib.hid hsn
          clear e1 hu hxi hsn hc3
          go_wp2
          go_loopw [5, 36] (fun s5 i wq => ∃ j : Nat, j ≤ c3.length ∧ i = .int .i64 j ∧ OwnM wq w1.heap.size s5 (T ++ (c3.take j).flatMap litT) ∧ Below w1.heap.size w1 wq) (fun _ i _ => c3.length - (intOf i).toNat)
          case atStart => exact ⟨0, Nat.zero_le _, rfl, by simpa using HO2.out, HBR.out⟩
          case round =>
            obtain ⟨j, hj, rfl, hoq, hbq⟩ := hrel
            have HOQ := Lib.hid hoq
            have HBQ := Lib.hid hbq
            clear hoq hbq
            have hll := lits_len c3 j hj (fun x hx => Lib.itoa_length_le x (HXI.out x hx).1 (HXI.out x hx).2)
            by_cases hlj : j < c3.length
            · obtain ⟨b3, o3, rfl, e3⟩ := HC3.out (by omega)
              have hx := e3 j hlj
              have dx := (HBQ.out.cell (p := ⟨b3, o3 + j, none⟩) (World.block_lt_of_cell? _ _ hx)).trans hx
              have hmem : c3.getD j 0 ∈ c3 := by rw [List.getD_eq_getElem?_getD, List.getElem?_eq_getElem hlj]; exact List.getElem_mem _
              have hxr := HXI.out _ hmem
              have hl1 := Lib.itoa_length_le (c3.getD j 0) hxr.1 hxr.2
              have hsn2 := flat_snoc c3 0 j hlj litT
              generalize c3.getD j 0 = x3 at *
              have HSN2 := Lib.hid hsn2
              clear e3 hx hmem hsn2
              generalize hTL : T ++ (c3.take j).flatMap litT = TL at *
              have htl : TL.length ≤ 200000 := by rw [← hTL, List.length_append]; omega
              have HTL := Lib.hid hTL
              clear hTL
              go_wp2_with (go_at_call 23; refine (aint_pub x3 hxr.1 hxr.2 w1.heap.size _ TL _ HOQ.out HBQ.out.size (by omega) (HTB.out.on HBQ.out)).mono ?_; rintro e wi ⟨v5, rfl, ho5, hb5⟩; refine Hid.out ?_)
              refine Lib.hid ?_
              have hs5 := hb5.size
              have hal5 := ho5.alloc (.cells #[.int .u8 32] 5)
              have hab5 : Below w1.heap.size w1 (wi.alloc (.cells #[.int .u8 32] 5)) := (HBQ.out.trans hb5).alloc ((HBQ.out.trans hb5).size) _
              have hcl : ∀ j u, (Lib.byteCells [32])[j]? = some u → (wi.alloc (.cells #[.int .u8 32] 5)).cell? ((⟨wi.heap.size, 0, none⟩ : Addr).add j) = some u := by
                intro j x hj
                match j, hj with
                | 0, hj => simp [Lib.byteCells] at hj; subst hj; simp [Addr.add]
              have hwz : w1.heap.size ≤ (wi.alloc (.cells #[.int .u8 32] 5)).heap.size := hab5.size
              have ha : ∀ ty, ∃ v' w', (Builtin.append_ #[37, 37] ty #[v5, .slice (some ⟨wi.heap.size, 0, none⟩) 1 1]).run Tryd.prog (wi.alloc (.cells #[.int .u8 32] 5)) = .ok v' w' ∧ AppM (wi.alloc (.cells #[.int .u8 32] 5)) w1.heap.size v5 ((TL ++ Lib.itoa x3) ++ [32]) v' w' :=
                fun ty => run_app_slice _ ty w1.heap.size _ (TL ++ Lib.itoa x3) [32] hal5 ⟨wi.heap.size, 0, none⟩ 1 hcl (by simp; omega) hwz
              have HA := Lib.hid ha
              have HAL := Lib.hid hal5
              have HAB := Lib.hid hab5
              clear ha hal5 hab5 hcl ho5 hb5
              go_wp2_with (at_builtin; refine wpList_append_by rfl (.tmp 43) (.tmp 44) 37 37 rfl v5 (.slice (some ⟨wi.heap.size, 0, none⟩) 1 1) rfl rfl _ (HA.out _) ?_; intro v7 w7 hap; have HP := Lib.hid hap; clear hap)
              go_roundw
              case rel =>
                refine ⟨j + 1, by omega, by go_num, ?_, HP.out.below HAL.out HAB.out hwz⟩
                rw [HSN2.out]
                have := HP.out.1
                rw [← HTL.out] at this
                have hlit : litT x3 = Lib.itoa x3 ++ [32] := rfl
                rw [hlit]
                simpa only [List.append_assoc] using this
              case measure => simp [intOf]; omega
            · obtain rfl : j = c3.length := by omega
              generalize hTL : T ++ (c3.take c3.length).flatMap litT = TL at *
              have htl : TL.length ≤ 200000 := by rw [← hTL, List.length_append]; omega
              have HTL := Lib.hid hTL
              clear hTL
              have h2sz : (⟨#[48, 10]⟩ : ByteArray).size = 2 := rfl
              have HA := Lib.hid (fun ty => run_app_string wr ty w1.heap.size _ TL HOQ.out ⟨#[48, 10]⟩ (by rw [h2sz]; omega) HBQ.out.size)
              go_wp2_with (at_builtin; refine wpList_append_by rfl (.tmp 47) (.const (.string ⟨#[48, 10]⟩)) 37 9 rfl _ (.string ⟨#[48, 10]⟩) rfl rfl _ (HA.out _) ?_; intro v7 w7 hap; refine Hid.out ?_)
              refine Lib.hid ?_
              have hob := hap.1
              have hbb := hap.below HOQ.out HBQ.out HBQ.out.size
              have hTN : TL ++ [48, 10] = T0 ++ (L.take (k + 1)).flatMap clauseT := by
                rw [HSN.out, ← HTL.out, ← HT2.out, List.take_length]
                unfold clauseT
                simp only [List.append_assoc]
              have hob2 : OwnM w7 w1.heap.size v7 (TL ++ [48, 10]) := hob
              rw [hTN] at hob2
              clear hap hob
              obtain ⟨TN, hTN2⟩ : ∃ TN, T0 ++ (L.take (k + 1)).flatMap clauseT = TN := ⟨_, rfl⟩
              rw [hTN2] at hob2
              have HTN := Lib.hid hTN2
              have HOB := Lib.hid hob2
              have HBB := Lib.hid hbb
              clear hTN2 hTN hob2 hbb
              obtain ⟨g6, cap6, rfl, _, hg6, _, _⟩ := HOB.out.cells
              by_cases hbig : 65536 < TN.length
              · have hF1 : F = ([], 5) := by
                  rw [← HF.out, if_pos]
                  have h1 := flat_len L (k + 1)
                  have h2 : (textT n L).length = T0.length + (L.flatMap clauseT).length := by unfold textT; rw [HT0.out, List.length_append]
                  rw [← HTN.out, List.length_append] at hbig
                  omega
                have hB := HB1.out.trans (HBB.out.mono (Nat.le_of_lt hsz1))
                go_wp2
                go_ret2
                exact ⟨by rw [hF1]; rfl, hB⟩
              · go_wp2
                go_roundw
                case rel => exact ⟨k + 1, by omega, by go_num, by rw [HTN.out]; exact HOB.out, by rw [HTN.out]; omega, HBB.out⟩
                case measure => simp [intOf]; omega
        · obtain rfl : k = L.length := by omega
          obtain ⟨g5, cap5, rfl, _, hg5, _, h5c⟩ := HO2.out.cells
          have hcb := run_convert_bytes_back (P := Tryd.prog) wr 37 9 5 ⟨g5, 0, none⟩ cap5 T Tryd.underlying37 Tryd.underlying5 Tryd.underlying9 (fun j hj => h5c j _ (by simp [Lib.byteCells, hj]))
          have hTT : T = textT n L := by rw [← HT2.out, ← HT0.out]; unfold textT; rw [List.take_length]
          have hf1 : F.1 = T := by rw [← HF.out, if_neg (by rw [← hTT]; omega), hTT]
          have hf2 : F.2 = 0 := by rw [← HF.out, if_neg (by rw [← hTT]; omega)]
          have hB := HB1.out.trans (HBR.out.mono (Nat.le_of_lt hsz1))
          have HF1 := Lib.hid hf1
          have HF2 := Lib.hid hf2
          clear h5c hTT hf1 hf2
          go_wp2
          go_ret2
          exact ⟨by rw [HF1.out, HF2.out]; rfl, hB⟩
  · rw [if_pos (by simpa using h0)] at hF
    subst hF
    have hne : (checkF n L != 0) = true := by simpa using h0
    generalize checkF n L = q at *
    clear h0
    go_enter Tryd.func13, Tryd.ntmps13
    go_wp2_with (go_at_call 19; refine hck.mono ?_; rintro e w1 ⟨rfl, hb1⟩)
    have hB1 := HBAL.out.trans (hb1.mono (by simp))
    go_ret2
    exact ⟨rfl, hB1⟩
end L
end Go.Proofs.YtlkhabdpancjjaaDoor
end

/- Contracts of the kit's CopyLists, CopyFormula, EqualLists, EqualFormula. -/
section
namespace Go.Proofs.YtlkhabdpancjjaaDoor
open Go.RowKit
namespace L
open K

end L
end Go.Proofs.YtlkhabdpancjjaaDoor
end

/- Contracts of slices.Equal, slices.EqualFunc, the kit's EqualLists and EqualFormula, cnf.Equal. -/
section
namespace Go.Proofs.YtlkhabdpancjjaaDoor
open Go.RowKit
namespace L
open K

theorem listsEq_of {L1 L2 : List (List Int)} (h : ∀ j, j < L1.length → L1.getD j [] = L2.getD j []) (hl : L1.length = L2.length) : L1 = L2 :=
  List.ext_getElem hl fun i h1 h2 => by
    have := h i h1
    simpa [List.getD, h1, h2] using this
theorem listsNe_at {L1 L2 : List (List Int)} {k : Nat} (hne : L1.getD k [] ≠ L2.getD k []) : L1 ≠ L2 := by
  rintro rfl; exact hne rfl

set_option maxHeartbeats 1000000 in
theorem equall_any (v1 v2 : Value) (L1 L2 : List (List Int)) (w : World) (h1 : Lists w v1 L1) (h2 : Lists w v2 L2) :
    Calls Tryd.prog 30 #[v1, v2] w fun e w' => e = .returned (.bool (decide (L1 = L2))) ∧ Below w.heap.size w w' := by
  obtain ⟨p1, c1, rfl, g1, m1, hc1⟩ := h1
  obtain ⟨p2, c2, rfl, g2, m2, hc2⟩ := h2
  by_cases hl : L1.length = L2.length
  · have hl1 : ((L1.length : Int) != L2.length) = false := by simp [hl]
    have HL := Lib.hid hl
    go_enter Tryd.func30, Tryd.ntmps30
    go_wp2
    go_loopw [5] (fun i wr => ∃ k : Nat, k ≤ L1.length ∧ i = .int .i64 k ∧ (∀ j, j < k → L1.getD j [] = L2.getD j []) ∧ Below w.heap.size w wr) (fun i _ => L1.length - (intOf i).toNat)
    case atStart => exact ⟨0, Nat.zero_le _, rfl, fun j hj => absurd hj (Nat.not_lt_zero _), Below.refl _ _⟩
    case round =>
      obtain ⟨k, hk, rfl, heq, hb⟩ := hrel
      obtain ⟨w3, hw3⟩ : ∃ W, W = wr := ⟨_, rfl⟩
      subst hw3
      have HE := Lib.hid heq
      clear heq
      by_cases hlt : k < L1.length
      · have hlt2 : k < L2.length := by omega
        obtain ⟨b1, o1, rfl, e1⟩ := hc1 (by omega)
        obtain ⟨b2, o2, rfl, e2⟩ := hc2 (by omega)
        obtain ⟨u1, hu1, hi1⟩ := e1 k hlt
        obtain ⟨u2, hu2, hi2⟩ := e2 k hlt2
        have d1 : ∀ x : Later w3.heap.size w3, x.W.cell? ⟨b1, o1 + k, none⟩ = some u1 := fun x => ((hb.trans (x.ok.mono hb.size)).cell (p := ⟨b1, o1 + k, none⟩) (World.block_lt_of_cell? _ _ hu1)).trans hu1
        have d2 : ∀ x : Later w3.heap.size w3, x.W.cell? ⟨b2, o2 + k, none⟩ = some u2 := fun x => ((hb.trans (x.ok.mono hb.size)).cell (p := ⟨b2, o2 + k, none⟩) (World.block_lt_of_cell? _ _ hu2)).trans hu2
        have hq := fun x : Later w3.heap.size w3 => equal_any u1 u2 _ _ x.W (hi1.below (hb.trans (x.ok.mono hb.size))) (hi2.below (hb.trans (x.ok.mono hb.size)))
        have HQ := Lib.hid hq
        obtain ⟨q1, r1, rfl, _⟩ := hi1
        obtain ⟨q2, r2, rfl, _⟩ := hi2
        clear hc1 hc2 e1 e2 hu1 hu2 hq hl1
        have HB := Lib.hid hb
        clear hb
        generalize hx1 : L1.getD k [] = x1 at *
        generalize hx2 : L2.getD k [] = x2 at *
        have HX1 := Lib.hid hx1
        have HX2 := Lib.hid hx2
        clear hx1 hx2
        by_cases hne : x1 = x2
        · have hd : decide (x1 = x2) = true := by simp [hne]
          have HNE := Lib.hid hne
          clear hne
          have HQ' := Lib.hid (fun x => by have := HQ.out x; rw [hd] at this; exact this : ∀ x : Later w3.heap.size w3, Calls Tryd.prog 38 #[.slice q1 x1.length r1, .slice q2 x2.length r2] x.W fun e w' => e = .returned (.bool true) ∧ Below x.W.heap.size x.W w')
          clear hd HQ
          go_wp2
          refine wp_region_later (B := w3.heap.size) (w0 := w3) (by kernel_rfl) (by kernel_rfl) (Below.refl _ _) ?_
          repeat (go_big_quiet_step (first
            | (go_at_call 38; exact later_mono _ (Nat.le_refl _) (HQ'.out _))))
          refine wpQuiet_nil ?_
          rintro _ ⟨x, rfl⟩
          have hbx := HB.out.trans (x.ok.mono HB.out.size)
          go_wp2
          go_roundw
          case rel =>
            refine ⟨k + 1, by omega, by go_num, fun j hj => ?_, hbx⟩
            by_cases hjk : j = k
            · subst hjk; rw [HX1.out, HX2.out, HNE.out]
            · exact HE.out j (by omega)
          case measure => simp [intOf]; omega
        · have hd : decide (x1 = x2) = false := by simp [hne]
          have HNE := Lib.hid hne
          clear hne
          have HQ' := Lib.hid (fun x => by have := HQ.out x; rw [hd] at this; exact this : ∀ x : Later w3.heap.size w3, Calls Tryd.prog 38 #[.slice q1 x1.length r1, .slice q2 x2.length r2] x.W fun e w' => e = .returned (.bool false) ∧ Below x.W.heap.size x.W w')
          clear hd HQ
          go_wp2
          refine wp_region_later (B := w3.heap.size) (w0 := w3) (by kernel_rfl) (by kernel_rfl) (Below.refl _ _) ?_
          repeat (go_big_quiet_step (first
            | (go_at_call 38; exact later_mono _ (Nat.le_refl _) (HQ'.out _))))
          refine wpQuiet_nil ?_
          rintro _ ⟨x, rfl⟩
          have hbx := HB.out.trans (x.ok.mono HB.out.size)
          go_wp2
          go_ret
          refine ⟨ret_bool ?_, hbx⟩
          symm; rw [decide_eq_false_iff_not]
          exact listsNe_at (by rw [HX1.out, HX2.out]; exact HNE.out)
      · go_wp2
        go_ret
        refine ⟨ret_bool ?_, hb⟩
        symm; rw [decide_eq_true_iff]
        exact listsEq_of (fun j hj => HE.out j (by omega)) HL.out
  · have hl1 : ((L1.length : Int) != L2.length) = true := by simp; omega
    have hd : decide (L1 = L2) = false := by simp; intro h; exact hl (by rw [h])
    rw [hd]; clear hd
    go_enter Tryd.func30, Tryd.ntmps30
    go_wp2
    go_ret
    exact ⟨rfl, Below.refl _ _⟩
end L
end Go.Proofs.YtlkhabdpancjjaaDoor
end

/- Contracts of slices.EqualFunc at slices.Equal, the kit's EqualFormula, cnf.Equal. -/
section
namespace Go.Proofs.YtlkhabdpancjjaaDoor
open Go.RowKit
namespace L
open K

/-- Whether two formulas are equal. -/
def eqF (n1 : Int) (L1 : List (List Int)) (n2 : Int) (L2 : List (List Int)) : Bool := decide (n1 = n2) && decide (L1 = L2)

set_option maxHeartbeats 1000000 in
theorem keqf_any (n1 n2 : Int) (v1 v2 : Value) (L1 L2 : List (List Int)) (w : World) (h1 : Lists w v1 L1) (h2 : Lists w v2 L2) :
    Calls Tryd.prog 17 #[.agg #[.int .i64 n1, v1], .agg #[.int .i64 n2, v2]] w fun e w' => e = .returned (.bool (eqF n1 L1 n2 L2)) ∧ Below w.heap.size w w' := by
  have hq := fun W (hb : Below w.heap.size w W) => equall_any v1 v2 L1 L2 W (h1.below hb) (h2.below hb)
  obtain ⟨p1, c1, rfl, _⟩ := h1
  obtain ⟨p2, c2, rfl, _⟩ := h2
  have hb0 : Below w.heap.size w ((w.alloc (.cells #[.int .i64 n1, .slice p1 L1.length c1] 24)).alloc (.cells #[.int .i64 n2, .slice p2 L2.length c2] 24)) := ((Below.refl _ _).alloc (Nat.le_refl _) _).alloc (by simp) _
  have HQ := Lib.hid hq
  clear hq
  by_cases hn : n1 = n2
  · have h1 : (n1 == n2) = true := by simp [hn]
    have he : eqF n1 L1 n2 L2 = decide (L1 = L2) := by simp [eqF, hn]
    rw [he]
    clear hn he
    go_enter Tryd.func17, Tryd.ntmps17
    go_wp2_with fail
    refine (HQ.out _ hb0).mono ?_
    rintro e w2 ⟨rfl, hb2⟩
    go_wp2
    go_ret
    exact ⟨rfl, hb0.trans (hb2.mono hb0.size)⟩
  · have h1 : (n1 == n2) = false := by simp [hn]
    have he : eqF n1 L1 n2 L2 = false := by simp [eqF, hn]
    rw [he]
    clear hn he
    go_enter Tryd.func17, Tryd.ntmps17
    go_wp2
    go_ret
    exact ⟨rfl, hb0⟩

end L
end Go.Proofs.YtlkhabdpancjjaaDoor
end
