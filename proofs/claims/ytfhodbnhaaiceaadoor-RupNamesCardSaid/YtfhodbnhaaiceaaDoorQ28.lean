/- Several texts, joined. -/
import Derived.Test.YtfhodbnhaaiceaaDoorQ27
import Derived.Test.YtfhodbnhaaiceaaDoorQ20

/- Contract of the reference's Check. -/
section
namespace Go.Proofs.YtfhodbnhaaiceaaDoor
open Go.RowKit RA
namespace L
open K
set_option maxRecDepth 100000

theorem rows_of {w : World} {b off : Nat} {F : List (List Int)} (h : ∀ j, j < F.length → ∃ u, w.cell? ⟨b, off + j, none⟩ = some u ∧ Ints w u (F.getD j [])) :
    ∃ us : List Value, us.length = F.length ∧ (∀ j, j < F.length → Ints w (us.getD j (.slice none 0 0)) (F.getD j [])) ∧ ∀ j, j < F.length → w.cell? ⟨b, off + j, none⟩ = some (us.getD j (.slice none 0 0)) := by
  have e : ∀ j u, j < F.length → w.cell? ⟨b, off + j, none⟩ = some u → ((List.range F.length).map fun j => (w.cell? ⟨b, off + j, none⟩).getD (.slice none 0 0)).getD j (.slice none 0 0) = u := fun j u hj hu => by simp [List.getD, hj, hu]
  refine ⟨(List.range F.length).map fun j => (w.cell? ⟨b, off + j, none⟩).getD (.slice none 0 0), by simp, fun j hj => ?_, fun j hj => ?_⟩
  · obtain ⟨u, hu, hi⟩ := h j hj
    rw [e j u hj hu]; exact hi
  · obtain ⟨u, hu, hi⟩ := h j hj
    rw [e j u hj hu]; exact hu
/-- What an append of all leaves. -/
def GrownA (w0 W : World) (F : List (List Int)) (v' : Value) (W' : World) : Prop := Row w0 W' v' F ∧ (∃ p n c, v' = .slice p n c) ∧ W.grownBy W' none
/-- append(nil, v...). -/
theorem run_append_all {w0 W : World} {v : Value} {F : List (List Int)} (h : Lists w0 v F) (hb : Below w0.heap.size w0 W) (hG : F.length ≤ 1000000) (ty : TypeId) :
    ∃ v' W', (Builtin.append_ #[24, 24] ty #[.slice none 0 0, v]).run Tryd.prog W = .ok v' W' ∧ GrownA w0 W F v' W' := by
  obtain ⟨i, hi, hz, hs1, hb1⟩ := info_parts infoR
  obtain ⟨a, cap, rfl, hl, hm, hc⟩ := h
  by_cases h0 : 0 < F.length
  · obtain ⟨b, off, rfl, hcell⟩ := hc h0
    obtain ⟨us, h1, h2, hu⟩ := rows_of hcell
    obtain ⟨v', W', hr, ho, hg, _⟩ := run_append_own (P := Tryd.prog) W w0.heap.size 24 ty 23 i (.slice none 0 0) 1 24 Tryd.underlying24 hi hz hs1 hb1 rfl (by decide) (.slice none 0 0) 0 [] (World.ownsRow_nil _ _ _ _) ⟨b, off, none⟩ F.length cap us (by rw [h1, Nat.mul_one])
      (fun j u hj => by
        have hj' : j < F.length := by rw [← h1]; exact (List.getElem?_eq_some_iff.1 hj).1
        have h4 := hu j hj'
        have h5 : us.getD j (.slice none 0 0) = u := by simp [List.getD, hj]
        rw [h5] at h4
        rw [Addr.add_lit]
        exact (hb.cell (p := ⟨b, off + j, none⟩) (World.block_lt_of_cell? _ _ h4)).trans h4)
      (fun u hu => by
        obtain ⟨j, hj, rfl⟩ := List.getElem_of_mem hu
        obtain ⟨p, c, he, _⟩ := h2 j (by omega)
        have : us.getD j (.slice none 0 0) = us[j] := by simp [List.getD, hj]
        rw [this] at he
        rw [he]; rfl) (by unfold maxLen; omega) (by omega) hb.size
    exact ⟨v', W', hr, ⟨us, h1, h2, .inr (by simpa using ho)⟩, owns_shape3 ho, hg⟩
  · have hF : F = [] := List.eq_nil_of_length_eq_zero (by omega)
    subst hF
    refine ⟨.slice none 0 0, W, ?_, ⟨[], rfl, fun j hj => absurd hj (by simp), .inr (World.ownsRow_nil _ _ _ _)⟩, ⟨_, _, _, rfl⟩, ⟨rfl, rfl, rfl, Nat.le_refl _, fun k _ _ => rfl⟩⟩
    cases a with
    | none => simp [Builtin.append_, run_underlying Tryd.underlying24, sizeOf, typeInfo, hi, Builtin.lenOf, Builtin.firstCells]
    | some b => simp [Builtin.append_, run_underlying Tryd.underlying24, sizeOf, typeInfo, hi, Builtin.lenOf, Builtin.firstCells, loadCells, loadCellsFrom, Sem.run_pure, Result.andThen]

theorem row_grown {w0 W W' : World} {v : Value} {G : List (List Int)} (h : Row w0 W v G) (hb : Below W.heap.size W W') : Row w0 W' v G := by
  obtain ⟨us, h1, h2, h3⟩ := h
  refine ⟨us, h1, h2, h3.imp id fun ho => ?_⟩
  exact owns_of_block ho fun k hk => hb.block k (ho.lt k hk).2

set_option maxHeartbeats 16000000 in
theorem rcheck5_any (n : Int) (v : Value) (F : List (List Int)) (vp : Value) (p : List (List Int)) (w : World) (hn : I64 n) (hF : ∀ c ∈ F, ∀ x ∈ c, I64 x) (hL : Lists w v F) (hp : ∀ c ∈ p, ∀ x ∈ c, I64 x) (hP : Lists w vp p) (hmF : F.length ≤ 1000) (hm : p.length ≤ 1000) :
    Calls Tryd.prog 19 #[.agg #[.int .i64 n, v], vp] w fun e w' => e = .returned (.tuple #[.int .i64 (checkA n F p).1, .int .i64 (checkA n F p).2]) ∧ Below w.heap.size w w' := by
  have h1 := fun W (hb : Below w.heap.size w W) => rfcheck_any n v F W hn hF (hL.below hb)
  have happ := fun W (hb : Below w.heap.size w W) ty => run_append_all (w0 := w) hL hb (by omega) ty
  obtain ⟨pv, cv, rfl, hx1⟩ := id hL
  obtain ⟨pc, cc, rfl, hx2⟩ := id hP
  clear hx1
  obtain ⟨_, _, hcell⟩ := hx2
  obtain ⟨R, hR⟩ : ∃ R, checkA n F p = R := ⟨_, rfl⟩
  rw [hR]
  have HR := Lib.hid hR
  have HAPP := Lib.hid happ
  have HPC := Lib.hid hcell
  have HPI := Lib.hid hp
  have HN := Lib.hid hn
  have hc1 := h1 (w.alloc (.cells #[.int .i64 n, .slice pv F.length cv] 26)) ((Below.refl _ _).alloc (Nat.le_refl _) _)
  clear h1 happ hR hL hP hcell hp
  go_enter Tryd.func19, Tryd.ntmps19
  obtain ⟨E1, hE1⟩ : ∃ E, checkF n F = E := ⟨_, rfl⟩
  rw [hE1] at hc1
  have HE1 := Lib.hid hE1
  clear hE1
  go_wp2_with fail
  refine hc1.mono ?_
  rintro e w1 ⟨rfl, hb1⟩
  have hX1 : Box w1 w.heap.size 26 #[.int .i64 n, .slice pv F.length cv] := (Box.new _ _ _).below hb1 (by simp)
  have hB1 : Below w.heap.size w w1 := ((Below.refl _ w).alloc (Nat.le_refl _) _).trans (hb1.mono (by simp))
  have HX1 := Lib.hid hX1
  have HB1 := Lib.hid hB1
  clear hc1 hb1 hX1 hB1
  by_cases e1 : E1 = 0
  · subst e1
    go_wp2
    go_loopw [7, 8] (fun i _ wr => ∃ k : Nat, k ≤ p.length ∧ i = .int .i64 k ∧ (∀ j, j < k → checkE n (p.getD j []) = 0) ∧ Below w.heap.size w wr ∧ Box wr w.heap.size 26 #[.int .i64 n, .slice pv F.length cv]) (fun i _ _ => p.length - (intOf i).toNat)
    case atStart => exact ⟨0, Nat.zero_le _, rfl, fun j hj => absurd hj (Nat.not_lt_zero _), HB1.out, HX1.out⟩
    case round =>
      obtain ⟨k, hk, rfl, heq, hb, hbox⟩ := hrel
      have HE := Lib.hid heq
      have HBX := Lib.hid hbox
      clear heq
      by_cases hlt : k < p.length
      · obtain ⟨b, o, rfl, e1⟩ := HPC.out (by omega)
        obtain ⟨u, hu, hiu⟩ := e1 k hlt
        have hck := fun W (hW : Below w.heap.size w W) => rcheck_any n u (p.getD k []) W HN.out (HPI.out _ (mem_getDL hlt)) (hiu.below hW)
        have d1 := (hb.cell (p := ⟨b, o + k, none⟩) (World.block_lt_of_cell? _ _ hu)).trans hu
        have he0 := Lib.hid (fun (hq : checkE n (p.getD k []) ≠ 0) => firstE_at HE.out hlt hq)
        have c0 := hbox.cell 0
        simp only [List.getElem?_toArray, List.getElem?_cons_zero] at c0
        clear e1 hu hiu hbox
        generalize hq : checkE n (p.getD k []) = q at *
        have HQ := Lib.hid hq
        have HC := Lib.hid hck
        clear hq hck
        by_cases hz : q = 0
        · subst hz
          go_wp2
          go_quiet ((go_at_call 33; exact Calls.quiet_of_same ((HC.out _ (below_drewN hb _)).mono fun _ _ h => ⟨h.1, h.2.symm⟩)))
          go_wp2
          go_roundw
          case rel =>
            refine ⟨k + 1, by omega, by go_num, fun j hj => ?_, below_drewN hb _, HBX.out⟩
            by_cases hjk : j = k
            · subst hjk; exact HQ.out
            · exact HE.out j (by omega)
          case measure => simp [intOf]; omega
        · have hz' : (q != 0) = true := by simpa using hz
          have HRR : Hid (R = (0, q)) := Lib.hid (by rw [← HR.out]; unfold checkA; rw [if_neg (by simp [HE1.out]), if_pos (by rw [he0.out hz]; exact hz), he0.out hz])
          go_wp2
          go_quiet ((go_at_call 33; exact Calls.quiet_of_same ((HC.out _ (below_drewN hb _)).mono fun _ _ h => ⟨h.1, h.2.symm⟩)))
          go_wp2
          go_ret2
          exact ⟨by rw [HRR.out]; rfl, below_drewN hb _⟩
      · have hfe : firstE n p = 0 := firstE_upto HE.out (by omega)
        have HFE := Lib.hid hfe
        have HRR : Hid (R = (checkR F p, 0)) := Lib.hid (by rw [← HR.out]; unfold checkA; rw [if_neg (by simp [HE1.out]), if_neg (by simp [hfe])])
        obtain ⟨m, rfl⟩ : ∃ m : Nat, n = m := ⟨n.toNat, by have := checkF_range HE1.out; omega⟩
        have c1 := hbox.cell 1
        simp only [List.getElem?_toArray, List.getElem?_cons_zero, List.getElem?_cons_succ] at c1
        have HBW := Lib.hid hb
        clear hfe hbox hb
        go_wp2_with (at_builtin; refine wpList_append_by rfl _ _ 24 24 rfl _ _ rfl rfl _ (HAPP.out _ HBW.out _) ?_)
        rintro al w2 ⟨hrow, ⟨pal, nal, cal, rfl⟩, hgr⟩
        have hb2 : Below w.heap.size w w2 := HBW.out.grown hgr HBW.out.size (fun k hk => by cases hk)
        have HROW := Lib.hid hrow
        have HB2 := Lib.hid hb2
        clear hrow hb2 hgr c1
        go_wp2
        go_loopw [9, 10] (fun al i wr => ∃ k : Nat, k ≤ p.length ∧ i = .int .i64 k ∧ (∀ j, j < k → Imp (F ++ p.take j) (p.getD j [])) ∧ Row w wr al (F ++ p.take k) ∧ Below w.heap.size w wr) (fun _ i _ => p.length - (intOf i).toNat)
        case atStart => exact ⟨0, Nat.zero_le _, rfl, fun j hj => absurd hj (Nat.not_lt_zero _), by simpa using HROW.out, HB2.out⟩
        case round =>
          clear hlt hk
          obtain ⟨k, hk, rfl, himp, hrow, hb⟩ := hrel
          obtain ⟨hmm, _, hvF⟩ := checkF_ok HE1.out
          have hvp : ∀ d ∈ p, U.Val m d := fun d hd => (checkE_ok (firstE_all HFE.out d hd)).2
          have hvG : ∀ d ∈ F ++ p.take k, U.Val m d := fun d hd => (List.mem_append.1 hd).elim (hvF d) fun h => hvp d (List.mem_of_mem_take h)
          have hGl : (F ++ p.take k).length ≤ 2000 := by rw [List.length_append, List.length_take]; omega
          obtain ⟨pa, ca, rfl, _⟩ := hrow.lists hb (by omega)
          have HI := Lib.hid himp
          have HRW := Lib.hid hrow
          have HB := Lib.hid hb
          by_cases hlt : k < p.length
          · obtain ⟨b, o, rfl, e1⟩ := HPC.out (by omega)
            obtain ⟨u, hu, hiu⟩ := e1 k hlt
            have d1 := (hb.cell (p := ⟨b, o + k, none⟩) (World.block_lt_of_cell? _ _ hu)).trans hu
            have HTS := Lib.hid (take_snoc' hlt)
            have hmem : p.getD k [] ∈ p := mem_getDL hlt
            have hvc := hvp _ hmem
            obtain ⟨hl4, _⟩ := checkE_ok (firstE_all HFE.out _ hmem)
            obtain ⟨c, hc⟩ : ∃ c, p.getD k [] = c := ⟨_, rfl⟩
            rw [hc] at hiu hvc hl4
            have HCC := Lib.hid hc
            have hneg := rneg_any u c wr (hiu.below hb) hmm hvc
            have HIU := Lib.hid hiu
            have HU := Lib.hid hu
            obtain ⟨pu, cu, rfl, _⟩ := id hiu
            have HVC := Lib.hid hvc
            have HVG := Lib.hid hvG
            clear himp hrow hb e1 hu hiu hmem hc hvc hvG hvp hvF
            generalize hG : F ++ p.take k = G at *
            have HG := Lib.hid hG
            clear hG
            go_wp2_with fail
            refine hneg.mono ?_
            rintro e w3 ⟨vn, rfl, hon, hb3⟩
            have hb03 := HB.out.trans (hb3.mono HB.out.size)
            have hfl := rfails_any G (.slice pa G.length ca) (negL c) vn w3 hmm (by omega) ((row_grown HRW.out hb3).lists hb03 (by omega)) (OwnI.ints hon (by rw [negL_len]; omega)) HVG.out (negL_val HVC.out)
            obtain ⟨pn, cn, rfl⟩ := owns_shape hon
            have HB03 := Lib.hid hb03
            have HR3 := Lib.hid (row_grown HRW.out hb3)
            clear hneg hon hb3 hb03
            go_wp2_with fail
            refine hfl.mono ?_
            rintro e w4 ⟨⟨b4, rfl, hbb⟩, hb4⟩
            have HB4 := Lib.hid (HB03.out.trans (hb4.mono HB03.out.size))
            have HR4 := Lib.hid (row_grown HR3.out hb4)
            have HBB := Lib.hid hbb
            have d4 := (HB4.out.cell (p := ⟨b, o + k, none⟩) (World.block_lt_of_cell? _ _ HU.out)).trans HU.out
            clear hfl hb4 hbb
            cases b4 with
            | false =>
              have hk0 : checkR F p = k := by
                unfold checkR
                rw [firstNot_at hlt HI.out (by rw [HCC.out, HG.out]; exact fun hi => by have := HBB.out.2 hi; cases this)]
              have HK := Lib.hid hk0
              clear hk0 d4 d1
              go_wp2
              go_ret2
              exact ⟨by rw [HRR.out, HK.out]; rfl, HB4.out⟩
            | true =>
              have hi : Imp G c := HBB.out.1 rfl
              have HIM := Lib.hid hi
              clear hi d1
              go_wp2_with (at_builtin; refine wpList_append_by rfl _ _ 24 24 rfl _ _ rfl rfl _ (run_append_row HR4.out HB4.out (by omega) HIU.out _) ?_)
              rintro v5 w5 ⟨hrow5, ⟨p5, n5, c5, rfl⟩, row, hgr, hty⟩
              have hb5 : Below w.heap.size w w5 := (HB4.out.alloc HB4.out.size _).grown hgr (by have := HB4.out.size; simp; omega) (fun k hk => (hty k hk).1)
              have hnext : F ++ p.take (k + 1) = G ++ [c] := by rw [HTS.out, HCC.out, ← List.append_assoc, HG.out]
              have HQ : Hid ((∀ j, j < k + 1 → Imp (F ++ p.take j) (p.getD j [])) ∧ Row w w5 (.slice p5 n5 c5) (F ++ p.take (k + 1)) ∧ Below w.heap.size w w5) := Lib.hid ⟨fun j hj => by
                by_cases hjk : j = k
                · subst hjk; rw [HCC.out, HG.out]; exact HIM.out
                · exact HI.out j (by omega), by rw [hnext]; exact hrow5, hb5⟩
              clear hrow5 hgr hty hb5 hnext d4
              go_wp2
              go_roundw
              case rel => exact ⟨k + 1, by omega, by go_num, HQ.out.1, HQ.out.2.1, HQ.out.2.2⟩
              case measure => simp [intOf]; omega
          · obtain rfl : k = p.length := by omega
            have hidx : checkR F p = (if p.getLast? = some [] then (-1 : Int) else (p.length : Int)) := by
              unfold checkR
              rw [firstNot_none HI.out]
            by_cases h0 : p.length = 0
            · have hp0 : p = [] := List.eq_nil_of_length_eq_zero h0
              subst hp0
              have HC : Hid (checkR F [] = 0) := Lib.hid (by rw [hidx]; rfl)
              clear hidx himp hrow hb hvp hvG hvF h0
              go_wp2
              go_ret2
              exact ⟨by rw [HRR.out, HC.out]; rfl, HB.out⟩
            · obtain ⟨q, hq⟩ : ∃ q, p.length = q + 1 := ⟨p.length - 1, by omega⟩
              obtain ⟨b, o, rfl, e1⟩ := HPC.out (by omega)
              obtain ⟨u, hu, hui⟩ := e1 q (by omega)
              have d1 := (hb.cell (p := ⟨b, o + q, none⟩) (World.block_lt_of_cell? _ _ hu)).trans hu
              have hlg := last_getD (p := p) (by omega)
              rw [show p.length - 1 = q by omega] at hlg
              rw [hlg] at hidx
              obtain ⟨l, hl⟩ : ∃ l, p.getD q [] = l := ⟨_, rfl⟩
              rw [hl] at hidx hui
              obtain ⟨pu, cu, rfl, _⟩ := hui
              have hql : q ≤ 1000 := by omega
              have hne0 : (((q : Int) + 1) == 0) = false := beq_eq_false_iff_ne.2 (by omega)
              have HQ := Lib.hid hq
              by_cases hl0 : l.length = 0
              · have hln : l = [] := List.eq_nil_of_length_eq_zero hl0
                subst hln
                have HC : Hid (checkR F p = -1) := Lib.hid (by rw [hidx]; simp)
                clear hidx himp hrow hb hvp hvG hvF h0 e1 hu hlg hl hl0 hq hlt
                rw [HQ.out]
                go_wp2
                go_ret2
                exact ⟨by rw [HRR.out, HC.out]; rfl, HB.out⟩
              · have hpos : (0 : Int) < (l.length : Int) := by omega
                have HC : Hid (checkR F p = (q : Int) + 1) := Lib.hid (by rw [hidx, if_neg (by intro h; injection h with h; exact hl0 (by rw [h]; rfl)), hq]; simp)
                clear hidx himp hrow hb hvp hvG hvF h0 e1 hu hlg hl hl0 hq hlt
                rw [HQ.out]
                go_wp2
                go_ret2
                exact ⟨by rw [HRR.out, HC.out]; rfl, HB.out⟩
  · have hne1 : (E1 != 0) = true := by simp [e1]
    have HRR : Hid (R = (0, E1)) := Lib.hid (by rw [← HR.out]; unfold checkA; rw [if_pos (by rw [HE1.out]; exact e1), HE1.out])
    clear e1
    go_wp2
    go_ret2
    exact ⟨by rw [HRR.out]; rfl, HB1.out⟩
end L
end Go.Proofs.YtfhodbnhaaiceaaDoor
end

/- Contracts of the kit's CopyLists, CopyFormula, EqualLists, EqualFormula. -/
section
namespace Go.Proofs.YtfhodbnhaaiceaaDoor
open Go.RowKit
namespace L
open K

set_option maxHeartbeats 1000000 in
theorem copyl_any (v : Value) (L : List (List Int)) (w : World) (h : Lists w v L) :
    Calls Tryd.prog 17 #[v] w fun e w' => ∃ v', e = .returned v' ∧ OwnL w' w.heap.size v' L ∧ Below w.heap.size w w' := by
  obtain ⟨p, c, rfl, hg, hm, hc⟩ := h
  obtain ⟨i0, hi, hz0, hz1, hz2⟩ := info_parts info36
  go_enter Tryd.func17, Tryd.ntmps17
  go_wp2
  go_loopw [3, 4] (fun o i wr => ∃ k : Nat, k ≤ L.length ∧ i = .int .i64 k ∧ OwnL wr w.heap.size o (L.take k) ∧ Below w.heap.size w wr) (fun _ i _ => L.length - (intOf i).toNat)
  case atStart => exact ⟨0, Nat.zero_le _, rfl, OwnL.nil _ _, Below.refl _ _⟩
  case round =>
    obtain ⟨k, hk, rfl, hown, hb⟩ := hrel
    by_cases hlt : k < L.length
    · obtain ⟨b, o, rfl, e1⟩ := hc (by omega)
      obtain ⟨u, hu, hiu⟩ := e1 k hlt
      have d1 := (hb.cell (p := ⟨b, o + k, none⟩) (World.block_lt_of_cell? _ _ hu)).trans hu
      have hcp := copy_any u (L.getD k []) wr (hiu.below hb)
      have HT := Lib.hid (take_succL L k hlt)
      obtain ⟨pu, cu, rfl, _⟩ := hiu
      clear hc e1 hu
      generalize L.getD k [] = l at *
      obtain ⟨us, hus, howns, hin⟩ := hown
      have htl : (L.take k).length = k := by simp; omega
      rw [htl] at howns
      obtain ⟨po, co, rfl⟩ := owns_shape howns
      have HIN := Lib.hid hin
      have HUS := Lib.hid hus
      clear hin hus
      go_wp2_with fail
      refine hcp.mono ?_
      rintro e w2 ⟨vc, rfl, hoc, hb2⟩
      have howns2 := owns_below howns hb2 (Nat.le_refl _)
      have hoc' : OwnI w2 w.heap.size vc l := owns_base hoc hb.size
      obtain ⟨pc, cc, rfl⟩ := owns_shape hoc
      have HTL := Lib.hid htl
      have hkm : k * 24 ≤ 140737488351232 := by omega
      clear hoc hcp htl howns
      have hb3 := hb.trans (hb2.mono hb.size)
      have hs3 := hb3.size
      go_wp2_with (at_builtin; refine wpList_append_own _ rfl _ _ 24 rfl w.heap.size 23 i0 (.slice none 0 0) 1 24 Tryd.underlying24 hi hz0 hz1 hz2 rfl (by decide) _ _ _ rfl (howns2.alloc _) ⟨w2.heap.size, 0, none⟩ 1 1 [.slice pc l.length cc] rfl rfl ?c1 ?c2 ?c3 ?c4 ?c5 ?_)
      case c1 =>
        intro j u hj
        match j, hj with
        | 0, hj => simp at hj; subst hj; exact cell_new (by simp) rfl
      case c2 => intro u hu; simp at hu; subst hu; rfl
      case c3 => have := HTL.out; unfold maxLen; omega
      case c4 => have := HTL.out; omega
      case c5 => simp; omega
      intro v' w4 hown' hgrow _
      have hb4 := (hb3.alloc hs3 (.cells #[.slice pc l.length cc] 23)).grown hgrow (by simp; omega) (fun i hi => (howns2.lt i hi).1)
      have hOL := OwnL.push (L := L.take k) HUS.out (by rw [HTL.out]; exact howns2.alloc (.cells #[.slice pc l.length cc] 23)) (fun j hj => (owns_below (HIN.out j hj) hb2 (Nat.le_refl _)).alloc (.cells #[.slice pc l.length cc] 23)) (hoc'.alloc (.cells #[.slice pc l.length cc] 23)) (by rw [HTL.out]; exact hown') hgrow
      clear hgrow howns2 hoc' hown' hb2 hb3 hb
      go_wp2
      go_roundw
      case rel => exact ⟨k + 1, by omega, by go_num, by rw [HT.out]; exact hOL, hb4⟩
      case measure => simp [intOf] <;> omega
    · have hkl : k = L.length := by omega
      go_wp2
      go_ret
      exact ⟨_, rfl, by rw [hkl, List.take_length] at hown; exact hown, hb⟩

set_option maxHeartbeats 1000000 in
theorem copyf_any (n : Int) (v : Value) (L : List (List Int)) (w : World) (h : Lists w v L) :
    Calls Tryd.prog 27 #[.agg #[.int .i64 n, v]] w fun e w' => ∃ v', e = .returned (.agg #[.int .i64 n, v']) ∧ OwnL w' w.heap.size v' L ∧ Below w.heap.size w w' := by
  have hcp := fun W (hb : Below w.heap.size w W) => copyl_any v L W (h.below hb)
  obtain ⟨p, c, rfl, _⟩ := h
  have hb0 : Below w.heap.size w ((w.alloc (.cells #[.int .i64 n, .slice p L.length c] 26)).alloc (.cells #[.int .i64 0, .slice none 0 0] 26)) := ((Below.refl _ _).alloc (Nat.le_refl _) _).alloc (by simp) _
  have HCP := Lib.hid hcp
  clear hcp
  go_enter Tryd.func27, Tryd.ntmps27
  go_wp2_with fail
  refine (HCP.out _ hb0).mono ?_
  rintro e w2 ⟨v', rfl, hown, hb2⟩
  have hX0 : Box w2 w.heap.size 26 #[.int .i64 n, .slice p L.length c] := ((Box.new w _ _).alloc _).below hb2 (by simp <;> omega)
  have hX1 : Box w2 (w.heap.size + 1) 26 #[.int .i64 0, .slice none 0 0] := (Box.at _ _ _ (by simp)).below hb2 (by simp <;> omega)
  have hb := hb0.trans (hb2.mono hb0.size)
  have hown' := hown.down (base' := w.heap.size + 2) (by simp)
  obtain ⟨pv, cv, rfl⟩ : ∃ p c, v' = .slice p L.length c := by
    rcases hown.shape with ⟨h1, h2⟩ | ⟨g, c, h⟩
    · exact ⟨none, 0, by rw [h1, h2]⟩
    · exact ⟨_, _, h⟩
  have k0 : w2.cell? ⟨w.heap.size, 0, none⟩ = some (.int .i64 n) := hX0.cell 0
  have k1 : w2.cell? ⟨w.heap.size, 1, none⟩ = some (.slice p L.length c) := hX0.cell 1
  have k1f := hX0.frozen 1
  have k2 : w2.cell? ⟨w.heap.size + 1, 0, none⟩ = some (.int .i64 0) := hX1.cell 0
  have k3 : w2.cell? ⟨w.heap.size + 1, 1, none⟩ = some (.slice none 0 0) := hX1.cell 1
  have k2f := hX1.frozen 0
  have k3f := hX1.frozen 1
  clear hown hb2 hX0 hX1
  go_wp2
  (try simp only [Exit.inBlock, Exit.then])
  refine bodyPost_ret (res_cell rfl rfl (by simp [go_sem, *]; rfl)) rfl ?_
  refine ⟨_, rfl, ?_, ((hb.setCell (by simp) _).setCell (by simp) _).setCell (by simp) _⟩
  exact (((hown'.setCell (by simp) _).setCell (by simp) _).setCell (by simp) _).down (by omega)
end L
end Go.Proofs.YtfhodbnhaaiceaaDoor
end
