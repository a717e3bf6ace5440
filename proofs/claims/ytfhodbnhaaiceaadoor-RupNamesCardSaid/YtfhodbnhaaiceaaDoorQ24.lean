/- Several texts, joined. -/
import Derived.Test.YtfhodbnhaaiceaaDoorQ23
import Derived.Defers
import Derived.Recover
import Derived.Laws.Pointers

/- Contract of slices.IndexFunc with the premises' reject. -/
section
namespace Go.Proofs.YtfhodbnhaaiceaaDoor
open Go.RowKit RA
namespace L
open K
set_option maxRecDepth 100000

/-- What IndexFunc answers. -/
noncomputable def indexR (F p : List (List Int)) : Int := match firstNot F p with | some i => i | none => -1

set_option maxHeartbeats 8000000 in
theorem rindex_any {w0 W : World} {bp bq bm m : Nat} {v : Value} {F : List (List Int)} (h : Prem w0 W bp bq bm m v F 0 (fun _ => false)) (h0 : checkF m F = 0) (hF : F.length ≤ 1000) (p : List (List Int)) (pv : Value) (hp : Lists w0 pv p) (hpE : firstE m p = 0) (hpl : p.length ≤ 1000) (ht : Tab w0) :
    Calls Tryd.prog 37 #[pv, .func (.func 38) #[.pointer (some ⟨bp, 0, none⟩)] #[]] W fun e W' => e = .returned (.int .i64 (indexR F p)) ∧ Below w0.heap.size w0 W' := by
  obtain ⟨ap, cp, rfl, hcap, _, hcell⟩ := id hp
  have hall := firstE_all hpE
  obtain ⟨R, hR⟩ : ∃ R, indexR F p = R := ⟨_, rfl⟩
  rw [hR]
  have HR := Lib.hid hR
  have HC := Lib.hid hcell
  have HA := Lib.hid hall
  have HT := Lib.hid ht
  have H0 : Hid (∃ (G : List (List Int)) (N : Nat) (S : List UInt8 → Bool) (v' : Value), Prem w0 W bp bq bm m v' G N S ∧ Sub (F ++ p.take 0) G S ∧ checkF m G = 0 ∧ G.length ≤ F.length + 0 ∧ N ≤ 0) := Lib.hid ⟨F, 0, _, v, h, by simpa using Sub.start F, h0, by omega, Nat.le_refl _⟩
  clear hcell hall hR h h0 hp hpE ht
  go_enter Tryd.func37, Tryd.ntmps37
  go_wp2
  go_loopw [5, 8] (fun _ i wr => ∃ k : Nat, k ≤ p.length ∧ i = .int .i64 k ∧ (∀ j, j < k → Imp (F ++ p.take j) (p.getD j [])) ∧ ∃ (G : List (List Int)) (N : Nat) (S : List UInt8 → Bool) (v' : Value), Prem w0 wr bp bq bm m v' G N S ∧ Sub (F ++ p.take k) G S ∧ checkF m G = 0 ∧ G.length ≤ F.length + k ∧ N ≤ k) (fun _ i _ => p.length - (intOf i).toNat)
  case atStart => exact ⟨0, Nat.zero_le _, rfl, fun j hj => absurd hj (Nat.not_lt_zero _), H0.out⟩
  case round =>
    obtain ⟨k, hk, rfl, himp, G, N, S, v', hprem, hsub, hG0, hGl, hN⟩ := hrel
    have HI := Lib.hid himp
    have HSUB := Lib.hid hsub
    have HG0 := Lib.hid hG0
    by_cases hlt : k < p.length
    · obtain ⟨b1, o1, rfl, e1⟩ := HC.out (by omega)
      obtain ⟨u, hu, hui⟩ := e1 k hlt
      have d1 := (hprem.bel.cell (p := ⟨b1, o1 + k, none⟩) (World.block_lt_of_cell? _ _ hu)).trans hu
      have HTS := Lib.hid (take_snoc' hlt)
      have hmem : p.getD k [] ∈ p := by rw [List.getD_eq_getElem?_getD, List.getElem?_eq_getElem hlt]; exact List.getElem_mem hlt
      have hE := HA.out _ hmem
      obtain ⟨hl1, hv1⟩ := checkE_ok hE
      obtain ⟨c, hc⟩ : ∃ c, p.getD k [] = c := ⟨_, rfl⟩
      rw [hc] at hui hE hl1 hv1
      have HCC := Lib.hid hc
      have HE := Lib.hid hE
      have hrej := reject_any hprem hG0 (by omega) c hv1 u hui (by omega) HT.out (by omega)
      obtain ⟨au, cu, rfl, _⟩ := id hui
      have HGL := Lib.hid hGl
      have HN := Lib.hid hN
      have hb := hprem.bel
      clear himp hsub hG0 hprem e1 hu hui hmem hE hc hl1 hv1 hGl hN hb
      go_wp2_with fail
      refine hrej.mono ?_
      have step : Hid (∀ j, j < k + 1 → Imp (F ++ p.take k) c → Imp (F ++ p.take j) (p.getD j [])) := Lib.hid fun j hj hi => by
        by_cases hjk : j = k
        · subst hjk; rw [HCC.out]; exact hi
        · exact HI.out j (by omega)
      have hnext : Hid (F ++ p.take (k + 1) = (F ++ p.take k) ++ [c]) := Lib.hid (by rw [HTS.out, HCC.out, List.append_assoc])
      rintro e w2 (⟨ht, rfl, hp2⟩ | ⟨hni, hs1, hs0, rfl, hp2⟩ | ⟨hi, rfl, v2, hp2⟩)
      · obtain ⟨hi, hs2⟩ := HSUB.out.taken ht
        have HQ : Hid ((∀ j, j < k + 1 → Imp (F ++ p.take j) (p.getD j [])) ∧ ∃ (G : List (List Int)) (N : Nat) (S : List UInt8 → Bool) (v' : Value), Prem w0 w2 bp bq bm m v' G N S ∧ Sub (F ++ p.take (k + 1)) G S ∧ checkF m G = 0 ∧ G.length ≤ F.length + (k + 1) ∧ N ≤ k + 1) :=
          Lib.hid ⟨fun j hj => step.out j hj hi, G, N, S, v', hp2, by rw [hnext.out]; exact hs2, HG0.out, by have := HGL.out; omega, by have := HN.out; omega⟩
        clear hrej ht hp2 hi hs2 step hnext
        go_wp2
        go_roundw
        case rel => exact ⟨k + 1, by omega, by go_num, HQ.out⟩
        case measure => simp [intOf]; omega
      · have hni' : ¬ Imp (F ++ p.take k) c := fun hi => hni (HSUB.out.imp.1 hi)
        have hR2 : indexR F p = k := by
          unfold indexR
          rw [firstNot_at hlt HI.out (by rw [HCC.out]; exact hni')]
        have HB := Lib.hid hp2.bel
        have HR2 := Lib.hid hR2
        clear hrej hni hs1 hs0 hp2 hni' hR2 step hnext
        go_wp2
        go_ret
        exact ⟨ret_int (by rw [← HR.out, HR2.out]), HB.out⟩
      · have hs2 : Sub (F ++ p.take (k + 1)) (G ++ [c]) (updS S (KP.keyB c)) := by rw [hnext.out]; exact HSUB.out.more
        have hi' : Imp (F ++ p.take k) c := HSUB.out.imp.2 hi
        have HQ : Hid ((∀ j, j < k + 1 → Imp (F ++ p.take j) (p.getD j [])) ∧ ∃ (G : List (List Int)) (N : Nat) (S : List UInt8 → Bool) (v' : Value), Prem w0 w2 bp bq bm m v' G N S ∧ Sub (F ++ p.take (k + 1)) G S ∧ checkF m G = 0 ∧ G.length ≤ F.length + (k + 1) ∧ N ≤ k + 1) :=
          Lib.hid ⟨fun j hj => step.out j hj hi', G ++ [c], N + 1, _, v2, hp2, hs2, checkF_more HG0.out (by have := HGL.out; omega) HE.out, by have := HGL.out; simp; omega, by have := HN.out; omega⟩
        clear hrej hp2 hi hs2 hi' step hnext
        go_wp2
        go_roundw
        case rel => exact ⟨k + 1, by omega, by go_num, HQ.out⟩
        case measure => simp [intOf]; omega
    · obtain rfl : k = p.length := by omega
      have hR2 : indexR F p = -1 := by
        unfold indexR
        rw [firstNot_none HI.out]
      have HB := Lib.hid hprem.bel
      have HR2 := Lib.hid hR2
      clear hprem himp hsub hG0 hR2
      go_wp2
      go_ret
      exact ⟨ret_int (by rw [← HR.out, HR2.out]), HB.out⟩
end L
end Go.Proofs.YtfhodbnhaaiceaaDoor
end

/- Contracts of rup's Implied and Check. -/
section
namespace Go.Proofs.YtfhodbnhaaiceaaDoor
open Go.RowKit RA
namespace L
open K
set_option maxRecDepth 100000

theorem ta_yes (x : Int) (W : World) : (Instr.typeAssert (.iface 30 (.int .i64 x)) 20 30 true).run Tryd.prog W = .ok (.tuple #[.int .i64 x, .bool true]) W := by kernel_rfl
theorem ta_no (W : World) : (Instr.typeAssert .nilIface 20 30 true).run Tryd.prog W = .ok (.tuple #[.int .i64 0, .bool false]) W := by kernel_rfl

set_option maxHeartbeats 4000000 in
theorem icatch_panic (p q : Nat) (x : Int) (z : Bool) (y : Int) (older : List PanicEntry) (w : World) (hp : Box w p 4 #[.bool z]) (hq : Box w q 30 #[.int .i64 y]) (hpq : p ≠ q) :
    CallsD Tryd.prog 29 #[.pointer (some ⟨p, 0, none⟩), .pointer (some ⟨q, 0, none⟩)] (.panicking ({ v := .iface 30 (.int .i64 x), recovered := false } :: older)) w fun e u' w' =>
      e = .returned (.tuple #[]) ∧ u' = .panicking ({ v := .iface 30 (.int .i64 x), recovered := true } :: older) ∧ w' = (w.setCell ⟨p, 0, none⟩ (.bool false)).setCell ⟨q, 0, none⟩ (.int .i64 x) := by
  have cp := hp.cell 0; have fp := hp.frozen 0
  have hq2 := hq.setOther ⟨p, 0, none⟩ (by show q ≠ p; omega) (.bool false)
  have cq := hq2.cell 0; have fq := hq2.frozen 0
  simp only [List.getElem?_toArray, List.getElem?_cons_zero] at cp cq
  refine callsD_of_wpS Tryd.func29 rfl fun c₀ cs hu => ?_
  apply wpS_seq
  apply wpS_region
  simp [wpOpsS, go_sem, recoverD, hu, Tryd.ntmps29, Exit.thenS, ta_yes, Array.replicate_succ]
  apply wpS_seq
  apply wpS_region
  simp [wpOpsS, go_sem, Exit.thenS]
  refine wpS_cond (t := true) (by simp [Act.eval]) ?_
  simp only [if_true]
  apply wpS_region
  simp [wpOpsS, go_sem, cp, fp, cq, fq, bodyPostS, results, Tryd.results29]

set_option maxHeartbeats 4000000 in
theorem icatch_idle (p q : Addr) (w : World) :
    CallsD Tryd.prog 29 #[.pointer (some p), .pointer (some q)] .returning w fun e u' w' => e = .returned (.tuple #[]) ∧ u' = .returning ∧ w' = w := by
  refine callsD_of_wpS Tryd.func29 rfl fun c₀ cs hu => ?_
  apply wpS_seq
  apply wpS_region
  simp [wpOpsS, go_sem, recoverD, hu, Tryd.ntmps29, Exit.thenS, ta_no, Array.replicate_succ]
  apply wpS_seq
  apply wpS_region
  simp [wpOpsS, go_sem, Exit.thenS]
  refine wpS_cond (t := false) (by simp [Act.eval]) ?_
  simp only [Bool.false_eq_true, if_false]
  refine wpS_of_wp (wp_skip ?_)
  cases c₀
  simp_all [bodyPostS, results, Tryd.results29]

set_option maxHeartbeats 4000000 in
theorem ccatch_panic (p q : Nat) (x : Int) (z y : Int) (older : List PanicEntry) (w : World) (hp : Box w p 3 #[.int .i64 z]) (hq : Box w q 30 #[.int .i64 y]) (hpq : p ≠ q) :
    CallsD Tryd.prog 36 #[.pointer (some ⟨p, 0, none⟩), .pointer (some ⟨q, 0, none⟩)] (.panicking ({ v := .iface 30 (.int .i64 x), recovered := false } :: older)) w fun e u' w' =>
      e = .returned (.tuple #[]) ∧ u' = .panicking ({ v := .iface 30 (.int .i64 x), recovered := true } :: older) ∧ w' = (w.setCell ⟨p, 0, none⟩ (.int .i64 0)).setCell ⟨q, 0, none⟩ (.int .i64 x) := by
  have cp := hp.cell 0; have fp := hp.frozen 0
  have hq2 := hq.setOther ⟨p, 0, none⟩ (by show q ≠ p; omega) (.int .i64 0)
  have cq := hq2.cell 0; have fq := hq2.frozen 0
  simp only [List.getElem?_toArray, List.getElem?_cons_zero] at cp cq
  refine callsD_of_wpS Tryd.func36 rfl fun c₀ cs hu => ?_
  apply wpS_seq
  apply wpS_region
  simp [wpOpsS, go_sem, recoverD, hu, Tryd.ntmps36, Exit.thenS, ta_yes, Array.replicate_succ]
  apply wpS_seq
  apply wpS_region
  simp [wpOpsS, go_sem, Exit.thenS]
  refine wpS_cond (t := true) (by simp [Act.eval]) ?_
  simp only [if_true]
  apply wpS_region
  simp [wpOpsS, go_sem, cp, fp, cq, fq, bodyPostS, results, Tryd.results36]

set_option maxHeartbeats 4000000 in
theorem ccatch_idle (p q : Addr) (w : World) :
    CallsD Tryd.prog 36 #[.pointer (some p), .pointer (some q)] .returning w fun e u' w' => e = .returned (.tuple #[]) ∧ u' = .returning ∧ w' = w := by
  refine callsD_of_wpS Tryd.func36 rfl fun c₀ cs hu => ?_
  apply wpS_seq
  apply wpS_region
  simp [wpOpsS, go_sem, recoverD, hu, Tryd.ntmps36, Exit.thenS, ta_no, Array.replicate_succ]
  apply wpS_seq
  apply wpS_region
  simp [wpOpsS, go_sem, Exit.thenS]
  refine wpS_cond (t := false) (by simp [Act.eval]) ?_
  simp only [Bool.false_eq_true, if_false]
  refine wpS_of_wp (wp_skip ?_)
  cases c₀
  simp_all [bodyPostS, results, Tryd.results36]
end L
end Go.Proofs.YtfhodbnhaaiceaaDoor
end

/- Contract of rup's Implied. -/
section
namespace Go.Proofs.YtfhodbnhaaiceaaDoor
open Go.RowKit RA
namespace L
open K
set_option maxRecDepth 100000

theorem lists_one {w : World} {b : Nat} {T : TypeId} {vc : Value} {c : List Int} (h : Box w b T #[vc]) (hc : Ints w vc c) : Lists w (.slice (some ⟨b, 0, none⟩) 1 1) [c] :=
  ⟨_, 1, rfl, Nat.le_refl _, by simp, fun _ => ⟨b, 0, rfl, fun j hj => by
    obtain rfl : j = 0 := by simp at hj; exact hj
    exact ⟨vc, by simpa using h.cell 0, hc⟩⟩⟩

theorem two_cells {w : World} {p q : Nat} {T1 T2 : TypeId} {x y : Value} (hp : Box w p T1 #[x]) (hq : Box w q T2 #[y]) (hpq : p ≠ q) (u t : Value) :
    ((w.setCell ⟨p, 0, none⟩ u).setCell ⟨q, 0, none⟩ t).cell? ⟨p, 0, none⟩ = some u ∧ ((w.setCell ⟨p, 0, none⟩ u).setCell ⟨q, 0, none⟩ t).cell? ⟨q, 0, none⟩ = some t := by
  have h1 := (hp.set 0 u).setOther ⟨q, 0, none⟩ (by show p ≠ q; exact hpq) t
  have h2 := (hq.setOther ⟨p, 0, none⟩ (by show q ≠ p; omega) u).set 0 t
  exact ⟨by simpa using h1.cell 0, by simpa using h2.cell 0⟩

set_option maxHeartbeats 8000000 in
theorem implied_any (n : Int) (v : Value) (F : List (List Int)) (vc : Value) (c : List Int) (w : World) (hn : I64 n) (hF : ∀ c ∈ F, ∀ x ∈ c, I64 x) (hL : Lists w v F) (hc : ∀ x ∈ c, I64 x) (hv : Ints w vc c) (hmF : F.length ≤ 1000) (hm : c.length ≤ 1000000) :
    Calls Tryd.prog 14 #[.agg #[.int .i64 n, v], vc] w fun e w' => e = .returned (.tuple #[.bool (impliedR n F c).1, .int .i64 (impliedR n F c).2]) ∧ Below w.heap.size w w' := by
  have hbg := fun W (hb : Below w.heap.size w W) (u : Value) (hu : Lists W u [c]) => begin_any n v F u [c] W hn hF (hL.below hb) (fun d hd => by simp at hd; subst hd; exact hc) hu (by omega) (by simp)
  have hmf : ∀ (fn : Fn) (first cap : Array Value) (w : World), (Instr.makeFunc fn first cap).run Tryd.prog w = .ok (.func fn first cap) w := fun _ _ _ _ => rfl
  obtain ⟨pv, cv, rfl, hx1⟩ := id hL
  obtain ⟨pc, cc, rfl, hx2⟩ := id hv
  clear hx1 hx2
  obtain ⟨R, hR⟩ : ∃ R, impliedR n F c = R := ⟨_, rfl⟩
  rw [hR]
  have HR := Lib.hid hR
  have HBG := Lib.hid hbg
  have HV := Lib.hid hv
  clear hbg hR hL hv
  go_enter_defers Tryd.func14, Tryd.ntmps14
  go_wp2_with fail
  obtain ⟨W1, hW1⟩ : ∃ X, ((((w.alloc (.cells #[.int .i64 n, .slice pv F.length cv] 26)).alloc (.cells #[.bool false] 4)).alloc (.cells #[.int .i64 0] 30)).alloc (.cells #[.slice pc c.length cc] 23)) = X := ⟨_, rfl⟩
  have hb1 : Below w.heap.size w W1 := by rw [← hW1]; exact ((((Below.refl _ _).alloc (Nat.le_refl _) _).alloc (by simp) _).alloc (by simp; omega) _).alloc (by simp; omega) _
  have hp1 : Box W1 (w.heap.size + 1) 4 #[.bool false] := by rw [← hW1]; exact ((Box.at _ _ _ (by simp)).alloc _).alloc _
  have hq1 : Box W1 (w.heap.size + 1 + 1) 30 #[.int .i64 0] := by rw [← hW1]; exact (Box.at _ _ _ (by simp)).alloc _
  have hr1 : Box W1 (w.heap.size + 1 + 1 + 1) 23 #[.slice pc c.length cc] := by rw [← hW1]; exact Box.at _ _ _ (by simp)
  rw [hW1]
  clear hW1
  have hv1 := HV.out.below hb1
  have hcall := HBG.out W1 hb1 _ (lists_one hr1 hv1)
  have HV1 := Lib.hid hv1
  have HB1 := Lib.hid hb1
  have HP1 := Lib.hid hp1
  have HQ1 := Lib.hid hq1
  clear hv1 hb1 hp1 hq1 hr1
  refine hcall.mono ?_
  have panics : ∀ (E : Int) (w2 : World), Below W1.heap.size W1 w2 → R = (false, E) → Hid (Box w2 (w.heap.size + 1) 4 #[.bool false] ∧ Box w2 (w.heap.size + 1 + 1) 30 #[.int .i64 0] ∧ Below w.heap.size w ((w2.setCell ⟨w.heap.size + 1, 0, none⟩ (.bool false)).setCell ⟨w.heap.size + 1 + 1, 0, none⟩ (.int .i64 E))) := fun E w2 hb _ =>
    Lib.hid ⟨HP1.out.below hb HP1.out.lt, HQ1.out.below hb HQ1.out.lt, ((HB1.out.trans (hb.mono HB1.out.size)).setCell (by show _ ≤ w.heap.size + 1; omega) _).setCell (by show _ ≤ w.heap.size + 1 + 1; omega) _⟩
  rintro e w2 ⟨hb2, (⟨hne, rfl⟩ | ⟨h0, hne, rfl⟩ | ⟨h0, h1, bp, bq, bm, v', rfl, hprem⟩)⟩
  · have hRR : R = (false, checkF n F) := by rw [← HR.out]; unfold impliedR; rw [if_pos hne]
    have hpp := panics _ w2 hb2 hRR
    have HRR := Lib.hid hRR
    generalize checkF n F = E at *
    clear hcall panics hRR
    go_wp2
    refine leaves_cons (f := 29) (args := #[.pointer (some ⟨w.heap.size + 1, 0, none⟩), .pointer (some ⟨w.heap.size + 1 + 1, 0, none⟩)]) (by simp) (by simp [go_sem]) ?_
    refine (icatch_panic (w.heap.size + 1) (w.heap.size + 1 + 1) E false 0 [] _ hpp.out.1 hpp.out.2.1 (by omega)).mono ?_
    rintro e u' w'' ⟨rfl, rfl, rfl⟩
    obtain ⟨cx, cy⟩ := two_cells hpp.out.1 hpp.out.2.1 (by omega) (.bool false) (.int .i64 E)
    have hfin := hpp.out.2.2
    generalize ((w2.setCell ⟨w.heap.size + 1, 0, none⟩ (.bool false)).setCell ⟨w.heap.size + 1 + 1, 0, none⟩ (.int .i64 E)) = X at *
    simp [Leaves, settle, results, Tryd.results14, go_sem, cx, cy]
    exact ⟨by rw [HRR.out]; simp, hfin⟩
  · have hRR : R = (false, firstE n [c]) := by rw [← HR.out]; unfold impliedR; rw [if_neg (by simp [h0]), if_pos (by rw [← firstE_one]; exact hne), firstE_one]
    have hpp := panics _ w2 hb2 hRR
    have HRR := Lib.hid hRR
    generalize firstE n [c] = E at *
    clear hcall panics hRR h0
    go_wp2
    refine leaves_cons (f := 29) (args := #[.pointer (some ⟨w.heap.size + 1, 0, none⟩), .pointer (some ⟨w.heap.size + 1 + 1, 0, none⟩)]) (by simp) (by simp [go_sem]) ?_
    refine (icatch_panic (w.heap.size + 1) (w.heap.size + 1 + 1) E false 0 [] _ hpp.out.1 hpp.out.2.1 (by omega)).mono ?_
    rintro e u' w'' ⟨rfl, rfl, rfl⟩
    obtain ⟨cx, cy⟩ := two_cells hpp.out.1 hpp.out.2.1 (by omega) (.bool false) (.int .i64 E)
    have hfin := hpp.out.2.2
    generalize ((w2.setCell ⟨w.heap.size + 1, 0, none⟩ (.bool false)).setCell ⟨w.heap.size + 1 + 1, 0, none⟩ (.int .i64 E)) = X at *
    simp [Leaves, settle, results, Tryd.results14, go_sem, cx, cy]
    exact ⟨by rw [HRR.out]; simp, hfin⟩
  · have hcE : checkE n c = 0 := by rw [← firstE_one]; exact h1
    obtain ⟨m, rfl⟩ : ∃ m : Nat, n = m := ⟨n.toNat, by have := checkF_range h0; omega⟩
    obtain ⟨hl4, hval⟩ := checkE_ok hcE
    have himp := imply_any hprem h0 (by omega) c hval _ (HV1.out.below hb2) (by omega)
    have HP2 := Lib.hid (HP1.out.below hb2 HP1.out.lt)
    have HQ2 := Lib.hid (HQ1.out.below hb2 HQ1.out.lt)
    have HB2 := Lib.hid (HB1.out.trans (hb2.mono HB1.out.size))
    have HRR : Hid (∀ b : Bool, (b = true ↔ Imp F c) → R = (b, 0)) := Lib.hid fun b hb => by
      rw [← HR.out]; unfold impliedR; rw [if_neg (by simp [h0]), if_neg (by simp [hcE])]
      congr 1
      cases b with
      | true => simpa using hb.1 rfl
      | false =>
        have hni : ¬ Imp F c := fun h => by have := hb.2 h; cases this
        simpa using hni
    clear hcall panics hprem hb2 h0 h1 hcE hval
    go_wp2_with fail
    refine himp.mono ?_
    rintro e w3 ⟨⟨b, rfl, hbb⟩, hb3⟩
    have hP3 := HP2.out.below hb3 HP2.out.lt
    have hQ3 := HQ2.out.below hb3 HQ2.out.lt
    have hB3 := HB2.out.trans (hb3.mono HB2.out.size)
    have cp := hP3.cell 0
    have fp := hP3.frozen 0
    have hq4 := hQ3.setOther ⟨w.heap.size + 1, 0, none⟩ (by show w.heap.size + 1 + 1 ≠ w.heap.size + 1; omega) (.bool b)
    have cq := hq4.cell 0
    have fq := hq4.frozen 0
    simp only [List.getElem?_toArray, List.getElem?_cons_zero] at cp cq
    obtain ⟨cx, cy⟩ := two_cells hP3 hQ3 (by omega) (.bool b) (.int .i64 0)
    have hfin : Below w.heap.size w ((w3.setCell ⟨w.heap.size + 1, 0, none⟩ (.bool b)).setCell ⟨w.heap.size + 1 + 1, 0, none⟩ (.int .i64 0)) := (hB3.setCell (by show _ ≤ w.heap.size + 1; omega) _).setCell (by show _ ≤ w.heap.size + 1 + 1; omega) _
    have HCX := Lib.hid cx
    have HCY := Lib.hid cy
    have HF := Lib.hid hfin
    have HBB := Lib.hid (HRR.out b hbb)
    clear himp hb3 hP3 hQ3 hB3 hq4 cx cy hfin hbb
    go_wp2
    refine leaves_cons (f := 29) (args := #[.pointer (some ⟨w.heap.size + 1, 0, none⟩), .pointer (some ⟨w.heap.size + 1 + 1, 0, none⟩)]) (by simp) (by simp [go_sem]) ?_
    refine (icatch_idle ⟨w.heap.size + 1, 0, none⟩ ⟨w.heap.size + 1 + 1, 0, none⟩ _).mono ?_
    rintro e u' w'' ⟨rfl, rfl, rfl⟩
    have cx := HCX.out
    have cy := HCY.out
    have hfin := HF.out
    generalize ((w3.setCell ⟨w.heap.size + 1, 0, none⟩ (.bool b)).setCell ⟨w.heap.size + 1 + 1, 0, none⟩ (.int .i64 0)) = X at *
    simp [Leaves, settle, results, Tryd.results14, go_sem, cx, cy]
    exact ⟨by rw [HBB.out]; simp, hfin⟩
end L
end Go.Proofs.YtfhodbnhaaiceaaDoor
end
