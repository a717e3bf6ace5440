/- Several texts, joined. -/
import Derived.Test.YtfhodbnhaaiceaaDoorQ25
import Derived.Test.YtfhodbnhaaiceaaDoorQ20
import Derived.Test.YtfhodbnhaaiceaaDoorQ09
import Derived.Test.YtfhodbnhaaiceaaDoorQ12

/- Contracts of the laws' helpers: four, known, clauses. -/
section
namespace Go.Proofs.YtfhodbnhaaiceaaDoor
open Go.RowKit RA
namespace L
open K
set_option maxRecDepth 100000

theorem ints_i64 {w : World} {v : Value} {l : List Int} (h : IntsW .i64 w v l) : ∀ x ∈ l, I64 x := by
  obtain ⟨p, c, _, _, _, hw, _⟩ := h
  exact fun x hx => wf64 (hw x hx)
theorem fourL_i64 : ∀ c ∈ fourL, ∀ x ∈ c, I64 x := by simp [I64, fourL]
set_option maxHeartbeats 2000000 in
theorem four_any (w : World) :
    Calls Tryd.prog 22 #[] w fun e w' => ∃ v, e = .returned (.agg #[.int .i64 2, v]) ∧ OwnL w' w.heap.size v fourL ∧ Below w.heap.size w w' := by
  go_enter Tryd.func22, Tryd.ntmps22
  go_wp2
  (try simp only [Exit.inBlock, Exit.then])
  refine bodyPost_ret (res_cell rfl rfl (by simp [go_sem]; rfl)) rfl ?_
  refine ⟨_, rfl, ?_, ?_⟩
  · refine ⟨[.slice (some ⟨w.heap.size + 1, 0, none⟩) 2 2, .slice (some ⟨w.heap.size + 1 + 1, 0, none⟩) 2 2, .slice (some ⟨w.heap.size + 1 + 1 + 1, 0, none⟩) 2 2, .slice (some ⟨w.heap.size + 1 + 1 + 1 + 1, 0, none⟩) 2 2], rfl, owns_of_box (Box.at _ _ _ (by simp)) (by omega) rfl rfl (by simp [maxLen]), fun j hj => ?_⟩
    have h3 : j = 0 ∨ j = 1 ∨ j = 2 ∨ j = 3 := by simp [fourL] at hj; omega
    rcases h3 with rfl | rfl | rfl | rfl
    · exact owns_of_box (((((Box.at _ 3 #[.int .i64 1, .int .i64 2] (by simp)).alloc _).alloc _).alloc _).alloc _) (by omega) rfl rfl (by simp [maxLen])
    · exact owns_of_box ((((Box.at _ 3 #[.int .i64 1, .int .i64 (-2)] (by simp)).alloc _).alloc _).alloc _) (by omega) rfl rfl (by simp [maxLen])
    · exact owns_of_box (((Box.at _ 3 #[.int .i64 (-1), .int .i64 2] (by simp)).alloc _).alloc _) (by omega) rfl rfl (by simp [maxLen])
    · exact owns_of_box ((Box.at _ 3 #[.int .i64 (-1), .int .i64 (-2)] (by simp)).alloc _) (by omega) rfl rfl (by simp [maxLen])
  · exact ((((((Below.refl _ _).alloc (Nat.le_refl _) _).alloc (by simp) _).alloc (by simp; omega) _).alloc (by simp; omega) _).alloc (by simp; omega) _).alloc (by simp; omega) _
theorem four_lists {w : World} {base : Nat} {v : Value} (h : OwnL w base v fourL) : Lists w v fourL := h.lists (by simp [fourL]) (fun j hj => by
  have h3 : j = 0 ∨ j = 1 ∨ j = 2 ∨ j = 3 := by simp [fourL] at hj; omega
  rcases h3 with rfl | rfl | rfl | rfl <;> simp [fourL])

set_option maxHeartbeats 4000000 in
theorem known5_any (w : World) (ht : Tab w) : Calls Tryd.prog 13 #[] w fun e w' => e = .returned (.bool true) ∧ Below w.heap.size w w' := by
  go_enter Tryd.func13, Tryd.ntmps13
  go_wp2_with fail
  refine (four_any _).mono ?_
  rintro e w1 ⟨v, rfl, hL, hb⟩
  refine Hid.out ?_
  refine Lib.hid ?_
  obtain ⟨W2, hW2⟩ : ∃ X, (w1.alloc (.cells #[.int .i64 1] 3)).alloc (.cells #[.slice (some ⟨w1.heap.size, 0, none⟩) 1 1, .slice none 0 0] 23) = X := ⟨_, rfl⟩
  have hb2 : Below w1.heap.size w1 W2 := by rw [← hW2]; exact ((Below.refl _ _).alloc (Nat.le_refl _) _).alloc (by simp) _
  have hx1 : Box W2 w1.heap.size 3 #[.int .i64 1] := by rw [← hW2]; exact (Box.new _ _ _).alloc _
  have hx2 : Box W2 (w1.heap.size + 1) 23 #[.slice (some ⟨w1.heap.size, 0, none⟩) 1 1, .slice none 0 0] := by rw [← hW2]; exact Box.at _ _ _ (by simp)
  have hP : Lists W2 (.slice (some ⟨w1.heap.size + 1, 0, none⟩) 2 2) [[1], []] := ⟨_, 2, rfl, Nat.le_refl _, by simp, fun _ => ⟨w1.heap.size + 1, 0, rfl, fun j hj => by
    have h3 : j = 0 ∨ j = 1 := by simp at hj; omega
    rcases h3 with rfl | rfl
    · exact ⟨_, hx2.cell 0, _, 1, rfl, Nat.le_refl _, by simp, fun _ => ⟨w1.heap.size, 0, rfl, fun i hi => by
        obtain rfl : i = 0 := by simp at hi; exact hi
        exact hx1.cell 0⟩⟩
    · exact ⟨_, hx2.cell 1, _, 0, rfl, Nat.le_refl _, by simp, fun h => absurd h (by simp)⟩⟩⟩
  have hc := check5_any 2 v fourL (.slice (some ⟨w1.heap.size + 1, 0, none⟩) 2 2) [[1], []] W2 (by simp [I64]) fourL_i64 ((four_lists hL).below hb2) (by simp [I64]) hP (by simp [fourL]) (by simp) ((ht.below hb).below hb2)
  rw [checkA_known] at hc
  have HB := Lib.hid (hb.trans (hb2.mono hb.size))
  rw [← hW2] at hc HB
  clear hL hb hb2 hx1 hx2 hP hW2
  go_wp2_with fail
  refine hc.mono ?_
  rintro e w2 ⟨rfl, hb3⟩
  refine Hid.out ?_
  refine Lib.hid ?_
  have HB3 := Lib.hid (HB.out.trans (hb3.mono HB.out.size))
  clear hb3 hc
  go_wp2
  go_ret
  exact ⟨rfl, HB3.out⟩

/-- What clauses makes. -/
def ClausesPost (V : Int) (P8 : List (List Int)) (w w' : World) (r : Value) : Prop :=
  (fitOk P8 = true ∧ ∃ v', r = .tuple #[v', .bool true] ∧ OwnL w' w.heap.size v' (fitL V P8)) ∨ (fitOk P8 = false ∧ r = .tuple #[.slice none 0 0, .bool false])

set_option maxHeartbeats 4000000 in
theorem clauses_any (V : Int) (hV : 1 ≤ V ∧ V ≤ 12) (p : Option Addr) (n c : Nat) (v : Value) (P8 : List (List Int)) (w : World) (hW : ListsW .i8 w v P8) :
    Calls Tryd.prog 23 #[.agg #[.int .i64 V, .slice p n c], v] w fun e w' => ∃ r, e = .returned r ∧ ClausesPost V P8 w w' r ∧ Below w.heap.size w w' := by
  have hfit := fun W (hb : Below w.heap.size w W) => fit_any (V - 1) v P8 W (by simp [Lit.wf, IntKind.min, IntKind.max, IntKind.signed, IntKind.bits]; omega) (hW.below hb)
  obtain ⟨pv, cv, rfl, _⟩ := id hW
  obtain ⟨hV1, hV2⟩ := hV
  have hmod : 1 + (V - 1) % 12 = V := by omega
  rw [hmod] at hfit
  have HF := Lib.hid hfit
  clear hfit hW hmod
  go_enter Tryd.func23, Tryd.ntmps23
  go_wp2_with fail
  refine (HF.out _ ((Below.refl _ _).alloc (Nat.le_refl _) _)).mono ?_
  rintro e w1 ⟨r, rfl, hp, hb1⟩
  have HB := Lib.hid (((Below.refl _ w).alloc (Nat.le_refl _) (.cells #[.int .i64 V, .slice p n c] 26)).trans (hb1.mono (by simp)))
  rcases hp with ⟨hok, v', rfl, hown⟩ | ⟨hok, rfl⟩
  · have hown2 := hown.down (base' := w.heap.size) (by simp)
    have hsh : ∃ q k d, v' = .slice q k d := by
      rcases hown.shape with ⟨h, _⟩ | ⟨g, c, h⟩
      · exact ⟨_, _, _, h⟩
      · exact ⟨_, _, _, h⟩
    obtain ⟨q, k, d, rfl⟩ := hsh
    have HO := Lib.hid hown2
    have HOK := Lib.hid hok
    clear hown hown2 hb1 hok
    go_wp2
    go_ret2
    exact ⟨_, rfl, .inl ⟨HOK.out, _, rfl, HO.out.alloc _⟩, HB.out.alloc HB.out.size _⟩
  · have HOK := Lib.hid hok
    clear hb1 hok
    go_wp2
    go_ret2
    exact ⟨_, rfl, .inr ⟨HOK.out, rfl⟩, HB.out.alloc HB.out.size _⟩
end L
end Go.Proofs.YtfhodbnhaaiceaaDoor
end

/- Contract of the reference's propagate. -/
section
namespace Go.Proofs.YtfhodbnhaaiceaaDoor
open Go.RowKit Go.Conc
namespace L
open K

def RPPost (w : World) (n : Nat) (cs : List (List Int)) (A : List Int) (e : Ending) (w' : World) : Prop :=
  ((U.Bad cs A ∧ e = .returned (.tuple #[.map none, .bool true])) ∨ ∃ b sz S, e = .returned (.tuple #[.map (some b), .bool false]) ∧ MapB w' b sz S ∧ U.RInv n cs A S sz ∧ U.Closed cs A fun y => S y = true) ∧ Below w.heap.size w w'

theorem i64_of {n : Nat} {x : Int} (hn : n ≤ 1048576) (h : x.natAbs ≤ n) : I64 x ∧ I64 (-x) := by unfold I64; omega

set_option maxHeartbeats 4000000 in
theorem rprop_any {w : World} {n : Nat} {cs : List (List Int)} {A : List Int} (hn : n ≤ 1048576) (hcs : cs.length ≤ 1048576) (v u : Value) (hL : Lists w v cs) (hA : Ints w u A) (hv : ∀ c ∈ cs, U.Val n c) (hvA : U.Val n A) :
    Calls Tryd.prog 55 #[v, u] w (RPPost w n cs A) := by
  obtain ⟨pv, cv, rfl, hcv, hlv, hcellv⟩ := hL
  obtain ⟨pu, cu, rfl, hcu, hlu, hcellu⟩ := hA
  have HV := Lib.hid hv
  have HVA := Lib.hid hvA
  have HCV := Lib.hid hcellv
  have HCU := Lib.hid hcellu
  clear hv hvA hcellv hcellu
  go_enter Tryd.func55, Tryd.ntmps55
  have hmm := @run_makeMap Tryd.prog
  go_wp2
  go_loopw [7] (fun i wr => ∃ (k : Nat) (S : Int → Bool) (sz : Nat), k ≤ A.length ∧ i = .int .i64 k ∧ MapB wr w.heap.size sz S ∧ U.RInv n cs A S sz ∧ (∀ j, j < k → S (A.getD j 0) = true) ∧ (∀ y, S y = true → y ∈ A) ∧ Below w.heap.size w wr) (fun i _ => A.length - (intOf i).toNat)
  case atStart => exact ⟨0, _, 0, Nat.zero_le _, rfl, MapB.made w, U.RInv.start n cs A, fun j hj => absurd hj (Nat.not_lt_zero _), fun y h => absurd h (by simp), (Below.refl _ _).alloc (Nat.le_refl _) _⟩
  case round =>
    obtain ⟨k, S, sz, hk, rfl, hm, hi, hj, hsub, hb⟩ := hrel
    have HM := Lib.hid hm
    have HI := Lib.hid hi
    have HJ := Lib.hid hj
    have HSUB := Lib.hid hsub
    clear hj hsub hmm
    by_cases hlt : k < A.length
    · have hlt' : (k : Int) < (A.length : Int) := by omega
      obtain ⟨b1, o1, rfl, e1⟩ := HCU.out (by omega)
      have d1 := (hb.cell (p := ⟨b1, o1 + k, none⟩) (World.block_lt_of_cell? _ _ (e1 k hlt))).trans (e1 k hlt)
      obtain ⟨x, ex⟩ : ∃ x, A.getD k 0 = x := ⟨_, rfl⟩
      have hxA : x ∈ A := by rw [← ex]; exact U.getD_mem hlt
      obtain ⟨x0, xn⟩ := HVA.out x hxA
      have hxI := i64_of hn xn
      rw [ex] at d1
      have hneg : IntKind.i64.wrap (-x) = -x := by simp only [IntKind.wrap_i64]; omega
      have hl1 := hm.look hxI.2
      have hszn := hi.le
      obtain ⟨w2, hr2, hm2, hg2⟩ := hm.store (by unfold maxLen; omega) hxI.1
      have HB2 := Lib.hid (hb.grown hg2 hb.size (fun k hk => by cases hk; exact Nat.le_refl _))
      have HM2 := Lib.hid hm2
      have HEX := Lib.hid ex
      have HXA := Lib.hid hxA
      have HB := Lib.hid hb
      by_cases a1 : S (-x) = true
      · rw [a1] at hl1
        have HBAD : Hid (U.Bad cs A) := Lib.hid (.inl ⟨x, HXA.out, HSUB.out _ a1⟩)
        clear hm hi e1 ex hxA x0 xn hm2 hg2 hr2 hb hxI a1
        go_wp2
        go_ret2
        unfold RPPost
        exact ⟨.inl ⟨HBAD.out, rfl⟩, HB.out⟩
      · have a1 : S (-x) = false := by simpa using a1
        rw [a1] at hl1
        have HN : Hid (∃ sz', MapB w2 w.heap.size sz' (U.upd S x true) ∧ U.RInv n cs A (U.upd S x true) sz') := Lib.hid (by
          by_cases a2 : S x = true
          · have h1 := HM2.out
            rw [a2] at h1
            exact ⟨sz, h1, by rw [U.RInv.same a2]; exact HI.out⟩
          · have a2 : S x = false := by simpa using a2
            have h1 := HM2.out
            rw [a2] at h1
            exact ⟨sz + 1, h1, HI.out.add x0 xn a2 a1 (.assume HXA.out)⟩)
        clear hm hi e1 ex hxA x0 xn hm2 hg2 hb hxI a1
        go_wp2
        go_roundw
        case rel =>
          obtain ⟨sz', g1, g2⟩ := HN.out
          refine ⟨k + 1, _, sz', by omega, by go_num, g1, g2, fun j hj => ?_, fun y hy => ?_, HB2.out⟩
          · by_cases e : A.getD j 0 = x
            · rw [e, U.upd_same]
            · rw [U.upd_ne e]
              have : j ≠ k := fun e2 => e (by rw [e2]; exact HEX.out)
              exact HJ.out j (by omega)
          · by_cases e : y = x
            · rw [e]; exact HXA.out
            · rw [U.upd_ne e] at hy; exact HSUB.out y hy
        case measure => simp [intOf]; omega
    · have hlt' : ¬ (k : Int) < (A.length : Int) := by omega
      have HAA : Hid (∀ a ∈ A, S a = true) := Lib.hid fun a ha => by
        obtain ⟨j, hj, rfl⟩ := U.mem_at ha
        exact HJ.out j (by omega)
      obtain ⟨w1, hw1⟩ : ∃ W, W = wr := ⟨_, rfl⟩
      subst hw1
      have HB := Lib.hid hb
      clear hm hi hb
      go_wp2
      go_loopw [8] (fun bv wi => ∃ (bf : Int) (S : Int → Bool) (sz : Nat), bv = .int .i64 bf ∧ -1 ≤ bf ∧ bf ≤ sz ∧ MapB wi w.heap.size sz S ∧ U.RInv n cs A S sz ∧ (∀ a ∈ A, S a = true) ∧ (bf = sz → ∀ c ∈ cs, U.OkC S c) ∧ Below w.heap.size w wi) (fun bv _ => ((n : Int) + 1 - intOf bv).toNat)
      case atStart => exact ⟨-1, S, sz, rfl, Int.le_refl _, by omega, HM.out, HI.out, HAA.out, fun h => by omega, HB.out⟩
      case round =>
        clear HM HI HJ HSUB HAA HB
        obtain ⟨bf, S, sz, rfl, hb1, hb2, hm, hi, haa, hok, hb⟩ := hrel
        have HM := Lib.hid hm
        have HI := Lib.hid hi
        have HAA := Lib.hid haa
        have HOK := Lib.hid hok
        have HB := Lib.hid hb
        have hlen := fun ty => hm.len ty
        have hszn := hi.le
        clear haa hok hm hi
        by_cases hlt2 : bf < (sz : Int)
        · obtain ⟨w2, hw2⟩ : ∃ W, W = wr := ⟨_, rfl⟩
          subst hw2
          clear hb
          go_wp2
          clear hlen
          go_loopw [9] (fun i wi => ∃ (k : Nat) (S' : Int → Bool) (sz' : Nat), k ≤ cs.length ∧ i = .int .i64 k ∧ MapB wi w.heap.size sz' S' ∧ U.RInv n cs A S' sz' ∧ (∀ a ∈ A, S' a = true) ∧ sz ≤ sz' ∧ (sz' = sz → ∀ j, j < k → U.OkC S' (cs.getD j [])) ∧ Below w.heap.size w wi) (fun i _ => cs.length - (intOf i).toNat)
          case atStart => exact ⟨0, S, sz, Nat.zero_le _, rfl, HM.out, HI.out, HAA.out, Nat.le_refl _, fun _ j hj => absurd hj (Nat.not_lt_zero _), HB.out⟩
          case round =>
            obtain ⟨k2, S', sz', hk2, rfl, hm, hi, haa, hsz, hok, hb⟩ := hrel
            have HM3 := Lib.hid hm
            have HI3 := Lib.hid hi
            have HAA3 := Lib.hid haa
            have HOK3 := Lib.hid hok
            have HB3 := Lib.hid hb
            clear haa hok
            by_cases hlt3 : k2 < cs.length
            · have hlt3' : (k2 : Int) < (cs.length : Int) := by omega
              obtain ⟨b1, o1, rfl, e1⟩ := HCV.out (by omega)
              obtain ⟨uu, e2, e3⟩ := e1 k2 hlt3
              obtain ⟨qq, cuu, rfl, _⟩ := id e3
              generalize hlc : (cs.getD k2 []).length = lc at *
              have d1 := (hb.cell (p := ⟨b1, o1 + k2, none⟩) (World.block_lt_of_cell? _ _ e2)).trans e2
              have hin := e3.below (hb.mono (Nat.le_refl _))
              have hmem : cs.getD k2 [] ∈ cs := by rw [List.getD, List.getElem?_eq_getElem hlt3]; exact List.getElem_mem hlt3
              have hval := HV.out _ hmem
              have hc := runit_any hm _ (cs.getD k2 []) hin (fun x hx => i64_of hn (hval x hx).2)
              have HUN := Lib.hid (hi.unit hmem hval)
              have hle := hi.le
              clear e1 e2 e3 hin hmem hlc hi
              obtain ⟨cc, ecc⟩ : ∃ cc, cs.getD k2 [] = cc := ⟨_, rfl⟩
              rw [ecc] at hc HUN hval
              have HCC := Lib.hid ecc
              clear ecc
              obtain ⟨⟨r1, r2⟩, er⟩ : ∃ r, U.unitP S' 0 cc = r := ⟨_, rfl⟩
              rw [er] at hc HUN
              clear er
              dsimp only at hc HUN
              cases r2 with
              | false =>
                have HBAD := Lib.hid (HUN.out.1 rfl)
                clear hm hb hval
                go_wp2_with fail
                refine hc.mono ?_
                rintro e w4 ⟨rfl, hw4⟩
                subst hw4
                refine Hid.out ?_
                refine Lib.hid ?_
                clear hc
                go_wp2
                go_ret2
                unfold RPPost
                exact ⟨.inl ⟨HBAD.out, rfl⟩, HB3.out⟩
              | true =>
                by_cases hr0 : r1 = 0
                · have HOC := Lib.hid (HUN.out.2.2 rfl hr0)
                  have e0 : (r1 != (0 : Int)) = false := by simp [hr0]
                  clear hm hb hr0 hval
                  go_wp2_with fail
                  refine hc.mono ?_
                  rintro e w4 ⟨rfl, hw4⟩
                  subst hw4
                  refine Hid.out ?_
                  refine Lib.hid ?_
                  clear hc
                  go_wp2
                  go_roundw
                  case rel =>
                    refine ⟨k2 + 1, S', sz', by omega, by go_num, HM3.out, HI3.out, HAA3.out, hsz, fun e j hj => ?_, HB3.out⟩
                    by_cases e2 : j = k2
                    · rw [e2, HCC.out]; exact HOC.out
                    · exact HOK3.out e j (by omega)
                  case measure => simp [intOf]; omega
                · obtain ⟨g1, g2, g3⟩ := HUN.out.2.1 rfl hr0
                  have e0 : (r1 != (0 : Int)) = true := by simp [hr0]
                  have hrI := (i64_of hn g3).1
                  obtain ⟨w5, hr5, hm5, hg5⟩ := hm.store (by unfold maxLen; omega) hrI
                  rw [g2] at hm5
                  have HM5 := Lib.hid hm5
                  have HB5 := Lib.hid (hb.grown hg5 hb.size (fun k hk => by cases hk; exact Nat.le_refl _))
                  have G1 := Lib.hid g1
                  clear hm hb hr0 g1 g2 g3 hrI hm5 hg5 hval
                  go_wp2_with fail
                  refine hc.mono ?_
                  rintro e w4 ⟨rfl, hw4⟩
                  subst hw4
                  refine Hid.out ?_
                  refine Lib.hid ?_
                  clear hc
                  go_wp2
                  go_roundw
                  case rel =>
                    refine ⟨k2 + 1, _, sz' + 1, by omega, by go_num, HM5.out, G1.out, fun a ha => ?_, by omega, fun e j hj => by omega, HB5.out⟩
                    by_cases e2 : a = r1
                    · rw [e2, U.upd_same]
                    · rw [U.upd_ne e2]; exact HAA3.out a ha
                  case measure => simp [intOf]; omega
            · have hlt3' : ¬ (k2 : Int) < (cs.length : Int) := by omega
              have HKE := Lib.hid (show cs.length ≤ k2 by omega)
              clear hm hb hi
              go_wp2
              go_roundw
              case rel =>
                refine ⟨(sz : Int), S', sz', rfl, by omega, by omega, HM3.out, HI3.out, HAA3.out, fun e c hc => ?_, HB3.out⟩
                obtain ⟨j, hj, rfl⟩ := List.getElem_of_mem hc
                have := HOK3.out (by omega) j (by have := HKE.out; omega)
                simpa [List.getD, hj] using this
              case measure => simp [intOf]; omega
        · have hbe : bf = (sz : Int) := by omega
          have HOKK := Lib.hid (HOK.out hbe)
          clear hbe hb
          go_wp2
          go_ret2
          unfold RPPost
          exact ⟨.inr ⟨_, sz, S, rfl, HM.out, HI.out, HI.out.closed HAA.out HOKK.out⟩, HB.out⟩
end L
end Go.Proofs.YtfhodbnhaaiceaaDoor
end
