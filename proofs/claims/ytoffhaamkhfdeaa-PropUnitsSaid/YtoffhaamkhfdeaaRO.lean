/- Contract of the reference's propagate. -/
import Derived.Test.YtoffhaamkhfdeaaRM
import Derived.Test.YtoffhaamkhfdeaaCB
namespace Go.Proofs.Ytoffhaamkhfdeaa
open Go.RowKit Go.Conc
namespace L
open K

def RPPost (w : World) (n : Nat) (cs : List (List Int)) (A : List Int) (e : Ending) (w' : World) : Prop :=
  ((U.Bad cs A ∧ e = .returned (.tuple #[.map none, .bool true])) ∨ ∃ b sz S, e = .returned (.tuple #[.map (some b), .bool false]) ∧ MapB w' b sz S ∧ U.RInv n cs A S sz ∧ U.Closed cs A fun y => S y = true) ∧ Below w.heap.size w w'

theorem i64_of {n : Nat} {x : Int} (hn : n ≤ 1048576) (h : x.natAbs ≤ n) : I64 x ∧ I64 (-x) := by unfold I64; omega

set_option maxHeartbeats 4000000 in
theorem rprop_any {w : World} {n : Nat} {cs : List (List Int)} {A : List Int} (hn : n ≤ 1048576) (hcs : cs.length ≤ 1048576) (v u : Value) (hL : Lists w v cs) (hA : Ints w u A) (hv : ∀ c ∈ cs, U.Val n c) (hvA : U.Val n A) :
    Calls Try.prog 32 #[v, u] w (RPPost w n cs A) := by
  obtain ⟨pv, cv, rfl, hcv, hlv, hcellv⟩ := hL
  obtain ⟨pu, cu, rfl, hcu, hlu, hcellu⟩ := hA
  have HV := Lib.hid hv
  have HVA := Lib.hid hvA
  have HCV := Lib.hid hcellv
  have HCU := Lib.hid hcellu
  clear hv hvA hcellv hcellu
  go_enter Try.func32, Try.ntmps32
  have hmm := @run_makeMap Try.prog
  go_wp2
  go_loopw [7] (fun i wr => ∃ (k : Nat) (S : Int → Bool) (sz : Nat), k ≤ A.length ∧ i = .int .i64 k ∧ MapB wr w.heap.size sz S ∧ U.RInv n cs A S sz ∧ (∀ j, j < k → S (A.getD j 0) = true) ∧ (∀ y, S y = true → y ∈ A) ∧ Below w.heap.size w wr) (fun i _ => A.length - (intOf i).toNat)
  case atStart => exact ⟨0, _, 0, Nat.zero_le _, rfl, MapB.made w, U.RInv.start n cs A, fun j hj => absurd hj (Nat.not_lt_zero _), fun y h => absurd h (by simp), (Below.refl _ _).alloc (Nat.le_refl _) _⟩
  case round =>
    obtain ⟨k, S, sz, hk, rfl, hm, hi, hj, hsub, hb⟩ := hrel
    have HM := Lib.hid hm
    have HI := Lib.hid hi
    have HJ := Lib.hid hj
    have HSUB := Lib.hid hsub
    clear hj hsub hmm
    by_cases hlt : k < A.length
    · have hlt' : (k : Int) < (A.length : Int) := by omega
      obtain ⟨b1, o1, rfl, e1⟩ := HCU.out (by omega)
      have d1 := (hb.cell (p := ⟨b1, o1 + k, none⟩) (World.block_lt_of_cell? _ _ (e1 k hlt))).trans (e1 k hlt)
      obtain ⟨x, ex⟩ : ∃ x, A.getD k 0 = x := ⟨_, rfl⟩
      have hxA : x ∈ A := by rw [← ex]; exact U.getD_mem hlt
      obtain ⟨x0, xn⟩ := HVA.out x hxA
      have hxI := i64_of hn xn
      rw [ex] at d1
      have hneg : IntKind.i64.wrap (-x) = -x := by simp only [IntKind.wrap_i64]; omega
      have hl1 := hm.look hxI.2
      have hszn := hi.le
      obtain ⟨w2, hr2, hm2, hg2⟩ := hm.store (by unfold maxLen; omega) hxI.1
      have HB2 := Lib.hid (hb.grown hg2 hb.size (fun k hk => by cases hk; exact Nat.le_refl _))
      have HM2 := Lib.hid hm2
      have HEX := Lib.hid ex
      have HXA := Lib.hid hxA
      have HB := Lib.hid hb
      by_cases a1 : S (-x) = true
      · rw [a1] at hl1
        have HBAD : Hid (U.Bad cs A) := Lib.hid (.inl ⟨x, HXA.out, HSUB.out _ a1⟩)
        clear hm hi e1 ex hxA x0 xn hm2 hg2 hr2 hb hxI a1
        go_wp2
        go_ret2
        unfold RPPost
        exact ⟨.inl ⟨HBAD.out, rfl⟩, HB.out⟩
      · have a1 : S (-x) = false := by simpa using a1
        rw [a1] at hl1
        have HN : Hid (∃ sz', MapB w2 w.heap.size sz' (U.upd S x true) ∧ U.RInv n cs A (U.upd S x true) sz') := Lib.hid (by
          by_cases a2 : S x = true
          · have h1 := HM2.out
            rw [a2] at h1
            exact ⟨sz, h1, by rw [U.RInv.same a2]; exact HI.out⟩
          · have a2 : S x = false := by simpa using a2
            have h1 := HM2.out
            rw [a2] at h1
            exact ⟨sz + 1, h1, HI.out.add x0 xn a2 a1 (.assume HXA.out)⟩)
        clear hm hi e1 ex hxA x0 xn hm2 hg2 hb hxI a1
        go_wp2
        go_roundw
        case rel =>
          obtain ⟨sz', g1, g2⟩ := HN.out
          refine ⟨k + 1, _, sz', by omega, by go_num, g1, g2, fun j hj => ?_, fun y hy => ?_, HB2.out⟩
          · by_cases e : A.getD j 0 = x
            · rw [e, U.upd_same]
            · rw [U.upd_ne e]
              have : j ≠ k := fun e2 => e (by rw [e2]; exact HEX.out)
              exact HJ.out j (by omega)
          · by_cases e : y = x
            · rw [e]; exact HXA.out
            · rw [U.upd_ne e] at hy; exact HSUB.out y hy
        case measure => simp [intOf]; omega
    · have hlt' : ¬ (k : Int) < (A.length : Int) := by omega
      have HAA : Hid (∀ a ∈ A, S a = true) := Lib.hid fun a ha => by
        obtain ⟨j, hj, rfl⟩ := U.mem_at ha
        exact HJ.out j (by omega)
      obtain ⟨w1, hw1⟩ : ∃ W, W = wr := ⟨_, rfl⟩
      subst hw1
      have HB := Lib.hid hb
      clear hm hi hb
      go_wp2
      go_loopw [8] (fun bv wi => ∃ (bf : Int) (S : Int → Bool) (sz : Nat), bv = .int .i64 bf ∧ -1 ≤ bf ∧ bf ≤ sz ∧ MapB wi w.heap.size sz S ∧ U.RInv n cs A S sz ∧ (∀ a ∈ A, S a = true) ∧ (bf = sz → ∀ c ∈ cs, U.OkC S c) ∧ Below w.heap.size w wi) (fun bv _ => ((n : Int) + 1 - intOf bv).toNat)
      case atStart => exact ⟨-1, S, sz, rfl, Int.le_refl _, by omega, HM.out, HI.out, HAA.out, fun h => by omega, HB.out⟩
      case round =>
        clear HM HI HJ HSUB HAA HB
        obtain ⟨bf, S, sz, rfl, hb1, hb2, hm, hi, haa, hok, hb⟩ := hrel
        have HM := Lib.hid hm
        have HI := Lib.hid hi
        have HAA := Lib.hid haa
        have HOK := Lib.hid hok
        have HB := Lib.hid hb
        have hlen := fun ty => hm.len ty
        have hszn := hi.le
        clear haa hok hm hi
        by_cases hlt2 : bf < (sz : Int)
        · obtain ⟨w2, hw2⟩ : ∃ W, W = wr := ⟨_, rfl⟩
          subst hw2
          clear hb
          go_wp2
          clear hlen
          go_loopw [9] (fun i wi => ∃ (k : Nat) (S' : Int → Bool) (sz' : Nat), k ≤ cs.length ∧ i = .int .i64 k ∧ MapB wi w.heap.size sz' S' ∧ U.RInv n cs A S' sz' ∧ (∀ a ∈ A, S' a = true) ∧ sz ≤ sz' ∧ (sz' = sz → ∀ j, j < k → U.OkC S' (cs.getD j [])) ∧ Below w.heap.size w wi) (fun i _ => cs.length - (intOf i).toNat)
          case atStart => exact ⟨0, S, sz, Nat.zero_le _, rfl, HM.out, HI.out, HAA.out, Nat.le_refl _, fun _ j hj => absurd hj (Nat.not_lt_zero _), HB.out⟩
          case round =>
            obtain ⟨k2, S', sz', hk2, rfl, hm, hi, haa, hsz, hok, hb⟩ := hrel
            have HM3 := Lib.hid hm
            have HI3 := Lib.hid hi
            have HAA3 := Lib.hid haa
            have HOK3 := Lib.hid hok
            have HB3 := Lib.hid hb
            clear haa hok
            by_cases hlt3 : k2 < cs.length
            · have hlt3' : (k2 : Int) < (cs.length : Int) := by omega
              obtain ⟨b1, o1, rfl, e1⟩ := HCV.out (by omega)
              obtain ⟨uu, e2, e3⟩ := e1 k2 hlt3
              obtain ⟨qq, cuu, rfl, _⟩ := id e3
              generalize hlc : (cs.getD k2 []).length = lc at *
              have d1 := (hb.cell (p := ⟨b1, o1 + k2, none⟩) (World.block_lt_of_cell? _ _ e2)).trans e2
              have hin := e3.below (hb.mono (Nat.le_refl _))
              have hmem : cs.getD k2 [] ∈ cs := by rw [List.getD, List.getElem?_eq_getElem hlt3]; exact List.getElem_mem hlt3
              have hval := HV.out _ hmem
              have hc := runit_any hm _ (cs.getD k2 []) hin (fun x hx => i64_of hn (hval x hx).2)
              have HUN := Lib.hid (hi.unit hmem hval)
              have hle := hi.le
              clear e1 e2 e3 hin hmem hlc hi
              obtain ⟨cc, ecc⟩ : ∃ cc, cs.getD k2 [] = cc := ⟨_, rfl⟩
              rw [ecc] at hc HUN hval
              have HCC := Lib.hid ecc
              clear ecc
              obtain ⟨⟨r1, r2⟩, er⟩ : ∃ r, U.unitP S' 0 cc = r := ⟨_, rfl⟩
              rw [er] at hc HUN
              clear er
              dsimp only at hc HUN
              cases r2 with
              | false =>
                have HBAD := Lib.hid (HUN.out.1 rfl)
                clear hm hb hval
                go_wp2_with fail
                refine hc.mono ?_
                rintro e w4 ⟨rfl, hw4⟩
                subst hw4
                refine Hid.out ?_
                refine Lib.hid ?_
                clear hc
                go_wp2
                go_ret2
                unfold RPPost
                exact ⟨.inl ⟨HBAD.out, rfl⟩, HB3.out⟩
              | true =>
                by_cases hr0 : r1 = 0
                · have HOC := Lib.hid (HUN.out.2.2 rfl hr0)
                  have e0 : (r1 != (0 : Int)) = false := by simp [hr0]
                  clear hm hb hr0 hval
                  go_wp2_with fail
                  refine hc.mono ?_
                  rintro e w4 ⟨rfl, hw4⟩
                  subst hw4
                  refine Hid.out ?_
                  refine Lib.hid ?_
                  clear hc
                  go_wp2
                  go_roundw
                  case rel =>
                    refine ⟨k2 + 1, S', sz', by omega, by go_num, HM3.out, HI3.out, HAA3.out, hsz, fun e j hj => ?_, HB3.out⟩
                    by_cases e2 : j = k2
                    · rw [e2, HCC.out]; exact HOC.out
                    · exact HOK3.out e j (by omega)
                  case measure => simp [intOf]; omega
                · obtain ⟨g1, g2, g3⟩ := HUN.out.2.1 rfl hr0
                  have e0 : (r1 != (0 : Int)) = true := by simp [hr0]
                  have hrI := (i64_of hn g3).1
                  obtain ⟨w5, hr5, hm5, hg5⟩ := hm.store (by unfold maxLen; omega) hrI
                  rw [g2] at hm5
                  have HM5 := Lib.hid hm5
                  have HB5 := Lib.hid (hb.grown hg5 hb.size (fun k hk => by cases hk; exact Nat.le_refl _))
                  have G1 := Lib.hid g1
                  clear hm hb hr0 g1 g2 g3 hrI hm5 hg5 hval
                  go_wp2_with fail
                  refine hc.mono ?_
                  rintro e w4 ⟨rfl, hw4⟩
                  subst hw4
                  refine Hid.out ?_
                  refine Lib.hid ?_
                  clear hc
                  go_wp2
                  go_roundw
                  case rel =>
                    refine ⟨k2 + 1, _, sz' + 1, by omega, by go_num, HM5.out, G1.out, fun a ha => ?_, by omega, fun e j hj => by omega, HB5.out⟩
                    by_cases e2 : a = r1
                    · rw [e2, U.upd_same]
                    · rw [U.upd_ne e2]; exact HAA3.out a ha
                  case measure => simp [intOf]; omega
            · have hlt3' : ¬ (k2 : Int) < (cs.length : Int) := by omega
              have HKE := Lib.hid (show cs.length ≤ k2 by omega)
              clear hm hb hi
              go_wp2
              go_roundw
              case rel =>
                refine ⟨(sz : Int), S', sz', rfl, by omega, by omega, HM3.out, HI3.out, HAA3.out, fun e c hc => ?_, HB3.out⟩
                obtain ⟨j, hj, rfl⟩ := List.getElem_of_mem hc
                have := HOK3.out (by omega) j (by have := HKE.out; omega)
                simpa [List.getD, hj] using this
              case measure => simp [intOf]; omega
        · have hbe : bf = (sz : Int) := by omega
          have HOKK := Lib.hid (HOK.out hbe)
          clear hbe hb
          go_wp2
          go_ret2
          unfold RPPost
          exact ⟨.inr ⟨_, sz, S, rfl, HM.out, HI.out, HI.out.closed HAA.out HOKK.out⟩, HB.out⟩
end L
end Go.Proofs.Ytoffhaamkhfdeaa
