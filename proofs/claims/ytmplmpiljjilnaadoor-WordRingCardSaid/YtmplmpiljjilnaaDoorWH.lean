/- WordRing: the walk. -/
import Derived.Test.YtmplmpiljjilnaaDoorQS
import Derived.Test.YtmplmpiljjilnaaDoorLR
import Derived.Deep.RegionHeld3
namespace Go.Proofs.YtmplmpiljjilnaaDoor
open Go.RowKit
open L
namespace W9
set_option maxRecDepth 100000

/-- What an operation of a region gives. -/
inductive Want where
  | val (c : Value)
  | words (l : List Nat)
  | any
def sat : Want → Value → World → Prop
  | .val c, v, _ => v = c
  | .words l, v, w => Words w v l
  | .any, _, _ => True
theorem sat.stab {k : Want} {v : Value} {w w' : World} (h : sat k v w) (hb : Below w.heap.size w w') : sat k v w' := by
  cases k with
  | val c => exact h
  | words l => exact Words.below h hb
  | any => trivial
structure CR (w0 w7 : World) (b W : Nat) (w : World) : Prop where
  st : St w0 b W w
  be : Below w7.heap.size w7 w
theorem CR.next {w0 w7 w w' : World} {b W : Nat} (h : CR w0 w7 b W w) (hb : Below w.heap.size w w') : CR w0 w7 b W w' := ⟨h.st.next hb, h.be.trans (hb.mono h.be.size)⟩
theorem CR.drew {w0 w7 w : World} {b W : Nat} (h : CR w0 w7 b W w) : CR w0 w7 b W { w with drawn := w.drawn + 1 } := h.next ⟨rfl, rfl, rfl, Nat.le_refl _, fun _ _ => rfl⟩
def opR : List Nat := [4, 6, 9, 10, 11]
theorem opR_in (i : Nat) (hi : i < 5) : opR.getD i 0 = 4 ∨ opR.getD i 0 = 6 ∨ opR.getD i 0 = 9 ∨ opR.getD i 0 = 10 ∨ opR.getD i 0 = 11 := by
  have : i = 0 ∨ i = 1 ∨ i = 2 ∨ i = 3 ∨ i = 4 := by omega
  rcases this with rfl | rfl | rfl | rfl | rfl <;> simp [opR]
def opO : List Nat := [6, 9, 9, 10]
def opP : List Nat := [4, 10, 11, 9]
theorem opO_in (i : Nat) (hi : i < 4) : (opO.getD i 0 = 6 ∧ opP.getD i 0 = 4) ∨ (opO.getD i 0 = 9 ∧ opP.getD i 0 = 10) ∨ (opO.getD i 0 = 9 ∧ opP.getD i 0 = 11) ∨ (opO.getD i 0 = 10 ∧ opP.getD i 0 = 9) := by
  have : i = 0 ∨ i = 1 ∨ i = 2 ∨ i = 3 := by omega
  rcases this with rfl | rfl | rfl | rfl <;> simp [opO, opP]
theorem ofW {w0 w : World} {b W : Nat} {v : Value} (o p q : Nat) (h1 : 1 ≤ W) (h2 : W ≤ 64) (ho : 4 ≤ o ∧ o ≤ 20) (hS : St w0 b W w) (hv : Words w v [p, q]) :
    Calls Tryd.prog 25 #[.pointer (some ⟨b, 0, none⟩), .int .u8 (o : Int), v] w fun e w' => e = .returned (.int .u64 ((wd W o p q 0 : Nat) : Int)) ∧ Below w.heap.size w w' := by
  have he : apE o W [p, q] = 0 := apE_ok h1 h2 (by omega) (by omega) (by rw [ar2 o ho]; rfl)
  have := of_anyB w0 w b W o [p, q] v (by omega) hS hv he
  rw [apV_wd he] at this
  exact this

set_option maxHeartbeats 8000000 in
theorem ring9_walk (k x y z : Int) (w : World) (hT : OpTab w) (hk : (Lit.int .u8 k).wf = true) (hx : (Lit.int .u64 x).wf = true) (hy : (Lit.int .u64 y).wf = true) (hz : (Lit.int .u64 z).wf = true) :
    Calls Tryd.prog 7 #[.int .u8 k, .int .u64 x, .int .u64 y, .int .u64 z] w fun e w' => e = .returned (.bool true) ∧ Below w.heap.size w w' := by
  obtain ⟨k, rfl, lk⟩ := u8_nat9 hk
  clear hk
  obtain ⟨x, rfl, lx⟩ := u64_nat9 hx
  clear hx
  obtain ⟨y, rfl, ly⟩ := u64_nat9 hy
  clear hy
  obtain ⟨z, rfl, lz⟩ := u64_nat9 hz
  clear hz
  have CW := Lib.hid (with_any k w lk hT)
  clear hT
  obtain ⟨W, hW⟩ : ∃ W, W = 1 + k % 64 := ⟨_, rfl⟩
  have h1 : 1 ≤ W := by omega
  have h2 : W ≤ 64 := by omega
  rw [← hW] at CW
  have HW := Lib.hid hW
  clear hW
  go_enter Tryd.func7, Tryd.ntmps7
  go_wp2_with (go_at_call 23; refine (CW.out).mono ?_; rintro e w1 ⟨b, rfl, hs⟩; refine Hid.out ?_)
  have hc0 := hs.cell0
  have hc1 := hs.cell1
  refine Lib.hid ?_
  have HXY := Lib.hid (And.intro lx (And.intro ly lz))
  have HH := Lib.hid (And.intro h1 h2)
  clear lx ly lz h1 h2
  go_wp2
  go_loopw [10] (fun ov wr => ∃ o : Nat, ov = .int .u8 (o : Int) ∧ 2 ≤ o ∧ o ≤ 22 ∧ St w b W wr) (fun ov _ => 256 - (intOf ov).toNat)
  case atStart => exact ⟨2, rfl, by omega, by omega, hs⟩
  case round =>
    obtain ⟨o, rfl, ho1, ho2, hs2⟩ := hrel
    by_cases hlt : o ≤ 21
    · have g1 : (o : Int) ≤ 21 := by omega
      have e3 : IntKind.u8.wrap ((o : Int) + 1) = ((o + 1 : Nat) : Int) := by rw [IntKind.wrap_u8]; omega
      have e4 : ((o : Int) + 1) % 256 = ((o + 1 : Nat) : Int) := by omega
      cases hcm : cmB o with
      | true =>
        have hr : 4 ≤ o ∧ o ≤ 20 := by have := cm_cases hcm; omega
        have C0 := commutes_any o
        rw [hcm] at C0
        have A1 : Of2C w b W o (uv x) (uv y) (wd W o x y 0) := of2c o x y HH.out.1 HH.out.2 hr HXY.out.1 HXY.out.2.1
        have A2 : Of2C w b W o (uv y) (uv x) (wd W o y x 0) := of2c o y x HH.out.1 HH.out.2 hr HXY.out.2.1 HXY.out.1
        rw [wd_comm hcm] at A1
        have HA1 := Lib.hid A1
        have HA2 := Lib.hid A2
        have HC := Lib.hid C0
        clear A1 A2 C0 hcm
        generalize wd W o y x 0 = v at *
        go_wp2_with (first
          | (go_at_call 24; refine (HC.out _).mono ?_; rintro e w' ⟨rfl, rfl⟩)
          | (go_at_call 25; with_reducible refine (HA1.out _ (by assumption)).mono ?_; rintro e w2 ⟨rfl, hs⟩; have hc1 := hs.cell1)
          | (go_at_call 25; with_reducible refine (HA2.out _ (by assumption)).mono ?_; rintro e w2 ⟨rfl, hs⟩; have hc1 := hs.cell1))
        go_roundw
        case rel => exact ⟨o + 1, by simp, by omega, by omega, hs⟩
        case measure => simp [intOf]; omega
      | false =>
        have C0 := commutes_any o
        rw [hcm] at C0
        have HC := Lib.hid C0
        clear C0 hcm
        go_wp2_with (go_at_call 24; refine (HC.out _).mono ?_; rintro e w' ⟨rfl, rfl⟩)
        go_roundw
        case rel => exact ⟨o + 1, by simp, by omega, by omega, hs2⟩
        case measure => simp [intOf]; omega
    · have g1 : ¬ (o : Int) ≤ 21 := by omega
      have HS2 := Lib.hid hs2
      clear hlt ho1 ho2 hs hc0 hc1
      generalize wr = w6 at *
      go_wp2
      obtain ⟨w7, hw7⟩ : ∃ X, X = w6.alloc (.cells #[.int .u8 4, .int .u8 6, .int .u8 9, .int .u8 10, .int .u8 11] 5) := ⟨_, rfl⟩
      rw [← hw7]
      have hb67 : Below w6.heap.size w6 w7 := by rw [hw7]; exact below_box _ _
      have hs7 := HS2.out.next hb67
      have hcl7 : ∀ i, i < 5 → w7.cell? ⟨w6.heap.size, i, none⟩ = some (.int .u8 ((opR.getD i 0 : Nat) : Int)) := by
        intro i hi
        have : i = 0 ∨ i = 1 ∨ i = 2 ∨ i = 3 ∨ i = 4 := by omega
        rcases this with rfl | rfl | rfl | rfl | rfl <;> (rw [hw7]; simp [opR])
      have HW7 := Lib.hid hw7
      have HS7 := Lib.hid hs7
      have HCL7 := Lib.hid hcl7
      clear hw7 hs7 hcl7 hb67
      generalize w6.heap.size = b7 at *
      go_loopw [12] (fun iv wr => ∃ i : Nat, iv = .int .i64 (i : Int) ∧ i ≤ 5 ∧ CR w w7 b W wr) (fun iv _ => 100 - (intOf iv).toNat)
      case atStart => exact ⟨0, rfl, by omega, HS7.out, Below.refl _ _⟩
      case round =>
        obtain ⟨i, rfl, hi, hcr⟩ := hrel
        by_cases hlt : i < 5
        · have g1 : (i : Int) < 5 := by omega
          have g1' : i < 5 := hlt
          obtain ⟨o, ho⟩ : ∃ o, o = opR.getD i 0 := ⟨_, rfl⟩
          have hor : o = 4 ∨ o = 6 ∨ o = 9 ∨ o = 10 ∨ o = 11 := by rw [ho]; exact opR_in i hlt
          have hcl : ∀ w', CR w w7 b W w' → w'.cell? ⟨b7, i, none⟩ = some (.int .u8 (o : Int)) := fun w' h => by
            have c := HCL7.out i hlt
            rw [← ho] at c
            exact (h.be.cell (p := ⟨b7, i, none⟩) (World.block_lt_of_cell? _ _ c)).trans c
          have h1 := HH.out.1
          have h2 := HH.out.2
          have K1 := fun w' v (hS : St w b W w') (hv : Words w' v [x, y]) => ofW o x y h1 h2 (by omega) hS hv
          have K2 := fun w' v (hS : St w b W w') (hv : Words w' v [wd W o x y 0, z]) => ofW o _ z h1 h2 (by omega) hS hv
          have K3 := fun w' v (hS : St w b W w') (hv : Words w' v [y, z]) => ofW o y z h1 h2 (by omega) hS hv
          have K4 := fun w' v (hS : St w b W w') (hv : Words w' v [x, wd W o y z 0]) => ofW o x _ h1 h2 (by omega) hS hv
          rw [← wd_assoc h1 hor] at K4
          have r1l : wd W o x y 0 < 18446744073709551616 := wd64 h1 h2
          have r2l : wd W o y z 0 < 18446744073709551616 := wd64 h1 h2
          generalize wd W o (wd W o x y 0) z 0 = R at *
          generalize wd W o x y 0 = r1 at *
          generalize wd W o y z 0 = r2 at *
          have HK := Lib.hid (And.intro K1 (And.intro K2 (And.intro K3 K4)))
          have HL := Lib.hid (And.intro r1l r2l)
          have HCL := Lib.hid hcl
          have HO := Lib.hid (And.intro ho hor)
          have HCR := Lib.hid hcr
          clear K1 K2 K3 K4 r1l r2l hcl ho hor h1 h2 hcr
          go_wp2
          let tab : Nat → Want := (fun n => match n with | 0 => .val (.pointer (some ⟨b, 0, none⟩)) | 1 => .val (.slice (some ⟨b7, 0, none⟩) 5 5) | 2 => .val (.int .i64 (i : Int)) | 3 => .val (.pointer (some ⟨b7, i, none⟩)) | 4 => .val (.int .u8 (o : Int)) | 5 => .val (.pointer (some ⟨b, 0, none⟩)) | 6 => .val (.slice (some ⟨b7, 0, none⟩) 5 5) | 7 => .val (.int .i64 (i : Int)) | 8 => .val (.pointer (some ⟨b7, i, none⟩)) | 9 => .val (.int .u8 (o : Int)) | 10 => .val (.int .u64 (x : Int)) | 11 => .val (.int .u64 (y : Int)) | 12 => .words [x, y] | 13 => .val (.int .u64 (r1 : Int)) | 14 => .val (.int .u64 (z : Int)) | 15 => .words [r1, z] | 16 => .val (.int .u64 (R : Int)) | 17 => .val (.pointer (some ⟨b, 0, none⟩)) | 18 => .val (.slice (some ⟨b7, 0, none⟩) 5 5) | 19 => .val (.int .i64 (i : Int)) | 20 => .val (.pointer (some ⟨b7, i, none⟩)) | 21 => .val (.int .u8 (o : Int)) | 22 => .val (.int .u64 (x : Int)) | 23 => .val (.pointer (some ⟨b, 0, none⟩)) | 24 => .val (.slice (some ⟨b7, 0, none⟩) 5 5) | 25 => .val (.int .i64 (i : Int)) | 26 => .val (.pointer (some ⟨b7, i, none⟩)) | 27 => .val (.int .u8 (o : Int)) | 28 => .val (.int .u64 (y : Int)) | 29 => .val (.int .u64 (z : Int)) | 30 => .words [y, z] | 31 => .val (.int .u64 (r2 : Int)) | 32 => .words [x, r2] | 33 => .val (.int .u64 (R : Int)) | 34 => .val (.bool false) | _ => .any)
          refine Loose.wp_region_steps (fun n v w' => sat (tab n) v w') (CR w w7 b W) (by kernel_rfl) (by kernel_rfl) (by rfl) (fun _ _ _ _ h _ _ hb => h.stab hb) HCR.out.drew ⟨?_, ?_, ?_, ?_, ?_, ?_, ?_, ?_, ?_, ?_, ?_, ?_, ?_, ?_, ?_, ?_, ?_, ?_, ?_, ?_, ?_, ?_, ?_, ?_, ?_, ?_, ?_, ?_, ?_, ?_, ?_, ?_, ?_, ?_, ?_, trivial⟩ ?_
          rotate_right
          · intro vs w8 hc8 hv
            have f80 : vs 34 = .bool false := hv 34 _ rfl
            clear hv
            simp only [Loose.puts, Act.put, List.setIfInBounds_toArray, List.set_cons_succ, List.set_cons_zero, Nat.zero_add, Nat.reduceAdd, f80]
            clear f80
            go_wp2
            go_roundw
            case rel => exact ⟨i + 1, by simp, by omega, hc8⟩
            case measure => simp [intOf]; omega
          · intro a w' hC hs hd
            have e9 := Loose.sn (show a.eval (.tmp 9) = .pointer (some ⟨b, 0, none⟩) from (Loose.same_at hs 9 (by rfl)).trans rfl)
            refine ⟨fun _ => ?_, fun h => by simp [Region.wanted] at h⟩
            exact Loose.at_value (v := .pointer (some ⟨b, 0, none⟩)) (w' := w') (by simp [go_sem, e9]) ⟨rfl, hC, Below.refl _ _⟩
          · intro a w' hC hs hd
            have e11 := Loose.sn (show a.eval (.tmp 11) = .slice (some ⟨b7, 0, none⟩) 5 5 from (Loose.same_at hs 11 (by rfl)).trans rfl)
            refine ⟨fun _ => ?_, fun h => by simp [Region.wanted] at h⟩
            exact Loose.at_value (v := .slice (some ⟨b7, 0, none⟩) 5 5) (w' := w') (by simp [go_sem, e11]) ⟨rfl, hC, Below.refl _ _⟩
          · intro a w' hC hs hd
            have e12 := Loose.sn (show a.eval (.tmp 12) = .int .i64 (i : Int) from (Loose.same_at hs 12 (by rfl)).trans rfl)
            refine ⟨fun _ => ?_, fun h => by simp [Region.wanted] at h⟩
            exact Loose.at_value (v := .int .i64 (i : Int)) (w' := w') (by simp [go_sem, e12]) ⟨rfl, hC, Below.refl _ _⟩
          · intro a w' hC hs hd
            have e47 := Loose.sn (show a.eval (.tmp 47) = .slice (some ⟨b7, 0, none⟩) 5 5 from hd ⟨1, .data⟩ (by simp) rfl _ _ rfl rfl)
            have e48 := Loose.sn (show a.eval (.tmp 48) = .int .i64 (i : Int) from hd ⟨2, .data⟩ (by simp) rfl _ _ rfl rfl)
            have q0 := (show ¬ (5 : Int) ≤ (i : Int) by omega)
            refine ⟨fun _ => ?_, fun h => by simp [Region.wanted] at h⟩
            exact Loose.at_value (v := .pointer (some ⟨b7, i, none⟩)) (w' := w') (by simp [go_sem, e47, e48, q0]) ⟨rfl, hC, Below.refl _ _⟩
          · intro a w' hC hs hd
            have e49 := Loose.sn (show a.eval (.tmp 49) = .pointer (some ⟨b7, i, none⟩) from hd ⟨3, .data⟩ (by simp) rfl _ _ rfl rfl)
            have q0 := HCL.out w' hC
            refine ⟨fun _ => ?_, fun h => by simp [Region.wanted] at h⟩
            exact Loose.at_value (v := .int .u8 (o : Int)) (w' := w') (by simp [go_sem, e49, q0]) ⟨rfl, hC, Below.refl _ _⟩
          · intro a w' hC hs hd
            have e9 := Loose.sn (show a.eval (.tmp 9) = .pointer (some ⟨b, 0, none⟩) from (Loose.same_at hs 9 (by rfl)).trans rfl)
            refine ⟨fun _ => ?_, fun h => by simp [Region.wanted] at h⟩
            exact Loose.at_value (v := .pointer (some ⟨b, 0, none⟩)) (w' := w') (by simp [go_sem, e9]) ⟨rfl, hC, Below.refl _ _⟩
          · intro a w' hC hs hd
            have e11 := Loose.sn (show a.eval (.tmp 11) = .slice (some ⟨b7, 0, none⟩) 5 5 from (Loose.same_at hs 11 (by rfl)).trans rfl)
            refine ⟨fun _ => ?_, fun h => by simp [Region.wanted] at h⟩
            exact Loose.at_value (v := .slice (some ⟨b7, 0, none⟩) 5 5) (w' := w') (by simp [go_sem, e11]) ⟨rfl, hC, Below.refl _ _⟩
          · intro a w' hC hs hd
            have e12 := Loose.sn (show a.eval (.tmp 12) = .int .i64 (i : Int) from (Loose.same_at hs 12 (by rfl)).trans rfl)
            refine ⟨fun _ => ?_, fun h => by simp [Region.wanted] at h⟩
            exact Loose.at_value (v := .int .i64 (i : Int)) (w' := w') (by simp [go_sem, e12]) ⟨rfl, hC, Below.refl _ _⟩
          · intro a w' hC hs hd
            have e52 := Loose.sn (show a.eval (.tmp 52) = .slice (some ⟨b7, 0, none⟩) 5 5 from hd ⟨6, .data⟩ (by simp) rfl _ _ rfl rfl)
            have e53 := Loose.sn (show a.eval (.tmp 53) = .int .i64 (i : Int) from hd ⟨7, .data⟩ (by simp) rfl _ _ rfl rfl)
            have q0 := (show ¬ (5 : Int) ≤ (i : Int) by omega)
            refine ⟨fun _ => ?_, fun h => by simp [Region.wanted] at h⟩
            exact Loose.at_value (v := .pointer (some ⟨b7, i, none⟩)) (w' := w') (by simp [go_sem, e52, e53, q0]) ⟨rfl, hC, Below.refl _ _⟩
          · intro a w' hC hs hd
            have e54 := Loose.sn (show a.eval (.tmp 54) = .pointer (some ⟨b7, i, none⟩) from hd ⟨8, .data⟩ (by simp) rfl _ _ rfl rfl)
            have q0 := HCL.out w' hC
            refine ⟨fun _ => ?_, fun h => by simp [Region.wanted] at h⟩
            exact Loose.at_value (v := .int .u8 (o : Int)) (w' := w') (by simp [go_sem, e54, q0]) ⟨rfl, hC, Below.refl _ _⟩
          · intro a w' hC hs hd
            have e1 := Loose.sn (show a.eval (.tmp 1) = .int .u64 (x : Int) from (Loose.same_at hs 1 (by rfl)).trans rfl)
            refine ⟨fun _ => ?_, fun h => by simp [Region.wanted] at h⟩
            exact Loose.at_value (v := .int .u64 (x : Int)) (w' := w') (by simp [go_sem, e1]) ⟨rfl, hC, Below.refl _ _⟩
          · intro a w' hC hs hd
            have e2 := Loose.sn (show a.eval (.tmp 2) = .int .u64 (y : Int) from (Loose.same_at hs 2 (by rfl)).trans rfl)
            refine ⟨fun _ => ?_, fun h => by simp [Region.wanted] at h⟩
            exact Loose.at_value (v := .int .u64 (y : Int)) (w' := w') (by simp [go_sem, e2]) ⟨rfl, hC, Below.refl _ _⟩
          · intro a w' hC hs hd
            have e56 := Loose.sn (show a.eval (.tmp 56) = .int .u64 (x : Int) from hd ⟨10, .data⟩ (by simp) rfl _ _ rfl rfl)
            have e57 := Loose.sn (show a.eval (.tmp 57) = .int .u64 (y : Int) from hd ⟨11, .data⟩ (by simp) rfl _ _ rfl rfl)
            refine ⟨fun _ => ?_, fun h => by simp [Region.wanted] at h⟩
            exact Loose.at_value (v := .slice (some ⟨w'.heap.size, 0, none⟩) 2 2) (w' := w'.alloc (.cells #[.int .u64 (x : Int), .int .u64 (y : Int)] 24)) (by simp [go_sem, e56, e57]) ⟨words2 w' 24 (HXY.out.1) (HXY.out.2.1), hC.next (below_box _ _), below_box _ _⟩
          · intro a w' hC hs hd
            have e51 := Loose.sn (show a.eval (.tmp 51) = .pointer (some ⟨b, 0, none⟩) from hd ⟨5, .data⟩ (by simp) rfl _ _ rfl rfl)
            have e55 := Loose.sn (show a.eval (.tmp 55) = .int .u8 (o : Int) from hd ⟨9, .data⟩ (by simp) rfl _ _ rfl rfl)
            obtain ⟨v58, i58⟩ : ∃ v, a.eval (.tmp 58) = v := ⟨_, rfl⟩
            have e58 := Loose.sn i58
            have h58 : Words w' v58 [x, y] := i58 ▸ (hd ⟨12, .data⟩ (by simp) rfl _ _ rfl rfl : Words w' (a.tmps.getD 58 undef) [x, y])
            refine ⟨fun _ => ?_, fun h => by simp [Region.wanted] at h⟩
            exact Loose.at_enter (by simp [go_sem, e51, e55, e58]) ((HK.out.1 w' v58 hC.st h58).mono fun _ _ h => ⟨_, h.1, rfl, hC.next h.2, h.2⟩)
          · intro a w' hC hs hd
            have e3 := Loose.sn (show a.eval (.tmp 3) = .int .u64 (z : Int) from (Loose.same_at hs 3 (by rfl)).trans rfl)
            refine ⟨fun _ => ?_, fun h => by simp [Region.wanted] at h⟩
            exact Loose.at_value (v := .int .u64 (z : Int)) (w' := w') (by simp [go_sem, e3]) ⟨rfl, hC, Below.refl _ _⟩
          · intro a w' hC hs hd
            have e59 := Loose.sn (show a.eval (.tmp 59) = .int .u64 (r1 : Int) from hd ⟨13, .data⟩ (by simp) rfl _ _ rfl rfl)
            have e60 := Loose.sn (show a.eval (.tmp 60) = .int .u64 (z : Int) from hd ⟨14, .data⟩ (by simp) rfl _ _ rfl rfl)
            refine ⟨fun _ => ?_, fun h => by simp [Region.wanted] at h⟩
            exact Loose.at_value (v := .slice (some ⟨w'.heap.size, 0, none⟩) 2 2) (w' := w'.alloc (.cells #[.int .u64 (r1 : Int), .int .u64 (z : Int)] 24)) (by simp [go_sem, e59, e60]) ⟨words2 w' 24 (HL.out.1) (HXY.out.2.2), hC.next (below_box _ _), below_box _ _⟩
          · intro a w' hC hs hd
            have e46 := Loose.sn (show a.eval (.tmp 46) = .pointer (some ⟨b, 0, none⟩) from hd ⟨0, .data⟩ (by simp) rfl _ _ rfl rfl)
            have e50 := Loose.sn (show a.eval (.tmp 50) = .int .u8 (o : Int) from hd ⟨4, .data⟩ (by simp) rfl _ _ rfl rfl)
            obtain ⟨v61, i61⟩ : ∃ v, a.eval (.tmp 61) = v := ⟨_, rfl⟩
            have e61 := Loose.sn i61
            have h61 : Words w' v61 [r1, z] := i61 ▸ (hd ⟨15, .data⟩ (by simp) rfl _ _ rfl rfl : Words w' (a.tmps.getD 61 undef) [r1, z])
            refine ⟨fun _ => ?_, fun h => by simp [Region.wanted] at h⟩
            exact Loose.at_enter (by simp [go_sem, e46, e50, e61]) ((HK.out.2.1 w' v61 hC.st h61).mono fun _ _ h => ⟨_, h.1, rfl, hC.next h.2, h.2⟩)
          · intro a w' hC hs hd
            have e9 := Loose.sn (show a.eval (.tmp 9) = .pointer (some ⟨b, 0, none⟩) from (Loose.same_at hs 9 (by rfl)).trans rfl)
            refine ⟨fun _ => ?_, fun h => by simp [Region.wanted] at h⟩
            exact Loose.at_value (v := .pointer (some ⟨b, 0, none⟩)) (w' := w') (by simp [go_sem, e9]) ⟨rfl, hC, Below.refl _ _⟩
          · intro a w' hC hs hd
            have e11 := Loose.sn (show a.eval (.tmp 11) = .slice (some ⟨b7, 0, none⟩) 5 5 from (Loose.same_at hs 11 (by rfl)).trans rfl)
            refine ⟨fun _ => ?_, fun h => by simp [Region.wanted] at h⟩
            exact Loose.at_value (v := .slice (some ⟨b7, 0, none⟩) 5 5) (w' := w') (by simp [go_sem, e11]) ⟨rfl, hC, Below.refl _ _⟩
          · intro a w' hC hs hd
            have e12 := Loose.sn (show a.eval (.tmp 12) = .int .i64 (i : Int) from (Loose.same_at hs 12 (by rfl)).trans rfl)
            refine ⟨fun _ => ?_, fun h => by simp [Region.wanted] at h⟩
            exact Loose.at_value (v := .int .i64 (i : Int)) (w' := w') (by simp [go_sem, e12]) ⟨rfl, hC, Below.refl _ _⟩
          · intro a w' hC hs hd
            have e64 := Loose.sn (show a.eval (.tmp 64) = .slice (some ⟨b7, 0, none⟩) 5 5 from hd ⟨18, .data⟩ (by simp) rfl _ _ rfl rfl)
            have e65 := Loose.sn (show a.eval (.tmp 65) = .int .i64 (i : Int) from hd ⟨19, .data⟩ (by simp) rfl _ _ rfl rfl)
            have q0 := (show ¬ (5 : Int) ≤ (i : Int) by omega)
            refine ⟨fun _ => ?_, fun h => by simp [Region.wanted] at h⟩
            exact Loose.at_value (v := .pointer (some ⟨b7, i, none⟩)) (w' := w') (by simp [go_sem, e64, e65, q0]) ⟨rfl, hC, Below.refl _ _⟩
          · intro a w' hC hs hd
            have e66 := Loose.sn (show a.eval (.tmp 66) = .pointer (some ⟨b7, i, none⟩) from hd ⟨20, .data⟩ (by simp) rfl _ _ rfl rfl)
            have q0 := HCL.out w' hC
            refine ⟨fun _ => ?_, fun h => by simp [Region.wanted] at h⟩
            exact Loose.at_value (v := .int .u8 (o : Int)) (w' := w') (by simp [go_sem, e66, q0]) ⟨rfl, hC, Below.refl _ _⟩
          · intro a w' hC hs hd
            have e1 := Loose.sn (show a.eval (.tmp 1) = .int .u64 (x : Int) from (Loose.same_at hs 1 (by rfl)).trans rfl)
            refine ⟨fun _ => ?_, fun h => by simp [Region.wanted] at h⟩
            exact Loose.at_value (v := .int .u64 (x : Int)) (w' := w') (by simp [go_sem, e1]) ⟨rfl, hC, Below.refl _ _⟩
          · intro a w' hC hs hd
            have e9 := Loose.sn (show a.eval (.tmp 9) = .pointer (some ⟨b, 0, none⟩) from (Loose.same_at hs 9 (by rfl)).trans rfl)
            refine ⟨fun _ => ?_, fun h => by simp [Region.wanted] at h⟩
            exact Loose.at_value (v := .pointer (some ⟨b, 0, none⟩)) (w' := w') (by simp [go_sem, e9]) ⟨rfl, hC, Below.refl _ _⟩
          · intro a w' hC hs hd
            have e11 := Loose.sn (show a.eval (.tmp 11) = .slice (some ⟨b7, 0, none⟩) 5 5 from (Loose.same_at hs 11 (by rfl)).trans rfl)
            refine ⟨fun _ => ?_, fun h => by simp [Region.wanted] at h⟩
            exact Loose.at_value (v := .slice (some ⟨b7, 0, none⟩) 5 5) (w' := w') (by simp [go_sem, e11]) ⟨rfl, hC, Below.refl _ _⟩
          · intro a w' hC hs hd
            have e12 := Loose.sn (show a.eval (.tmp 12) = .int .i64 (i : Int) from (Loose.same_at hs 12 (by rfl)).trans rfl)
            refine ⟨fun _ => ?_, fun h => by simp [Region.wanted] at h⟩
            exact Loose.at_value (v := .int .i64 (i : Int)) (w' := w') (by simp [go_sem, e12]) ⟨rfl, hC, Below.refl _ _⟩
          · intro a w' hC hs hd
            have e70 := Loose.sn (show a.eval (.tmp 70) = .slice (some ⟨b7, 0, none⟩) 5 5 from hd ⟨24, .data⟩ (by simp) rfl _ _ rfl rfl)
            have e71 := Loose.sn (show a.eval (.tmp 71) = .int .i64 (i : Int) from hd ⟨25, .data⟩ (by simp) rfl _ _ rfl rfl)
            have q0 := (show ¬ (5 : Int) ≤ (i : Int) by omega)
            refine ⟨fun _ => ?_, fun h => by simp [Region.wanted] at h⟩
            exact Loose.at_value (v := .pointer (some ⟨b7, i, none⟩)) (w' := w') (by simp [go_sem, e70, e71, q0]) ⟨rfl, hC, Below.refl _ _⟩
          · intro a w' hC hs hd
            have e72 := Loose.sn (show a.eval (.tmp 72) = .pointer (some ⟨b7, i, none⟩) from hd ⟨26, .data⟩ (by simp) rfl _ _ rfl rfl)
            have q0 := HCL.out w' hC
            refine ⟨fun _ => ?_, fun h => by simp [Region.wanted] at h⟩
            exact Loose.at_value (v := .int .u8 (o : Int)) (w' := w') (by simp [go_sem, e72, q0]) ⟨rfl, hC, Below.refl _ _⟩
          · intro a w' hC hs hd
            have e2 := Loose.sn (show a.eval (.tmp 2) = .int .u64 (y : Int) from (Loose.same_at hs 2 (by rfl)).trans rfl)
            refine ⟨fun _ => ?_, fun h => by simp [Region.wanted] at h⟩
            exact Loose.at_value (v := .int .u64 (y : Int)) (w' := w') (by simp [go_sem, e2]) ⟨rfl, hC, Below.refl _ _⟩
          · intro a w' hC hs hd
            have e3 := Loose.sn (show a.eval (.tmp 3) = .int .u64 (z : Int) from (Loose.same_at hs 3 (by rfl)).trans rfl)
            refine ⟨fun _ => ?_, fun h => by simp [Region.wanted] at h⟩
            exact Loose.at_value (v := .int .u64 (z : Int)) (w' := w') (by simp [go_sem, e3]) ⟨rfl, hC, Below.refl _ _⟩
          · intro a w' hC hs hd
            have e74 := Loose.sn (show a.eval (.tmp 74) = .int .u64 (y : Int) from hd ⟨28, .data⟩ (by simp) rfl _ _ rfl rfl)
            have e75 := Loose.sn (show a.eval (.tmp 75) = .int .u64 (z : Int) from hd ⟨29, .data⟩ (by simp) rfl _ _ rfl rfl)
            refine ⟨fun _ => ?_, fun h => by simp [Region.wanted] at h⟩
            exact Loose.at_value (v := .slice (some ⟨w'.heap.size, 0, none⟩) 2 2) (w' := w'.alloc (.cells #[.int .u64 (y : Int), .int .u64 (z : Int)] 24)) (by simp [go_sem, e74, e75]) ⟨words2 w' 24 (HXY.out.2.1) (HXY.out.2.2), hC.next (below_box _ _), below_box _ _⟩
          · intro a w' hC hs hd
            have e69 := Loose.sn (show a.eval (.tmp 69) = .pointer (some ⟨b, 0, none⟩) from hd ⟨23, .data⟩ (by simp) rfl _ _ rfl rfl)
            have e73 := Loose.sn (show a.eval (.tmp 73) = .int .u8 (o : Int) from hd ⟨27, .data⟩ (by simp) rfl _ _ rfl rfl)
            obtain ⟨v76, i76⟩ : ∃ v, a.eval (.tmp 76) = v := ⟨_, rfl⟩
            have e76 := Loose.sn i76
            have h76 : Words w' v76 [y, z] := i76 ▸ (hd ⟨30, .data⟩ (by simp) rfl _ _ rfl rfl : Words w' (a.tmps.getD 76 undef) [y, z])
            refine ⟨fun _ => ?_, fun h => by simp [Region.wanted] at h⟩
            exact Loose.at_enter (by simp [go_sem, e69, e73, e76]) ((HK.out.2.2.1 w' v76 hC.st h76).mono fun _ _ h => ⟨_, h.1, rfl, hC.next h.2, h.2⟩)
          · intro a w' hC hs hd
            have e68 := Loose.sn (show a.eval (.tmp 68) = .int .u64 (x : Int) from hd ⟨22, .data⟩ (by simp) rfl _ _ rfl rfl)
            have e77 := Loose.sn (show a.eval (.tmp 77) = .int .u64 (r2 : Int) from hd ⟨31, .data⟩ (by simp) rfl _ _ rfl rfl)
            refine ⟨fun _ => ?_, fun h => by simp [Region.wanted] at h⟩
            exact Loose.at_value (v := .slice (some ⟨w'.heap.size, 0, none⟩) 2 2) (w' := w'.alloc (.cells #[.int .u64 (x : Int), .int .u64 (r2 : Int)] 24)) (by simp [go_sem, e68, e77]) ⟨words2 w' 24 (HXY.out.1) (HL.out.2), hC.next (below_box _ _), below_box _ _⟩
          · intro a w' hC hs hd
            have e63 := Loose.sn (show a.eval (.tmp 63) = .pointer (some ⟨b, 0, none⟩) from hd ⟨17, .data⟩ (by simp) rfl _ _ rfl rfl)
            have e67 := Loose.sn (show a.eval (.tmp 67) = .int .u8 (o : Int) from hd ⟨21, .data⟩ (by simp) rfl _ _ rfl rfl)
            obtain ⟨v78, i78⟩ : ∃ v, a.eval (.tmp 78) = v := ⟨_, rfl⟩
            have e78 := Loose.sn i78
            have h78 : Words w' v78 [x, r2] := i78 ▸ (hd ⟨32, .data⟩ (by simp) rfl _ _ rfl rfl : Words w' (a.tmps.getD 78 undef) [x, r2])
            refine ⟨fun _ => ?_, fun h => by simp [Region.wanted] at h⟩
            exact Loose.at_enter (by simp [go_sem, e63, e67, e78]) ((HK.out.2.2.2 w' v78 hC.st h78).mono fun _ _ h => ⟨_, h.1, rfl, hC.next h.2, h.2⟩)
          · intro a w' hC hs hd
            have e62 := Loose.sn (show a.eval (.tmp 62) = .int .u64 (R : Int) from hd ⟨16, .data⟩ (by simp) rfl _ _ rfl rfl)
            have e79 := Loose.sn (show a.eval (.tmp 79) = .int .u64 (R : Int) from hd ⟨33, .data⟩ (by simp) rfl _ _ rfl rfl)
            refine ⟨fun _ => ?_, fun h => by simp [Region.wanted] at h⟩
            exact Loose.at_value (v := .bool false) (w' := w') (by simp [go_sem, e62, e79]) ⟨rfl, hC, Below.refl _ _⟩
        · have g1 : ¬ (i : Int) < 5 := by omega
          have HS8 := Lib.hid hcr.st
          clear hlt hi hcr HCL7 HS7 HW7
          generalize wr = w8 at *
          go_wp2
          obtain ⟨w9, hw9⟩ : ∃ X, X = w8.alloc (.cells #[.int .u8 6, .int .u8 4, .int .u8 9, .int .u8 10, .int .u8 9, .int .u8 11, .int .u8 10, .int .u8 9] 44) := ⟨_, rfl⟩
          rw [← hw9]
          have hb89 : Below w8.heap.size w8 w9 := by rw [hw9]; exact below_box _ _
          have hs9 := HS8.out.next hb89
          have hcl9 : ∀ i, i < 4 → w9.cell? ⟨w8.heap.size, i * 2, none⟩ = some (.int .u8 ((opO.getD i 0 : Nat) : Int)) ∧ w9.cell? ⟨w8.heap.size, i * 2 + 1, none⟩ = some (.int .u8 ((opP.getD i 0 : Nat) : Int)) := by
            intro i hi
            have : i = 0 ∨ i = 1 ∨ i = 2 ∨ i = 3 := by omega
            rcases this with rfl | rfl | rfl | rfl <;> (rw [hw9]; simp [opO, opP])
          have HW9 := Lib.hid hw9
          have HS9 := Lib.hid hs9
          have HCL9 := Lib.hid hcl9
          clear hw9 hs9 hcl9 hb89
          generalize w8.heap.size = b9 at *
          go_loopw [14] (fun iv wr => ∃ i : Nat, iv = .int .i64 (i : Int) ∧ i ≤ 4 ∧ CR w w9 b W wr) (fun iv _ => 100 - (intOf iv).toNat)
          case atStart => exact ⟨0, rfl, by omega, HS9.out, Below.refl _ _⟩
          case round =>
            obtain ⟨i, rfl, hi, hcr⟩ := hrel
            by_cases hlt : i < 4
            · have g1 : (i : Int) < 4 := by omega
              have g1' : i < 4 := hlt
              obtain ⟨o, ho⟩ : ∃ o, o = opO.getD i 0 := ⟨_, rfl⟩
              obtain ⟨p, hp⟩ : ∃ p, p = opP.getD i 0 := ⟨_, rfl⟩
              have hor : (o = 6 ∧ p = 4) ∨ (o = 9 ∧ p = 10) ∨ (o = 9 ∧ p = 11) ∨ (o = 10 ∧ p = 9) := by rw [ho, hp]; exact opO_in i hlt
              have hcl : ∀ w', CR w w9 b W w' → w'.cell? ⟨b9, i * 2, none⟩ = some (.int .u8 (o : Int)) ∧ w'.cell? ⟨b9, i * 2 + 1, none⟩ = some (.int .u8 (p : Int)) := fun w' h => by
                have c := HCL9.out i hlt
                rw [← ho, ← hp] at c
                exact ⟨(h.be.cell (p := ⟨b9, i * 2, none⟩) (World.block_lt_of_cell? _ _ c.1)).trans c.1, (h.be.cell (p := ⟨b9, i * 2 + 1, none⟩) (World.block_lt_of_cell? _ _ c.2)).trans c.2⟩
              have h1 := HH.out.1
              have h2 := HH.out.2
              have K1 := fun w' v (hS : St w b W w') (hv : Words w' v [y, z]) => ofW p y z h1 h2 (by omega) hS hv
              have K2 := fun w' v (hS : St w b W w') (hv : Words w' v [x, wd W p y z 0]) => ofW o x _ h1 h2 (by omega) hS hv
              have K3 := fun w' v (hS : St w b W w') (hv : Words w' v [x, y]) => ofW o x y h1 h2 (by omega) hS hv
              have K4 := fun w' v (hS : St w b W w') (hv : Words w' v [x, z]) => ofW o x z h1 h2 (by omega) hS hv
              have K5 := fun w' v (hS : St w b W w') (hv : Words w' v [wd W o x y 0, wd W o x z 0]) => ofW p _ _ h1 h2 (by omega) hS hv
              rw [wd_over h1 hor] at K5
              have r1l : wd W p y z 0 < 18446744073709551616 := wd64 h1 h2
              have r2l : wd W o x y 0 < 18446744073709551616 := wd64 h1 h2
              have r3l : wd W o x z 0 < 18446744073709551616 := wd64 h1 h2
              generalize wd W o x (wd W p y z 0) 0 = R at *
              generalize wd W p y z 0 = r1 at *
              generalize wd W o x y 0 = r2 at *
              generalize wd W o x z 0 = r3 at *
              have HK := Lib.hid (And.intro K1 (And.intro K2 (And.intro K3 (And.intro K4 K5))))
              have HL := Lib.hid (And.intro r1l (And.intro r2l r3l))
              have HCL := Lib.hid hcl
              have HO := Lib.hid (And.intro ho (And.intro hp hor))
              have HCR := Lib.hid hcr
              clear K1 K2 K3 K4 K5 r1l r2l r3l hcl ho hp hor h1 h2 hcr
              go_wp2
              let tab : Nat → Want := (fun n => match n with | 0 => .val (.pointer (some ⟨b, 0, none⟩)) | 1 => .val (.slice (some ⟨b9, 0, none⟩) 4 4) | 2 => .val (.int .i64 (i : Int)) | 3 => .val (.pointer (some ⟨b9, i * 2, none⟩)) | 4 => .val (.pointer (some ⟨b9, i * 2, none⟩)) | 5 => .val (.int .u8 (o : Int)) | 6 => .val (.int .u64 (x : Int)) | 7 => .val (.pointer (some ⟨b, 0, none⟩)) | 8 => .val (.slice (some ⟨b9, 0, none⟩) 4 4) | 9 => .val (.int .i64 (i : Int)) | 10 => .val (.pointer (some ⟨b9, i * 2, none⟩)) | 11 => .val (.pointer (some ⟨b9, i * 2 + 1, none⟩)) | 12 => .val (.int .u8 (p : Int)) | 13 => .val (.int .u64 (y : Int)) | 14 => .val (.int .u64 (z : Int)) | 15 => .words [y, z] | 16 => .val (.int .u64 (r1 : Int)) | 17 => .words [x, r1] | 18 => .val (.int .u64 (R : Int)) | 19 => .val (.pointer (some ⟨b, 0, none⟩)) | 20 => .val (.slice (some ⟨b9, 0, none⟩) 4 4) | 21 => .val (.int .i64 (i : Int)) | 22 => .val (.pointer (some ⟨b9, i * 2, none⟩)) | 23 => .val (.pointer (some ⟨b9, i * 2 + 1, none⟩)) | 24 => .val (.int .u8 (p : Int)) | 25 => .val (.pointer (some ⟨b, 0, none⟩)) | 26 => .val (.slice (some ⟨b9, 0, none⟩) 4 4) | 27 => .val (.int .i64 (i : Int)) | 28 => .val (.pointer (some ⟨b9, i * 2, none⟩)) | 29 => .val (.pointer (some ⟨b9, i * 2, none⟩)) | 30 => .val (.int .u8 (o : Int)) | 31 => .val (.int .u64 (x : Int)) | 32 => .val (.int .u64 (y : Int)) | 33 => .words [x, y] | 34 => .val (.int .u64 (r2 : Int)) | 35 => .val (.pointer (some ⟨b, 0, none⟩)) | 36 => .val (.slice (some ⟨b9, 0, none⟩) 4 4) | 37 => .val (.int .i64 (i : Int)) | 38 => .val (.pointer (some ⟨b9, i * 2, none⟩)) | 39 => .val (.pointer (some ⟨b9, i * 2, none⟩)) | 40 => .val (.int .u8 (o : Int)) | 41 => .val (.int .u64 (x : Int)) | 42 => .val (.int .u64 (z : Int)) | 43 => .words [x, z] | 44 => .val (.int .u64 (r3 : Int)) | 45 => .words [r2, r3] | 46 => .val (.int .u64 (R : Int)) | 47 => .val (.bool false) | _ => .any)
              refine Loose.wp_region_steps (fun n v w' => sat (tab n) v w') (CR w w9 b W) (by kernel_rfl) (by kernel_rfl) (by rfl) (fun _ _ _ _ h _ _ hb => h.stab hb) HCR.out.drew ⟨?_, ?_, ?_, ?_, ?_, ?_, ?_, ?_, ?_, ?_, ?_, ?_, ?_, ?_, ?_, ?_, ?_, ?_, ?_, ?_, ?_, ?_, ?_, ?_, ?_, ?_, ?_, ?_, ?_, ?_, ?_, ?_, ?_, ?_, ?_, ?_, ?_, ?_, ?_, ?_, ?_, ?_, ?_, ?_, ?_, ?_, ?_, ?_, trivial⟩ ?_
              rotate_right
              · intro vs w8 hc8 hv
                have f139 : vs 47 = .bool false := hv 47 _ rfl
                clear hv
                simp only [Loose.puts, Act.put, List.setIfInBounds_toArray, List.set_cons_succ, List.set_cons_zero, Nat.zero_add, Nat.reduceAdd, f139]
                clear f139
                go_wp2
                go_roundw
                case rel => exact ⟨i + 1, by simp, by omega, hc8⟩
                case measure => simp [intOf]; omega
              · intro a w' hC hs hd
                have e9 := Loose.sn (show a.eval (.tmp 9) = .pointer (some ⟨b, 0, none⟩) from (Loose.same_at hs 9 (by rfl)).trans rfl)
                refine ⟨fun _ => ?_, fun h => by simp [Region.wanted] at h⟩
                exact Loose.at_value (v := .pointer (some ⟨b, 0, none⟩)) (w' := w') (by simp [go_sem, e9]) ⟨rfl, hC, Below.refl _ _⟩
              · intro a w' hC hs hd
                have e13 := Loose.sn (show a.eval (.tmp 13) = .slice (some ⟨b9, 0, none⟩) 4 4 from (Loose.same_at hs 13 (by rfl)).trans rfl)
                refine ⟨fun _ => ?_, fun h => by simp [Region.wanted] at h⟩
                exact Loose.at_value (v := .slice (some ⟨b9, 0, none⟩) 4 4) (w' := w') (by simp [go_sem, e13]) ⟨rfl, hC, Below.refl _ _⟩
              · intro a w' hC hs hd
                have e14 := Loose.sn (show a.eval (.tmp 14) = .int .i64 (i : Int) from (Loose.same_at hs 14 (by rfl)).trans rfl)
                refine ⟨fun _ => ?_, fun h => by simp [Region.wanted] at h⟩
                exact Loose.at_value (v := .int .i64 (i : Int)) (w' := w') (by simp [go_sem, e14]) ⟨rfl, hC, Below.refl _ _⟩
              · intro a w' hC hs hd
                have e93 := Loose.sn (show a.eval (.tmp 93) = .slice (some ⟨b9, 0, none⟩) 4 4 from hd ⟨1, .data⟩ (by simp) rfl _ _ rfl rfl)
                have e94 := Loose.sn (show a.eval (.tmp 94) = .int .i64 (i : Int) from hd ⟨2, .data⟩ (by simp) rfl _ _ rfl rfl)
                have q0 := (show ¬ (4 : Int) ≤ (i : Int) by omega)
                refine ⟨fun _ => ?_, fun h => by simp [Region.wanted] at h⟩
                exact Loose.at_value (v := .pointer (some ⟨b9, i * 2, none⟩)) (w' := w') (by simp [go_sem, e93, e94, q0]) ⟨rfl, hC, Below.refl _ _⟩
              · intro a w' hC hs hd
                have e95 := Loose.sn (show a.eval (.tmp 95) = .pointer (some ⟨b9, i * 2, none⟩) from hd ⟨3, .data⟩ (by simp) rfl _ _ rfl rfl)
                refine ⟨fun _ => ?_, fun h => by simp [Region.wanted] at h⟩
                exact Loose.at_value (v := .pointer (some ⟨b9, i * 2, none⟩)) (w' := w') (by simp [go_sem, e95]) ⟨rfl, hC, Below.refl _ _⟩
              · intro a w' hC hs hd
                have e96 := Loose.sn (show a.eval (.tmp 96) = .pointer (some ⟨b9, i * 2, none⟩) from hd ⟨4, .data⟩ (by simp) rfl _ _ rfl rfl)
                have q0 := (HCL.out w' hC).1
                refine ⟨fun _ => ?_, fun h => by simp [Region.wanted] at h⟩
                exact Loose.at_value (v := .int .u8 (o : Int)) (w' := w') (by simp [go_sem, e96, q0]) ⟨rfl, hC, Below.refl _ _⟩
              · intro a w' hC hs hd
                have e1 := Loose.sn (show a.eval (.tmp 1) = .int .u64 (x : Int) from (Loose.same_at hs 1 (by rfl)).trans rfl)
                refine ⟨fun _ => ?_, fun h => by simp [Region.wanted] at h⟩
                exact Loose.at_value (v := .int .u64 (x : Int)) (w' := w') (by simp [go_sem, e1]) ⟨rfl, hC, Below.refl _ _⟩
              · intro a w' hC hs hd
                have e9 := Loose.sn (show a.eval (.tmp 9) = .pointer (some ⟨b, 0, none⟩) from (Loose.same_at hs 9 (by rfl)).trans rfl)
                refine ⟨fun _ => ?_, fun h => by simp [Region.wanted] at h⟩
                exact Loose.at_value (v := .pointer (some ⟨b, 0, none⟩)) (w' := w') (by simp [go_sem, e9]) ⟨rfl, hC, Below.refl _ _⟩
              · intro a w' hC hs hd
                have e13 := Loose.sn (show a.eval (.tmp 13) = .slice (some ⟨b9, 0, none⟩) 4 4 from (Loose.same_at hs 13 (by rfl)).trans rfl)
                refine ⟨fun _ => ?_, fun h => by simp [Region.wanted] at h⟩
                exact Loose.at_value (v := .slice (some ⟨b9, 0, none⟩) 4 4) (w' := w') (by simp [go_sem, e13]) ⟨rfl, hC, Below.refl _ _⟩
              · intro a w' hC hs hd
                have e14 := Loose.sn (show a.eval (.tmp 14) = .int .i64 (i : Int) from (Loose.same_at hs 14 (by rfl)).trans rfl)
                refine ⟨fun _ => ?_, fun h => by simp [Region.wanted] at h⟩
                exact Loose.at_value (v := .int .i64 (i : Int)) (w' := w') (by simp [go_sem, e14]) ⟨rfl, hC, Below.refl _ _⟩
              · intro a w' hC hs hd
                have e100 := Loose.sn (show a.eval (.tmp 100) = .slice (some ⟨b9, 0, none⟩) 4 4 from hd ⟨8, .data⟩ (by simp) rfl _ _ rfl rfl)
                have e101 := Loose.sn (show a.eval (.tmp 101) = .int .i64 (i : Int) from hd ⟨9, .data⟩ (by simp) rfl _ _ rfl rfl)
                have q0 := (show ¬ (4 : Int) ≤ (i : Int) by omega)
                refine ⟨fun _ => ?_, fun h => by simp [Region.wanted] at h⟩
                exact Loose.at_value (v := .pointer (some ⟨b9, i * 2, none⟩)) (w' := w') (by simp [go_sem, e100, e101, q0]) ⟨rfl, hC, Below.refl _ _⟩
              · intro a w' hC hs hd
                have e102 := Loose.sn (show a.eval (.tmp 102) = .pointer (some ⟨b9, i * 2, none⟩) from hd ⟨10, .data⟩ (by simp) rfl _ _ rfl rfl)
                refine ⟨fun _ => ?_, fun h => by simp [Region.wanted] at h⟩
                exact Loose.at_value (v := .pointer (some ⟨b9, i * 2 + 1, none⟩)) (w' := w') (by simp [go_sem, e102]) ⟨rfl, hC, Below.refl _ _⟩
              · intro a w' hC hs hd
                have e103 := Loose.sn (show a.eval (.tmp 103) = .pointer (some ⟨b9, i * 2 + 1, none⟩) from hd ⟨11, .data⟩ (by simp) rfl _ _ rfl rfl)
                have q0 := (HCL.out w' hC).2
                refine ⟨fun _ => ?_, fun h => by simp [Region.wanted] at h⟩
                exact Loose.at_value (v := .int .u8 (p : Int)) (w' := w') (by simp [go_sem, e103, q0]) ⟨rfl, hC, Below.refl _ _⟩
              · intro a w' hC hs hd
                have e2 := Loose.sn (show a.eval (.tmp 2) = .int .u64 (y : Int) from (Loose.same_at hs 2 (by rfl)).trans rfl)
                refine ⟨fun _ => ?_, fun h => by simp [Region.wanted] at h⟩
                exact Loose.at_value (v := .int .u64 (y : Int)) (w' := w') (by simp [go_sem, e2]) ⟨rfl, hC, Below.refl _ _⟩
              · intro a w' hC hs hd
                have e3 := Loose.sn (show a.eval (.tmp 3) = .int .u64 (z : Int) from (Loose.same_at hs 3 (by rfl)).trans rfl)
                refine ⟨fun _ => ?_, fun h => by simp [Region.wanted] at h⟩
                exact Loose.at_value (v := .int .u64 (z : Int)) (w' := w') (by simp [go_sem, e3]) ⟨rfl, hC, Below.refl _ _⟩
              · intro a w' hC hs hd
                have e105 := Loose.sn (show a.eval (.tmp 105) = .int .u64 (y : Int) from hd ⟨13, .data⟩ (by simp) rfl _ _ rfl rfl)
                have e106 := Loose.sn (show a.eval (.tmp 106) = .int .u64 (z : Int) from hd ⟨14, .data⟩ (by simp) rfl _ _ rfl rfl)
                refine ⟨fun _ => ?_, fun h => by simp [Region.wanted] at h⟩
                exact Loose.at_value (v := .slice (some ⟨w'.heap.size, 0, none⟩) 2 2) (w' := w'.alloc (.cells #[.int .u64 (y : Int), .int .u64 (z : Int)] 24)) (by simp [go_sem, e105, e106]) ⟨words2 w' 24 (HXY.out.2.1) (HXY.out.2.2), hC.next (below_box _ _), below_box _ _⟩
              · intro a w' hC hs hd
                have e99 := Loose.sn (show a.eval (.tmp 99) = .pointer (some ⟨b, 0, none⟩) from hd ⟨7, .data⟩ (by simp) rfl _ _ rfl rfl)
                have e104 := Loose.sn (show a.eval (.tmp 104) = .int .u8 (p : Int) from hd ⟨12, .data⟩ (by simp) rfl _ _ rfl rfl)
                obtain ⟨v107, i107⟩ : ∃ v, a.eval (.tmp 107) = v := ⟨_, rfl⟩
                have e107 := Loose.sn i107
                have h107 : Words w' v107 [y, z] := i107 ▸ (hd ⟨15, .data⟩ (by simp) rfl _ _ rfl rfl : Words w' (a.tmps.getD 107 undef) [y, z])
                refine ⟨fun _ => ?_, fun h => by simp [Region.wanted] at h⟩
                exact Loose.at_enter (by simp [go_sem, e99, e104, e107]) ((HK.out.1 w' v107 hC.st h107).mono fun _ _ h => ⟨_, h.1, rfl, hC.next h.2, h.2⟩)
              · intro a w' hC hs hd
                have e98 := Loose.sn (show a.eval (.tmp 98) = .int .u64 (x : Int) from hd ⟨6, .data⟩ (by simp) rfl _ _ rfl rfl)
                have e108 := Loose.sn (show a.eval (.tmp 108) = .int .u64 (r1 : Int) from hd ⟨16, .data⟩ (by simp) rfl _ _ rfl rfl)
                refine ⟨fun _ => ?_, fun h => by simp [Region.wanted] at h⟩
                exact Loose.at_value (v := .slice (some ⟨w'.heap.size, 0, none⟩) 2 2) (w' := w'.alloc (.cells #[.int .u64 (x : Int), .int .u64 (r1 : Int)] 24)) (by simp [go_sem, e98, e108]) ⟨words2 w' 24 (HXY.out.1) (HL.out.1), hC.next (below_box _ _), below_box _ _⟩
              · intro a w' hC hs hd
                have e92 := Loose.sn (show a.eval (.tmp 92) = .pointer (some ⟨b, 0, none⟩) from hd ⟨0, .data⟩ (by simp) rfl _ _ rfl rfl)
                have e97 := Loose.sn (show a.eval (.tmp 97) = .int .u8 (o : Int) from hd ⟨5, .data⟩ (by simp) rfl _ _ rfl rfl)
                obtain ⟨v109, i109⟩ : ∃ v, a.eval (.tmp 109) = v := ⟨_, rfl⟩
                have e109 := Loose.sn i109
                have h109 : Words w' v109 [x, r1] := i109 ▸ (hd ⟨17, .data⟩ (by simp) rfl _ _ rfl rfl : Words w' (a.tmps.getD 109 undef) [x, r1])
                refine ⟨fun _ => ?_, fun h => by simp [Region.wanted] at h⟩
                exact Loose.at_enter (by simp [go_sem, e92, e97, e109]) ((HK.out.2.1 w' v109 hC.st h109).mono fun _ _ h => ⟨_, h.1, rfl, hC.next h.2, h.2⟩)
              · intro a w' hC hs hd
                have e9 := Loose.sn (show a.eval (.tmp 9) = .pointer (some ⟨b, 0, none⟩) from (Loose.same_at hs 9 (by rfl)).trans rfl)
                refine ⟨fun _ => ?_, fun h => by simp [Region.wanted] at h⟩
                exact Loose.at_value (v := .pointer (some ⟨b, 0, none⟩)) (w' := w') (by simp [go_sem, e9]) ⟨rfl, hC, Below.refl _ _⟩
              · intro a w' hC hs hd
                have e13 := Loose.sn (show a.eval (.tmp 13) = .slice (some ⟨b9, 0, none⟩) 4 4 from (Loose.same_at hs 13 (by rfl)).trans rfl)
                refine ⟨fun _ => ?_, fun h => by simp [Region.wanted] at h⟩
                exact Loose.at_value (v := .slice (some ⟨b9, 0, none⟩) 4 4) (w' := w') (by simp [go_sem, e13]) ⟨rfl, hC, Below.refl _ _⟩
              · intro a w' hC hs hd
                have e14 := Loose.sn (show a.eval (.tmp 14) = .int .i64 (i : Int) from (Loose.same_at hs 14 (by rfl)).trans rfl)
                refine ⟨fun _ => ?_, fun h => by simp [Region.wanted] at h⟩
                exact Loose.at_value (v := .int .i64 (i : Int)) (w' := w') (by simp [go_sem, e14]) ⟨rfl, hC, Below.refl _ _⟩
              · intro a w' hC hs hd
                have e112 := Loose.sn (show a.eval (.tmp 112) = .slice (some ⟨b9, 0, none⟩) 4 4 from hd ⟨20, .data⟩ (by simp) rfl _ _ rfl rfl)
                have e113 := Loose.sn (show a.eval (.tmp 113) = .int .i64 (i : Int) from hd ⟨21, .data⟩ (by simp) rfl _ _ rfl rfl)
                have q0 := (show ¬ (4 : Int) ≤ (i : Int) by omega)
                refine ⟨fun _ => ?_, fun h => by simp [Region.wanted] at h⟩
                exact Loose.at_value (v := .pointer (some ⟨b9, i * 2, none⟩)) (w' := w') (by simp [go_sem, e112, e113, q0]) ⟨rfl, hC, Below.refl _ _⟩
              · intro a w' hC hs hd
                have e114 := Loose.sn (show a.eval (.tmp 114) = .pointer (some ⟨b9, i * 2, none⟩) from hd ⟨22, .data⟩ (by simp) rfl _ _ rfl rfl)
                refine ⟨fun _ => ?_, fun h => by simp [Region.wanted] at h⟩
                exact Loose.at_value (v := .pointer (some ⟨b9, i * 2 + 1, none⟩)) (w' := w') (by simp [go_sem, e114]) ⟨rfl, hC, Below.refl _ _⟩
              · intro a w' hC hs hd
                have e115 := Loose.sn (show a.eval (.tmp 115) = .pointer (some ⟨b9, i * 2 + 1, none⟩) from hd ⟨23, .data⟩ (by simp) rfl _ _ rfl rfl)
                have q0 := (HCL.out w' hC).2
                refine ⟨fun _ => ?_, fun h => by simp [Region.wanted] at h⟩
                exact Loose.at_value (v := .int .u8 (p : Int)) (w' := w') (by simp [go_sem, e115, q0]) ⟨rfl, hC, Below.refl _ _⟩
              · intro a w' hC hs hd
                have e9 := Loose.sn (show a.eval (.tmp 9) = .pointer (some ⟨b, 0, none⟩) from (Loose.same_at hs 9 (by rfl)).trans rfl)
                refine ⟨fun _ => ?_, fun h => by simp [Region.wanted] at h⟩
                exact Loose.at_value (v := .pointer (some ⟨b, 0, none⟩)) (w' := w') (by simp [go_sem, e9]) ⟨rfl, hC, Below.refl _ _⟩
              · intro a w' hC hs hd
                have e13 := Loose.sn (show a.eval (.tmp 13) = .slice (some ⟨b9, 0, none⟩) 4 4 from (Loose.same_at hs 13 (by rfl)).trans rfl)
                refine ⟨fun _ => ?_, fun h => by simp [Region.wanted] at h⟩
                exact Loose.at_value (v := .slice (some ⟨b9, 0, none⟩) 4 4) (w' := w') (by simp [go_sem, e13]) ⟨rfl, hC, Below.refl _ _⟩
              · intro a w' hC hs hd
                have e14 := Loose.sn (show a.eval (.tmp 14) = .int .i64 (i : Int) from (Loose.same_at hs 14 (by rfl)).trans rfl)
                refine ⟨fun _ => ?_, fun h => by simp [Region.wanted] at h⟩
                exact Loose.at_value (v := .int .i64 (i : Int)) (w' := w') (by simp [go_sem, e14]) ⟨rfl, hC, Below.refl _ _⟩
              · intro a w' hC hs hd
                have e118 := Loose.sn (show a.eval (.tmp 118) = .slice (some ⟨b9, 0, none⟩) 4 4 from hd ⟨26, .data⟩ (by simp) rfl _ _ rfl rfl)
                have e119 := Loose.sn (show a.eval (.tmp 119) = .int .i64 (i : Int) from hd ⟨27, .data⟩ (by simp) rfl _ _ rfl rfl)
                have q0 := (show ¬ (4 : Int) ≤ (i : Int) by omega)
                refine ⟨fun _ => ?_, fun h => by simp [Region.wanted] at h⟩
                exact Loose.at_value (v := .pointer (some ⟨b9, i * 2, none⟩)) (w' := w') (by simp [go_sem, e118, e119, q0]) ⟨rfl, hC, Below.refl _ _⟩
              · intro a w' hC hs hd
                have e120 := Loose.sn (show a.eval (.tmp 120) = .pointer (some ⟨b9, i * 2, none⟩) from hd ⟨28, .data⟩ (by simp) rfl _ _ rfl rfl)
                refine ⟨fun _ => ?_, fun h => by simp [Region.wanted] at h⟩
                exact Loose.at_value (v := .pointer (some ⟨b9, i * 2, none⟩)) (w' := w') (by simp [go_sem, e120]) ⟨rfl, hC, Below.refl _ _⟩
              · intro a w' hC hs hd
                have e121 := Loose.sn (show a.eval (.tmp 121) = .pointer (some ⟨b9, i * 2, none⟩) from hd ⟨29, .data⟩ (by simp) rfl _ _ rfl rfl)
                have q0 := (HCL.out w' hC).1
                refine ⟨fun _ => ?_, fun h => by simp [Region.wanted] at h⟩
                exact Loose.at_value (v := .int .u8 (o : Int)) (w' := w') (by simp [go_sem, e121, q0]) ⟨rfl, hC, Below.refl _ _⟩
              · intro a w' hC hs hd
                have e1 := Loose.sn (show a.eval (.tmp 1) = .int .u64 (x : Int) from (Loose.same_at hs 1 (by rfl)).trans rfl)
                refine ⟨fun _ => ?_, fun h => by simp [Region.wanted] at h⟩
                exact Loose.at_value (v := .int .u64 (x : Int)) (w' := w') (by simp [go_sem, e1]) ⟨rfl, hC, Below.refl _ _⟩
              · intro a w' hC hs hd
                have e2 := Loose.sn (show a.eval (.tmp 2) = .int .u64 (y : Int) from (Loose.same_at hs 2 (by rfl)).trans rfl)
                refine ⟨fun _ => ?_, fun h => by simp [Region.wanted] at h⟩
                exact Loose.at_value (v := .int .u64 (y : Int)) (w' := w') (by simp [go_sem, e2]) ⟨rfl, hC, Below.refl _ _⟩
              · intro a w' hC hs hd
                have e123 := Loose.sn (show a.eval (.tmp 123) = .int .u64 (x : Int) from hd ⟨31, .data⟩ (by simp) rfl _ _ rfl rfl)
                have e124 := Loose.sn (show a.eval (.tmp 124) = .int .u64 (y : Int) from hd ⟨32, .data⟩ (by simp) rfl _ _ rfl rfl)
                refine ⟨fun _ => ?_, fun h => by simp [Region.wanted] at h⟩
                exact Loose.at_value (v := .slice (some ⟨w'.heap.size, 0, none⟩) 2 2) (w' := w'.alloc (.cells #[.int .u64 (x : Int), .int .u64 (y : Int)] 24)) (by simp [go_sem, e123, e124]) ⟨words2 w' 24 (HXY.out.1) (HXY.out.2.1), hC.next (below_box _ _), below_box _ _⟩
              · intro a w' hC hs hd
                have e117 := Loose.sn (show a.eval (.tmp 117) = .pointer (some ⟨b, 0, none⟩) from hd ⟨25, .data⟩ (by simp) rfl _ _ rfl rfl)
                have e122 := Loose.sn (show a.eval (.tmp 122) = .int .u8 (o : Int) from hd ⟨30, .data⟩ (by simp) rfl _ _ rfl rfl)
                obtain ⟨v125, i125⟩ : ∃ v, a.eval (.tmp 125) = v := ⟨_, rfl⟩
                have e125 := Loose.sn i125
                have h125 : Words w' v125 [x, y] := i125 ▸ (hd ⟨33, .data⟩ (by simp) rfl _ _ rfl rfl : Words w' (a.tmps.getD 125 undef) [x, y])
                refine ⟨fun _ => ?_, fun h => by simp [Region.wanted] at h⟩
                exact Loose.at_enter (by simp [go_sem, e117, e122, e125]) ((HK.out.2.2.1 w' v125 hC.st h125).mono fun _ _ h => ⟨_, h.1, rfl, hC.next h.2, h.2⟩)
              · intro a w' hC hs hd
                have e9 := Loose.sn (show a.eval (.tmp 9) = .pointer (some ⟨b, 0, none⟩) from (Loose.same_at hs 9 (by rfl)).trans rfl)
                refine ⟨fun _ => ?_, fun h => by simp [Region.wanted] at h⟩
                exact Loose.at_value (v := .pointer (some ⟨b, 0, none⟩)) (w' := w') (by simp [go_sem, e9]) ⟨rfl, hC, Below.refl _ _⟩
              · intro a w' hC hs hd
                have e13 := Loose.sn (show a.eval (.tmp 13) = .slice (some ⟨b9, 0, none⟩) 4 4 from (Loose.same_at hs 13 (by rfl)).trans rfl)
                refine ⟨fun _ => ?_, fun h => by simp [Region.wanted] at h⟩
                exact Loose.at_value (v := .slice (some ⟨b9, 0, none⟩) 4 4) (w' := w') (by simp [go_sem, e13]) ⟨rfl, hC, Below.refl _ _⟩
              · intro a w' hC hs hd
                have e14 := Loose.sn (show a.eval (.tmp 14) = .int .i64 (i : Int) from (Loose.same_at hs 14 (by rfl)).trans rfl)
                refine ⟨fun _ => ?_, fun h => by simp [Region.wanted] at h⟩
                exact Loose.at_value (v := .int .i64 (i : Int)) (w' := w') (by simp [go_sem, e14]) ⟨rfl, hC, Below.refl _ _⟩
              · intro a w' hC hs hd
                have e128 := Loose.sn (show a.eval (.tmp 128) = .slice (some ⟨b9, 0, none⟩) 4 4 from hd ⟨36, .data⟩ (by simp) rfl _ _ rfl rfl)
                have e129 := Loose.sn (show a.eval (.tmp 129) = .int .i64 (i : Int) from hd ⟨37, .data⟩ (by simp) rfl _ _ rfl rfl)
                have q0 := (show ¬ (4 : Int) ≤ (i : Int) by omega)
                refine ⟨fun _ => ?_, fun h => by simp [Region.wanted] at h⟩
                exact Loose.at_value (v := .pointer (some ⟨b9, i * 2, none⟩)) (w' := w') (by simp [go_sem, e128, e129, q0]) ⟨rfl, hC, Below.refl _ _⟩
              · intro a w' hC hs hd
                have e130 := Loose.sn (show a.eval (.tmp 130) = .pointer (some ⟨b9, i * 2, none⟩) from hd ⟨38, .data⟩ (by simp) rfl _ _ rfl rfl)
                refine ⟨fun _ => ?_, fun h => by simp [Region.wanted] at h⟩
                exact Loose.at_value (v := .pointer (some ⟨b9, i * 2, none⟩)) (w' := w') (by simp [go_sem, e130]) ⟨rfl, hC, Below.refl _ _⟩
              · intro a w' hC hs hd
                have e131 := Loose.sn (show a.eval (.tmp 131) = .pointer (some ⟨b9, i * 2, none⟩) from hd ⟨39, .data⟩ (by simp) rfl _ _ rfl rfl)
                have q0 := (HCL.out w' hC).1
                refine ⟨fun _ => ?_, fun h => by simp [Region.wanted] at h⟩
                exact Loose.at_value (v := .int .u8 (o : Int)) (w' := w') (by simp [go_sem, e131, q0]) ⟨rfl, hC, Below.refl _ _⟩
              · intro a w' hC hs hd
                have e1 := Loose.sn (show a.eval (.tmp 1) = .int .u64 (x : Int) from (Loose.same_at hs 1 (by rfl)).trans rfl)
                refine ⟨fun _ => ?_, fun h => by simp [Region.wanted] at h⟩
                exact Loose.at_value (v := .int .u64 (x : Int)) (w' := w') (by simp [go_sem, e1]) ⟨rfl, hC, Below.refl _ _⟩
              · intro a w' hC hs hd
                have e3 := Loose.sn (show a.eval (.tmp 3) = .int .u64 (z : Int) from (Loose.same_at hs 3 (by rfl)).trans rfl)
                refine ⟨fun _ => ?_, fun h => by simp [Region.wanted] at h⟩
                exact Loose.at_value (v := .int .u64 (z : Int)) (w' := w') (by simp [go_sem, e3]) ⟨rfl, hC, Below.refl _ _⟩
              · intro a w' hC hs hd
                have e133 := Loose.sn (show a.eval (.tmp 133) = .int .u64 (x : Int) from hd ⟨41, .data⟩ (by simp) rfl _ _ rfl rfl)
                have e134 := Loose.sn (show a.eval (.tmp 134) = .int .u64 (z : Int) from hd ⟨42, .data⟩ (by simp) rfl _ _ rfl rfl)
                refine ⟨fun _ => ?_, fun h => by simp [Region.wanted] at h⟩
                exact Loose.at_value (v := .slice (some ⟨w'.heap.size, 0, none⟩) 2 2) (w' := w'.alloc (.cells #[.int .u64 (x : Int), .int .u64 (z : Int)] 24)) (by simp [go_sem, e133, e134]) ⟨words2 w' 24 (HXY.out.1) (HXY.out.2.2), hC.next (below_box _ _), below_box _ _⟩
              · intro a w' hC hs hd
                have e127 := Loose.sn (show a.eval (.tmp 127) = .pointer (some ⟨b, 0, none⟩) from hd ⟨35, .data⟩ (by simp) rfl _ _ rfl rfl)
                have e132 := Loose.sn (show a.eval (.tmp 132) = .int .u8 (o : Int) from hd ⟨40, .data⟩ (by simp) rfl _ _ rfl rfl)
                obtain ⟨v135, i135⟩ : ∃ v, a.eval (.tmp 135) = v := ⟨_, rfl⟩
                have e135 := Loose.sn i135
                have h135 : Words w' v135 [x, z] := i135 ▸ (hd ⟨43, .data⟩ (by simp) rfl _ _ rfl rfl : Words w' (a.tmps.getD 135 undef) [x, z])
                refine ⟨fun _ => ?_, fun h => by simp [Region.wanted] at h⟩
                exact Loose.at_enter (by simp [go_sem, e127, e132, e135]) ((HK.out.2.2.2.1 w' v135 hC.st h135).mono fun _ _ h => ⟨_, h.1, rfl, hC.next h.2, h.2⟩)
              · intro a w' hC hs hd
                have e126 := Loose.sn (show a.eval (.tmp 126) = .int .u64 (r2 : Int) from hd ⟨34, .data⟩ (by simp) rfl _ _ rfl rfl)
                have e136 := Loose.sn (show a.eval (.tmp 136) = .int .u64 (r3 : Int) from hd ⟨44, .data⟩ (by simp) rfl _ _ rfl rfl)
                refine ⟨fun _ => ?_, fun h => by simp [Region.wanted] at h⟩
                exact Loose.at_value (v := .slice (some ⟨w'.heap.size, 0, none⟩) 2 2) (w' := w'.alloc (.cells #[.int .u64 (r2 : Int), .int .u64 (r3 : Int)] 24)) (by simp [go_sem, e126, e136]) ⟨words2 w' 24 (HL.out.2.1) (HL.out.2.2), hC.next (below_box _ _), below_box _ _⟩
              · intro a w' hC hs hd
                have e111 := Loose.sn (show a.eval (.tmp 111) = .pointer (some ⟨b, 0, none⟩) from hd ⟨19, .data⟩ (by simp) rfl _ _ rfl rfl)
                have e116 := Loose.sn (show a.eval (.tmp 116) = .int .u8 (p : Int) from hd ⟨24, .data⟩ (by simp) rfl _ _ rfl rfl)
                obtain ⟨v137, i137⟩ : ∃ v, a.eval (.tmp 137) = v := ⟨_, rfl⟩
                have e137 := Loose.sn i137
                have h137 : Words w' v137 [r2, r3] := i137 ▸ (hd ⟨45, .data⟩ (by simp) rfl _ _ rfl rfl : Words w' (a.tmps.getD 137 undef) [r2, r3])
                refine ⟨fun _ => ?_, fun h => by simp [Region.wanted] at h⟩
                exact Loose.at_enter (by simp [go_sem, e111, e116, e137]) ((HK.out.2.2.2.2 w' v137 hC.st h137).mono fun _ _ h => ⟨_, h.1, rfl, hC.next h.2, h.2⟩)
              · intro a w' hC hs hd
                have e110 := Loose.sn (show a.eval (.tmp 110) = .int .u64 (R : Int) from hd ⟨18, .data⟩ (by simp) rfl _ _ rfl rfl)
                have e138 := Loose.sn (show a.eval (.tmp 138) = .int .u64 (R : Int) from hd ⟨46, .data⟩ (by simp) rfl _ _ rfl rfl)
                refine ⟨fun _ => ?_, fun h => by simp [Region.wanted] at h⟩
                exact Loose.at_value (v := .bool false) (w' := w') (by simp [go_sem, e110, e138]) ⟨rfl, hC, Below.refl _ _⟩
            · have g1 : ¬ (i : Int) < 4 := by omega
              have hs10 := hcr.st
              clear hlt hi hcr HCL9 HS9 HW9
              generalize wr = w10 at *
              have hc1 := hs10.cell1
              have T1 : TrC w b W (uv x) (x % 2 ^ W) := trc x HH.out.1 HH.out.2 HXY.out.1
              have A1 : Of2C w b W 4 (uv x) (.int .u64 0) (wd W 4 x 0 0) := of2c 4 x 0 HH.out.1 HH.out.2 (by decide) HXY.out.1 (by decide)
              have A2 : Of2C w b W 6 (uv x) (.int .u64 1) (wd W 6 x 1 0) := of2c 6 x 1 HH.out.1 HH.out.2 (by decide) HXY.out.1 (by decide)
              have A3 : Of2C w b W 11 (uv x) (uv x) (wd W 11 x x 0) := of2c 11 x x HH.out.1 HH.out.2 (by decide) HXY.out.1 HXY.out.1
              have A4 : Of2C w b W 10 (uv x) (.int .u64 0) (wd W 10 x 0 0) := of2c 10 x 0 HH.out.1 HH.out.2 (by decide) HXY.out.1 (by decide)
              rw [add_zero9 HH.out.1] at A1
              rw [mul_one9 HH.out.1] at A2
              rw [xor_self9] at A3
              rw [or_zero9] at A4
              generalize x % 2 ^ W = X at *
              have HT1 := Lib.hid T1
              have HA1 := Lib.hid A1
              have HA2 := Lib.hid A2
              have HA3 := Lib.hid A3
              have HA4 := Lib.hid A4
              clear T1 A1 A2 A3 A4
              go_wp2_with (first
                | (go_at_call 25; with_reducible refine (HA1.out _ (by assumption)).mono ?_; rintro e w2 ⟨rfl, hs⟩; have hc1 := hs.cell1)
                | (go_at_call 25; with_reducible refine (HA2.out _ (by assumption)).mono ?_; rintro e w2 ⟨rfl, hs⟩; have hc1 := hs.cell1)
                | (go_at_call 25; with_reducible refine (HA3.out _ (by assumption)).mono ?_; rintro e w2 ⟨rfl, hs⟩; have hc1 := hs.cell1)
                | (go_at_call 25; with_reducible refine (HA4.out _ (by assumption)).mono ?_; rintro e w2 ⟨rfl, hs⟩; have hc1 := hs.cell1)
                | (go_at_call 26; with_reducible refine (HT1.out _ (by assumption)).mono ?_; rintro e w2 ⟨rfl, hs⟩; have hc1 := hs.cell1)
                | (go_at_call 12; refine (St.known (by assumption)).mono ?_; rintro e w2 ⟨rfl, hs⟩))
              go_ret
              exact ⟨rfl, hs.below⟩
end W9
end Go.Proofs.YtmplmpiljjilnaaDoor
