/- What the laws share: known, made, all, same. -/
import Derived.Test.YtenmgkomffnjaaaHM
import Derived.Test.YtenmgkomffnjaaaO
namespace Go.Proofs.Ytenmgkomffnjaaa
open Go.RowKit
namespace L
open K HP
set_option maxRecDepth 100000

set_option maxHeartbeats 1000000 in
theorem same_any (v1 v2 : Value) (l1 l2 : List Int) (w : World) (h1 : Ints w v1 l1) (h2 : Ints w v2 l2) :
    Calls Try.prog 28 #[v1, v2] w fun e w' => e = .returned (.bool (decide (l1 = l2))) ∧ Below w.heap.size w w' := by
  obtain ⟨p1, c1, rfl, g1, m1, hc1⟩ := h1
  obtain ⟨p2, c2, rfl, g2, m2, hc2⟩ := h2
  by_cases hl : l1.length = l2.length
  · have hl1 : (l1.length == l2.length) = true := by simpa using hl
    have HL := Lib.hid hl
    go_enter Try.func28, Try.ntmps28
    go_wp2
    go_loopw [5] (fun i wr => ∃ k : Nat, k ≤ l1.length ∧ i = .int .i64 k ∧ (∀ j, j < k → l1.getD j 0 = l2.getD j 0) ∧ Below w.heap.size w wr) (fun i _ => l1.length - (intOf i).toNat)
    case atStart => exact ⟨0, Nat.zero_le _, rfl, fun j hj => absurd hj (Nat.not_lt_zero _), Below.refl _ _⟩
    case round =>
      obtain ⟨k, hk, rfl, heq, hb⟩ := hrel
      have HE := Lib.hid heq
      clear heq
      by_cases hlt : k < l1.length
      · obtain ⟨b1, o1, rfl, e1⟩ := hc1 (by omega)
        obtain ⟨b2, o2, rfl, e2⟩ := hc2 (by omega)
        have d1 := (hb.cell (p := ⟨b1, o1 + k, none⟩) (World.block_lt_of_cell? _ _ (e1 k hlt))).trans (e1 k hlt)
        have hlt2 : k < l2.length := by omega
        have d2 := (hb.cell (p := ⟨b2, o2 + k, none⟩) (World.block_lt_of_cell? _ _ (e2 k hlt2))).trans (e2 k hlt2)
        clear hc1 hc2 e1 e2
        have HL1 := Lib.hid hl1
        clear hl1
        generalize hx1 : l1.getD k 0 = x1 at d1
        generalize hx2 : l2.getD k 0 = x2 at d2
        have HX1 := Lib.hid hx1
        have HX2 := Lib.hid hx2
        clear hx1 hx2
        by_cases hne : x1 = x2
        · have hn : (x1 != x2) = false := by simpa using hne
          go_wp2
          go_quiet (fail)
          go_wp2
          go_roundw
          case rel =>
            refine ⟨k + 1, by omega, by go_num, fun j hj => ?_, ?_⟩
            · by_cases hjk : j = k
              · subst hjk; rw [HX1.out, HX2.out, hne]
              · exact HE.out j (by omega)
            · exact below_drewN hb _
          case measure => simp [intOf]; omega
        · have hn : (x1 != x2) = true := by simpa using hne
          go_wp2
          go_quiet (fail)
          go_wp2
          go_ret
          refine ⟨ret_bool ?_, below_drewN hb _⟩
          symm; rw [decide_eq_false_iff_not]
          exact neq_at (by rw [HX1.out, HX2.out]; exact hne)
      · go_wp2
        go_ret
        refine ⟨ret_bool ?_, hb⟩
        symm; rw [decide_eq_true_iff]
        have hkl : k = l1.length := by omega
        exact List.ext_getElem HL.out (fun i h1 h2 => by
          have := HE.out i (by omega)
          simpa [List.getD, h1, h2] using this)
  · have hl1 : (l1.length == l2.length) = false := by simpa using hl
    have hd : decide (l1 = l2) = false := by simp; intro h; exact hl (by rw [h])
    rw [hd]; clear hd
    go_enter Try.func28, Try.ntmps28
    go_wp2
    go_ret
    exact ⟨rfl, Below.refl _ _⟩

section
variable {full : Bool} {lo hi : Nat} {w : World} {p : Value} {A : List Int} {M : Nat → Prop} {len : Nat}
theorem bumpH_ok (h : Held full lo hi w p A M len) (i : Nat) (v b : Int) (hv : v = (i : Int) + 1) (hi0 : i < A.length) (hb0 : 0 ≤ b) (hb1 : b ≤ 1099511627776) (hle : A.getD i 0 + b ≤ 1152921504606846976) {A' : List Int} (hA : A.set i (A.getD i 0 + b) = A') :
    Calls Try.prog 14 #[p, .int .i64 v, .int .i64 b] w fun e w' => e = .returned (.int .i64 0) ∧ Held full lo hi w' p A' M len ∧ Out lo hi w w' := by
  subst hv; subst hA
  exact (bumpH_any h i b hi0 hb0 hb1).mono fun e w' h => h.1 hle
theorem popH_at (h : Held full lo hi w p A M (len + 1)) {b : Nat} (hb : Best A M b) :
    Calls Try.prog 16 #[p] w fun e w' => e = .returned (.tuple #[.int .i64 ((b : Int) + 1), .int .i64 0]) ∧ Held full lo hi w' p A (fun x => M x ∧ x ≠ b) len ∧ Out lo hi w w' :=
  (popH_some h).mono fun e w' ⟨c, h1, h2, _, h4, h5⟩ => by
    obtain rfl := h2.unique hb
    exact ⟨h1, h4, h5⟩
end

set_option maxHeartbeats 4000000 in
theorem known_any (w : World) : Calls Try.prog 11 #[] w fun e w' => e = .returned (.bool true) ∧ Below w.heap.size w w' := by
  have hnew := newH_any 3 w (by omega)
  have HN := Lib.hid hnew
  clear hnew
  go_enter Try.func11, Try.ntmps11
  go_wp2_with (go_at_call 12; refine (HN.out).mono ?_; rintro e w1 ⟨p, rfl, h1, hb1⟩; refine Hid.out ?_)
  have hlo := Nat.le_refl w.heap.size
  have hA := bumpH_ok h1 2 3 1 (by simp) (by simp) (by omega) (by omega) (by simp) (A' := [0, 0, 1]) rfl
  obtain ⟨g, rfl⟩ := h1.ptr
  have HA := Lib.hid hA
  have HB1 := Lib.hid hb1
  clear hA h1 hb1
  refine Lib.hid ?_
  go_wp2_with (go_at_call 14; refine (HA.out).mono ?_; rintro e w2 ⟨rfl, h2, ho2⟩; refine Hid.out ?_)
  have hB := bumpH_ok h2 1 2 1 (by simp) (by simp) (by omega) (by omega) (by simp) (A' := [0, 1, 1]) rfl
  have HB := Lib.hid hB
  have HO2 := Lib.hid ho2
  clear hB h2 ho2
  refine Lib.hid ?_
  go_wp2_with (go_at_call 14; refine (HB.out).mono ?_; rintro e w3 ⟨rfl, h3, ho3⟩; refine Hid.out ?_)
  have hC := popH_at (len := 2) h3 (b := 1) ⟨by omega, fun x hx hne => by
    have : x = 0 ∨ x = 2 := by omega
    rcases this with rfl | rfl <;> decide⟩
  have HC := Lib.hid hC
  have HO3 := Lib.hid (HO2.out.trans ho3)
  clear hC h3 ho3
  refine Lib.hid ?_
  go_wp2_with (go_at_call 16; refine (HC.out).mono ?_; rintro e w4 ⟨rfl, h4, ho4⟩; refine Hid.out ?_)
  have hD := popH_at (len := 1) h4 (b := 2) ⟨by omega, fun x hx hne => by
    have : x = 0 := by omega
    rcases this with rfl; decide⟩
  have HD := Lib.hid hD
  have HO4 := Lib.hid (HO3.out.trans ho4)
  clear hD h4 ho4
  refine Lib.hid ?_
  go_wp2_with (go_at_call 16; refine (HD.out).mono ?_; rintro e w5 ⟨rfl, h5, ho5⟩; refine Hid.out ?_)
  have hE := popH_at (len := 0) h5 (b := 0) ⟨by omega, fun x hx hne => by omega⟩
  have HE := Lib.hid hE
  have HO5 := Lib.hid (HO4.out.trans ho5)
  clear hE h5 ho5
  refine Lib.hid ?_
  go_wp2_with (go_at_call 16; refine (HE.out).mono ?_; rintro e w6 ⟨rfl, h6, ho6⟩; refine Hid.out ?_)
  have hF := popH_none h6
  have HF := Lib.hid hF
  have HO6 := Lib.hid (HO5.out.trans ho6)
  clear hF h6 ho6
  refine Lib.hid ?_
  go_wp2_with (go_at_call 16; refine (HF.out).mono ?_; rintro e w7 ⟨rfl, rfl⟩)
  go_ret
  exact ⟨rfl, HB1.out.trans (HO6.out.to_below HB1.out.size (Nat.le_refl _))⟩

/-- The numbers of a list of 16 bits. -/
theorem u16_bd {l : List Int} (h : ∀ n ∈ l, (Lit.int .u16 n).wf = true) : ∀ n ∈ l, 0 ≤ n ∧ n ≤ 65535 := fun n hn => by
  simpa [Lit.wf, IntKind.min, IntKind.max, IntKind.signed, IntKind.bits] using h n hn

theorem setK {l : List Int} {k : Nat} (hk : k < l.length) : (l.take k ++ List.replicate (l.length - k) 0).set k (l.getD k 0) = l.take (k + 1) ++ List.replicate (l.length - (k + 1)) 0 := by
  have e : (l.take k).length = k := by rw [List.length_take]; omega
  rw [List.set_append, if_neg (by omega), e, Nat.sub_self, show l.length - k = (l.length - (k + 1)) + 1 by omega, List.replicate_succ, List.set_cons_zero, take_succ' l k hk, List.append_assoc, List.singleton_append]
theorem getK {l : List Int} {k : Nat} (hk : k < l.length) : (l.take k ++ List.replicate (l.length - k) 0).getD k 0 = 0 := by
  have e : (l.take k).length = k := by rw [List.length_take]; omega
  simp only [List.getD_eq_getElem?_getD]
  rw [List.getElem?_append_right (by omega), e, Nat.sub_self, List.getElem?_replicate]
  split <;> rfl

set_option maxHeartbeats 4000000 in
theorem made_any (v : Value) (l : List Int) (w : World) (hW : IntsW .u16 w v l) (hl : l.length ≤ 200) :
    Calls Try.prog 26 #[v] w fun e w' => ∃ p, e = .returned p ∧ Held true w.heap.size w'.heap.size w' p l (fun x => x < l.length) l.length ∧ Below w.heap.size w w' := by
  obtain ⟨pv, c, rfl, hg, hm, hwf, hc⟩ := hW
  have hbd := u16_bd hwf
  have hnew := newH_any l.length w (by omega)
  have HN := Lib.hid hnew
  have HBD := Lib.hid hbd
  have HC := Lib.hid hc
  clear hnew hwf hbd hc hm hg
  have h64 : ((l.length : Nat) : Int) ≤ 200 := by omega
  go_enter Try.func26, Try.ntmps26
  go_wp2_with (go_at_call 12; refine (HN.out).mono ?_; rintro e w1 ⟨p, rfl, h1, hb1⟩; refine Hid.out ?_)
  have hs1 := hb1.size
  have H1 := Lib.hid h1
  have HB1 := Lib.hid hb1
  obtain ⟨g, rfl⟩ := h1.ptr
  clear h1 hb1
  refine Lib.hid ?_
  go_wp2
  go_loopw [5] (fun iv wr => ∃ k : Nat, k ≤ l.length ∧ iv = .int .i64 k ∧ Held true w.heap.size w1.heap.size wr (.pointer (some ⟨g, 0, none⟩)) (l.take k ++ List.replicate (l.length - k) 0) (fun x => x < l.length) l.length ∧ Out w.heap.size w1.heap.size w1 wr) (fun iv _ => l.length - (intOf iv).toNat)
  case atStart => exact ⟨0, Nat.zero_le _, rfl, by simpa using H1.out, Out.refl _ _ _⟩
  case round =>
    obtain ⟨k, hk, rfl, hh, ho⟩ := hrel
    have hbw : Below w.heap.size w wr := HB1.out.trans (ho.to_below HB1.out.size (Nat.le_refl _))
    by_cases hlt : k < l.length
    · obtain ⟨b, o, rfl, e1⟩ := HC.out (by omega)
      have d1 := (hbw.cell (p := ⟨b, o + k, none⟩) (World.block_lt_of_cell? _ _ (e1 k hlt))).trans (e1 k hlt)
      have hx := HBD.out _ (mem_getD hlt)
      have hb := bumpH_ok hh k ((k : Int) + 1) (l.getD k 0) rfl (by simp; omega) hx.1 (by omega) (by rw [getK hlt]; omega) (A' := l.take (k + 1) ++ List.replicate (l.length - (k + 1)) 0) (by rw [getK hlt, Int.zero_add]; exact setK hlt)
      have HB := Lib.hid hb
      have HO := Lib.hid ho
      clear hb hh ho e1
      generalize l.getD k 0 = x at *
      obtain ⟨hx0, hx1⟩ := hx
      have hcv : IntKind.i64.wrap x = x := wrap64_id (by omega) (by omega)
      go_wp2_with (go_at_call 14; refine (HB.out).mono ?_; rintro e w2 ⟨rfl, h2, ho2⟩; refine Hid.out ?_)
      have H2 := Lib.hid h2
      have HO2 := Lib.hid (HO.out.trans ho2)
      clear h2 ho2
      refine Lib.hid ?_
      go_wp2
      go_roundw
      case rel => exact ⟨k + 1, by omega, by go_num, H2.out, HO2.out⟩
      case measure => simp [intOf]; omega
    · obtain rfl : k = l.length := by omega
      have HH := Lib.hid hh
      have HBW := Lib.hid hbw
      have HO := Lib.hid ho
      clear hh hbw ho
      go_wp2
      go_ret
      refine ⟨_, rfl, ?_, HBW.out⟩
      have h := HH.out
      rw [List.take_length, Nat.sub_self, List.replicate_zero, List.append_nil] at h
      exact h.wider (Nat.le_refl _) HO.out.size (Nat.le_refl _)
end L
end Go.Proofs.Ytenmgkomffnjaaa
