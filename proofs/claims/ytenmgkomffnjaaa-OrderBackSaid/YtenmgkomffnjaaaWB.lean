/- OrderBack: what was popped and is pushed again, in any order, is popped in the same order. -/
import Derived.Test.YtenmgkomffnjaaaWO
import Derived.Test.YtenmgkomffnjaaaWS
namespace Go.Proofs.Ytenmgkomffnjaaa
open Go.RowKit
namespace L
open K HP
set_option maxRecDepth 100000

/-- Which place the j-th of what is pushed again had. -/
def back (t : Bool) (k j : Nat) : Nat := if t = true then k - 1 - j else j
theorem back_lt {t : Bool} {k j : Nat} (h : j < k) : back t k j < k := by unfold back; split <;> omega
theorem back_inj {t : Bool} {k i j : Nat} (hi : i < k) (hj : j < k) (h : back t k i = back t k j) : i = j := by unfold back at h; split at h <;> omega
theorem back_onto {t : Bool} {k i : Nat} (hi : i < k) : ∃ j, j < k ∧ back t k j = i := by
  cases t with
  | true => exact ⟨k - 1 - i, by omega, by unfold back; rw [if_pos rfl]; omega⟩
  | false => exact ⟨i, hi, by unfold back; rw [if_neg (by simp)]⟩
/-- Of which the heap holds once j of the first k are in again. -/
def Again (W : List Nat) (t : Bool) (M : Nat → Prop) (k j : Nat) (x : Nat) : Prop := (M x ∧ x ∉ W.take k) ∨ ∃ i, i < j ∧ x = W.getD (back t k i) 0
section
variable {A : List Int} {M : Nat → Prop} {W : List Nat} {t : Bool} {k j : Nat}
theorem again_new (h : Drains A M W) (hk : k ≤ W.length) (hj : j < k) : ¬ Again W t M k j (W.getD (back t k j) 0) := by
  have hb := back_lt (t := t) hj
  rintro (⟨_, h2⟩ | ⟨i, hi, e⟩)
  · exact h2 (by rw [← take_getD (R := W) hb]; exact mem_getD_nat (by rw [List.length_take]; omega))
  · have hbi := back_lt (t := t) (show i < k by omega)
    have := back_inj (by omega) (by omega) (Drains.inj h (by omega) (by omega) e)
    omega
theorem again_step (x : Nat) : (Again W t M k j x ∨ x = W.getD (back t k j) 0) ↔ Again W t M k (j + 1) x := by
  constructor
  · rintro ((h | ⟨i, hi, e⟩) | e)
    · exact .inl h
    · exact .inr ⟨i, by omega, e⟩
    · exact .inr ⟨j, by omega, e⟩
  · rintro (h | ⟨i, hi, e⟩)
    · exact .inl (.inl h)
    · by_cases hij : i = j
      · exact .inr (by rw [e, hij])
      · exact .inl (.inr ⟨i, by omega, e⟩)
theorem again_all (h : Drains A M W) (hk : k ≤ W.length) (x : Nat) : Again W t M k k x ↔ M x := by
  constructor
  · rintro (h1 | ⟨i, hi, e⟩)
    · exact h1.1
    · have hb := back_lt (t := t) hi
      rw [e]; exact (h.2 _).1 (mem_getD_nat (by omega))
  · intro hx
    by_cases hm : x ∈ W.take k
    · obtain ⟨i, hi, rfl⟩ := getD_of_mem hm
      rw [List.length_take] at hi
      obtain ⟨j, hj, e⟩ := back_onto (t := t) (show i < k by omega)
      refine .inr ⟨j, hj, ?_⟩
      rw [e, take_getD (by omega)]
    · exact .inl ⟨hx, hm⟩
end
theorem nums_take_succ {W : List Nat} {k : Nat} (h : k < W.length) : nums (W.take (k + 1)) = nums (W.take k) ++ [(W.getD k 0 : Int) + 1] := by
  rw [← nums_snoc]
  congr 1
  rw [List.take_add_one, List.getElem?_eq_getElem h]
  simp [List.getD, h]
theorem take_snoc_nat {W : List Nat} {k : Nat} (h : k < W.length) : W.take k ++ [W.getD k 0] = W.take (k + 1) := by
  rw [List.take_add_one, List.getElem?_eq_getElem h]
  simp [List.getD, h]
/-- The cells of a row of numbers of the call's own. -/
theorem OwnI_at {w : World} {base : Nat} {v : Value} {W : List Nat} (h : OwnI w base v (nums W)) (h0 : 0 < W.length) : ∃ g c, v = .slice (some ⟨g, 0, none⟩) W.length c ∧ base ≤ g ∧ g < w.heap.size ∧ ∀ k, k < W.length → w.cell? ⟨g, k, none⟩ = some (.int .i64 ((W.getD k 0 : Int) + 1)) := by
  have h' := h
  unfold OwnI at h'
  rw [nums_len] at h'
  obtain ⟨g, c, rfl, hb, hl⟩ := owns_form h' h0
  refine ⟨g, c, rfl, hb, hl, fun k hk => ?_⟩
  rw [h'.cellAt k (by omega)]
  simp [nums, List.getD, hk]

set_option maxHeartbeats 8000000 in
theorem back_walk (v : Value) (l : List Int) (n : Int) (t : Bool) (w : World) (hW : IntsW .u16 w v l) (hn : (Lit.int .u8 n).wf = true) :
    Calls Try.prog 7 #[v, .int .u8 n, .bool t] w fun e w' => e = .returned (.bool true) ∧ Below w.heap.size w w' := by
  have hmade := fun (W : World) (hb : Below w.heap.size w W) (h : l.length ≤ 200) => made_any v l W (IntsW.below hW hb) h
  have hnb : 0 ≤ n ∧ n ≤ 255 := by simpa [Lit.wf, IntKind.min, IntKind.max, IntKind.signed, IntKind.bits] using hn
  obtain ⟨N, rfl⟩ : ∃ N : Nat, n = (N : Int) := ⟨n.toNat, by omega⟩
  obtain ⟨i3, hi3, hz30, hz31, hz32⟩ := info_parts info3
  obtain ⟨pv, c, rfl, _⟩ := hW
  have HK := Lib.hid (fun W => known_any W)
  have HM := Lib.hid hmade
  clear hmade hn
  by_cases h100 : (100 : Int) < l.length
  · go_enter Try.func7, Try.ntmps7
    go_wp2_with (go_at_call 11; refine (HK.out _).mono ?_; rintro e w3 ⟨rfl, hb⟩)
    go_ret
    exact ⟨rfl, hb⟩
  · have hl100 : l.length ≤ 100 := by omega
    go_enter Try.func7, Try.ntmps7
    go_wp2_with (go_at_call 26; refine (HM.out _ (Below.refl _ _) (by omega)).mono ?_; rintro e w1 ⟨p1, rfl, h1, hb1⟩; refine Hid.out ?_)
    have H1 := Lib.hid h1
    have HB1 := Lib.hid hb1
    obtain ⟨g1, rfl⟩ := h1.ptr
    clear h1 hb1
    refine Lib.hid ?_
    go_wp2_with (go_at_call 26; refine (HM.out _ HB1.out (by omega)).mono ?_; rintro e w2 ⟨p2, rfl, h2, hb2⟩; refine Hid.out ?_)
    have HB2 := Lib.hid (HB1.out.trans (hb2.mono HB1.out.size))
    have hall := all_any h2 (by omega)
    have hs12 := hb2.size
    have hs01 := HB1.out.size
    have H12 := Lib.hid (H1.out.grow hb2)
    have HA := Lib.hid hall
    obtain ⟨g2, rfl⟩ := h2.ptr
    clear h2 hb2 hall
    refine Lib.hid ?_
    go_wp2_with (go_at_call 27; refine (HA.out).mono ?_; rintro e w3 ⟨v2, W, rfl, d2, l2, k2, _, ho2⟩; refine Hid.out ?_)
    have hs23 := ho2.size
    have H13 := Lib.hid (H12.out.out ho2 (.inl (Nat.le_refl _)))
    have HB3 : Hid (Below w.heap.size w w3) := Lib.hid (HB2.out.trans (ho2.to_below HB2.out.size HB1.out.size))
    have HD := Lib.hid d2
    have HL := Lib.hid l2
    have HW := Lib.hid k2
    have hwl : (nums W).length = l.length := by rw [nums_len, l2]
    obtain ⟨q2, c2, rfl⟩ := owns_shape k2
    rw [hwl]
    rw [hwl] at HW
    clear d2 l2 k2 ho2 hwl
    refine Lib.hid ?_
    have hdv : ((l.length : Int) + 1 == 0) = false := by simp; omega
    have hmd : ((N : Int)).tmod ((l.length : Int) + 1) = ((N % (l.length + 1) : Nat) : Int) := by
      rw [Int.tmod_eq_emod_of_nonneg (by omega)]; simp
    have hmd2 : ((N : Int)) % ((l.length : Int) + 1) = ((N % (l.length + 1) : Nat) : Int) := by simp
    have hk : N % (l.length + 1) ≤ l.length := by have := Nat.mod_lt N (show 0 < l.length + 1 by omega); omega
    generalize hkd : N % (l.length + 1) = k at *
    clear hkd
    go_wp2
    go_loopw [11, 12] (fun vc iv wr => ∃ (i : Nat) (M' : Nat → Prop) (m : Nat), i ≤ k ∧ iv = .int .i64 i ∧ i + m = l.length ∧ Partly l (fun z => z < l.length) M' (W.take i) ∧ Held true w.heap.size w1.heap.size wr (.pointer (some ⟨g1, 0, none⟩)) l M' m ∧ OwnI wr w3.heap.size vc (nums (W.take i)) ∧ Out w.heap.size w1.heap.size w3 wr) (fun _ iv _ => k - (intOf iv).toNat)
    case atStart => exact ⟨0, _, l.length, Nat.zero_le _, rfl, by simp, by simpa using Partly.start l _, H13.out, by simpa [nums] using OwnI.nil _ _, Out.refl _ _ _⟩
    case round =>
      obtain ⟨i, M', m, hik, rfl, him, hp, hh, hown, ho⟩ := hrel
      have hsz := ho.size
      by_cases hlt : i < k
      · obtain ⟨m, rfl⟩ : ∃ m', m = m' + 1 := ⟨m - 1, by omega⟩
        have hiW : i < W.length := by rw [HL.out]; omega
        have hbest := HD.out.best hiW hp
        have hpop := popH_at hh hbest
        have hstep := hp.step hbest
        rw [take_snoc_nat hiW] at hstep
        obtain ⟨gw, cw, hq2, hgb, hgl, hgc⟩ := OwnI_at HW.out (by omega)
        rw [HL.out] at hq2
        simp only [Value.slice.injEq] at hq2
        obtain ⟨rfl, _, rfl⟩ := hq2
        have dk := (ho.cell (p := ⟨gw, i, none⟩) hgl (.inr (by show w1.heap.size ≤ gw; omega))).trans (hgc i hiW)
        have hdk := fun W2 (h2 : Out w.heap.size w1.heap.size wr W2) => (h2.cell (p := ⟨gw, i, none⟩) (show gw < wr.heap.size by omega) (.inr (by show w1.heap.size ≤ gw; omega))).trans dk
        have HDK := Lib.hid hdk
        have HP := Lib.hid hpop
        have HST := Lib.hid hstep
        have HNX := Lib.hid (nums_take_succ hiW)
        have HOW := Lib.hid hown
        have HOO := Lib.hid ho
        have hxl : W.getD i 0 < l.length := (HD.out.2 _).1 (mem_getD_nat hiW)
        have hti : (nums (W.take i)).length = i := by rw [nums_len, List.length_take]; omega
        have HTI := Lib.hid hti
        obtain ⟨pc, nc, rfl⟩ := owns_shape hown
        rw [hti]
        clear hpop hp hh hown ho hbest hstep dk hdk hgc hti
        generalize W.getD i 0 = b at *
        go_wp2_with (go_at_call 16; refine (HP.out).mono ?_; rintro e w4 ⟨rfl, h4, ho4⟩; refine Hid.out ?_)
        have hhas : Calls Try.prog 20 #[.pointer (some ⟨g1, 0, none⟩), .int .i64 ((b : Int) + 1)] w4 fun e w' => e = .returned (.bool false) ∧ w4 = w' := (hasH_any h4 _).mono fun e w' ⟨q, e1, e2, e3⟩ => ⟨by
          rw [e1]
          cases q with
          | false => rfl
          | true =>
            have := (e2.1 rfl).2.2
            exact absurd (by omega) this, e3⟩
        have hlen := lenH_any h4
        have d4 := HDK.out _ ho4
        have H4 := Lib.hid h4
        have HO4 := Lib.hid (HOO.out.trans ho4)
        have HH := Lib.hid hhas
        have HLN := Lib.hid hlen
        have HOW4 := Lib.hid (HOW.out.out ho4 (by omega))
        have hs4 := ho4.size
        have hcmp : ((m : Int) != (l.length : Int) - (i : Int) - 1) = false := by simp; omega
        clear h4 ho4 hhas hlen
        refine Lib.hid ?_
        go_wp2_with (first
          | (go_at_call 20; with_reducible refine (HH.out).mono ?_; rintro e w5 ⟨rfl, rfl⟩)
          | (go_at_call 22; with_reducible refine (HLN.out).mono ?_; rintro e w5 ⟨rfl, rfl⟩)
          | (at_builtin; refine wpList_append_own _ rfl _ _ 45 rfl w3.heap.size 3 i3 (.int .i64 0) 1 8 Try.underlying45 hi3 hz30 hz31 hz32 rfl (by decide) _ i ((nums (W.take i)).map (Value.int .i64)) rfl ((show w4.ownsRow w3.heap.size 3 1 (.slice pc i nc) i ((nums (W.take i)).map (Value.int .i64)) by have h := HOW4.out; unfold OwnI at h; rw [HTI.out] at h; exact h).alloc _) ⟨w4.heap.size, 0, none⟩ 1 1 [.int .i64 ((b : Int) + 1)] rfl rfl ?c1 ?c2 ?c3 ?c4 ?c5 ?_))
        case c1 =>
          intro j u hj
          match j, hj with
          | 0, hj => simp at hj; subst hj; exact cell_fresh rfl (by simp [Addr.add]) rfl
        case c2 => intro u hu; simp at hu; subst hu; rfl
        case c3 => unfold maxLen; omega
        case c4 => omega
        case c5 => simp; omega
        intro v' w6 hown' hgrow _
        have hb6 : Below w3.heap.size w4 w6 := ((Below.refl w3.heap.size w4).alloc (by omega) (.cells #[.int .i64 ((b : Int) + 1)] 3)).grown hgrow (by simp; omega) (fun k hk => (HOW4.out.lt k (by rw [HTI.out]; exact hk)).1)
        have H6 := Lib.hid (H4.out.below hb6 (by omega))
        have HO6 := Lib.hid (HO4.out.below hb6 (Nat.le_refl _))
        have HOW6 : Hid (OwnI w6 w3.heap.size v' (nums (W.take (i + 1)))) := Lib.hid (by
          unfold OwnI
          rw [HNX.out, List.length_append, HTI.out, List.map_append]
          exact hown')
        clear hown' hgrow hb6
        go_wp2
        go_roundw
        case rel => exact ⟨i + 1, _, m, by omega, by go_num, by omega, HST.out, H6.out, HOW6.out, HO6.out⟩
        case measure => simp [intOf]; omega
      · obtain rfl : i = k := by omega
        have hkW : i ≤ W.length := by rw [HL.out]; omega
        have hti : (nums (W.take i)).length = i := by rw [nums_len, List.length_take]; omega
        have htk : (W.take i).length = i := by rw [List.length_take]; omega
        have h0 : Held true w.heap.size w1.heap.size wr (.pointer (some ⟨g1, 0, none⟩)) l (Again W t (fun z => z < l.length) i 0) m := hh.congr fun x => by
          rw [hp.left x]; exact ⟨fun h => .inl h, fun h => h.elim id (fun ⟨j, hj, _⟩ => absurd hj (Nat.not_lt_zero _))⟩
        have HH0 := Lib.hid h0
        have HOW := Lib.hid hown
        have HOO := Lib.hid ho
        obtain ⟨pc, nc, rfl⟩ := owns_shape hown
        rw [hti]
        rw [hti] at HOW
        have HTI := Lib.hid hti
        have HTK := Lib.hid htk
        clear h0 hh hown ho hp hti htk
        go_wp2
        go_loopw [15] (fun jv W2 => ∃ j : Nat, j ≤ i ∧ jv = .int .i64 j ∧ Held true w.heap.size w1.heap.size W2 (.pointer (some ⟨g1, 0, none⟩)) l (Again W t (fun z => z < l.length) i j) (m + j) ∧ Out w.heap.size w1.heap.size wr W2) (fun jv _ => i - (intOf jv).toNat)
        case atStart => exact ⟨0, Nat.zero_le _, rfl, HH0.out, Out.refl _ _ _⟩
        case round =>
          clear HH0
          obtain ⟨j, hj, rfl, hh, ho2⟩ := hrel
          rename World => W2
          have hs2 := ho2.size
          have hgen : (m : Nat) + i = l.length := by omega
          by_cases hlt : j < i
          · have hsg := back_lt (t := t) hlt
            have hnew := again_new (t := t) (M := fun z => z < l.length) HD.out hkW hlt
            have hbl : W.getD (back t i j) 0 < l.length := (HD.out.2 _).1 (mem_getD_nat (by omega))
            obtain ⟨go, co, hqo, hgb, hgl, hgc⟩ := OwnI_at (HOW.out.out ho2 (by omega)) (by rw [HTK.out]; omega)
            rw [HTK.out] at hqo
            simp only [Value.slice.injEq] at hqo
            obtain ⟨rfl, _, rfl⟩ := hqo
            have d1 := hgc j (by rw [HTK.out]; omega)
            have d2 := hgc (i - 1 - j) (by rw [HTK.out]; omega)
            rw [take_getD (by omega)] at d1 d2
            have hij : (i : Int) - 1 - (j : Int) = ((i - 1 - j : Nat) : Int) := by omega
            have hsel : back t i j = if t = true then i - 1 - j else j := rfl
            have hpush := pushH_new hh (W.getD (back t i j) 0) hbl hnew
            have HP := Lib.hid hpush
            have HO2 := Lib.hid (HOO.out.trans ho2)
            have HO2r := Lib.hid ho2
            have HAG := Lib.hid (fun x => again_step (W := W) (t := t) (M := fun z => z < l.length) (k := i) (j := j) x)
            clear hh ho2 hgc hpush hnew
            have hfin : ∀ (w4 : World), Held true w.heap.size w1.heap.size w4 (.pointer (some ⟨g1, 0, none⟩)) l (fun x => Again W t (fun z => z < l.length) i j x ∨ x = W.getD (back t i j) 0) (m + j + 1) →
                Calls Try.prog 18 #[.pointer (some ⟨g1, 0, none⟩), .int .i64 ((W.getD (back t i j) 0 : Int) + 1)] w4 (fun e w' => e = .returned (.int .i64 0) ∧ w4 = w') ∧
                Calls Try.prog 20 #[.pointer (some ⟨g1, 0, none⟩), .int .i64 ((W.getD (back t i j) 0 : Int) + 1)] w4 (fun e w' => e = .returned (.bool true) ∧ w4 = w') := fun w4 h4 =>
              ⟨pushH_in h4 _ hbl (.inr rfl), (hasH_any h4 _).mono fun e w' ⟨q, e1, e2, e3⟩ => ⟨by rw [e1, e2.2 ⟨by omega, .inr (by omega)⟩], e3⟩⟩
            have HFI := Lib.hid hfin
            clear hfin
            cases t with
            | true =>
              rw [if_pos rfl] at hsel
              rw [hsel] at HP HFI hbl hsg
              rw [hsel] at HAG
              generalize W.getD (i - 1 - j) 0 = b at *
              generalize W.getD j 0 = y at *
              clear hsel
              go_wp2_with (go_at_call 18; with_reducible refine (HP.out).mono ?_; rintro e w4 ⟨rfl, h4, ho4⟩; refine Hid.out ?_)
              obtain ⟨hp2, hh2⟩ := HFI.out w4 h4
              have HP2 := Lib.hid hp2
              have HH2 := Lib.hid hh2
              have H4 := Lib.hid (h4.congr HAG.out)
              have HO4 := Lib.hid (HO2r.out.trans ho4)
              clear hp2 hh2 h4 ho4
              refine Lib.hid ?_
              go_wp2_with (first
                | (go_at_call 18; with_reducible refine (HP2.out).mono ?_; rintro e w5 ⟨rfl, rfl⟩)
                | (go_at_call 20; with_reducible refine (HH2.out).mono ?_; rintro e w5 ⟨rfl, rfl⟩))
              go_roundw
              case rel => exact ⟨j + 1, by omega, by go_num, H4.out, HO4.out⟩
              case measure => simp [intOf]; omega
            | false =>
              rw [if_neg (by simp)] at hsel
              rw [hsel] at HP HFI hbl hsg
              rw [hsel] at HAG
              clear d2
              generalize W.getD j 0 = b at *
              clear hsel
              go_wp2_with (go_at_call 18; with_reducible refine (HP.out).mono ?_; rintro e w4 ⟨rfl, h4, ho4⟩; refine Hid.out ?_)
              obtain ⟨hp2, hh2⟩ := HFI.out w4 h4
              have HP2 := Lib.hid hp2
              have HH2 := Lib.hid hh2
              have H4 := Lib.hid (h4.congr HAG.out)
              have HO4 := Lib.hid (HO2r.out.trans ho4)
              clear hp2 hh2 h4 ho4
              refine Lib.hid ?_
              go_wp2_with (first
                | (go_at_call 18; with_reducible refine (HP2.out).mono ?_; rintro e w5 ⟨rfl, rfl⟩)
                | (go_at_call 20; with_reducible refine (HH2.out).mono ?_; rintro e w5 ⟨rfl, rfl⟩))
              go_roundw
              case rel => exact ⟨j + 1, by omega, by go_num, H4.out, HO4.out⟩
              case measure => simp [intOf]; omega
          · obtain rfl : j = i := by omega
            have hfull := hh.congr (again_all (t := t) HD.out hkW)
            rw [hgen] at hfull
            have hlen := lenH_any hfull
            have hall := all_any hfull (by omega)
            have HLN := Lib.hid hlen
            have HAL := Lib.hid hall
            have HO2 := Lib.hid (HOO.out.trans ho2)
            have hs3 := HO2.out.size
            have heq : ((l.length : Int) == (l.length : Int)) = true := by simp
            clear hh ho2 hfull hlen hall
            go_wp2_with (first
              | (go_at_call 22; with_reducible refine (HLN.out).mono ?_; rintro e w5 ⟨rfl, rfl⟩)
              | (go_at_call 27; with_reducible refine (HAL.out).mono ?_; rintro e w5 ⟨v5, o5, rfl, d5, l5, k5, _, ho5⟩; refine Hid.out ?_))
            have hO5 : Out w.heap.size w1.heap.size w3 w5 := HO2.out.trans ho5
            have hsame := ends_same k5 (HW.out.out hO5 hs12) d5 HD.out (by omega)
            have HS := Lib.hid hsame
            have HB5 : Hid (Below w.heap.size w w5) := Lib.hid (HB3.out.trans (hO5.to_below HB3.out.size (Nat.le_refl _)))
            obtain ⟨p5, c5, rfl⟩ := owns_shape k5
            clear hsame d5 k5 ho5 hO5
            refine Lib.hid ?_
            go_wp2_with (first
              | (go_at_call 28; with_reducible refine (HS.out).mono ?_; rintro e w6 ⟨rfl, hb6⟩)
              | (go_at_call 11; with_reducible refine (HK.out _).mono ?_; rintro e w7 ⟨rfl, hb7⟩))
            go_ret
            exact ⟨rfl, HB5.out.trans ((hb6.mono HB5.out.size).trans (hb7.mono (Nat.le_trans HB5.out.size hb6.size)))⟩
end L
end Go.Proofs.Ytenmgkomffnjaaa
