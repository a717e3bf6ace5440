/- PropClosed: the walk. -/
import Derived.Test.YtoffhaamkhfdeaaLW
import Derived.Test.YtoffhaamkhfdeaaXI
import Derived.BigQuiet
namespace Go.Proofs.Ytoffhaamkhfdeaa
open Go.RowKit Go.Conc
namespace L
open K

/-- What the inner loop keeps: of the first literals, none is true while b is false, and those that are not false are kept. -/
def CInv (C R sn : List Int) (k : Nat) (b : Bool) : Prop := (b = false → ∀ j, j < k → C.getD j 0 ∉ R) ∧ (∀ j, j < k → -(C.getD j 0) ∉ R → C.getD j 0 ∈ sn) ∧ sn.length ≤ k
theorem CInv.init (C R : List Int) : CInv C R [] 0 false := ⟨fun _ _ hj => absurd hj (Nat.not_lt_zero _), fun _ hj => absurd hj (Nat.not_lt_zero _), Nat.le_refl _⟩
theorem CInv.holds {C R sn : List Int} {k : Nat} {b b' : Bool} {x : Int} (h : CInv C R sn k b) (ex : C.getD k 0 = x) (hb : b' = true ∨ (b' = b ∧ x ∉ R)) : (b' = false → ∀ j, j < k + 1 → C.getD j 0 ∉ R) := by
  intro hf j hj
  rcases hb with e | ⟨e, hx⟩
  · rw [e] at hf; cases hf
  · by_cases hjk : j = k
    · rw [hjk, ex]; exact hx
    · exact h.1 (e ▸ hf) j (by omega)
theorem CInv.skip {C R sn : List Int} {k : Nat} {b b' : Bool} {x : Int} (h : CInv C R sn k b) (ex : C.getD k 0 = x) (hb : b' = true ∨ (b' = b ∧ x ∉ R)) (hs : -x ∈ R ∨ x ∈ sn) : CInv C R sn (k + 1) b' := by
  refine ⟨h.holds ex hb, fun j hj hn => ?_, Nat.le_succ_of_le h.2.2⟩
  by_cases hjk : j = k
  · rw [hjk, ex] at hn ⊢
    rcases hs with h1 | h1
    · exact absurd h1 hn
    · exact h1
  · exact h.2.1 j (by omega) hn
theorem CInv.push {C R sn : List Int} {k : Nat} {b b' : Bool} {x : Int} (h : CInv C R sn k b) (ex : C.getD k 0 = x) (hb : b' = true ∨ (b' = b ∧ x ∉ R)) : CInv C R (sn ++ [x]) (k + 1) b' := by
  refine ⟨h.holds ex hb, fun j hj hn => ?_, by simpa using h.2.2⟩
  by_cases hjk : j = k
  · rw [hjk, ex]; simp
  · exact List.mem_append_left _ (h.2.1 j (by omega) hn)
theorem two_of {sn : List Int} {a b : Int} (ha : a ∈ sn) (hb : b ∈ sn) (hne : a ≠ b) : 2 ≤ sn.length := by
  match sn, ha, hb with
  | [y], ha, hb => simp at ha hb; exact absurd (ha.trans hb.symm) hne
  | _ :: _ :: _, _, _ => simp
theorem CInv.done {C R sn : List Int} {k : Nat} (h : CInv C R sn k false) (hk : C.length ≤ k) (hcl : (∃ t ∈ C, t ∈ R) ∨ ∃ a b, a ∈ C ∧ b ∈ C ∧ a ≠ b ∧ -a ∉ R ∧ -b ∉ R) : 2 ≤ sn.length := by
  rcases hcl with ⟨t, ht, hT⟩ | ⟨a, b, ha, hb, hne, hna, hnb⟩
  · obtain ⟨j, hj, e⟩ := U.mem_at ht
    exact absurd (e ▸ hT) (h.1 rfl j (by omega))
  · obtain ⟨j, hj, e⟩ := U.mem_at ha
    obtain ⟨i, hi, e2⟩ := U.mem_at hb
    have h1 := h.2.1 j (by omega) (by rw [e]; exact hna)
    have h2 := h.2.1 i (by omega) (by rw [e2]; exact hnb)
    rw [e] at h1
    rw [e2] at h2
    exact two_of h1 h2 hne

set_option maxRecDepth 100000 in
set_option maxHeartbeats 8000000 in
theorem closed_walk (n : Int) (v : Value) (L8 : List (List Int)) (u : Value) (l8 : List Int) (w : World) (hn0 : (Lit.int .u8 n).wf = true) (hW : ListsW .i8 w v L8) (hA8 : IntsW .i8 w u l8) :
    Calls Try.prog 7 #[.int .u8 n, v, u] w fun e w' => e = .returned (.bool true) ∧ Below w.heap.size w w' := by
  obtain ⟨i3, hi3, hz30, hz31, hz32⟩ := info_parts info3
  have hfit := fit_any n v L8 w hn0 hW
  obtain ⟨p, c, rfl⟩ : ∃ p c, v = .slice p L8.length c := by obtain ⟨p, c, h, _⟩ := hW; exact ⟨p, c, h⟩
  obtain ⟨pu, cu, rfl⟩ : ∃ p c, u = .slice p l8.length c := by obtain ⟨p, c, h, _⟩ := hA8; exact ⟨p, c, h⟩
  obtain ⟨V, hVd⟩ : ∃ V : Nat, (V : Int) = 1 + n % 12 := ⟨(1 + n % 12).toNat, by omega⟩
  have hV : 1 ≤ V ∧ V ≤ 12 := by omega
  rw [← hVd] at hfit
  have HA8 := Lib.hid hA8
  clear hVd hn0 hW hA8
  go_enter Try.func7, Try.ntmps7
  go_wp2_with fail
  refine hfit.mono ?_
  rintro e w1 ⟨r, rfl, hpost, hb1⟩
  refine Hid.out ?_
  refine Lib.hid ?_
  rcases hpost with ⟨hok, v', rfl, hown⟩ | ⟨hok, rfl⟩
  · have hL0 := fit_own hok hown
    have hF := fit_len (V := V) hok
    have HCK := Lib.hid (fit_check (V := V) (L := L8) (by omega) (by omega) hok)
    have HVL := Lib.hid (val_fitL hV L8)
    clear hok hfit hown
    generalize fitL V L8 = F at *
    obtain ⟨pv, cv, ev⟩ : ∃ p c, v' = .slice p F.length c := by obtain ⟨p, c, h, _⟩ := hL0; exact ⟨p, c, h⟩
    subst ev
    have hF1 := hF.1
    have HF20 := Lib.hid hF.2
    obtain ⟨w2, hw2⟩ : ∃ W : World, w1.alloc (.cells #[.int .i64 V, .slice pv F.length cv] 26) = W := ⟨_, rfl⟩
    have hb12 : Below w1.heap.size w1 w2 := by rw [← hw2]; exact (Below.refl _ _).alloc (Nat.le_refl _) _
    have hb2 : Below w.heap.size w w2 := hb1.trans (hb12.mono hb1.size)
    have hx0 : w2.cell? ⟨w1.heap.size, 0, none⟩ = some (.int .i64 V) := by rw [← hw2]; simp
    have hx1 : w2.cell? ⟨w1.heap.size, 1, none⟩ = some (.slice pv F.length cv) := by rw [← hw2]; simp
    have hs2 : w1.heap.size < w2.heap.size := World.block_lt_of_cell? _ _ hx0
    have HL : Hid (∀ W, Below w2.heap.size w2 W → Lists W (.slice pv F.length cv) F) := Lib.hid fun W hW => (hL0.below hb12).below hW
    have has := assumed_any V hV pv F.length cv (.slice pu l8.length cu) l8 w2 (HA8.out.below hb2)
    have HB2 := Lib.hid hb2
    clear hL0 hF hb12 hb1 hb2
    go_wp2_with fail
    clear hw2
    refine has.mono ?_
    rintro e w3 ⟨va, rfl, hoA, hb3⟩
    refine Hid.out ?_
    refine Lib.hid ?_
    have HVA := Lib.hid (val_fitC hV (l8.take 12))
    have hAl : (fitC (V : Int) (l8.take 12)).length ≤ 12 := Nat.le_trans fitC_len (by simp; omega)
    generalize fitC (V : Int) (l8.take 12) = A at *
    have HB3 := Lib.hid (HB2.out.trans (hb3.mono HB2.out.size))
    have HB23 := Lib.hid hb3
    have hy0 := (hb3.cell (p := ⟨w1.heap.size, 0, none⟩) hs2).trans hx0
    have hy1 := (hb3.cell (p := ⟨w1.heap.size, 1, none⟩) hs2).trans hx1
    have hs3 : w1.heap.size < w3.heap.size := World.block_lt_of_cell? _ _ hy0
    have HIA := Lib.hid (hoA.ints (by omega))
    obtain ⟨pa, ca, eva⟩ : ∃ pa ca, va = .slice pa A.length ca := by obtain ⟨p, c, h, _⟩ := HIA.out; exact ⟨p, c, h⟩
    subst eva
    clear hoA hb3 hx0 hx1 has hs2
    have HV64 : Hid (I64 (V : Int)) := Lib.hid (by unfold I64; omega)
    have HFI : Hid (∀ c ∈ F, ∀ x ∈ c, I64 x) := Lib.hid fun c hc => val_i64 (n := V) (by omega) (HVL.out c hc)
    have HAI : Hid (∀ x ∈ A, I64 x) := Lib.hid (val_i64 (n := V) (by omega) HVA.out)
    have hc1 := punits_any (V : Int) _ F _ A w3 HV64.out HFI.out (HL.out w3 HB23.out) HAI.out HIA.out
    have hU := units_cases (checkU_valid HCK.out HVA.out)
    go_wp2_with fail
    refine hc1.mono ?_
    rintro e w4 ⟨r, rfl, hp1, hb4⟩
    refine Hid.out ?_
    refine Lib.hid ?_
    obtain ⟨vl, rfl, ho1, hlen1⟩ := upost_r hp1
    have HB4 := Lib.hid (HB3.out.trans (hb4.mono HB3.out.size))
    have HB24 := Lib.hid (HB23.out.trans (hb4.mono HB23.out.size))
    have hz0 := (hb4.cell (p := ⟨w1.heap.size, 0, none⟩) hs3).trans hy0
    have hz1 := (hb4.cell (p := ⟨w1.heap.size, 1, none⟩) hs3).trans hy1
    have hs4 : w1.heap.size < w4.heap.size := World.block_lt_of_cell? _ _ hz0
    have hO := ho1.ints (by omega)
    have HIA4 := Lib.hid (HIA.out.below hb4)
    rcases hU with ⟨_, e1⟩ | ⟨hgood, e1⟩
    · rw [e1] at hO
      simp only [e1]
      dsimp only at hO
      obtain ⟨pl, cl, rfl, _, _, _⟩ := hO
      clear hp1 ho1 hb4 hc1 hy0 hy1 hs3 e1 hz0 hz1 hs4 hlen1
      go_wp2_with fail
      refine (known4_any _).mono ?_
      rintro e wz ⟨rfl, hbz⟩
      refine Hid.out ?_
      refine Lib.hid ?_
      have HBz := Lib.hid (HB4.out.trans (hbz.mono HB4.out.size))
      clear hbz
      go_wp2
      go_ret
      exact ⟨rfl, HBz.out⟩
    · rw [e1] at hO
      simp only [e1]
      dsimp only at hO
      have hmem := fun x => mem_units hgood HVL.out HVA.out x
      have hcl := U.Der.closed hgood (fun c h x hx => (HVL.out c h x hx).1)
      have hval := val_units hgood HVL.out HVA.out
      have hpw := U.lits_pairwise V (U.Der F A)
      have HCON : Hid (∀ x, x ∈ U.lits V (U.Der F A) → -x ∉ U.lits V (U.Der F A)) := Lib.hid fun x hx hx2 => hcl.con x ((hmem x).1 hx) ((hmem _).1 hx2)
      have HSUB : Hid (∀ x ∈ A, x ∈ U.lits V (U.Der F A)) := Lib.hid fun x hx => (hmem x).2 (.assume hx)
      have HCL : Hid (∀ c ∈ F, (∃ t ∈ c, t ∈ U.lits V (U.Der F A)) ∨ ∃ a b, a ∈ c ∧ b ∈ c ∧ a ≠ b ∧ -a ∉ U.lits V (U.Der F A) ∧ -b ∉ U.lits V (U.Der F A)) := Lib.hid fun c hc => by
        rcases hcl.cl c hc with ⟨t, ht, hT⟩ | ⟨a, b, ha, hb, hne, hna, hnb⟩
        · exact .inl ⟨t, ht, (hmem t).2 hT⟩
        · exact .inr ⟨a, b, ha, hb, hne, fun h => hna ((hmem _).1 h), fun h => hnb ((hmem _).1 h)⟩
      clear hmem hcl hgood e1
      generalize U.lits V (U.Der F A) = R1 at *
      have HVAL := Lib.hid hval
      have HPW := Lib.hid hpw
      have HO := Lib.hid hO
      obtain ⟨pl, cl, rfl, _, _, hcell⟩ := hO
      have HCELL := Lib.hid hcell
      have HHAS := Lib.hid (fun W (hb : Below w4.heap.size w4 W) x => has_any _ R1 x W (HO.out.below hb))
      clear hp1 ho1 hb4 hc1 hy0 hy1 hs3 hcell hpw hval hlen1
      go_wp2
      go_loop [13] (fun i => ∃ k : Nat, k ≤ A.length ∧ i = .int .i64 k) (fun i => A.length - (intOf i).toNat)
      case atStart => exact ⟨0, Nat.zero_le _, rfl⟩
      case round =>
        obtain ⟨j, hj, rfl⟩ := hrel
        by_cases hlt : j < A.length
        · have hlt' : (j : Int) < (A.length : Int) := by omega
          obtain ⟨_, _, ep, _, _, e0⟩ := HIA4.out
          cases ep
          obtain ⟨b1, o1, rfl, e1⟩ := e0 (by omega)
          have d1 := e1 j hlt
          obtain ⟨x, ex⟩ : ∃ x, A.getD j 0 = x := ⟨_, rfl⟩
          have hh := HHAS.out w4 (Below.refl _ _) x
          rw [decide_eq_true (HSUB.out x (by rw [← ex]; exact mem_getD hlt))] at hh
          rw [ex] at d1
          clear e1 e0 ex
          go_wp2_with fail
          refine hh.mono ?_
          rintro e wy ⟨rfl, hwy⟩
          subst hwy
          refine Hid.out ?_
          refine Lib.hid ?_
          clear hh
          go_wp2
          go_round
          case rel => exact ⟨j + 1, by omega, by go_num⟩
          case measure => simp [intOf]; omega
        · have hlt' : ¬ (j : Int) < (A.length : Int) := by omega
          clear hlt hj
          go_wp2
          go_loopw [14] (fun i wr => ∃ k : Nat, k ≤ R1.length ∧ i = .int .i64 k ∧ Below w4.heap.size w4 wr) (fun i _ => R1.length - (intOf i).toNat)
          case atStart => exact ⟨0, Nat.zero_le _, rfl, Below.refl _ _⟩
          case round =>
            clear hlt'
            obtain ⟨k, hk, rfl, hb⟩ := hrel
            by_cases hlt : k < R1.length
            · have hlt' : (k : Int) < (R1.length : Int) := by omega
              obtain ⟨b1, o1, rfl, e1⟩ := HCELL.out (by omega)
              have d1 := (hb.cell (p := ⟨b1, o1 + k, none⟩) (World.block_lt_of_cell? _ _ (e1 k hlt))).trans (e1 k hlt)
              have hmx := mem_getD hlt
              have hxv := (HVAL.out _ hmx).2
              have hxn := HCON.out _ hmx
              have hprev : ∀ i, k = i + 1 → (R1.getD i 0).natAbs < (R1.getD k 0).natAbs := fun i e => by
                have := List.pairwise_iff_getElem.1 HPW.out i k (by omega) hlt (by omega)
                simpa [List.getD, hlt, show i < R1.length by omega] using this
              obtain ⟨x, ex⟩ : ∃ x, R1.getD k 0 = x := ⟨_, rfl⟩
              rw [ex] at d1 hxv hxn hprev
              clear hmx ex
              have hneg : IntKind.i64.wrap (-x) = -x := by simp only [IntKind.wrap_i64]; omega
              have hh : ∀ m, Calls Try.prog 22 #[.slice (some ⟨b1, o1, none⟩) R1.length cl, .int .i64 (-x)] (wr.drewN m) fun e w' => e = .returned (.bool false) ∧ wr.drewN m = w' := fun m => by
                have := HHAS.out (wr.drewN m) (below_drewN hb _) (-x)
                rwa [decide_eq_false hxn] at this
              have HB' : Hid (∀ m, Below w4.heap.size w4 (wr.drewN m)) := Lib.hid fun m => below_drewN hb _
              by_cases hk0 : k = 0
              · have hpos : decide ((0 : Int) < (k : Int)) = false := decide_eq_false (by omega)
                have hposN : decide (0 < k) = false := decide_eq_false (by omega)
                clear hprev hxn hk0 e1 hxv
                go_wp2
                go_quiet ((go_at_call 22; exact Calls.quiet_of_same ((hh _).mono fun _ _ h => ⟨h.1, h.2.symm⟩)))
                go_wp2
                go_roundw
                case rel => exact ⟨k + 1, by omega, by go_num, HB'.out _⟩
                case measure => simp [intOf]; omega
              · obtain ⟨i, hi⟩ : ∃ i, k = i + 1 := ⟨k - 1, by omega⟩
                have hpi := hprev i hi
                have d0 := (hb.cell (p := ⟨b1, o1 + i, none⟩) (World.block_lt_of_cell? _ _ (e1 i (by omega)))).trans (e1 i (by omega))
                have hyv := (HVAL.out _ (mem_getD (show i < R1.length by omega))).2
                obtain ⟨y, ey⟩ : ∃ y, R1.getD i 0 = y := ⟨_, rfl⟩
                rw [ey] at d0 hpi hyv
                have hneg2 : IntKind.i64.wrap (-y) = -y := by simp only [IntKind.wrap_i64]; omega
                obtain ⟨a, ha⟩ : ∃ a : Nat, x.natAbs = a := ⟨_, rfl⟩
                obtain ⟨b, hb0⟩ : ∃ b : Nat, y.natAbs = b := ⟨_, rfl⟩
                have hm1 : (if x < -x then -x else x) = (a : Int) := by split <;> omega
                have hm2 : (if y < -y then -y else y) = (b : Int) := by split <;> omega
                have hle : decide (a ≤ b) = false := decide_eq_false (by omega)
                have hle0 : ¬ a ≤ b := by omega
                have hpos : decide ((0 : Int) < (k : Int)) = true := decide_eq_true (by omega)
                have hposN : decide (0 < k) = true := decide_eq_true (by omega)
                have hii : i < R1.length := by omega
                have hii' : (i : Int) < (R1.length : Int) := by omega
                have hki : (k : Int) - 1 = (i : Int) := by omega
                clear hprev hxn hpi hyv hxv ey ha hb0 e1 hb hk0 hi
                go_wp2
                go_quiet ((go_at_call 22; exact Calls.quiet_of_same ((hh _).mono fun _ _ h => ⟨h.1, h.2.symm⟩)))
                go_wp2
                go_roundw
                case rel => exact ⟨k + 1, by omega, by go_num, HB'.out _⟩
                case measure => simp [intOf]; omega
            · have hlt' : ¬ (k : Int) < (R1.length : Int) := by omega
              rename World => w5
              have hz10 := hz1
              have HZ1 : Hid (w5.cell? ⟨w1.heap.size, 1, none⟩ = some (.slice pv F.length cv)) := Lib.hid ((hb.cell (p := ⟨w1.heap.size, 1, none⟩) hs4).trans hz1)
              have HB5 := Lib.hid (HB4.out.trans (hb.mono HB4.out.size))
              have HB25 := Lib.hid (HB24.out.trans (hb.mono HB24.out.size))
              have HB45 := Lib.hid hb
              have HS5 : Hid (w1.heap.size < w5.heap.size) := Lib.hid (Nat.lt_of_lt_of_le hs4 hb.size)
              clear hz10 hz0 hz1 hs4 hb hk hlt
              go_wp2
              go_loopw [15] (fun i wr => ∃ k : Nat, k ≤ F.length ∧ i = .int .i64 k ∧ Below w5.heap.size w5 wr) (fun i _ => F.length - (intOf i).toNat)
              case atStart => exact ⟨0, Nat.zero_le _, rfl, Below.refl _ _⟩
              case round =>
                clear hlt'
                obtain ⟨i, hi, rfl, hb⟩ := hrel
                have q1 := (hb.cell (p := ⟨w1.heap.size, 1, none⟩) HS5.out).trans HZ1.out
                by_cases hlt : i < F.length
                · have hiF : (i : Int) < (F.length : Int) := by omega
                  have hLr := HL.out _ (HB25.out.trans (hb.mono HB25.out.size))
                  obtain ⟨pf, cf, ep, _, _, e0⟩ := hLr
                  simp only [Value.slice.injEq] at ep
                  obtain ⟨ep, ep2, ep3⟩ := ep
                  clear ep2 ep3
                  obtain ⟨fb, fo, epf, e1⟩ := e0 (by omega)
                  rw [epf] at ep
                  subst ep
                  obtain ⟨uc, hrow, hC⟩ := e1 i hlt
                  have HCLi := Lib.hid (HCL.out _ (mem_getDL hlt))
                  have HCI := Lib.hid (val_i64 (n := V) (by omega) (HVL.out _ (mem_getDL hlt)))
                  have hCV := HVL.out _ (mem_getDL hlt)
                  have hClen : (F.getD i []).length ≤ 20 := HF20.out _ (mem_getDL hlt)
                  clear e0 e1 epf
                  generalize F.getD i [] = C at *
                  obtain ⟨pc, cc, rfl, _, _, hCc⟩ := hC
                  have HCC := Lib.hid hCc
                  have HCV := Lib.hid hCV
                  rename World => w6
                  have HB6 := Lib.hid (HB5.out.trans (hb.mono HB5.out.size))
                  have HB56 := Lib.hid hb
                  have HB46 := Lib.hid (HB45.out.trans (hb.mono HB45.out.size))
                  have hq6 : w1.heap.size < w6.heap.size := World.block_lt_of_cell? _ _ q1
                  have hr6 : fb < w6.heap.size := World.block_lt_of_cell? _ _ hrow
                  clear hCc hCV hb
                  go_wp2
                  go_loopw [16, 17, 18, 19] (fun h o s k wr => ∃ (kk : Nat) (sn : List Int) (b : Bool), kk ≤ C.length ∧ k = .int .i64 kk ∧ h = .bool b ∧ o = .int .i64 sn.length ∧ CInv C R1 sn kk b ∧ OwnI wr w6.heap.size s sn ∧ Below w6.heap.size w6 wr) (fun _ _ _ k _ => C.length - (intOf k).toNat)
                  case atStart => exact ⟨0, [], false, Nat.zero_le _, rfl, rfl, rfl, CInv.init _ _, OwnI.nil _ _, Below.refl _ _⟩
                  case round =>
                    obtain ⟨kk, sn, b, hkk, rfl, rfl, rfl, hinv, hown, hb⟩ := hrel
                    have q1' := (hb.cell (p := ⟨w1.heap.size, 1, none⟩) hq6).trans q1
                    have hrow' := (hb.cell (p := ⟨fb, fo + i, none⟩) hr6).trans hrow
                    have hlen := hinv.2.2
                    have HINV := Lib.hid hinv
                    have HB := Lib.hid hb
                    obtain ⟨pc2, nc2, rfl⟩ := owns_shape hown
                    have HOI := hown.ints (by omega)
                    unfold OwnI at hown
                    have HOWN := Lib.hid hown
                    clear q1 hrow hinv hown
                    by_cases hlk : kk < C.length
                    · have hlk' : (kk : Int) < (C.length : Int) := by omega
                      obtain ⟨b1, o1, rfl, e1⟩ := HCC.out (by omega)
                      have d1 := (hb.cell (p := ⟨b1, o1 + kk, none⟩) (World.block_lt_of_cell? _ _ (e1 kk hlk))).trans (e1 kk hlk)
                      have hxv := (HCV.out _ (mem_getD hlk)).2
                      obtain ⟨x, ex⟩ : ∃ x, C.getD kk 0 = x := ⟨_, rfl⟩
                      rw [ex] at d1 hxv
                      have HEX := Lib.hid ex
                      have hneg : IntKind.i64.wrap (-x) = -x := by simp only [IntKind.wrap_i64]; omega
                      have hx := HHAS.out wr (HB46.out.trans (hb.mono HB46.out.size)) x
                      have hn := HHAS.out wr (HB46.out.trans (hb.mono HB46.out.size)) (-x)
                      have hs := has_any _ sn x wr HOI
                      have hsz := hb.size
                      clear e1 ex hxv hb
                      cases b with
                      | true =>
                        clear hx
                        cases hq2 : decide (-x ∈ R1) with
                        | true =>
                          rw [hq2] at hn
                          have HQ2 : Hid (-x ∈ R1) := Lib.hid (of_decide_eq_true hq2)
                          clear hq2 hs
                          go_wp2_with fail
                          refine hn.mono ?_
                          rintro e wy ⟨rfl, hwy⟩
                          subst hwy
                          refine Hid.out ?_
                          refine Lib.hid ?_
                          clear hn
                          go_wp2
                          go_roundw
                          case rel => exact ⟨kk + 1, sn, true, by omega, by go_num, rfl, rfl, HINV.out.skip HEX.out (.inl rfl) (.inl HQ2.out), HOWN.out, HB.out⟩
                          case measure => simp [intOf]; omega
                        | false =>
                          rw [hq2] at hn
                          clear hq2
                          cases hq3 : decide (x ∈ sn) with
                          | true =>
                            rw [hq3] at hs
                            have HQ3 : Hid (x ∈ sn) := Lib.hid (of_decide_eq_true hq3)
                            clear hq3
                            go_wp2_with fail
                            refine hn.mono ?_
                            rintro e wy ⟨rfl, hwy⟩
                            subst hwy
                            refine Hid.out ?_
                            refine Lib.hid ?_
                            clear hn
                            go_wp2_with fail
                            refine hs.mono ?_
                            rintro e wy ⟨rfl, hwy⟩
                            subst hwy
                            refine Hid.out ?_
                            refine Lib.hid ?_
                            clear hs
                            go_wp2
                            go_roundw
                            case rel => exact ⟨kk + 1, sn, true, by omega, by go_num, rfl, rfl, HINV.out.skip HEX.out (.inl rfl) (.inr HQ3.out), HOWN.out, HB.out⟩
                            case measure => simp [intOf]; omega
                          | false =>
                            rw [hq3] at hs
                            clear hq3
                            go_wp2_with fail
                            refine hn.mono ?_
                            rintro e wy ⟨rfl, hwy⟩
                            subst hwy
                            refine Hid.out ?_
                            refine Lib.hid ?_
                            clear hn
                            go_wp2_with fail
                            refine hs.mono ?_
                            rintro e wy ⟨rfl, hwy⟩
                            subst hwy
                            refine Hid.out ?_
                            refine Lib.hid ?_
                            clear hs
                            go_wp2_with (at_builtin; refine wpList_append_own _ rfl _ _ 23 rfl w6.heap.size 3 i3 (.int .i64 0) 1 8 Try.underlying23 hi3 hz30 hz31 hz32 rfl (by decide) _ _ _ rfl (HOWN.out.alloc _) ⟨wr.heap.size, 0, none⟩ 1 1 [.int .i64 x] rfl rfl ?c1 ?c2 ?c3 ?c4 ?c5 ?_)
                            case c1 =>
                              intro j u hj
                              match j, hj with
                              | 0, hj => simp at hj; subst hj; exact cell_new (by simp) rfl
                            case c2 => intro u hu; simp at hu; subst hu; rfl
                            case c3 => unfold maxLen; omega
                            case c4 => omega
                            case c5 => simp; omega
                            intro v' w7 hown' hgrow _
                            have hlt2 := fun k hk => (HOWN.out.lt k hk).1
                            have HB' := Lib.hid ((HB.out.alloc HB.out.size (.cells #[.int .i64 x] 3)).grown hgrow (by have := HB.out.size; simp at this ⊢; omega) hlt2)
                            have HO' := Lib.hid hown'
                            clear hgrow hlt2 hown'
                            go_wp2
                            go_roundw
                            case rel => exact ⟨kk + 1, sn ++ [x], true, by omega, by go_num, rfl, by simp, HINV.out.push HEX.out (.inl rfl), by unfold OwnI; simpa using HO'.out, HB'.out⟩
                            case measure => simp [intOf]; omega
                      | false =>
                        obtain ⟨q, eq⟩ : ∃ q, decide (x ∈ R1) = q := ⟨_, rfl⟩
                        rw [eq] at hx
                        have HBV : Hid (q = true ∨ (q = false ∧ x ∉ R1)) := Lib.hid (by
                          cases q with
                          | true => exact .inl rfl
                          | false => exact .inr ⟨rfl, of_decide_eq_false eq⟩)
                        clear eq
                        cases hq2 : decide (-x ∈ R1) with
                        | true =>
                          rw [hq2] at hn
                          have HQ2 : Hid (-x ∈ R1) := Lib.hid (of_decide_eq_true hq2)
                          clear hq2 hs
                          go_wp2_with fail
                          refine hx.mono ?_
                          rintro e wy ⟨rfl, hwy⟩
                          subst hwy
                          refine Hid.out ?_
                          refine Lib.hid ?_
                          clear hx
                          go_wp2_with fail
                          refine hn.mono ?_
                          rintro e wy ⟨rfl, hwy⟩
                          subst hwy
                          refine Hid.out ?_
                          refine Lib.hid ?_
                          clear hn
                          go_wp2
                          go_roundw
                          case rel => exact ⟨kk + 1, sn, q, by omega, by go_num, rfl, rfl, HINV.out.skip HEX.out HBV.out (.inl HQ2.out), HOWN.out, HB.out⟩
                          case measure => simp [intOf]; omega
                        | false =>
                          rw [hq2] at hn
                          clear hq2
                          cases hq3 : decide (x ∈ sn) with
                          | true =>
                            rw [hq3] at hs
                            have HQ3 : Hid (x ∈ sn) := Lib.hid (of_decide_eq_true hq3)
                            clear hq3
                            go_wp2_with fail
                            refine hx.mono ?_
                            rintro e wy ⟨rfl, hwy⟩
                            subst hwy
                            refine Hid.out ?_
                            refine Lib.hid ?_
                            clear hx
                            go_wp2_with fail
                            refine hn.mono ?_
                            rintro e wy ⟨rfl, hwy⟩
                            subst hwy
                            refine Hid.out ?_
                            refine Lib.hid ?_
                            clear hn
                            go_wp2_with fail
                            refine hs.mono ?_
                            rintro e wy ⟨rfl, hwy⟩
                            subst hwy
                            refine Hid.out ?_
                            refine Lib.hid ?_
                            clear hs
                            go_wp2
                            go_roundw
                            case rel => exact ⟨kk + 1, sn, q, by omega, by go_num, rfl, rfl, HINV.out.skip HEX.out HBV.out (.inr HQ3.out), HOWN.out, HB.out⟩
                            case measure => simp [intOf]; omega
                          | false =>
                            rw [hq3] at hs
                            clear hq3
                            go_wp2_with fail
                            refine hx.mono ?_
                            rintro e wy ⟨rfl, hwy⟩
                            subst hwy
                            refine Hid.out ?_
                            refine Lib.hid ?_
                            clear hx
                            go_wp2_with fail
                            refine hn.mono ?_
                            rintro e wy ⟨rfl, hwy⟩
                            subst hwy
                            refine Hid.out ?_
                            refine Lib.hid ?_
                            clear hn
                            go_wp2_with fail
                            refine hs.mono ?_
                            rintro e wy ⟨rfl, hwy⟩
                            subst hwy
                            refine Hid.out ?_
                            refine Lib.hid ?_
                            clear hs
                            go_wp2_with (at_builtin; refine wpList_append_own _ rfl _ _ 23 rfl w6.heap.size 3 i3 (.int .i64 0) 1 8 Try.underlying23 hi3 hz30 hz31 hz32 rfl (by decide) _ _ _ rfl (HOWN.out.alloc _) ⟨wr.heap.size, 0, none⟩ 1 1 [.int .i64 x] rfl rfl ?c1 ?c2 ?c3 ?c4 ?c5 ?_)
                            case c1 =>
                              intro j u hj
                              match j, hj with
                              | 0, hj => simp at hj; subst hj; exact cell_new (by simp) rfl
                            case c2 => intro u hu; simp at hu; subst hu; rfl
                            case c3 => unfold maxLen; omega
                            case c4 => omega
                            case c5 => simp; omega
                            intro v' w7 hown' hgrow _
                            have hlt2 := fun k hk => (HOWN.out.lt k hk).1
                            have HB' := Lib.hid ((HB.out.alloc HB.out.size (.cells #[.int .i64 x] 3)).grown hgrow (by have := HB.out.size; simp at this ⊢; omega) hlt2)
                            have HO' := Lib.hid hown'
                            clear hgrow hlt2 hown'
                            go_wp2
                            go_roundw
                            case rel => exact ⟨kk + 1, sn ++ [x], q, by omega, by go_num, rfl, by simp, HINV.out.push HEX.out HBV.out, by unfold OwnI; simpa using HO'.out, HB'.out⟩
                            case measure => simp [intOf]; omega
                    · have hlk' : ¬ (kk : Int) < (C.length : Int) := by omega
                      have HB8 := Lib.hid (HB56.out.trans (hb.mono HB56.out.size))
                      cases b with
                      | true =>
                        clear hb
                        go_wp2
                        go_roundw
                        case rel => exact ⟨i + 1, by omega, by go_num, HB8.out⟩
                        case measure => simp [intOf]; omega
                      | false =>
                        have h2 := HINV.out.done (by omega) HCLi.out
                        have hd1 : decide ((sn.length : Int) < 2) = false := decide_eq_false (by omega)
                        have hd2 : decide (sn.length < 2) = false := decide_eq_false (by omega)
                        clear hb
                        go_wp2
                        go_roundw
                        case rel => exact ⟨i + 1, by omega, by go_num, HB8.out⟩
                        case measure => simp [intOf]; omega
                · have hiF : ¬ (i : Int) < (F.length : Int) := by omega
                  have HBT := Lib.hid (HB5.out.trans (hb.mono HB5.out.size))
                  clear hb
                  go_wp2_with fail
                  refine (known4_any _).mono ?_
                  rintro e wz ⟨rfl, hbz⟩
                  refine Hid.out ?_
                  refine Lib.hid ?_
                  have HBz := Lib.hid (HBT.out.trans (hbz.mono HBT.out.size))
                  clear hbz
                  go_wp2
                  go_ret
                  exact ⟨rfl, HBz.out⟩
  · have HB1 := Lib.hid (hb1.alloc hb1.size (.cells #[.int .i64 0, .slice none 0 0] 26))
    clear hok hfit hb1
    go_wp2_with fail
    refine (known4_any _).mono ?_
    rintro e w7 ⟨rfl, hb7⟩
    refine Hid.out ?_
    refine Lib.hid ?_
    have HB7 := Lib.hid (HB1.out.trans (hb7.mono HB1.out.size))
    clear hb7
    go_wp2
    go_ret
    exact ⟨rfl, HB7.out⟩
end L
end Go.Proofs.Ytoffhaamkhfdeaa
