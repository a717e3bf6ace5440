/- Several texts, joined. -/
import Derived.Test.YtfhodbnhaaiceaaDoorQ12
import Derived.Test.YtfhodbnhaaiceaaDoorQ17
import Derived.Test.YtfhodbnhaaiceaaDoorQ16

/- Contracts of literals and check. -/
section
namespace Go.Proofs.YtfhodbnhaaiceaaDoor
open Go.RowKit Go.Conc
namespace L
set_option maxRecDepth 100000
open K

/-- What is known of the first variables. -/
def litsK (kn : Nat → Int) (k : Nat) : List Int := ((List.range k).map kn).filter (· ≠ 0)
theorem litsK_succ (kn : Nat → Int) (k : Nat) : litsK kn (k + 1) = litsK kn k ++ (if kn k = 0 then [] else [kn k]) := by
  unfold litsK
  rw [List.range_succ, List.map_append, List.filter_append]
  congr 1
  by_cases h : kn k = 0
  · simp [h]
  · simp [h]
theorem litsK_len (kn : Nat → Int) (k : Nat) : (litsK kn k).length ≤ k := by
  unfold litsK
  exact Nat.le_trans (List.length_filter_le _ _) (by simp)

set_option maxHeartbeats 1000000 in
theorem literals_any {w : World} {p : Bl} {al : Nat → Value} {N : Nat} {vs : Int → Value} {s : U.St} (h : Mem w p al N vs s) :
    Calls Tryd.prog 49 #[.pointer (some ⟨p.pb, 0, none⟩)] w fun e w' => ∃ v, e = .returned v ∧ OwnI w' w.heap.size v (litsK s.kn (p.n + 1)) ∧ Below w.heap.size w w' := by
  obtain ⟨i0, hi, hz0, hz1, hz2⟩ := info_parts info3
  have hn := h.lim.1
  have hc0 := h.c.1
  have HK : Hid (∀ k, k ≤ p.n → w.cell? ⟨p.kb, k, none⟩ = some (.int .i64 (s.kn k))) := Lib.hid fun k hk => (h.k hk).1
  have hlt : p.pb < w.heap.size := h.box.lt
  clear h
  go_enter Tryd.func49, Tryd.ntmps49
  go_wp2
  go_loopw [3, 11] (fun o i wr => ∃ k : Nat, k ≤ p.n + 1 ∧ i = .int .i64 k ∧ OwnI wr w.heap.size o (litsK s.kn k) ∧ Below w.heap.size w wr) (fun _ i _ => p.n + 1 - (intOf i).toNat)
  case atStart => exact ⟨0, Nat.zero_le _, rfl, OwnI.nil _ _, Below.refl _ _⟩
  case round =>
    obtain ⟨k, hk, rfl, hown, hb⟩ := hrel
    by_cases hlt : k < p.n + 1
    · have hlt' : (k : Int) < (p.n : Int) + 1 := by omega
      have hk0 := HK.out k (by omega)
      have d1 := (hb.cell (p := ⟨p.kb, k, none⟩) (World.block_lt_of_cell? _ _ hk0)).trans hk0
      have HS := Lib.hid (litsK_succ s.kn k)
      have hln := litsK_len s.kn k
      clear hk0
      generalize hy : s.kn k = y at d1 HS
      have HY := Lib.hid hy
      clear hy
      by_cases hy0 : y = 0
      · have e : (y != (0 : Int)) = false := by simp [hy0]
        have HS2 : Hid (litsK s.kn (k + 1) = litsK s.kn k) := Lib.hid (by rw [HS.out, if_pos hy0]; simp)
        have HO := Lib.hid hown
        clear hy0 hown
        go_wp2
        go_roundw
        case rel => exact ⟨k + 1, by omega, by go_num, by rw [HS2.out]; exact HO.out, hb⟩
        case measure => simp [intOf]; omega
      · have e : (y != (0 : Int)) = true := by simp [hy0]
        have HS2 : Hid (litsK s.kn (k + 1) = litsK s.kn k ++ [y]) := Lib.hid (by rw [HS.out, if_neg hy0])
        clear hy0
        have hsz := hb.size
        obtain ⟨l, el⟩ : ∃ l, litsK s.kn k = l := ⟨_, rfl⟩
        rw [el] at hown hln HS2
        have HEL := Lib.hid el
        clear el HS
        unfold OwnI at hown
        go_wp2_with (at_builtin; refine wpList_append_own _ rfl _ _ 23 rfl w.heap.size 3 i0 (.int .i64 0) 1 8 Tryd.underlying23 hi hz0 hz1 hz2 rfl (by decide) _ _ _ rfl (hown.alloc _) ⟨wr.heap.size, 0, none⟩ 1 1 [.int .i64 y] rfl rfl ?c1 ?c2 ?c3 ?c4 ?c5 ?_)
        case c1 =>
          intro j u hj
          match j, hj with
          | 0, hj => simp at hj; subst hj; simp [Addr.add]
        case c2 => intro u hu; simp at hu; subst hu; rfl
        case c3 => unfold maxLen; omega
        case c4 => omega
        case c5 => simp; omega
        intro v' w1 hown' hgrow _
        have hlt2 := fun k hk => (hown.lt k hk).1
        have HB' := Lib.hid ((hb.alloc hb.size (.cells #[.int .i64 y] 3)).grown hgrow (by simp; omega) hlt2)
        have HO' := Lib.hid hown'
        clear hown hgrow hlt2 hown'
        go_wp2
        go_roundw
        case rel => exact ⟨k + 1, by omega, by go_num, by rw [HS2.out]; unfold OwnI; simpa using HO'.out, HB'.out⟩
        case measure => simp [intOf]; omega
    · have HKE := Lib.hid (show k = p.n + 1 by omega)
      have hlt' : ¬ (k : Int) < (p.n : Int) + 1 := by omega
      have HO := Lib.hid hown
      clear hown
      go_wp2
      go_ret
      exact ⟨_, rfl, by rw [← HKE.out]; exact HO.out, hb⟩

/-- The first error of a formula and assumptions. -/
def checkU (n : Int) (cs : List (List Int)) (l : List Int) : Int := if checkF n cs ≠ 0 then checkF n cs else if l.any (fun x => decide (x = 0) || decide (n < av x)) then 3 else 0
theorem checkE_one {n x : Int} (h : ¬ (n < 0 ∨ 1048576 < n)) : checkE n [x] = if decide (x = 0) || decide (n < av x) then 3 else 0 := by
  unfold checkE
  rw [if_neg h, if_neg (by simp)]
  simp
theorem checkF_range {n : Int} {cs : List (List Int)} (h : checkF n cs = 0) : ¬ (n < 0 ∨ 1048576 < n) := by
  intro h1
  unfold checkF at h
  rw [if_pos h1] at h
  cases h

set_option maxHeartbeats 2000000 in
theorem pcheck_any (n : Int) (v : Value) (cs : List (List Int)) (u : Value) (l : List Int) (w : World) (hn : I64 n) (hl : ∀ c ∈ cs, ∀ x ∈ c, I64 x) (h : Lists w v cs) (hl2 : ∀ x ∈ l, I64 x) (hu : Ints w u l) :
    Calls Tryd.prog 44 #[.agg #[.int .i64 n, v], u] w fun e w' => e = .returned (.int .i64 (checkU n cs l)) ∧ Below w.heap.size w w' := by
  obtain ⟨pu, cu, rfl, hcu, hml, hcell⟩ := hu
  have hF := fun W (hb : Below w.heap.size w W) => fcheck_any n v cs W hn hl (h.below hb)
  have HF := Lib.hid hF
  by_cases h0 : checkF n cs = 0
  · have e0 : checkU n cs l = if l.any (fun x => decide (x = 0) || decide (n < av x)) then 3 else 0 := by unfold checkU; rw [if_neg (by simp [h0])]
    obtain ⟨r, er⟩ : ∃ r, checkU n cs l = r := ⟨_, rfl⟩
    rw [er] at e0 ⊢
    have HR := Lib.hid e0
    clear e0 er
    have hrg := checkF_range h0
    rw [h0] at HF
    have HL2 := Lib.hid hl2
    have hnn : 0 ≤ n ∧ n ≤ 1048576 := by omega
    have HC : Hid (∀ (x : Int) (W : World) (g : Nat), W.cell? ⟨g, 0, none⟩ = some (.int .i64 x) → I64 x → Calls Tryd.prog 58 #[.int .i64 n, .slice (some ⟨g, 0, none⟩) 1 1] W fun e w' => e = .returned (.int .i64 (if decide (x = 0) || decide (n < av x) then 3 else 0)) ∧ W = w') := Lib.hid fun x W g hg hx => by
      have := check_any n (.slice (some ⟨g, 0, none⟩) 1 1) [x] W hn (by simpa using hx) ⟨some ⟨g, 0, none⟩, 1, rfl, by simp, by simp, fun _ => ⟨g, 0, rfl, fun j hj => by
        have : j = 0 := by simp at hj; exact hj
        subst this
        simpa using hg⟩⟩
      rw [checkE_one hrg] at this
      exact this
    clear hF h h0 hl hl2 hn hrg
    go_enter Tryd.func44, Tryd.ntmps44
    go_wp2_with fail
    refine (HF.out _ ((Below.refl _ _).alloc (Nat.le_refl _) _)).mono ?_
    rintro e w1 ⟨rfl, hb1⟩
    refine Hid.out ?_
    refine Lib.hid ?_
    have hb : Below w.heap.size w w1 := ((Below.refl _ w).alloc (Nat.le_refl _) _).trans (hb1.mono (by simp))
    have hbox : w1.cell? ⟨w.heap.size, 0, none⟩ = some (.int .i64 n) := (hb1.cell (p := ⟨w.heap.size, 0, none⟩) (by simp)).trans (by simp)
    have hs1 : w.heap.size < w1.heap.size := by have := hb1.size; simp at this; omega
    clear hb1
    go_wp2
    go_loopw [16] (fun i wr => ∃ k : Nat, k ≤ l.length ∧ i = .int .i64 k ∧ (∀ j, j < k → (decide (l.getD j 0 = 0) || decide (n < av (l.getD j 0))) = false) ∧ Below w.heap.size w wr ∧ wr.cell? ⟨w.heap.size, 0, none⟩ = some (.int .i64 n)) (fun i _ => l.length - (intOf i).toNat)
    case atStart => exact ⟨0, Nat.zero_le _, rfl, fun j hj => absurd hj (Nat.not_lt_zero _), hb, hbox⟩
    case round =>
      clear hb hbox hs1
      obtain ⟨k, hk, rfl, hno, hb, hbox⟩ := hrel
      have HE := Lib.hid hno
      clear hno
      by_cases hlt : k < l.length
      · have hlt' : (k : Int) < (l.length : Int) := by omega
        obtain ⟨b1, o1, rfl, e1⟩ := hcell (by omega)
        have d1 := (hb.cell (p := ⟨b1, o1 + k, none⟩) (World.block_lt_of_cell? _ _ (e1 k hlt))).trans (e1 k hlt)
        clear hcell e1
        obtain ⟨x, ex⟩ : ∃ x, l.getD k 0 = x := ⟨_, rfl⟩
        rw [ex] at d1
        have hxI : I64 x := HL2.out x (by rw [← ex]; exact mem_getD hlt)
        have HX := Lib.hid ex
        clear ex
        have hb' := hb.alloc hb.size (.cells #[.int .i64 x] 3)
        have hbox' : (wr.alloc (.cells #[.int .i64 x] 3)).cell? ⟨w.heap.size, 0, none⟩ = some (.int .i64 n) := (((Below.refl _ wr).alloc (Nat.le_refl _) _).cell (p := ⟨w.heap.size, 0, none⟩) (World.block_lt_of_cell? _ _ hbox)).trans hbox
        have hcc := HC.out x (wr.alloc (.cells #[.int .i64 x] 3)) wr.heap.size (by simp) hxI
        have HB' := Lib.hid hb'
        have HBX' := Lib.hid hbox'
        clear hb' hbox' hb
        generalize hbad : (decide (x = 0) || decide (n < av x)) = bad at hcc
        have HBAD := Lib.hid hbad
        clear hbad
        cases bad with
        | false =>
          go_wp2_with fail
          refine hcc.mono ?_
          rintro e w2 ⟨rfl, hw2⟩
          subst hw2
          refine Hid.out ?_
          refine Lib.hid ?_
          clear hcc
          go_wp2
          go_roundw
          case rel =>
            refine ⟨k + 1, by omega, by go_num, fun j hj => ?_, HB'.out, HBX'.out⟩
            by_cases e : j = k
            · rw [e, HX.out]; exact HBAD.out
            · exact HE.out j (by omega)
          case measure => simp [intOf]; omega
        | true =>
          go_wp2_with fail
          refine hcc.mono ?_
          rintro e w2 ⟨rfl, hw2⟩
          subst hw2
          refine Hid.out ?_
          refine Lib.hid ?_
          clear hcc
          go_wp2
          go_ret
          have h1 := any_at (p := fun x => decide (x = 0) || decide (n < av x)) hlt (by rw [HX.out]; exact HBAD.out)
          exact ⟨ret_int (by rw [HR.out, if_pos h1]), HB'.out⟩
      · have hlt' : ¬ (k : Int) < (l.length : Int) := by omega
        have HKE := Lib.hid (show l.length ≤ k by omega)
        clear hcell
        go_wp2
        go_ret
        have h1 := any_upto (p := fun x => decide (x = 0) || decide (n < av x)) HE.out HKE.out
        exact ⟨ret_int (by rw [HR.out, h1]; rfl), hb⟩
  · have e0 : checkU n cs l = checkF n cs := by unfold checkU; rw [if_pos h0]
    rw [e0]
    clear hF h e0 hl hl2 hn hcell
    generalize checkF n cs = r at *
    have e1 : (r != (0 : Int)) = true := by simp [h0]
    clear h0
    go_enter Tryd.func44, Tryd.ntmps44
    go_wp2_with fail
    refine (HF.out _ ((Below.refl _ _).alloc (Nat.le_refl _) _)).mono ?_
    rintro e w1 ⟨rfl, hb1⟩
    refine Hid.out ?_
    refine Lib.hid ?_
    have HB : Hid (Below w.heap.size w w1) := Lib.hid (((Below.refl _ w).alloc (Nat.le_refl _) _).trans (hb1.mono (by simp)))
    clear hb1
    go_wp2
    go_ret
    exact ⟨rfl, HB.out⟩
end L
end Go.Proofs.YtfhodbnhaaiceaaDoor
end

/- Contract of Units: it finds what follows, or that it fails, or says which error. -/
section
namespace Go.Proofs.YtfhodbnhaaiceaaDoor
open Go.RowKit Go.Conc
namespace L
set_option maxRecDepth 100000
open K

/-- What Units returns. -/
def UPost (w w' : World) (n : Int) (cs : List (List Int)) (A : List Int) (r : Value) : Prop :=
  (checkU n cs A ≠ 0 ∧ r = .tuple #[.slice none 0 0, .bool false, .int .i64 (checkU n cs A)]) ∨
  (checkU n cs A = 0 ∧ U.unitsOf n.toNat cs A = none ∧ r = .tuple #[.slice none 0 0, .bool true, .int .i64 0]) ∨
  (checkU n cs A = 0 ∧ ∃ l vl, U.unitsOf n.toNat cs A = some l ∧ r = .tuple #[vl, .bool false, .int .i64 0] ∧ OwnI w' w.heap.size vl l)

theorem val_of_any {n : Nat} {l : List Int} (h : l.any (fun x => decide (x = 0) || decide ((n : Int) < av x)) = false) : U.Val n l := by
  intro x hx
  rw [List.any_eq_false] at h
  have := h x hx
  simp only [Bool.or_eq_true, decide_eq_true_eq, not_or] at this
  refine ⟨this.1, ?_⟩
  have h2 := this.2
  unfold av at h2
  split at h2 <;> omega
theorem val_of_checkE {n : Nat} {l : List Int} (h : checkE n l = 0) : U.Val n l := by
  unfold checkE at h
  split at h
  · cases h
  · split at h
    · cases h
    · split at h
      · cases h
      · rename_i h3
        exact val_of_any (by simpa using h3)
theorem firstE_mem {n : Int} : ∀ {cs : List (List Int)}, firstE n cs = 0 → ∀ c ∈ cs, checkE n c = 0
  | [], _, c, hc => by simp at hc
  | l :: r, h, c, hc => by
    simp only [firstE] at h
    split at h
    · rename_i h1
      rcases List.mem_cons.1 hc with rfl | h2
      · exact h1
      · exact firstE_mem h c h2
    · rename_i h1; exact absurd h h1
theorem checkF_ok {n : Nat} {cs : List (List Int)} (h : checkF n cs = 0) : n ≤ 1048576 ∧ cs.length ≤ 1048576 ∧ ∀ c ∈ cs, U.Val n c := by
  unfold checkF at h
  split at h
  · cases h
  · split at h
    · cases h
    · exact ⟨by omega, by omega, fun c hc => val_of_checkE (firstE_mem h c hc)⟩
theorem checkU_ok {n : Int} {cs : List (List Int)} {A : List Int} (h : checkU n cs A = 0) : ∃ m : Nat, n = m ∧ m ≤ 1048576 ∧ cs.length ≤ 1048576 ∧ (∀ c ∈ cs, U.Val m c) ∧ U.Val m A := by
  unfold checkU at h
  split at h
  · rename_i h1; exact absurd h h1
  · rename_i h1
    have h1 : checkF n cs = 0 := Classical.byContradiction h1
    have hr := checkF_range h1
    refine ⟨n.toNat, by omega, ?_⟩
    obtain ⟨m, rfl⟩ : ∃ m : Nat, n = m := ⟨n.toNat, by omega⟩
    obtain ⟨a, b, c⟩ := checkF_ok h1
    split at h
    · cases h
    · rename_i h2
      simp only [Int.toNat_natCast]
      exact ⟨a, b, c, val_of_any (by simpa using h2)⟩

/-- What stands when nothing is left. -/
theorem units_done {n : Nat} {cs : List (List Int)} {A : List Int} {s : U.St} (hI : U.Inv n cs A cs.length 0 [] s) (hq : s.q = []) (hA : ∀ a ∈ A, s.kn a.natAbs = a) (hv : U.Val n A) : U.unitsOf n cs A = some (litsK s.kn (n + 1)) := by
  rw [U.unitsOf_closed (hI.closed rfl hq fun a ha => ⟨(hv a ha).1, hA a ha⟩) (fun x hx => hI.snd x hx.1 hx.2), ← U.lits_known hI.dom]
  rfl

set_option maxHeartbeats 4000000 in
theorem punits_any (n : Int) (v : Value) (cs : List (List Int)) (u : Value) (A : List Int) (w : World) (hn : I64 n) (hl : ∀ c ∈ cs, ∀ x ∈ c, I64 x) (h : Lists w v cs) (hl2 : ∀ x ∈ A, I64 x) (hu : Ints w u A) :
    Calls Tryd.prog 28 #[.agg #[.int .i64 n, v], u] w fun e w' => ∃ r, e = .returned r ∧ UPost w w' n cs A r ∧ Below w.heap.size w w' := by
  have hC := fun W (hb : Below w.heap.size w W) => pcheck_any n v cs u A W hn hl (h.below hb) hl2 (hu.below hb)
  obtain ⟨pv, cv, ev, _, _, _⟩ := h
  have HC := Lib.hid hC
  by_cases h0 : checkU n cs A = 0
  · obtain ⟨m, rfl, hm, hcs, hv, hvA⟩ := checkU_ok h0
    have HS := Lib.hid (fun W => start_any m cs.length cv pv W hm hcs)
    have HV := Lib.hid hv
    have HVA := Lib.hid hvA
    have HL := Lib.hid (show Lists w v cs from ⟨pv, cv, ev, by assumption, by assumption, by assumption⟩)
    have HU := Lib.hid hu
    have H0 := Lib.hid h0
    rw [h0] at HC
    have HEV := Lib.hid ev
    rw [ev] at HC
    rw [ev]
    clear hC hl hl2 hu h0 ev
    go_enter Tryd.func28, Tryd.ntmps28
    go_wp2_with fail
    refine (HC.out _ ((Below.refl _ _).alloc (Nat.le_refl _) _)).mono ?_
    rintro e w1 ⟨rfl, hb1⟩
    refine Hid.out ?_
    refine Lib.hid ?_
    have HB1 : Hid (Below w.heap.size w w1) := Lib.hid (((Below.refl _ w).alloc (Nat.le_refl _) _).trans (hb1.mono (by simp)))
    have hx0 : w1.cell? ⟨w.heap.size, 0, none⟩ = some (.int .i64 m) := (hb1.cell (p := ⟨w.heap.size, 0, none⟩) (by simp)).trans (by simp)
    have hx1 : w1.cell? ⟨w.heap.size, 1, none⟩ = some (.slice pv cs.length cv) := (hb1.cell (p := ⟨w.heap.size, 1, none⟩) (by simp)).trans (by simp)
    have hlt1 : w.heap.size < w1.heap.size := World.block_lt_of_cell? _ _ hx0
    have HX : Hid (∀ W, Below w1.heap.size w1 W → W.cell? ⟨w.heap.size, 1, none⟩ = some (.slice pv cs.length cv)) := Lib.hid fun W hW => (hW.cell (p := ⟨w.heap.size, 1, none⟩) hlt1).trans hx1
    clear hb1
    go_wp2_with fail
    refine (HS.out w1).mono ?_
    rintro e w2 ⟨p, rfl, ⟨hpB, hpn, hpM⟩, hm2, hb2⟩
    refine Hid.out ?_
    refine Lib.hid ?_
    have HPB := Lib.hid hpB
    have HPN := Lib.hid hpn
    have HPM := Lib.hid hpM
    have HM2 := Lib.hid hm2
    have HB2 := Lib.hid hb2
    have hVA : U.Val p.n A := by rw [hpn]; exact HVA.out
    have hVC : ∀ c ∈ cs, U.Val p.n c := by rw [hpn]; exact HV.out
    have hb2' : Below p.B w1 w2 := by rw [hpB]; exact hb2
    have hla := learnAll_any (cs := cs) hm2 (U.Inv.start p.n cs A) u (fun W hW => by
      have h1 := hb2'.trans hW
      rw [hpB] at h1
      exact (HU.out.below HB1.out).below h1) hVA (fun y hy e => absurd e.symm (by simpa [U.start0] using hy))
    have HVC := Lib.hid hVC
    have HVA2 := Lib.hid hVA
    have HB2' := Lib.hid hb2'
    have hx2 := HX.out w2 hb2
    clear hpB hpn hpM hm2 hb2 hVA hVC hb2' hx0 hx1
    go_wp2_with fail
    refine hla.mono ?_
    rintro e w3 hpost
    unfold LAPost at hpost
    obtain ⟨b, s3, rfl, hm3, hb3, hgood, hbad⟩ := hpost
    refine Hid.out ?_
    refine Lib.hid ?_
    have HM3 := Lib.hid hm3
    have HB3 := Lib.hid (HB2'.out.trans hb3)
    have HBW3 : Hid (Below w.heap.size w w3) := Lib.hid (HB1.out.trans (by
      have h1 := HB3.out
      rw [HPB.out] at h1
      exact h1.mono (by omega)))
    cases b with
    | false =>
      have HBAD := Lib.hid (hbad rfl)
      clear hm3 hb3 hgood hbad hla hx2
      go_wp2
      go_ret3
      exact ⟨_, rfl, .inr (.inl ⟨H0.out, by simpa using U.unitsOf_bad HBAD.out, rfl⟩), HBW3.out⟩
    | true =>
      have HG := Lib.hid (hgood rfl)
      have hx3 := HX.out w3 (by have h1 := HB3.out; rw [HPB.out] at h1; exact h1)
      have hwa := watchAll_any (w0 := w1) hm3 HG.out.1 (.slice pv cs.length cv) HPB.out.symm HB3.out (by rw [← HEV.out]; exact HL.out.below HB1.out) HPM.out HVC.out
      clear hm3 hb3 hgood hbad hla hx2
      go_wp2_with fail
      refine hwa.mono ?_
      rintro e w4 hpost
      unfold WAPost at hpost
      obtain ⟨b, s4, al4, N4, vs4, rfl, hm4, hb4, hgood, hbad⟩ := hpost
      refine Hid.out ?_
      refine Lib.hid ?_
      have HM4 := Lib.hid hm4
      have HB4 := Lib.hid (HB3.out.trans hb4)
      have HB34 := Lib.hid hb4
      have HBW4 : Hid (Below w.heap.size w w4) := Lib.hid (HB1.out.trans (by
        have h1 := HB4.out
        rw [HPB.out] at h1
        exact h1.mono (by omega)))
      cases b with
      | false =>
        have HBAD := Lib.hid (hbad rfl)
        clear hm4 hb4 hgood hbad hwa hx3
        go_wp2
        go_ret3
        exact ⟨_, rfl, .inr (.inl ⟨H0.out, by simpa using U.unitsOf_bad HBAD.out, rfl⟩), HBW4.out⟩
      | true =>
        have HG4 := Lib.hid (hgood rfl)
        have hru := run_any hm4 HG4.out.1 HPM.out HVC.out (fun i hi W hW => HG4.out.2.2.2.2 i hi W (HB34.out.trans hW)) (by
          have h1 := HG4.out.2.2.1
          have h2 := HG.out.2.2
          have h3 : U.mea p.n U.start0 = 2 * p.n := by simp [U.mea, U.start0, U.unk_zero]
          have h4 := HG4.out.2.2.2.1
          have h5 := HPN.out
          omega)
        clear hm4 hb4 hgood hbad hwa hx3
        go_wp2_with fail
        refine hru.mono ?_
        rintro e w5 hpost
        unfold RunPost at hpost
        obtain ⟨b, s5, N5, vs5, rfl, hm5, hb5, hgood, hbad⟩ := hpost
        refine Hid.out ?_
        refine Lib.hid ?_
        have HM5 := Lib.hid hm5
        have HB5 := Lib.hid (HB4.out.trans hb5)
        have HBW5 : Hid (Below w.heap.size w w5) := Lib.hid (HB1.out.trans (by
          have h1 := HB5.out
          rw [HPB.out] at h1
          exact h1.mono (by omega)))
        cases b with
        | false =>
          have HBAD := Lib.hid (hbad rfl)
          clear hm5 hb5 hgood hbad hru
          go_wp2
          go_ret3
          exact ⟨_, rfl, .inr (.inl ⟨H0.out, by simpa using U.unitsOf_bad HBAD.out, rfl⟩), HBW5.out⟩
        | true =>
          have HG5 := Lib.hid (hgood rfl)
          have hli := literals_any hm5
          have HDONE : Hid (U.unitsOf m cs A = some (litsK s5.kn (p.n + 1))) := Lib.hid (by
            have h1 := units_done HG5.out.1 HG5.out.2.1 (fun a ha => HG5.out.2.2 a (HVA2.out a ha).1 (HG4.out.2.1 a (HVA2.out a ha).1 (HG.out.2.1 a ha))) HVA2.out
            rw [HPN.out] at h1 ⊢
            exact h1)
          clear hm5 hb5 hgood hbad hru
          go_wp2_with fail
          refine hli.mono ?_
          rintro e w6 ⟨vl, rfl, ho, hb6⟩
          refine Hid.out ?_
          refine Lib.hid ?_
          have HO := Lib.hid ho
          have HBW6 := Lib.hid (HBW5.out.trans (hb6.mono HBW5.out.size))
          have HSZ := Lib.hid HBW5.out.size
          clear ho hb6 hli
          go_wp2
          go_ret3
          exact ⟨_, rfl, .inr (.inr ⟨H0.out, _, vl, by simpa using HDONE.out, rfl, owns_base HO.out HSZ.out⟩), HBW6.out⟩
  · have HU : Hid (checkU n cs A ≠ 0) := Lib.hid h0
    clear hC hl hl2 hu hn
    obtain ⟨r, er⟩ : ∃ r, checkU n cs A = r := ⟨_, rfl⟩
    rw [er] at HC h0
    have e1 : (r != (0 : Int)) = true := by simp [h0]
    have HE := Lib.hid er
    clear er h0
    subst ev
    go_enter Tryd.func28, Tryd.ntmps28
    go_wp2_with fail
    refine (HC.out _ ((Below.refl _ _).alloc (Nat.le_refl _) _)).mono ?_
    rintro e w1 ⟨rfl, hb1⟩
    refine Hid.out ?_
    refine Lib.hid ?_
    have HB1 : Hid (Below w.heap.size w w1) := Lib.hid (((Below.refl _ w).alloc (Nat.le_refl _) _).trans (hb1.mono (by simp)))
    clear hb1
    go_wp2
    go_ret3
    exact ⟨_, rfl, .inl ⟨HU.out, by rw [HE.out]; rfl⟩, HB1.out⟩
end L
end Go.Proofs.YtfhodbnhaaiceaaDoor
end

/- Contract of the reference's Check of formulas. -/
section
namespace Go.Proofs.YtfhodbnhaaiceaaDoor
open Go.RowKit
namespace L
open K

set_option maxHeartbeats 1000000 in
theorem rfcheck_any (n : Int) (v : Value) (L : List (List Int)) (w : World) (hn : I64 n) (hl : ∀ l ∈ L, ∀ x ∈ l, I64 x) (h : Lists w v L) :
    Calls Tryd.prog 32 #[.agg #[.int .i64 n, v]] w fun e w' => e = .returned (.int .i64 (checkF n L)) ∧ Below w.heap.size w w' := by
  obtain ⟨p, c, rfl, hg, hm, hc⟩ := h
  unfold I64 at hn
  by_cases h1 : n < 0
  · have e : checkF n L = 3 := by simp [checkF, h1]
    rw [e]; clear e
    go_enter Tryd.func32, Tryd.ntmps32
    go_wp2
    go_ret
    exact ⟨rfl, (Below.refl _ _).alloc (Nat.le_refl _) _⟩
  by_cases h2 : 1048576 < n
  · have e : checkF n L = 3 := by simp [checkF, h2]
    rw [e]; clear e
    go_enter Tryd.func32, Tryd.ntmps32
    go_wp2
    go_ret
    exact ⟨rfl, (Below.refl _ _).alloc (Nat.le_refl _) _⟩
  by_cases h3 : (1048576 : Int) < L.length
  · have e : checkF n L = 5 := by simp [checkF, h1, h2]; omega
    rw [e]; clear e
    go_enter Tryd.func32, Tryd.ntmps32
    go_wp2
    go_ret
    exact ⟨rfl, (Below.refl _ _).alloc (Nat.le_refl _) _⟩
  have ec : checkF n L = firstE n L := by simp [checkF, h1, h2]; omega
  have hn' : I64 n := hn
  rw [ec]; clear ec
  go_enter Tryd.func32, Tryd.ntmps32
  go_wp2
  go_loopw [3] (fun i wr => ∃ k : Nat, k ≤ L.length ∧ i = .int .i64 k ∧ (∀ j, j < k → checkE n (L.getD j []) = 0) ∧ Below w.heap.size w wr ∧ wr.cell? ⟨w.heap.size, 0, none⟩ = some (.int .i64 n) ∧ wr.cell? ⟨w.heap.size, 1, none⟩ = some (.slice p L.length c)) (fun i _ => L.length - (intOf i).toNat)
  case atStart => exact ⟨0, Nat.zero_le _, rfl, fun j hj => absurd hj (Nat.not_lt_zero _), (Below.refl _ _).alloc (Nat.le_refl _) _, by simp, by simp⟩
  case round =>
    obtain ⟨k, hk, rfl, heq, hb, hbox, hbox1⟩ := hrel
    have HE := Lib.hid heq
    have HL := Lib.hid hl
    clear heq hl
    by_cases hlt : k < L.length
    · obtain ⟨b, o, rfl, e1⟩ := hc (by omega)
      obtain ⟨u, hu, hiu⟩ := e1 k hlt
      have hck := fun W (hW : Below w.heap.size w W) => rcheck_any n u (L.getD k []) W hn' (HL.out _ (mem_getDL hlt)) (hiu.below hW)
      have d1 := (hb.cell (p := ⟨b, o + k, none⟩) (World.block_lt_of_cell? _ _ hu)).trans hu
      have he0 := Lib.hid (fun (hq : checkE n (L.getD k []) ≠ 0) => firstE_at HE.out hlt hq)
      clear hc e1 hu hiu
      generalize hq : checkE n (L.getD k []) = q at *
      have HQ := Lib.hid hq
      have HC := Lib.hid hck
      clear hq hck
      by_cases hz : q = 0
      · subst hz
        go_wp2
        go_quiet ((go_at_call 33; exact Calls.quiet_of_same ((HC.out _ (below_drewN hb _)).mono fun _ _ h => ⟨h.1, h.2.symm⟩)))
        go_wp2
        go_roundw
        case rel =>
          refine ⟨k + 1, by omega, by go_num, fun j hj => ?_, below_drewN hb _, hbox, hbox1⟩
          by_cases hjk : j = k
          · subst hjk; exact HQ.out
          · exact HE.out j (by omega)
        case measure => simp [intOf]; omega
      · have hz' : (q != 0) = true := by simpa using hz
        go_wp2
        go_quiet ((go_at_call 33; exact Calls.quiet_of_same ((HC.out _ (below_drewN hb _)).mono fun _ _ h => ⟨h.1, h.2.symm⟩)))
        go_wp2
        go_ret
        exact ⟨ret_int (he0.out hz).symm, below_drewN hb _⟩
    · go_wp2
      go_ret
      exact ⟨ret_int (firstE_upto HE.out (by omega)).symm, hb⟩
end L
end Go.Proofs.YtfhodbnhaaiceaaDoor
end
