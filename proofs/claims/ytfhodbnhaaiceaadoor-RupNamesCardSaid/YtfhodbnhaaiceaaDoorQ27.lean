/- Several texts, joined. -/
import Derived.Test.YtfhodbnhaaiceaaDoorQ26
import Derived.Test.YtfhodbnhaaiceaaDoorQ18
import Derived.Test.YtfhodbnhaaiceaaDoorQ25
import Derived.Test.YtfhodbnhaaiceaaDoorQ17

/- Contract of the reference's Units. -/
section
namespace Go.Proofs.YtfhodbnhaaiceaaDoor
open Go.RowKit Go.Conc
namespace L
open K

theorem lits_pickB (n : Nat) (S : Int → Bool) : U.lits n (fun y => S y = true) = litsK (U.pickB S) (n + 1) := by
  unfold U.lits litsK
  congr 1
  apply List.map_congr_left
  intro v _
  unfold U.pickL U.pickB
  by_cases h1 : S (v : Int) = true
  · simp [h1]
  · by_cases h2 : S (-(v : Int)) = true
    · simp [h1, h2]
    · simp [h1, h2]
theorem badX {n : Nat} {x : Int} : (decide (x = 0) || decide ((n : Int) < av x)) = false ↔ x ≠ 0 ∧ x ≤ n ∧ -(n : Int) ≤ x := by
  unfold av
  by_cases h : x < 0
  · rw [if_pos h]; simp; omega
  · rw [if_neg h]; simp; omega

set_option maxHeartbeats 4000000 in
theorem runits_any (n : Int) (v : Value) (cs : List (List Int)) (u : Value) (A : List Int) (w : World) (hn : I64 n) (hl : ∀ c ∈ cs, ∀ x ∈ c, I64 x) (h : Lists w v cs) (hl2 : ∀ x ∈ A, I64 x) (hu : Ints w u A) :
    Calls Tryd.prog 34 #[.agg #[.int .i64 n, v], u] w fun e w' => ∃ r, e = .returned r ∧ UPost w w' n cs A r ∧ Below w.heap.size w w' := by
  obtain ⟨pu, cu, rfl, hcu, hml, hcell⟩ := id hu
  obtain ⟨pv, cv, rfl, hcv, hmv, _⟩ := id h
  have hF := fun W (hb : Below w.heap.size w W) => rfcheck_any n (.slice pv cs.length cv) cs W hn hl (h.below hb)
  have HF := Lib.hid hF
  by_cases h0 : checkF n cs = 0
  · have e0 : checkU n cs A = if A.any (fun x => decide (x = 0) || decide (n < av x)) then 3 else 0 := by unfold checkU; rw [if_neg (by simp [h0])]
    have hrg := checkF_range h0
    rw [h0] at HF
    obtain ⟨m, rfl⟩ : ∃ m : Nat, n = m := ⟨n.toNat, by omega⟩
    obtain ⟨hm, hcs, hv⟩ := checkF_ok h0
    have HV := Lib.hid hv
    have HE0 := Lib.hid e0
    have HL := Lib.hid h
    have HU := Lib.hid hu
    have HCELL := Lib.hid hcell
    have HL2 := Lib.hid hl2
    have hnegm : IntKind.i64.wrap (-(m : Int)) = -(m : Int) := by simp only [IntKind.wrap_i64]; omega
    clear hF h h0 e0 hl hl2 hn hrg hu hv hcell
    go_enter Tryd.func34, Tryd.ntmps34
    go_wp2_with fail
    refine (HF.out _ ((Below.refl _ _).alloc (Nat.le_refl _) _)).mono ?_
    rintro e w1 ⟨rfl, hb1⟩
    refine Hid.out ?_
    refine Lib.hid ?_
    have hb : Below w.heap.size w w1 := ((Below.refl _ w).alloc (Nat.le_refl _) _).trans (hb1.mono (by simp))
    have hbox : w1.cell? ⟨w.heap.size, 0, none⟩ = some (.int .i64 m) := (hb1.cell (p := ⟨w.heap.size, 0, none⟩) (by simp)).trans (by simp)
    have hbox1 : w1.cell? ⟨w.heap.size, 1, none⟩ = some (.slice pv cs.length cv) := (hb1.cell (p := ⟨w.heap.size, 1, none⟩) (by simp)).trans (by simp)
    have hs1 : w.heap.size < w1.heap.size := by have := hb1.size; simp at this; omega
    clear hb1
    go_wp2
    go_loopw [8] (fun i wr => ∃ k : Nat, k ≤ A.length ∧ i = .int .i64 k ∧ (∀ j, j < k → (decide (A.getD j 0 = 0) || decide ((m : Int) < av (A.getD j 0))) = false) ∧ Below w.heap.size w wr ∧ wr.cell? ⟨w.heap.size, 0, none⟩ = some (.int .i64 m) ∧ wr.cell? ⟨w.heap.size, 1, none⟩ = some (.slice pv cs.length cv)) (fun i _ => A.length - (intOf i).toNat)
    case atStart => exact ⟨0, Nat.zero_le _, rfl, fun j hj => absurd hj (Nat.not_lt_zero _), hb, hbox, hbox1⟩
    case round =>
      clear hb hbox hs1 hbox1
      obtain ⟨k, hk, rfl, hno, hb, hbox, hbox1⟩ := hrel
      have HE := Lib.hid hno
      have HB := Lib.hid hb
      clear hno
      by_cases hlt : k < A.length
      · have hlt' : (k : Int) < (A.length : Int) := by omega
        obtain ⟨b1, o1, rfl, e1⟩ := HCELL.out (by omega)
        have d1 := (hb.cell (p := ⟨b1, o1 + k, none⟩) (World.block_lt_of_cell? _ _ (e1 k hlt))).trans (e1 k hlt)
        clear e1
        obtain ⟨x, ex⟩ : ∃ x, A.getD k 0 = x := ⟨_, rfl⟩
        rw [ex] at d1
        have HX := Lib.hid ex
        clear ex hb
        have HBAD : Hid (¬ (x ≠ 0 ∧ x ≤ m ∧ -(m : Int) ≤ x) → checkU (m : Int) cs A = 3) := Lib.hid fun h1 => by
          have h2 := any_at (p := fun x => decide (x = 0) || decide ((m : Int) < av x)) hlt (by
            rw [HX.out]
            cases e : (decide (x = 0) || decide ((m : Int) < av x))
            · exact absurd (badX.1 e) h1
            · rfl)
          rw [HE0.out, h2]; rfl
        by_cases a1 : x = 0
        · have e1 : (x == (0 : Int)) = true := by simp [a1]
          have HC := Lib.hid (HBAD.out (fun h => h.1 a1))
          clear a1
          go_wp2
          go_quiet (fail)
          go_wp2
          go_ret3
          exact ⟨_, rfl, .inl ⟨by rw [HC.out]; decide, by rw [HC.out]; rfl⟩, below_drewN HB.out _⟩
        · have e1 : (x == (0 : Int)) = false := by simp [a1]
          by_cases a2 : (m : Int) < x
          · have HC := Lib.hid (HBAD.out (fun h => by omega))
            clear a1
            go_wp2
            go_quiet (fail)
            go_wp2
            go_ret3
            exact ⟨_, rfl, .inl ⟨by rw [HC.out]; decide, by rw [HC.out]; rfl⟩, below_drewN HB.out _⟩
          · by_cases a3 : x < -(m : Int)
            · have HC := Lib.hid (HBAD.out (fun h => by omega))
              clear a1
              go_wp2
              go_quiet (fail)
              go_wp2
              go_ret3
              exact ⟨_, rfl, .inl ⟨by rw [HC.out]; decide, by rw [HC.out]; rfl⟩, below_drewN HB.out _⟩
            · have HG : Hid ((decide (x = 0) || decide ((m : Int) < av x)) = false) := Lib.hid (badX.2 ⟨a1, by omega, by omega⟩)
              clear a1
              go_wp2
              go_quiet (fail)
              go_wp2
              go_roundw
              case rel =>
                refine ⟨k + 1, by omega, by go_num, fun j hj => ?_, below_drewN HB.out _, hbox, hbox1⟩
                by_cases e : j = k
                · rw [e, HX.out]; exact HG.out
                · exact HE.out j (by omega)
              case measure => simp [intOf]; omega
      · have hlt' : ¬ (k : Int) < (A.length : Int) := by omega
        have hany := any_upto (p := fun x => decide (x = 0) || decide ((m : Int) < av x)) HE.out (show A.length ≤ k by omega)
        have HC : Hid (checkU (m : Int) cs A = 0) := Lib.hid (by rw [HE0.out, hany]; rfl)
        have hvA := val_of_any hany
        have hp := rprop_any (w := wr) hm hcs (.slice pv cs.length cv) (.slice pu A.length cu) (HL.out.below hb) (HU.out.below hb) HV.out hvA
        have hbs : w.heap.size < wr.heap.size := World.block_lt_of_cell? _ _ hbox
        clear hany hvA hb
        go_wp2_with fail
        refine hp.mono ?_
        rintro e w6 hpost
        unfold RPPost at hpost
        obtain ⟨hor, hb6⟩ := hpost
        refine Hid.out ?_
        refine Lib.hid ?_
        have HB6 := Lib.hid (HB.out.trans (hb6.mono HB.out.size))
        have hx6 := (hb6.cell (p := ⟨w.heap.size, 0, none⟩) hbs).trans hbox
        have hs6 := hb6.size
        rcases hor with ⟨hbad, rfl⟩ | ⟨b, sz, S, rfl, hmap, hinv, hcl⟩
        · have HBAD := Lib.hid hbad
          clear hbad hp hb6
          go_wp2
          go_ret3
          exact ⟨_, rfl, .inr (.inl ⟨HC.out, by simpa using U.unitsOf_bad HBAD.out, rfl⟩), HB6.out⟩
        · have HMAP := Lib.hid hmap
          have HINV := Lib.hid hinv
          have HFIN : Hid (U.unitsOf m cs A = some (litsK (U.pickB S) (m + 1))) := Lib.hid (by rw [U.unitsOf_closed hcl hinv.snd, lits_pickB])
          clear hmap hinv hcl hp hb6 hbox hbox1
          obtain ⟨i0, hi0, hz0, hz1, hz2⟩ := info_parts info3
          go_wp2
          go_loopw [11, 12] (fun o i wi => ∃ k : Nat, 1 ≤ k ∧ k ≤ m + 1 ∧ i = .int .i64 k ∧ OwnI wi w6.heap.size o (litsK (U.pickB S) k) ∧ Below w6.heap.size w6 wi) (fun _ i _ => m + 1 - (intOf i).toNat)
          case atStart =>
            refine ⟨1, Nat.le_refl _, by omega, rfl, ?_, Below.refl _ _⟩
            have : litsK (U.pickB S) 1 = [] := by simp [litsK, U.pickB, HINV.out.zero]
            rw [this]; exact OwnI.nil _ _
          case round =>
            obtain ⟨k, hk1, hk2, rfl, hown, hb⟩ := hrel
            have hxi := (hb.cell (p := ⟨w.heap.size, 0, none⟩) (by show w.heap.size < _; omega)).trans hx6
            have HB7 := Lib.hid (HB6.out.trans (hb.mono HB6.out.size))
            by_cases hle : (k : Int) ≤ (m : Int)
            · have hkI : I64 (k : Int) ∧ I64 (-(k : Int)) := by unfold I64; omega
              have hneg : IntKind.i64.wrap (-(k : Int)) = -(k : Int) := by simp only [IntKind.wrap_i64]; omega
              have hMi := HMAP.out.below hb
              have hl1 := hMi.look hkI.1
              have HS := Lib.hid (litsK_succ (U.pickB S) k)
              have hln := litsK_len (U.pickB S) k
              have hsz := hb.size
              obtain ⟨l, el⟩ : ∃ l, litsK (U.pickB S) k = l := ⟨_, rfl⟩
              rw [el] at hown hln HS
              have HO := Lib.hid hown
              clear el
              unfold OwnI at hown
              by_cases a1 : S (k : Int) = true
              · have a2 : S (-(k : Int)) = false := HINV.out.con _ a1
                rw [a1] at hl1
                have HS2 : Hid (litsK (U.pickB S) (k + 1) = l ++ [(k : Int)]) := Lib.hid (by
                  have e : U.pickB S k = (k : Int) := by simp [U.pickB, a1]
                  rw [HS.out, e, if_neg (by omega)])
                have HLK : Hid (∀ W, Below w6.heap.size w6 W → (Instr.lookup 89 (.map (some b)) (.int .i64 (-(k : Int))) false).run Tryd.prog W = .ok (.bool false) W) := Lib.hid fun W hW => by
                  have := (HMAP.out.below hW).look hkI.2
                  rw [a2] at this
                  exact this
                have hbL : b < w6.heap.size := HMAP.out.lt
                clear a1 a2 hkI hMi
                go_wp2_with (at_builtin; refine wpList_append_own _ rfl _ _ 23 rfl w6.heap.size 3 i0 (.int .i64 0) 1 8 Tryd.underlying23 hi0 hz0 hz1 hz2 rfl (by decide) _ _ _ rfl (hown.alloc _) ⟨wr.heap.size, 0, none⟩ 1 1 [.int .i64 (k : Int)] rfl rfl ?c1 ?c2 ?c3 ?c4 ?c5 ?_)
                case c1 =>
                  intro j u hj
                  match j, hj with
                  | 0, hj => simp at hj; subst hj; simp [Addr.add]
                case c2 => intro u hu; simp at hu; subst hu; rfl
                case c3 => unfold maxLen; omega
                case c4 => omega
                case c5 => simp; omega
                intro v' w7 hown' hgrow _
                have hlt2 := fun k hk => (hown.lt k hk).1
                have hb7 := (hb.alloc hb.size (.cells #[.int .i64 (k : Int)] 3)).grown hgrow (by simp; omega) hlt2
                have hl7 := HLK.out w7 hb7
                have HB8 := Lib.hid hb7
                have HO' := Lib.hid hown'
                clear hown hgrow hlt2 hown' hl1 hb hb7
                go_wp2
                go_roundw
                case rel => exact ⟨k + 1, by omega, by omega, by go_num, by rw [HS2.out]; unfold OwnI; simpa using HO'.out, HB8.out⟩
                case measure => simp [intOf]; omega
              · have a1 : S (k : Int) = false := by simpa using a1
                rw [a1] at hl1
                have hl2 := hMi.look hkI.2
                by_cases a2 : S (-(k : Int)) = true
                · rw [a2] at hl2
                  have HS2 : Hid (litsK (U.pickB S) (k + 1) = l ++ [-(k : Int)]) := Lib.hid (by
                    have e : U.pickB S k = -(k : Int) := by simp [U.pickB, a1, a2]
                    rw [HS.out, e, if_neg (by omega)])
                  clear a1 a2 hkI hMi
                  go_wp2_with (at_builtin; refine wpList_append_own _ rfl _ _ 23 rfl w6.heap.size 3 i0 (.int .i64 0) 1 8 Tryd.underlying23 hi0 hz0 hz1 hz2 rfl (by decide) _ _ _ rfl (hown.alloc _) ⟨wr.heap.size, 0, none⟩ 1 1 [.int .i64 (-(k : Int))] rfl rfl ?c1 ?c2 ?c3 ?c4 ?c5 ?_)
                  case c1 =>
                    intro j u hj
                    match j, hj with
                    | 0, hj => simp at hj; subst hj; simp [Addr.add]
                  case c2 => intro u hu; simp at hu; subst hu; rfl
                  case c3 => unfold maxLen; omega
                  case c4 => omega
                  case c5 => simp; omega
                  intro v' w7 hown' hgrow _
                  have hlt2 := fun k hk => (hown.lt k hk).1
                  have hb7 := (hb.alloc hb.size (.cells #[.int .i64 (-(k : Int))] 3)).grown hgrow (by simp; omega) hlt2
                  have HB8 := Lib.hid hb7
                  have HO' := Lib.hid hown'
                  clear hown hgrow hlt2 hown' hl1 hl2 hb hb7
                  go_wp2
                  go_roundw
                  case rel => exact ⟨k + 1, by omega, by omega, by go_num, by rw [HS2.out]; unfold OwnI; simpa using HO'.out, HB8.out⟩
                  case measure => simp [intOf]; omega
                · have a2 : S (-(k : Int)) = false := by simpa using a2
                  rw [a2] at hl2
                  have HS2 : Hid (litsK (U.pickB S) (k + 1) = l) := Lib.hid (by
                    have e : U.pickB S k = 0 := by simp [U.pickB, a1, a2]
                    rw [HS.out, e]; simp)
                  have HB8 := Lib.hid hb
                  clear a1 a2 hkI hMi hown hb
                  go_wp2
                  go_roundw
                  case rel => exact ⟨k + 1, by omega, by omega, by go_num, by rw [HS2.out]; exact HO.out, HB8.out⟩
                  case measure => simp [intOf]; omega
            · have HKE := Lib.hid (show k = m + 1 by omega)
              have HO := Lib.hid hown
              have HSZ := Lib.hid HB6.out.size
              clear hown hb
              go_wp2
              go_ret3
              exact ⟨_, rfl, .inr (.inr ⟨HC.out, _, _, by simpa using HFIN.out, rfl, owns_base (by rw [← HKE.out]; exact HO.out) HSZ.out⟩), HB7.out⟩
  · have HU : Hid (checkU n cs A ≠ 0) := Lib.hid (by unfold checkU; rw [if_pos h0]; exact h0)
    have e0 : checkU n cs A = checkF n cs := by unfold checkU; rw [if_pos h0]
    obtain ⟨r, er⟩ : ∃ r, checkF n cs = r := ⟨_, rfl⟩
    rw [er] at HF h0 e0
    have e1 : (r != (0 : Int)) = true := by simp [h0]
    have HE := Lib.hid e0
    clear hF er h0 e0 hl hl2 hn hcell hu h
    go_enter Tryd.func34, Tryd.ntmps34
    go_wp2_with fail
    refine (HF.out _ ((Below.refl _ _).alloc (Nat.le_refl _) _)).mono ?_
    rintro e w1 ⟨rfl, hb1⟩
    refine Hid.out ?_
    refine Lib.hid ?_
    have HB1 : Hid (Below w.heap.size w w1) := Lib.hid (((Below.refl _ w).alloc (Nat.le_refl _) _).trans (hb1.mono (by simp)))
    clear hb1
    go_wp2
    go_ret3
    exact ⟨_, rfl, .inl ⟨HU.out, by rw [HE.out]; rfl⟩, HB1.out⟩
end L
end Go.Proofs.YtfhodbnhaaiceaaDoor
end

/- Contracts of the reference's negatives, Fails and Implied. -/
section
namespace Go.Proofs.YtfhodbnhaaiceaaDoor
open Go.RowKit RA
namespace L
open K
set_option maxRecDepth 100000

theorem neg_succ (l : List Int) (k : Nat) (hk : k < l.length) : negL (l.take (k + 1)) = negL (l.take k) ++ [-(l.getD k 0)] := by
  rw [take_succ' l k hk]; simp [negL]

set_option maxHeartbeats 2000000 in
theorem rneg_any (v : Value) (l : List Int) (w : World) (h : Ints w v l) {m : Nat} (hm0 : m ≤ 1048576) (hval : U.Val m l) :
    Calls Tryd.prog 35 #[v] w fun e w' => ∃ v', e = .returned v' ∧ OwnI w' w.heap.size v' (negL l) ∧ Below w.heap.size w w' := by
  obtain ⟨p, c, rfl, hg, hm, hc⟩ := h
  obtain ⟨i0, hi, hz0, hz1, hz2⟩ := info_parts info3
  have HV := Lib.hid hval
  clear hval
  go_enter Tryd.func35, Tryd.ntmps35
  go_wp2
  go_loopw [3, 4] (fun o i wr => ∃ k : Nat, k ≤ l.length ∧ i = .int .i64 k ∧ wr.ownsRow w.heap.size 3 1 o k ((negL (l.take k)).map (Value.int .i64)) ∧ Below w.heap.size w wr) (fun _ i _ => l.length - (intOf i).toNat)
  case atStart => exact ⟨0, Nat.zero_le _, rfl, World.ownsRow_nil _ _ _ _, Below.refl _ _⟩
  case round =>
    obtain ⟨k, hk, rfl, hown, hb⟩ := hrel
    by_cases hlt : k < l.length
    · obtain ⟨b1, o1, rfl, e1⟩ := hc (by omega)
      have d1 := (hb.cell (p := ⟨b1, o1 + k, none⟩) (World.block_lt_of_cell? _ _ (e1 k hlt))).trans (e1 k hlt)
      have HT := Lib.hid (neg_succ l k hlt)
      have hxm := (HV.out (l.getD k 0) (by rw [List.getD_eq_getElem?_getD, List.getElem?_eq_getElem hlt]; exact List.getElem_mem hlt)).2
      clear hc e1
      generalize hx1 : l.getD k 0 = x1 at d1 HT hxm
      have HX1 := Lib.hid hx1
      have hw : wrap64 (-x1) = -x1 := by unfold wrap64; omega
      clear hx1 hxm
      go_wp2_with (at_builtin; refine wpList_append_own _ rfl _ _ 23 rfl w.heap.size 3 i0 (.int .i64 0) 1 8 Tryd.underlying23 hi hz0 hz1 hz2 rfl (by decide) _ _ _ rfl (hown.alloc _) ⟨wr.heap.size, 0, none⟩ 1 1 [.int .i64 (-x1)] rfl rfl ?c1 ?c2 ?c3 ?c4 ?c5 ?_)
      case c1 =>
        intro j u hj
        match j, hj with
        | 0, hj => simp at hj; subst hj; simp [Addr.add]
      case c2 => intro u hu; simp at hu; subst hu; rfl
      case c3 => unfold maxLen; omega
      case c4 => omega
      case c5 => have := hb.size; simp; omega
      intro v' w1 hown' hgrow _
      have hlt2 := fun k hk => (hown.lt k hk).1
      have hb' := (hb.alloc hb.size (.cells #[.int .i64 (-x1)] 3)).grown (by first | exact hgrow | (rw [hw] at hgrow; exact hgrow)) (by have := hb.size; simp; omega) hlt2
      clear hown hgrow
      go_wp2
      go_roundw
      case rel => exact ⟨k + 1, by omega, by go_num, by rw [HT.out]; simpa using hown', hb'⟩
      case measure => simp [intOf]; omega
    · have hkl : k = l.length := by omega
      subst hkl
      obtain ⟨po, co, rfl⟩ := owns_shape hown
      have hfin : OwnI wr w.heap.size (.slice po l.length co) (negL l) := by
        rw [List.take_length] at hown
        unfold OwnI
        rw [negL_len]
        exact hown
      go_wp2
      go_ret
      exact ⟨_, rfl, hfin, hb⟩

theorem rfails_any (cs : List (List Int)) (v : Value) (A : List Int) (u : Value) (w : World) {n : Nat} (hn : n ≤ 1048576) (hcs : cs.length ≤ 1048576) (hL : Lists w v cs) (hA : Ints w u A) (hv : ∀ c ∈ cs, U.Val n c) (hvA : U.Val n A) :
    Calls Tryd.prog 39 #[v, u] w fun e w' => (∃ b : Bool, e = .returned (.bool b) ∧ (b = true ↔ U.Bad cs A)) ∧ Below w.heap.size w w' := by
  have hp := rprop_any hn hcs v u hL hA hv hvA
  obtain ⟨p, c, rfl, _⟩ := id hL
  obtain ⟨p2, c2, rfl, _⟩ := id hA
  clear hL hA hv hvA
  go_enter Tryd.func39, Tryd.ntmps39
  go_wp2_with fail
  refine hp.mono ?_
  rintro e w1 ⟨(⟨hb, rfl⟩ | ⟨b, sz, S, rfl, hm, hi, hcl⟩), hbel⟩
  · have HB := Lib.hid hb
    clear hp hb
    go_wp2
    go_ret
    exact ⟨⟨_, rfl, by simpa using HB.out⟩, hbel⟩
  · have HB := Lib.hid hcl.good
    clear hp hm hi hcl
    go_wp2
    go_ret
    exact ⟨⟨_, rfl, by simpa using HB.out⟩, hbel⟩

set_option maxHeartbeats 8000000 in
theorem rimplied_any (n : Int) (v : Value) (F : List (List Int)) (vc : Value) (c : List Int) (w : World) (hn : I64 n) (hF : ∀ c ∈ F, ∀ x ∈ c, I64 x) (hL : Lists w v F) (hc : ∀ x ∈ c, I64 x) (hv : Ints w vc c) :
    Calls Tryd.prog 16 #[.agg #[.int .i64 n, v], vc] w fun e w' => e = .returned (.tuple #[.bool (impliedR n F c).1, .int .i64 (impliedR n F c).2]) ∧ Below w.heap.size w w' := by
  have h1 := fun W (hb : Below w.heap.size w W) => rfcheck_any n v F W hn hF (hL.below hb)
  have h2 := fun W (hb : Below w.heap.size w W) => rcheck_any n vc c W hn hc (hv.below hb)
  have h3 := fun W (hb : Below w.heap.size w W) (m : Nat) (hm : m ≤ 1048576) (hval : U.Val m c) => rneg_any vc c W (hv.below hb) hm hval
  have h4 := fun W (hb : Below w.heap.size w W) (u : Value) (A : List Int) (hA : ∀ x ∈ A, I64 x) (hu : Ints W u A) => runits_any n v F u A W hn hF (hL.below hb) hA hu
  obtain ⟨pv, cv, rfl, hx1⟩ := id hL
  obtain ⟨pc, cc, rfl, hx2⟩ := id hv
  have hlc : c.length * 8 ≤ 140737488351232 := hx2.2.1
  clear hx1 hx2
  obtain ⟨R, hR⟩ : ∃ R, impliedR n F c = R := ⟨_, rfl⟩
  rw [hR]
  have HR := Lib.hid hR
  have H2 := Lib.hid h2
  have H3 := Lib.hid h3
  have H4 := Lib.hid h4
  have hc1 := h1 (w.alloc (.cells #[.int .i64 n, .slice pv F.length cv] 26)) ((Below.refl _ _).alloc (Nat.le_refl _) _)
  clear h1 h2 h3 h4 hR hL hv
  go_enter Tryd.func16, Tryd.ntmps16
  obtain ⟨E1, hE1⟩ : ∃ E, checkF n F = E := ⟨_, rfl⟩
  obtain ⟨E2, hE2⟩ : ∃ E, checkE n c = E := ⟨_, rfl⟩
  rw [hE1] at hc1
  rw [hE2] at H2
  have HE1 := Lib.hid hE1
  have HE2 := Lib.hid hE2
  clear hE1 hE2
  go_wp2_with fail
  refine hc1.mono ?_
  rintro e w1 ⟨rfl, hb1⟩
  have hX1 : Box w1 w.heap.size 26 #[.int .i64 n, .slice pv F.length cv] := (Box.new _ _ _).below hb1 (by simp)
  have hB1 : Below w.heap.size w w1 := ((Below.refl _ w).alloc (Nat.le_refl _) _).trans (hb1.mono (by simp))
  have c0 := hX1.cell 0
  have c1 := hX1.cell 1
  simp only [List.getElem?_toArray, List.getElem?_cons_zero, List.getElem?_cons_succ] at c0 c1
  have HX1 := Lib.hid hX1
  have HB1 := Lib.hid hB1
  clear hc1 hb1 hX1 hB1
  by_cases e1 : E1 = 0
  · subst e1
    have hc2 := H2.out w1 HB1.out
    go_wp2_with fail
    refine hc2.mono ?_
    rintro e w1 ⟨rfl, rfl⟩
    clear hc2
    by_cases e2 : E2 = 0
    · subst e2
      have hr := checkF_range HE1.out
      obtain ⟨m, rfl⟩ : ∃ m : Nat, n = m := ⟨n.toNat, by omega⟩
      obtain ⟨hl4, hval⟩ := checkE_ok HE2.out
      have hmm : m ≤ 1048576 := by omega
      have HVAL := Lib.hid hval
      have HRR : Hid (∀ r w3 w4, UPost w3 w4 m F (negL c) r → ∃ vl b, r = .tuple #[vl, .bool b, .int .i64 0] ∧ R = (b, 0)) := Lib.hid fun r w3 w4 hu => by
        have hcu := checkU_valid HE1.out (negL_val HVAL.out)
        have hRd : ∀ b : Bool, (b = true ↔ Imp F c) → R = (b, 0) := fun b hb => by
          rw [← HR.out]; unfold impliedR; rw [if_neg (by simp [HE1.out]), if_neg (by simp [HE2.out])]
          congr 1
          cases b with
          | true => simpa using hb.1 rfl
          | false =>
            have hni : ¬ Imp F c := fun h => by have := hb.2 h; cases this
            simpa using hni
        rcases hu with ⟨hx, _⟩ | ⟨_, hx, rfl⟩ | ⟨_, l, vl, hx, rfl, _⟩
        · exact absurd hcu hx
        · refine ⟨_, true, rfl, hRd true ⟨fun _ => ?_, fun _ => rfl⟩⟩
          exact Classical.byContradiction fun hn => by rw [U.unitsOf_good hn] at hx; cases hx
        · refine ⟨_, false, rfl, hRd false ⟨fun h => (by cases h), fun hi => ?_⟩⟩
          simp only [Int.toNat_natCast] at hx; rw [U.unitsOf_bad hi] at hx; cases hx
      have hs1 := HX1.out.lt
      have HNI : Hid (∀ x ∈ negL c, I64 x) := Lib.hid (val_i64 hmm (negL_val hval))
      clear hval hr
      go_wp2
      go_region_held3 (fun w' => w'.cell? ⟨w.heap.size, 0, none⟩ = some (.int .i64 m) ∧ w'.cell? ⟨w.heap.size, 1, none⟩ = some (.slice pv F.length cv))
        (first
          | go_keep
          | (exact ⟨(hb3.cell (p := ⟨w.heap.size, 0, none⟩) (by show w.heap.size < w1.heap.size; omega)).trans c0, (hb3.cell (p := ⟨w.heap.size, 1, none⟩) (by show w.heap.size < w1.heap.size; omega)).trans c1⟩)
          | (exact ⟨((hb3.trans (hb4.mono hb3.size)).cell (p := ⟨w.heap.size, 0, none⟩) (by show w.heap.size < w1.heap.size; omega)).trans c0, ((hb3.trans (hb4.mono hb3.size)).cell (p := ⟨w.heap.size, 1, none⟩) (by show w.heap.size < w1.heap.size; omega)).trans c1⟩))
        (first
          | (go_at_call 35
             refine (H3.out _ (HB1.out.drew) m hmm HVAL.out).mono ?_
             rintro e w3 ⟨vc, rfl, hoc, hb3'⟩
             have hb3 : Below w1.heap.size w1 w3 := (Below.refl _ w1).drew.trans hb3')
          | (go_at_call 34
             refine (H4.out w3 (HB1.out.trans (hb3.mono HB1.out.size)) _ (negL c) HNI.out (OwnI.ints hoc (by rw [negL_len]; omega))).mono ?_
             rintro e w4 ⟨r, rfl, hp, hb4⟩
             obtain ⟨vl, b, rfl, hRb⟩ := HRR.out _ _ _ hp))
      have HB4 := Lib.hid (HB1.out.trans ((hb3.trans (hb4.mono hb3.size)).mono HB1.out.size))
      have HRB := Lib.hid hRb
      clear hp hb4 hb3 hb3' hoc hRb c0 c1
      go_wp2
      go_ret2
      exact ⟨by rw [HRB.out]; rfl, HB4.out⟩
    · have hne2 : (E2 != 0) = true := by simp [e2]
      have HE : Hid (R = (false, E2)) := Lib.hid (by rw [← HR.out]; unfold impliedR; rw [if_neg (by simp [HE1.out]), if_pos (by rw [HE2.out]; exact e2), HE2.out])
      clear e2
      go_wp2
      go_ret2
      exact ⟨by rw [HE.out]; rfl, HB1.out⟩
  · have hne1 : (E1 != 0) = true := by simp [e1]
    have HE : Hid (R = (false, E1)) := Lib.hid (by rw [← HR.out]; unfold impliedR; rw [if_pos (by rw [HE1.out]; exact e1), HE1.out])
    clear e1
    go_wp2
    go_ret2
    exact ⟨by rw [HE.out]; rfl, HB1.out⟩
end L
end Go.Proofs.YtfhodbnhaaiceaaDoor
end
