/- Contract of the reference's Units. -/
import Derived.Test.YtoffhaamkhfdeaaRO
import Derived.Test.YtoffhaamkhfdeaaCU
import Derived.Test.YtoffhaamkhfdeaaXD
namespace Go.Proofs.Ytoffhaamkhfdeaa
open Go.RowKit Go.Conc
namespace L
open K

theorem lits_pickB (n : Nat) (S : Int → Bool) : U.lits n (fun y => S y = true) = litsK (U.pickB S) (n + 1) := by
  unfold U.lits litsK
  congr 1
  apply List.map_congr_left
  intro v _
  unfold U.pickL U.pickB
  by_cases h1 : S (v : Int) = true
  · simp [h1]
  · by_cases h2 : S (-(v : Int)) = true
    · simp [h1, h2]
    · simp [h1, h2]
theorem badX {n : Nat} {x : Int} : (decide (x = 0) || decide ((n : Int) < av x)) = false ↔ x ≠ 0 ∧ x ≤ n ∧ -(n : Int) ≤ x := by
  unfold av
  by_cases h : x < 0
  · rw [if_pos h]; simp; omega
  · rw [if_neg h]; simp; omega

set_option maxHeartbeats 4000000 in
theorem runits_any (n : Int) (v : Value) (cs : List (List Int)) (u : Value) (A : List Int) (w : World) (hn : I64 n) (hl : ∀ c ∈ cs, ∀ x ∈ c, I64 x) (h : Lists w v cs) (hl2 : ∀ x ∈ A, I64 x) (hu : Ints w u A) :
    Calls Try.prog 15 #[.agg #[.int .i64 n, v], u] w fun e w' => ∃ r, e = .returned r ∧ UPost w w' n cs A r ∧ Below w.heap.size w w' := by
  obtain ⟨pu, cu, rfl, hcu, hml, hcell⟩ := id hu
  obtain ⟨pv, cv, rfl, hcv, hmv, _⟩ := id h
  have hF := fun W (hb : Below w.heap.size w W) => rfcheck_any n (.slice pv cs.length cv) cs W hn hl (h.below hb)
  have HF := Lib.hid hF
  by_cases h0 : checkF n cs = 0
  · have e0 : checkU n cs A = if A.any (fun x => decide (x = 0) || decide (n < av x)) then 3 else 0 := by unfold checkU; rw [if_neg (by simp [h0])]
    have hrg := checkF_range h0
    rw [h0] at HF
    obtain ⟨m, rfl⟩ : ∃ m : Nat, n = m := ⟨n.toNat, by omega⟩
    obtain ⟨hm, hcs, hv⟩ := checkF_ok h0
    have HV := Lib.hid hv
    have HE0 := Lib.hid e0
    have HL := Lib.hid h
    have HU := Lib.hid hu
    have HCELL := Lib.hid hcell
    have HL2 := Lib.hid hl2
    have hnegm : IntKind.i64.wrap (-(m : Int)) = -(m : Int) := by simp only [IntKind.wrap_i64]; omega
    clear hF h h0 e0 hl hl2 hn hrg hu hv hcell
    go_enter Try.func15, Try.ntmps15
    go_wp2_with fail
    refine (HF.out _ ((Below.refl _ _).alloc (Nat.le_refl _) _)).mono ?_
    rintro e w1 ⟨rfl, hb1⟩
    refine Hid.out ?_
    refine Lib.hid ?_
    have hb : Below w.heap.size w w1 := ((Below.refl _ w).alloc (Nat.le_refl _) _).trans (hb1.mono (by simp))
    have hbox : w1.cell? ⟨w.heap.size, 0, none⟩ = some (.int .i64 m) := (hb1.cell (p := ⟨w.heap.size, 0, none⟩) (by simp)).trans (by simp)
    have hbox1 : w1.cell? ⟨w.heap.size, 1, none⟩ = some (.slice pv cs.length cv) := (hb1.cell (p := ⟨w.heap.size, 1, none⟩) (by simp)).trans (by simp)
    have hs1 : w.heap.size < w1.heap.size := by have := hb1.size; simp at this; omega
    clear hb1
    go_wp2
    go_loopw [8] (fun i wr => ∃ k : Nat, k ≤ A.length ∧ i = .int .i64 k ∧ (∀ j, j < k → (decide (A.getD j 0 = 0) || decide ((m : Int) < av (A.getD j 0))) = false) ∧ Below w.heap.size w wr ∧ wr.cell? ⟨w.heap.size, 0, none⟩ = some (.int .i64 m) ∧ wr.cell? ⟨w.heap.size, 1, none⟩ = some (.slice pv cs.length cv)) (fun i _ => A.length - (intOf i).toNat)
    case atStart => exact ⟨0, Nat.zero_le _, rfl, fun j hj => absurd hj (Nat.not_lt_zero _), hb, hbox, hbox1⟩
    case round =>
      clear hb hbox hs1 hbox1
      obtain ⟨k, hk, rfl, hno, hb, hbox, hbox1⟩ := hrel
      have HE := Lib.hid hno
      have HB := Lib.hid hb
      clear hno
      by_cases hlt : k < A.length
      · have hlt' : (k : Int) < (A.length : Int) := by omega
        obtain ⟨b1, o1, rfl, e1⟩ := HCELL.out (by omega)
        have d1 := (hb.cell (p := ⟨b1, o1 + k, none⟩) (World.block_lt_of_cell? _ _ (e1 k hlt))).trans (e1 k hlt)
        clear e1
        obtain ⟨x, ex⟩ : ∃ x, A.getD k 0 = x := ⟨_, rfl⟩
        rw [ex] at d1
        have HX := Lib.hid ex
        clear ex hb
        have HBAD : Hid (¬ (x ≠ 0 ∧ x ≤ m ∧ -(m : Int) ≤ x) → checkU (m : Int) cs A = 3) := Lib.hid fun h1 => by
          have h2 := any_at (p := fun x => decide (x = 0) || decide ((m : Int) < av x)) hlt (by
            rw [HX.out]
            cases e : (decide (x = 0) || decide ((m : Int) < av x))
            · exact absurd (badX.1 e) h1
            · rfl)
          rw [HE0.out, h2]; rfl
        by_cases a1 : x = 0
        · have e1 : (x == (0 : Int)) = true := by simp [a1]
          have HC := Lib.hid (HBAD.out (fun h => h.1 a1))
          clear a1
          go_wp2
          go_quiet (fail)
          go_wp2
          go_ret3
          exact ⟨_, rfl, .inl ⟨by rw [HC.out]; decide, by rw [HC.out]; rfl⟩, below_drewN HB.out _⟩
        · have e1 : (x == (0 : Int)) = false := by simp [a1]
          by_cases a2 : (m : Int) < x
          · have HC := Lib.hid (HBAD.out (fun h => by omega))
            clear a1
            go_wp2
            go_quiet (fail)
            go_wp2
            go_ret3
            exact ⟨_, rfl, .inl ⟨by rw [HC.out]; decide, by rw [HC.out]; rfl⟩, below_drewN HB.out _⟩
          · by_cases a3 : x < -(m : Int)
            · have HC := Lib.hid (HBAD.out (fun h => by omega))
              clear a1
              go_wp2
              go_quiet (fail)
              go_wp2
              go_ret3
              exact ⟨_, rfl, .inl ⟨by rw [HC.out]; decide, by rw [HC.out]; rfl⟩, below_drewN HB.out _⟩
            · have HG : Hid ((decide (x = 0) || decide ((m : Int) < av x)) = false) := Lib.hid (badX.2 ⟨a1, by omega, by omega⟩)
              clear a1
              go_wp2
              go_quiet (fail)
              go_wp2
              go_roundw
              case rel =>
                refine ⟨k + 1, by omega, by go_num, fun j hj => ?_, below_drewN HB.out _, hbox, hbox1⟩
                by_cases e : j = k
                · rw [e, HX.out]; exact HG.out
                · exact HE.out j (by omega)
              case measure => simp [intOf]; omega
      · have hlt' : ¬ (k : Int) < (A.length : Int) := by omega
        have hany := any_upto (p := fun x => decide (x = 0) || decide ((m : Int) < av x)) HE.out (show A.length ≤ k by omega)
        have HC : Hid (checkU (m : Int) cs A = 0) := Lib.hid (by rw [HE0.out, hany]; rfl)
        have hvA := val_of_any hany
        have hp := rprop_any (w := wr) hm hcs (.slice pv cs.length cv) (.slice pu A.length cu) (HL.out.below hb) (HU.out.below hb) HV.out hvA
        have hbs : w.heap.size < wr.heap.size := World.block_lt_of_cell? _ _ hbox
        clear hany hvA hb
        go_wp2_with fail
        refine hp.mono ?_
        rintro e w6 hpost
        unfold RPPost at hpost
        obtain ⟨hor, hb6⟩ := hpost
        refine Hid.out ?_
        refine Lib.hid ?_
        have HB6 := Lib.hid (HB.out.trans (hb6.mono HB.out.size))
        have hx6 := (hb6.cell (p := ⟨w.heap.size, 0, none⟩) hbs).trans hbox
        have hs6 := hb6.size
        rcases hor with ⟨hbad, rfl⟩ | ⟨b, sz, S, rfl, hmap, hinv, hcl⟩
        · have HBAD := Lib.hid hbad
          clear hbad hp hb6
          go_wp2
          go_ret3
          exact ⟨_, rfl, .inr (.inl ⟨HC.out, by simpa using U.unitsOf_bad HBAD.out, rfl⟩), HB6.out⟩
        · have HMAP := Lib.hid hmap
          have HINV := Lib.hid hinv
          have HFIN : Hid (U.unitsOf m cs A = some (litsK (U.pickB S) (m + 1))) := Lib.hid (by rw [U.unitsOf_closed hcl hinv.snd, lits_pickB])
          clear hmap hinv hcl hp hb6 hbox hbox1
          obtain ⟨i0, hi0, hz0, hz1, hz2⟩ := info_parts info3
          go_wp2
          go_loopw [11, 12] (fun o i wi => ∃ k : Nat, 1 ≤ k ∧ k ≤ m + 1 ∧ i = .int .i64 k ∧ OwnI wi w6.heap.size o (litsK (U.pickB S) k) ∧ Below w6.heap.size w6 wi) (fun _ i _ => m + 1 - (intOf i).toNat)
          case atStart =>
            refine ⟨1, Nat.le_refl _, by omega, rfl, ?_, Below.refl _ _⟩
            have : litsK (U.pickB S) 1 = [] := by simp [litsK, U.pickB, HINV.out.zero]
            rw [this]; exact OwnI.nil _ _
          case round =>
            obtain ⟨k, hk1, hk2, rfl, hown, hb⟩ := hrel
            have hxi := (hb.cell (p := ⟨w.heap.size, 0, none⟩) (by show w.heap.size < _; omega)).trans hx6
            have HB7 := Lib.hid (HB6.out.trans (hb.mono HB6.out.size))
            by_cases hle : (k : Int) ≤ (m : Int)
            · have hkI : I64 (k : Int) ∧ I64 (-(k : Int)) := by unfold I64; omega
              have hneg : IntKind.i64.wrap (-(k : Int)) = -(k : Int) := by simp only [IntKind.wrap_i64]; omega
              have hMi := HMAP.out.below hb
              have hl1 := hMi.look hkI.1
              have HS := Lib.hid (litsK_succ (U.pickB S) k)
              have hln := litsK_len (U.pickB S) k
              have hsz := hb.size
              obtain ⟨l, el⟩ : ∃ l, litsK (U.pickB S) k = l := ⟨_, rfl⟩
              rw [el] at hown hln HS
              have HO := Lib.hid hown
              clear el
              unfold OwnI at hown
              by_cases a1 : S (k : Int) = true
              · have a2 : S (-(k : Int)) = false := HINV.out.con _ a1
                rw [a1] at hl1
                have HS2 : Hid (litsK (U.pickB S) (k + 1) = l ++ [(k : Int)]) := Lib.hid (by
                  have e : U.pickB S k = (k : Int) := by simp [U.pickB, a1]
                  rw [HS.out, e, if_neg (by omega)])
                have HLK : Hid (∀ W, Below w6.heap.size w6 W → (Instr.lookup 62 (.map (some b)) (.int .i64 (-(k : Int))) false).run Try.prog W = .ok (.bool false) W) := Lib.hid fun W hW => by
                  have := (HMAP.out.below hW).look hkI.2
                  rw [a2] at this
                  exact this
                have hbL : b < w6.heap.size := HMAP.out.lt
                clear a1 a2 hkI hMi
                go_wp2_with (at_builtin; refine wpList_append_own _ rfl _ _ 23 rfl w6.heap.size 3 i0 (.int .i64 0) 1 8 Try.underlying23 hi0 hz0 hz1 hz2 rfl (by decide) _ _ _ rfl (hown.alloc _) ⟨wr.heap.size, 0, none⟩ 1 1 [.int .i64 (k : Int)] rfl rfl ?c1 ?c2 ?c3 ?c4 ?c5 ?_)
                case c1 =>
                  intro j u hj
                  match j, hj with
                  | 0, hj => simp at hj; subst hj; simp [Addr.add]
                case c2 => intro u hu; simp at hu; subst hu; rfl
                case c3 => unfold maxLen; omega
                case c4 => omega
                case c5 => simp; omega
                intro v' w7 hown' hgrow _
                have hlt2 := fun k hk => (hown.lt k hk).1
                have hb7 := (hb.alloc hb.size (.cells #[.int .i64 (k : Int)] 3)).grown hgrow (by simp; omega) hlt2
                have hl7 := HLK.out w7 hb7
                have HB8 := Lib.hid hb7
                have HO' := Lib.hid hown'
                clear hown hgrow hlt2 hown' hl1 hb hb7
                go_wp2
                go_roundw
                case rel => exact ⟨k + 1, by omega, by omega, by go_num, by rw [HS2.out]; unfold OwnI; simpa using HO'.out, HB8.out⟩
                case measure => simp [intOf]; omega
              · have a1 : S (k : Int) = false := by simpa using a1
                rw [a1] at hl1
                have hl2 := hMi.look hkI.2
                by_cases a2 : S (-(k : Int)) = true
                · rw [a2] at hl2
                  have HS2 : Hid (litsK (U.pickB S) (k + 1) = l ++ [-(k : Int)]) := Lib.hid (by
                    have e : U.pickB S k = -(k : Int) := by simp [U.pickB, a1, a2]
                    rw [HS.out, e, if_neg (by omega)])
                  clear a1 a2 hkI hMi
                  go_wp2_with (at_builtin; refine wpList_append_own _ rfl _ _ 23 rfl w6.heap.size 3 i0 (.int .i64 0) 1 8 Try.underlying23 hi0 hz0 hz1 hz2 rfl (by decide) _ _ _ rfl (hown.alloc _) ⟨wr.heap.size, 0, none⟩ 1 1 [.int .i64 (-(k : Int))] rfl rfl ?c1 ?c2 ?c3 ?c4 ?c5 ?_)
                  case c1 =>
                    intro j u hj
                    match j, hj with
                    | 0, hj => simp at hj; subst hj; simp [Addr.add]
                  case c2 => intro u hu; simp at hu; subst hu; rfl
                  case c3 => unfold maxLen; omega
                  case c4 => omega
                  case c5 => simp; omega
                  intro v' w7 hown' hgrow _
                  have hlt2 := fun k hk => (hown.lt k hk).1
                  have hb7 := (hb.alloc hb.size (.cells #[.int .i64 (-(k : Int))] 3)).grown hgrow (by simp; omega) hlt2
                  have HB8 := Lib.hid hb7
                  have HO' := Lib.hid hown'
                  clear hown hgrow hlt2 hown' hl1 hl2 hb hb7
                  go_wp2
                  go_roundw
                  case rel => exact ⟨k + 1, by omega, by omega, by go_num, by rw [HS2.out]; unfold OwnI; simpa using HO'.out, HB8.out⟩
                  case measure => simp [intOf]; omega
                · have a2 : S (-(k : Int)) = false := by simpa using a2
                  rw [a2] at hl2
                  have HS2 : Hid (litsK (U.pickB S) (k + 1) = l) := Lib.hid (by
                    have e : U.pickB S k = 0 := by simp [U.pickB, a1, a2]
                    rw [HS.out, e]; simp)
                  have HB8 := Lib.hid hb
                  clear a1 a2 hkI hMi hown hb
                  go_wp2
                  go_roundw
                  case rel => exact ⟨k + 1, by omega, by omega, by go_num, by rw [HS2.out]; exact HO.out, HB8.out⟩
                  case measure => simp [intOf]; omega
            · have HKE := Lib.hid (show k = m + 1 by omega)
              have HO := Lib.hid hown
              have HSZ := Lib.hid HB6.out.size
              clear hown hb
              go_wp2
              go_ret3
              exact ⟨_, rfl, .inr (.inr ⟨HC.out, _, _, by simpa using HFIN.out, rfl, owns_base (by rw [← HKE.out]; exact HO.out) HSZ.out⟩), HB7.out⟩
  · have HU : Hid (checkU n cs A ≠ 0) := Lib.hid (by unfold checkU; rw [if_pos h0]; exact h0)
    have e0 : checkU n cs A = checkF n cs := by unfold checkU; rw [if_pos h0]
    obtain ⟨r, er⟩ : ∃ r, checkF n cs = r := ⟨_, rfl⟩
    rw [er] at HF h0 e0
    have e1 : (r != (0 : Int)) = true := by simp [h0]
    have HE := Lib.hid e0
    clear hF er h0 e0 hl hl2 hn hcell hu h
    go_enter Try.func15, Try.ntmps15
    go_wp2_with fail
    refine (HF.out _ ((Below.refl _ _).alloc (Nat.le_refl _) _)).mono ?_
    rintro e w1 ⟨rfl, hb1⟩
    refine Hid.out ?_
    refine Lib.hid ?_
    have HB1 : Hid (Below w.heap.size w w1) := Lib.hid (((Below.refl _ w).alloc (Nat.le_refl _) _).trans (hb1.mono (by simp)))
    clear hb1
    go_wp2
    go_ret3
    exact ⟨_, rfl, .inl ⟨HU.out, by rw [HE.out]; rfl⟩, HB1.out⟩
end L
end Go.Proofs.Ytoffhaamkhfdeaa
