/- Contracts of literals and check. -/
import Derived.Test.YtoffhaamkhfdeaaCB
import Derived.Test.YtoffhaamkhfdeaaXC
namespace Go.Proofs.Ytoffhaamkhfdeaa
open Go.RowKit Go.Conc
namespace L
open K

/-- What is known of the first variables. -/
def litsK (kn : Nat → Int) (k : Nat) : List Int := ((List.range k).map kn).filter (· ≠ 0)
theorem litsK_succ (kn : Nat → Int) (k : Nat) : litsK kn (k + 1) = litsK kn k ++ (if kn k = 0 then [] else [kn k]) := by
  unfold litsK
  rw [List.range_succ, List.map_append, List.filter_append]
  congr 1
  by_cases h : kn k = 0
  · simp [h]
  · simp [h]
theorem litsK_len (kn : Nat → Int) (k : Nat) : (litsK kn k).length ≤ k := by
  unfold litsK
  exact Nat.le_trans (List.length_filter_le _ _) (by simp)

set_option maxHeartbeats 1000000 in
theorem literals_any {w : World} {p : Bl} {al : Nat → Value} {N : Nat} {vs : Int → Value} {s : U.St} (h : Mem w p al N vs s) :
    Calls Try.prog 30 #[.pointer (some ⟨p.pb, 0, none⟩)] w fun e w' => ∃ v, e = .returned v ∧ OwnI w' w.heap.size v (litsK s.kn (p.n + 1)) ∧ Below w.heap.size w w' := by
  obtain ⟨i0, hi, hz0, hz1, hz2⟩ := info_parts info3
  have hn := h.lim.1
  have hc0 := h.c.1
  have HK : Hid (∀ k, k ≤ p.n → w.cell? ⟨p.kb, k, none⟩ = some (.int .i64 (s.kn k))) := Lib.hid fun k hk => (h.k hk).1
  have hlt : p.pb < w.heap.size := h.box.lt
  clear h
  go_enter Try.func30, Try.ntmps30
  go_wp2
  go_loopw [3, 11] (fun o i wr => ∃ k : Nat, k ≤ p.n + 1 ∧ i = .int .i64 k ∧ OwnI wr w.heap.size o (litsK s.kn k) ∧ Below w.heap.size w wr) (fun _ i _ => p.n + 1 - (intOf i).toNat)
  case atStart => exact ⟨0, Nat.zero_le _, rfl, OwnI.nil _ _, Below.refl _ _⟩
  case round =>
    obtain ⟨k, hk, rfl, hown, hb⟩ := hrel
    by_cases hlt : k < p.n + 1
    · have hlt' : (k : Int) < (p.n : Int) + 1 := by omega
      have hk0 := HK.out k (by omega)
      have d1 := (hb.cell (p := ⟨p.kb, k, none⟩) (World.block_lt_of_cell? _ _ hk0)).trans hk0
      have HS := Lib.hid (litsK_succ s.kn k)
      have hln := litsK_len s.kn k
      clear hk0
      generalize hy : s.kn k = y at d1 HS
      have HY := Lib.hid hy
      clear hy
      by_cases hy0 : y = 0
      · have e : (y != (0 : Int)) = false := by simp [hy0]
        have HS2 : Hid (litsK s.kn (k + 1) = litsK s.kn k) := Lib.hid (by rw [HS.out, if_pos hy0]; simp)
        have HO := Lib.hid hown
        clear hy0 hown
        go_wp2
        go_roundw
        case rel => exact ⟨k + 1, by omega, by go_num, by rw [HS2.out]; exact HO.out, hb⟩
        case measure => simp [intOf]; omega
      · have e : (y != (0 : Int)) = true := by simp [hy0]
        have HS2 : Hid (litsK s.kn (k + 1) = litsK s.kn k ++ [y]) := Lib.hid (by rw [HS.out, if_neg hy0])
        clear hy0
        have hsz := hb.size
        obtain ⟨l, el⟩ : ∃ l, litsK s.kn k = l := ⟨_, rfl⟩
        rw [el] at hown hln HS2
        have HEL := Lib.hid el
        clear el HS
        unfold OwnI at hown
        go_wp2_with (at_builtin; refine wpList_append_own _ rfl _ _ 23 rfl w.heap.size 3 i0 (.int .i64 0) 1 8 Try.underlying23 hi hz0 hz1 hz2 rfl (by decide) _ _ _ rfl (hown.alloc _) ⟨wr.heap.size, 0, none⟩ 1 1 [.int .i64 y] rfl rfl ?c1 ?c2 ?c3 ?c4 ?c5 ?_)
        case c1 =>
          intro j u hj
          match j, hj with
          | 0, hj => simp at hj; subst hj; simp [Addr.add]
        case c2 => intro u hu; simp at hu; subst hu; rfl
        case c3 => unfold maxLen; omega
        case c4 => omega
        case c5 => simp; omega
        intro v' w1 hown' hgrow _
        have hlt2 := fun k hk => (hown.lt k hk).1
        have HB' := Lib.hid ((hb.alloc hb.size (.cells #[.int .i64 y] 3)).grown hgrow (by simp; omega) hlt2)
        have HO' := Lib.hid hown'
        clear hown hgrow hlt2 hown'
        go_wp2
        go_roundw
        case rel => exact ⟨k + 1, by omega, by go_num, by rw [HS2.out]; unfold OwnI; simpa using HO'.out, HB'.out⟩
        case measure => simp [intOf]; omega
    · have HKE := Lib.hid (show k = p.n + 1 by omega)
      have hlt' : ¬ (k : Int) < (p.n : Int) + 1 := by omega
      have HO := Lib.hid hown
      clear hown
      go_wp2
      go_ret
      exact ⟨_, rfl, by rw [← HKE.out]; exact HO.out, hb⟩

/-- The first error of a formula and assumptions. -/
def checkU (n : Int) (cs : List (List Int)) (l : List Int) : Int := if checkF n cs ≠ 0 then checkF n cs else if l.any (fun x => decide (x = 0) || decide (n < av x)) then 3 else 0
theorem checkE_one {n x : Int} (h : ¬ (n < 0 ∨ 1048576 < n)) : checkE n [x] = if decide (x = 0) || decide (n < av x) then 3 else 0 := by
  unfold checkE
  rw [if_neg h, if_neg (by simp)]
  simp
theorem checkF_range {n : Int} {cs : List (List Int)} (h : checkF n cs = 0) : ¬ (n < 0 ∨ 1048576 < n) := by
  intro h1
  unfold checkF at h
  rw [if_pos h1] at h
  cases h

set_option maxHeartbeats 2000000 in
theorem pcheck_any (n : Int) (v : Value) (cs : List (List Int)) (u : Value) (l : List Int) (w : World) (hn : I64 n) (hl : ∀ c ∈ cs, ∀ x ∈ c, I64 x) (h : Lists w v cs) (hl2 : ∀ x ∈ l, I64 x) (hu : Ints w u l) :
    Calls Try.prog 25 #[.agg #[.int .i64 n, v], u] w fun e w' => e = .returned (.int .i64 (checkU n cs l)) ∧ Below w.heap.size w w' := by
  obtain ⟨pu, cu, rfl, hcu, hml, hcell⟩ := hu
  have hF := fun W (hb : Below w.heap.size w W) => fcheck_any n v cs W hn hl (h.below hb)
  have HF := Lib.hid hF
  by_cases h0 : checkF n cs = 0
  · have e0 : checkU n cs l = if l.any (fun x => decide (x = 0) || decide (n < av x)) then 3 else 0 := by unfold checkU; rw [if_neg (by simp [h0])]
    obtain ⟨r, er⟩ : ∃ r, checkU n cs l = r := ⟨_, rfl⟩
    rw [er] at e0 ⊢
    have HR := Lib.hid e0
    clear e0 er
    have hrg := checkF_range h0
    rw [h0] at HF
    have HL2 := Lib.hid hl2
    have hnn : 0 ≤ n ∧ n ≤ 1048576 := by omega
    have HC : Hid (∀ (x : Int) (W : World) (g : Nat), W.cell? ⟨g, 0, none⟩ = some (.int .i64 x) → I64 x → Calls Try.prog 37 #[.int .i64 n, .slice (some ⟨g, 0, none⟩) 1 1] W fun e w' => e = .returned (.int .i64 (if decide (x = 0) || decide (n < av x) then 3 else 0)) ∧ W = w') := Lib.hid fun x W g hg hx => by
      have := check_any n (.slice (some ⟨g, 0, none⟩) 1 1) [x] W hn (by simpa using hx) ⟨some ⟨g, 0, none⟩, 1, rfl, by simp, by simp, fun _ => ⟨g, 0, rfl, fun j hj => by
        have : j = 0 := by simp at hj; exact hj
        subst this
        simpa using hg⟩⟩
      rw [checkE_one hrg] at this
      exact this
    clear hF h h0 hl hl2 hn hrg
    go_enter Try.func25, Try.ntmps25
    go_wp2_with fail
    refine (HF.out _ ((Below.refl _ _).alloc (Nat.le_refl _) _)).mono ?_
    rintro e w1 ⟨rfl, hb1⟩
    refine Hid.out ?_
    refine Lib.hid ?_
    have hb : Below w.heap.size w w1 := ((Below.refl _ w).alloc (Nat.le_refl _) _).trans (hb1.mono (by simp))
    have hbox : w1.cell? ⟨w.heap.size, 0, none⟩ = some (.int .i64 n) := (hb1.cell (p := ⟨w.heap.size, 0, none⟩) (by simp)).trans (by simp)
    have hs1 : w.heap.size < w1.heap.size := by have := hb1.size; simp at this; omega
    clear hb1
    go_wp2
    go_loopw [16] (fun i wr => ∃ k : Nat, k ≤ l.length ∧ i = .int .i64 k ∧ (∀ j, j < k → (decide (l.getD j 0 = 0) || decide (n < av (l.getD j 0))) = false) ∧ Below w.heap.size w wr ∧ wr.cell? ⟨w.heap.size, 0, none⟩ = some (.int .i64 n)) (fun i _ => l.length - (intOf i).toNat)
    case atStart => exact ⟨0, Nat.zero_le _, rfl, fun j hj => absurd hj (Nat.not_lt_zero _), hb, hbox⟩
    case round =>
      clear hb hbox hs1
      obtain ⟨k, hk, rfl, hno, hb, hbox⟩ := hrel
      have HE := Lib.hid hno
      clear hno
      by_cases hlt : k < l.length
      · have hlt' : (k : Int) < (l.length : Int) := by omega
        obtain ⟨b1, o1, rfl, e1⟩ := hcell (by omega)
        have d1 := (hb.cell (p := ⟨b1, o1 + k, none⟩) (World.block_lt_of_cell? _ _ (e1 k hlt))).trans (e1 k hlt)
        clear hcell e1
        obtain ⟨x, ex⟩ : ∃ x, l.getD k 0 = x := ⟨_, rfl⟩
        rw [ex] at d1
        have hxI : I64 x := HL2.out x (by rw [← ex]; exact mem_getD hlt)
        have HX := Lib.hid ex
        clear ex
        have hb' := hb.alloc hb.size (.cells #[.int .i64 x] 3)
        have hbox' : (wr.alloc (.cells #[.int .i64 x] 3)).cell? ⟨w.heap.size, 0, none⟩ = some (.int .i64 n) := (((Below.refl _ wr).alloc (Nat.le_refl _) _).cell (p := ⟨w.heap.size, 0, none⟩) (World.block_lt_of_cell? _ _ hbox)).trans hbox
        have hcc := HC.out x (wr.alloc (.cells #[.int .i64 x] 3)) wr.heap.size (by simp) hxI
        have HB' := Lib.hid hb'
        have HBX' := Lib.hid hbox'
        clear hb' hbox' hb
        generalize hbad : (decide (x = 0) || decide (n < av x)) = bad at hcc
        have HBAD := Lib.hid hbad
        clear hbad
        cases bad with
        | false =>
          go_wp2_with fail
          refine hcc.mono ?_
          rintro e w2 ⟨rfl, hw2⟩
          subst hw2
          refine Hid.out ?_
          refine Lib.hid ?_
          clear hcc
          go_wp2
          go_roundw
          case rel =>
            refine ⟨k + 1, by omega, by go_num, fun j hj => ?_, HB'.out, HBX'.out⟩
            by_cases e : j = k
            · rw [e, HX.out]; exact HBAD.out
            · exact HE.out j (by omega)
          case measure => simp [intOf]; omega
        | true =>
          go_wp2_with fail
          refine hcc.mono ?_
          rintro e w2 ⟨rfl, hw2⟩
          subst hw2
          refine Hid.out ?_
          refine Lib.hid ?_
          clear hcc
          go_wp2
          go_ret
          have h1 := any_at (p := fun x => decide (x = 0) || decide (n < av x)) hlt (by rw [HX.out]; exact HBAD.out)
          exact ⟨ret_int (by rw [HR.out, if_pos h1]), HB'.out⟩
      · have hlt' : ¬ (k : Int) < (l.length : Int) := by omega
        have HKE := Lib.hid (show l.length ≤ k by omega)
        clear hcell
        go_wp2
        go_ret
        have h1 := any_upto (p := fun x => decide (x = 0) || decide (n < av x)) HE.out HKE.out
        exact ⟨ret_int (by rw [HR.out, h1]; rfl), hb⟩
  · have e0 : checkU n cs l = checkF n cs := by unfold checkU; rw [if_pos h0]
    rw [e0]
    clear hF h e0 hl hl2 hn hcell
    generalize checkF n cs = r at *
    have e1 : (r != (0 : Int)) = true := by simp [h0]
    clear h0
    go_enter Try.func25, Try.ntmps25
    go_wp2_with fail
    refine (HF.out _ ((Below.refl _ _).alloc (Nat.le_refl _) _)).mono ?_
    rintro e w1 ⟨rfl, hb1⟩
    refine Hid.out ?_
    refine Lib.hid ?_
    have HB : Hid (Below w.heap.size w w1) := Lib.hid (((Below.refl _ w).alloc (Nat.le_refl _) _).trans (hb1.mono (by simp)))
    clear hb1
    go_wp2
    go_ret
    exact ⟨rfl, HB.out⟩
end L
end Go.Proofs.Ytoffhaamkhfdeaa
