/- Several texts, joined. -/
import Derived.Test.YtlkhabdpancjjaaDoorQ01
import Derived.Test.YtlkhabdpancjjaaDoorQ02
import Derived.RangeFuncNested
import Derived.RangeFuncBound
import Derived.RangeFuncCalls
import Derived.RangeFuncLeaves
import Derived.Shelf.Abstract
import Derived.Shelf.RegionOpen
import Derived.WalkKit
import Derived.OwnWalkIn
import Derived.TacticsInMore
import Derived.LoopNIn
import Derived.LoopIn

/- Contract of dimacs.number. -/
section
namespace Go.Proofs.YtlkhabdpancjjaaDoor
open Go.RowKit PA
namespace L
open K

theorem data_eq {a b : ByteArray} (h : a.data.toList = b.data.toList) : a = b := by
  cases a; cases b; simp only [ByteArray.mk.injEq] at h ⊢; exact Array.toList_inj.1 h
theorem byte_at (D : ByteArray) (k : Nat) (h : k < D.size) : D[k] = D.data.toList.getD k 0 := by
  rw [List.getD_eq_getElem?_getD, Lib.data_getElem? D k h]; rfl
theorem ret_nb {n m : Int} {a b : Bool} (h : (n, a) = (m, b)) : Ending.returned (.tuple #[.int .i64 n, .bool a]) = .returned (.tuple #[.int .i64 m, .bool b]) := by cases h; rfl

theorem head_getD {l : List UInt8} (h : 0 < l.length) : l.head? = some (l.getD 0 0) := by
  cases l with
  | nil => simp at h
  | cons a t => rfl
theorem num_step (D : List UInt8) (k : Nat) (hk : k < D.length) (_ : digB (D.getD k 0) = true) : Hid (clampF 1048577 0 (D.take (k + 1)) = min (10 * clampF 1048577 0 (D.take k) + (((D.getD k 0).toNat : Int) - 48)) 1048577) := by
  show _ = _
  rw [take_snoc hk, clamp_snoc]

set_option maxHeartbeats 2000000 in
theorem number_any (s : ByteArray) (w : World) (hs : s.size ≤ 9223372036854775807) :
    Calls Tryd.prog 57 #[.string s] w fun e w' => e = .returned (.tuple #[.int .i64 (numM 1048577 s.data.toList).1, .bool (numM 1048577 s.data.toList).2]) ∧ w = w' := by
  obtain ⟨n, hn⟩ : ∃ n, Lib.hasPrefix s.data.toList [45] = n := ⟨_, rfl⟩
  obtain ⟨D, hD⟩ : ∃ D : ByteArray, (⟨(Lib.trimPrefix s.data.toList [45]).toArray⟩ : ByteArray) = D := ⟨_, rfl⟩
  have hDl : D.data.toList = Lib.trimPrefix s.data.toList [45] := by rw [← hD]
  have hDs : D.size ≤ s.size := by
    rw [Lib.size_eq, Lib.size_eq, hDl]; unfold Lib.trimPrefix; split <;> simp
  have hc := Tryd.strings_CutPrefix s ⟨#[45]⟩ w
  rw [show (⟨#[45]⟩ : ByteArray).data.toList = [45] from rfl, hD, hn] at hc
  obtain ⟨x, hx⟩ : ∃ x, numM 1048577 s.data.toList = x := ⟨_, rfl⟩
  rw [hx]
  have HX := Lib.hid hx
  have HN := Lib.hid hn
  have HDL := Lib.hid hDl
  have HLEN : Hid (D.size = D.data.toList.length) := Lib.size_eq D
  clear hD hn hDl hx
  have bad : Hid ((formB s.data.toList D.data.toList = false ∨ D.data.toList.all digB = false) → ((0 : Int), false) = (x.1, x.2)) := fun h => by
    rw [← HX.out]; exact (num_false (by rw [← HDL.out]; exact h)).symm
  go_enter Tryd.func57, Tryd.ntmps57
  go_wp2_with fail
  refine hc.mono ?_
  rintro e w1 ⟨rfl, rfl⟩
  clear hc
  by_cases hz : D.size = 0
  · have h1 : D.data.toList = [] := List.eq_nil_of_length_eq_zero (by rw [← HLEN.out]; exact hz)
    have B1 : Hid (((0 : Int), false) = (x.1, x.2)) := bad.out (.inl (by rw [h1]; rfl))
    have h2 : D.toList = [] := by rw [ByteArray.toList_eq]; exact h1
    have h3 : D.toList.isEmpty = true := by rw [h2]; rfl
    clear h1
    go_wp2
    go_ret2
    exact ⟨ret_nb B1.out, rfl⟩
  have hz0 : 0 < D.size := by omega
  have hne : ¬ D.toList = [] := by rw [ByteArray.toList_eq]; intro h; have := HLEN.out; rw [h, List.length_nil] at this; omega
  have hie : D.toList.isEmpty = false := by simpa using hne
  have h0d : D[0] = D.data.toList.getD 0 0 := byte_at D 0 hz0
  have hh : D.data.toList.head? = some (D.data.toList.getD 0 0) := head_getD (by rw [← HLEN.out]; exact hz0)
  have hdn : decide (D.data.toList = []) = false := by
    rw [decide_eq_false_iff_not]; intro h; have := HLEN.out; rw [h, List.length_nil] at this; omega
  have HH := Lib.hid hh
  have HDN := Lib.hid hdn
  have H0 := Lib.hid h0d
  clear hh hdn h0d
  by_cases h48 : ((D[0].toNat : Int)) = 48
  · have e48 : Hid (D.data.toList.getD 0 0 = 48) := by
      have h : D[0].toNat = 48 := by omega
      have h' := H0.out
      rw [h'] at h
      exact UInt8.toNat_inj.1 h
    by_cases hw : s.toList = [48]
    · have hform : Hid (formB s.data.toList D.data.toList = true) := Lib.hid (by
        unfold formB; rw [HDN.out, HH.out, ← ByteArray.toList_eq s, hw]; simp)
      have good : Hid (D.data.toList.all digB = true → (if n then - clampF 1048577 0 D.data.toList else clampF 1048577 0 D.data.toList, true) = (x.1, x.2)) := fun h => by
        rw [← HX.out]; exact (num_true (HDL.out).symm HN.out hform.out h).symm
      have hw1 : (s.toList == [48]) = true := by simpa using hw
      have hw2 : (!s.toList == [48]) = false := by simpa using hw
      have HWW := Lib.hid hw
      clear hw
      go_wp2
      go_loop [6, 26] (fun a i => ∃ k : Nat, k ≤ D.size ∧ i = .int .i64 k ∧ a = .int .i64 (clampF 1048577 0 (D.data.toList.take k)) ∧ ∀ j, j < k → digB (D.data.toList.getD j 0) = true) (fun _ i => D.size - (intOf i).toNat)
      case atStart => exact ⟨0, Nat.zero_le _, rfl, rfl, fun j hj => absurd hj (Nat.not_lt_zero _)⟩
      case round =>
        obtain ⟨k, hk, rfl, rfl, hdig⟩ := hrel
        have HG := Lib.hid hdig
        have hcb := clamp_bound (M := 1048577) (x := 0) (by omega) (by omega) (by omega) (take_dig (by rw [← HLEN.out]; exact hk) hdig)
        clear hdig
        by_cases hlt : k < D.size
        · have hltl : k < D.data.toList.length := by rw [← HLEN.out]; exact hlt
          have hbk := byte_at D k hlt
          have HBK := Lib.hid hbk
          clear hbk
          have hstep := num_step D.data.toList k hltl
          have HST := Lib.hid hstep
          clear hstep
          have hnx : ¬ digB (D.data.toList.getD k 0) = true → D.data.toList.all digB = false := fun h => all_not hltl (by simpa using h)
          have HNX := Lib.hid hnx
          clear hnx
          generalize hC : clampF 1048577 0 (D.data.toList.take k) = C at *
          have HC := Lib.hid hC
          clear hC
          by_cases hd : 48 ≤ (D[k].toNat : Int) ∧ (D[k].toNat : Int) ≤ 57
          · have hdb : Hid (digB (D.data.toList.getD k 0) = true) := Lib.hid ((digB_iff _).2 (by rw [← HBK.out]; exact hd))
            obtain ⟨hd1, hd2⟩ := hd
            go_wp2
            go_round
            case rel =>
              refine ⟨k + 1, by omega, by go_num, ?_, fun j hj => ?_⟩
              · rw [HST.out hdb.out, ← HBK.out]
              · by_cases hjk : j = k
                · rw [hjk]; exact hdb.out
                · exact HG.out j (by omega)
            case measure => simp [intOf]; omega
          · have hdb : Hid (¬ digB (D.data.toList.getD k 0) = true) := Lib.hid (by rw [digB_iff, ← HBK.out]; exact hd)
            have B1 : Hid (((0 : Int), false) = (x.1, x.2)) := bad.out (.inr (HNX.out hdb.out))
            by_cases hd1 : (D[k].toNat : Int) < 48
            · go_wp2
              go_ret2
              exact ⟨ret_nb B1.out, rfl⟩
            · have hd2 : 57 < (D[k].toNat : Int) := by omega
              go_wp2
              go_ret2
              exact ⟨ret_nb B1.out, rfl⟩
        · obtain rfl : k = D.size := by omega
          have e : Hid (D.data.toList.take D.size = D.data.toList) := Lib.hid (List.take_of_length_le (by rw [← HLEN.out]; exact Nat.le_refl _))
          have ha := good.out (all_at (fun j hj => HG.out j (by rw [HLEN.out]; exact hj)))
          rw [e.out]
          rw [e.out] at hcb
          have HA := Lib.hid ha
          clear ha
          generalize hC : clampF 1048577 0 D.data.toList = C at *
          cases n with
          | true =>
            go_wp2
            go_ret2
            exact ⟨ret_nb HA.out, rfl⟩
          | false =>
            go_wp2
            go_ret2
            exact ⟨ret_nb HA.out, rfl⟩
    · have B1 : Hid (((0 : Int), false) = (x.1, x.2)) := bad.out (.inl (by
        unfold formB; rw [HDN.out, HH.out, e48.out]
        have : decide (s.data.toList = [48]) = false := by rw [decide_eq_false_iff_not, ← ByteArray.toList_eq]; exact hw
        rw [this]; rfl))
      have hw' : (s.toList == [48]) = false := by simpa using hw
      have hw'' : (!s.toList == [48]) = true := by simpa using hw
      go_wp2
      go_ret2
      exact ⟨ret_nb B1.out, rfl⟩
  · have hform : Hid (formB s.data.toList D.data.toList = true) := Lib.hid (by
      unfold formB; rw [HDN.out, HH.out]
      have h : D.data.toList.getD 0 0 ≠ 48 := by
        rw [← H0.out]; intro h; exact h48 (by rw [h]; rfl)
      have : (some (D.data.toList.getD 0 0) == some (48 : UInt8)) = false := by simpa using h
      rw [this]; rfl)
    have good : Hid (D.data.toList.all digB = true → (if n then - clampF 1048577 0 D.data.toList else clampF 1048577 0 D.data.toList, true) = (x.1, x.2)) := fun h => by
      rw [← HX.out]; exact (num_true (HDL.out).symm HN.out hform.out h).symm
    skip
    go_wp2
    go_loop [6, 26] (fun a i => ∃ k : Nat, k ≤ D.size ∧ i = .int .i64 k ∧ a = .int .i64 (clampF 1048577 0 (D.data.toList.take k)) ∧ ∀ j, j < k → digB (D.data.toList.getD j 0) = true) (fun _ i => D.size - (intOf i).toNat)
    case atStart => exact ⟨0, Nat.zero_le _, rfl, rfl, fun j hj => absurd hj (Nat.not_lt_zero _)⟩
    case round =>
      obtain ⟨k, hk, rfl, rfl, hdig⟩ := hrel
      have HG := Lib.hid hdig
      have hcb := clamp_bound (M := 1048577) (x := 0) (by omega) (by omega) (by omega) (take_dig (by rw [← HLEN.out]; exact hk) hdig)
      clear hdig
      by_cases hlt : k < D.size
      · have hltl : k < D.data.toList.length := by rw [← HLEN.out]; exact hlt
        have hbk := byte_at D k hlt
        have HBK := Lib.hid hbk
        clear hbk
        have hstep := num_step D.data.toList k hltl
        have HST := Lib.hid hstep
        clear hstep
        have hnx : ¬ digB (D.data.toList.getD k 0) = true → D.data.toList.all digB = false := fun h => all_not hltl (by simpa using h)
        have HNX := Lib.hid hnx
        clear hnx
        generalize hC : clampF 1048577 0 (D.data.toList.take k) = C at *
        have HC := Lib.hid hC
        clear hC
        by_cases hd : 48 ≤ (D[k].toNat : Int) ∧ (D[k].toNat : Int) ≤ 57
        · have hdb : Hid (digB (D.data.toList.getD k 0) = true) := Lib.hid ((digB_iff _).2 (by rw [← HBK.out]; exact hd))
          obtain ⟨hd1, hd2⟩ := hd
          go_wp2
          go_round
          case rel =>
            refine ⟨k + 1, by omega, by go_num, ?_, fun j hj => ?_⟩
            · rw [HST.out hdb.out, ← HBK.out]
            · by_cases hjk : j = k
              · rw [hjk]; exact hdb.out
              · exact HG.out j (by omega)
          case measure => simp [intOf]; omega
        · have hdb : Hid (¬ digB (D.data.toList.getD k 0) = true) := Lib.hid (by rw [digB_iff, ← HBK.out]; exact hd)
          have B1 : Hid (((0 : Int), false) = (x.1, x.2)) := bad.out (.inr (HNX.out hdb.out))
          by_cases hd1 : (D[k].toNat : Int) < 48
          · go_wp2
            go_ret2
            exact ⟨ret_nb B1.out, rfl⟩
          · have hd2 : 57 < (D[k].toNat : Int) := by omega
            go_wp2
            go_ret2
            exact ⟨ret_nb B1.out, rfl⟩
      · obtain rfl : k = D.size := by omega
        have e : Hid (D.data.toList.take D.size = D.data.toList) := Lib.hid (List.take_of_length_le (by rw [← HLEN.out]; exact Nat.le_refl _))
        have ha := good.out (all_at (fun j hj => HG.out j (by rw [HLEN.out]; exact hj)))
        rw [e.out]
        rw [e.out] at hcb
        have HA := Lib.hid ha
        clear ha
        generalize hC : clampF 1048577 0 D.data.toList = C at *
        cases n with
        | true =>
          go_wp2
          go_ret2
          exact ⟨ret_nb HA.out, rfl⟩
        | false =>
          go_wp2
          go_ret2
          exact ⟨ret_nb HA.out, rfl⟩
end L
end Go.Proofs.YtlkhabdpancjjaaDoor
end

/- A range over a function, said by rounds' numbers: what the iterator asks of a round, and the law of the statement. My own, over the kit's laws of the statement. -/
section
namespace Go.Proofs.RA
open Go.RowKit

/-- The blocks of which p holds lie as they lay; no block has gone. -/
structure Keep (p : Nat → Prop) (w w' : World) : Prop where
  os : w'.os = w.os
  tape : w'.tape = w.tape
  output : w'.output = w.output
  size : w.heap.size ≤ w'.heap.size
  block : ∀ k, k < w.heap.size → p k → w'.heap[k]? = w.heap[k]?

section
variable {p q : Nat → Prop} {a b c w w' : World}
theorem Keep.refl (p : Nat → Prop) (w : World) : Keep p w w := ⟨rfl, rfl, rfl, Nat.le_refl _, fun _ _ _ => rfl⟩
theorem Keep.trans (h : Keep p a b) (k : Keep p b c) : Keep p a c :=
  ⟨k.os.trans h.os, k.tape.trans h.tape, k.output.trans h.output, Nat.le_trans h.size k.size, fun i hi hp => (k.block i (Nat.lt_of_lt_of_le hi h.size) hp).trans (h.block i hi hp)⟩
theorem Keep.mono (h : Keep p a b) (hq : ∀ k, k < a.heap.size → q k → p k) : Keep q a b := ⟨h.os, h.tape, h.output, h.size, fun k hk hp => h.block k hk (hq k hk hp)⟩
theorem Keep.alloc (h : Keep p a b) (o : Obj) : Keep p a (b.alloc o) :=
  h.trans ⟨rfl, rfl, rfl, by simp, fun k hk _ => Below.heap_alloc _ _ _ hk⟩
theorem Keep.drew (h : Keep p a b) : Keep p a b.drew := ⟨h.os, h.tape, h.output, h.size, h.block⟩
theorem Keep.drewN (h : Keep p a b) (n : Nat) : Keep p a (b.drewN n) := ⟨h.os, h.tape, h.output, h.size, h.block⟩
theorem Keep.setCell (h : Keep p a b) {x : Addr} (hx : ¬ p x.block) (u : Value) : Keep p a (b.setCell x u) :=
  h.trans ⟨rfl, rfl, rfl, by simp [World.setCell], fun k _ hp => Below.heap_setCell _ _ _ _ (fun e => hx (e ▸ hp))⟩
theorem Keep.putObj (h : Keep p a b) {l : Nat} (hl : ¬ p l) (o : Obj) : Keep p a (b.putObj l o) :=
  h.trans ⟨rfl, rfl, rfl, by simp, fun k _ hp => World.putObj_heap_other (fun e => hl (e ▸ hp))⟩
theorem Keep.below (h : Keep p a b) (hb : Below b.heap.size b c) : Keep p a c :=
  h.trans ⟨hb.os, hb.tape, hb.output, hb.size, fun k hk _ => hb.block k hk⟩
theorem Keep.of_below {B : Nat} (hb : Below B a b) (hp : ∀ k, k < a.heap.size → p k → k < B) : Keep p a b :=
  ⟨hb.os, hb.tape, hb.output, hb.size, fun k hk h => hb.block k (hp k hk h)⟩
theorem Keep.to_below {B : Nat} (h : Keep p a b) (hB : B ≤ a.heap.size) (hp : ∀ k, k < B → p k) : Below B a b :=
  ⟨h.os, h.tape, h.output, h.size, fun k hk => h.block k (Nat.lt_of_lt_of_le hk hB) (hp k hk)⟩
theorem Keep.heap {k : Nat} {o : Obj} (h : Keep p a b) (hk : a.heap[k]? = some o) (hp : p k) : b.heap[k]? = some o :=
  (h.block k (Array.getElem?_eq_some_iff.1 hk).1 hp).trans hk
theorem Keep.cell {x : Addr} {v : Value} (h : Keep p a b) (hc : a.cell? x = some v) (hp : p x.block) : b.cell? x = some v :=
  (World.cell?_of_block (w := a) (h.block x.block (World.block_lt_of_cell? _ _ hc) hp)).trans hc
end

variable {P : Program}

/-- An iterator of N rounds, called in the world w: whatever invariant J abides what the iterator does to its own blocks Z; each round is handed arguments of which Arg holds, keeps the blocks Z if it goes on. -/
def Iter (P : Program) (g : Nat) (lb : Array Value) (N : Nat) (Arg : Nat → World → Array Value → Prop) (Z : Nat → Prop) (w : World) : Prop :=
  ∀ (l : Nat) (J Jx : Nat → World → Prop),
    (∀ k A B, J k A → Keep (fun i => ¬ Z i) A B → J k B) → (∀ k A B, Jx k A → Keep (fun i => ¬ Z i) A B → Jx k B) →
    (∀ k A args, k < N → Arg k A args → J k A → YieldAt Fence.wide 0 P l args A fun e B => (e = .returned (.bool true) ∧ J (k + 1) B ∧ Keep Z A B) ∨ (e = .returned (.bool false) ∧ Jx (k + 1) B ∧ Keep Z A B)) →
    J 0 w →
    CallsIn Fence.wide 0 P g (#[.func (.yield l) #[] #[]] ++ lb) w fun e B => (∃ v, e = .returned v) ∧ (J N B ∨ ∃ k, k ≤ N ∧ Jx k B)

/-- How a round's body may be left. -/
def bodyPost (Z : Nat → Prop) (I : Nat → World → Prop) (Ix : Code → Nat → World → Prop) (k : Nat) (D : Nat) (W : World) : Exit → Act → World → Prop
  | .normal, _, W' => Keep (fun i => Z i ∨ i = D ∨ i = D + 1) W W' ∧ I k W'
  | .ret, _, W' => Keep (fun i => Z i ∨ i = D ∨ i = D + 1) W W' ∧ Ix .ret k W'
  | .exit id, _, W' => Keep (fun i => Z i ∨ i = D ∨ i = D + 1) W W' ∧ Ix (.exit id) k W'
  | .goto t, _, W' => Keep (fun i => Z i ∨ i = D ∨ i = D + 1) W W' ∧ Ix (.goto t) k W'
  | _, _, _ => False

set_option maxHeartbeats 1000000 in
/-- The statement 'for .. := range g { .. }' at an outermost loop. -/
theorem wpIn_range {g : Operand} {ps : Array Tmp} {assign body : Code} {Q : Exit → Act → World → Prop} {a : Act} {w : World}
    {gf : Nat} {lb : Array Value} (hg : a.eval g = .func (.func gf) #[] lb) (eg : ∀ args w, (callFunc gf args).run P w = .ok (.enter gf args) w)
    {N : Nat} {Arg : Nat → World → Array Value → Prop} {Z : Nat → Prop}
    (hit : ∀ W, Keep (fun _ => True) w W → W.heap.size = w.heap.size + 2 → Iter P gf lb N Arg Z W)
    (hZD : ¬ Z w.heap.size) (hZl : ¬ Z (w.heap.size + 1))
    (hps : ∀ k A args, Arg k A args → args.size = ps.size)
    (hArg : ∀ k A B args, Arg k A args → Keep (fun i => i ≠ w.heap.size + 1) A B → Arg k B args)
    (I : Nat → World → Prop) (Ix : Code → Nat → World → Prop)
    (hI : ∀ k A B, I k A → Keep (fun i => ¬ (Z i ∨ i = w.heap.size ∨ i = w.heap.size + 1)) A B → I k B)
    (hIx : ∀ c k A B, Ix c k A → Keep (fun i => ¬ (Z i ∨ i = w.heap.size ∨ i = w.heap.size + 1)) A B → Ix c k B)
    (h0 : I 0 w) (a₁ : Array Value → Act)
    (hassign : ∀ (l : Nat) (args : Array Value) (W : World) (K : Act → World → Prop), args.size = ps.size → K (a₁ args) W →
      assign.wpIn (Fence.wide.inRound l) 0 P (Exit.then K (fun _ _ _ => False)) { tmps := (ps.zip args).foldl (fun t (p, v) => t.setIfInBounds p v) a.tmps, defers := [] } W)
    (hbody : ∀ (k : Nat) (W : World) (args : Array Value), k < N → Arg k W args → I k W → w.heap.size + 1 < W.heap.size → body.wpIn (Fence.wide.inRound (w.heap.size + 1)) 0 P (bodyPost Z I Ix (k + 1) w.heap.size W) (a₁ args) W)
    (hdone : ∀ (W : World), I N W → W.heap[w.heap.size]? = some (.deferred (some [])) → Q .normal { a with defers := { target := .collected w.heap.size, args := #[] } :: a.defers } W)
    (hstop : ∀ (c : Code) (k : Nat) (W : World), k ≤ N → Ix c k W → W.heap[w.heap.size]? = some (.deferred (some [])) → c.wpIn Fence.wide 0 P Q { a with defers := { target := .collected w.heap.size, args := #[] } :: a.defers } W) :
    (Code.rangeFunc g ps assign body).wpIn Fence.wide 0 P Q a w := by
  refine wpIn_rangeFunc ?_
  intro fn hfn
  obtain ⟨rec, hrec⟩ : ∃ rec : LoopState → Option Code → Loop, rec = fun st pe => { state := st, pending := pe, fn, tmps := a.tmps, params := ps, assign, body, defers := w.heap.size } := ⟨_, rfl⟩
  obtain ⟨W1, hW1⟩ : ∃ W1, (w.alloc (.deferred (some []))).alloc (.loop (rec .ready none)) = W1 := ⟨_, rfl⟩
  have hL1 : W1.heap[w.heap.size + 1]? = some (.loop (rec .ready none)) := by
    rw [← hW1]; have := World.alloc_heap_new (w.alloc (.deferred (some []))) (.loop (rec .ready none)); rwa [World.size_alloc] at this
  have hK1 : W1.heap[w.heap.size]? = some (.deferred (some [])) := by
    rw [← hW1]; exact (Below.heap_alloc _ _ _ (by simp)).trans (World.alloc_heap_new w _)
  have hkeep1 : Keep (fun _ => True) w W1 := by rw [← hW1]; exact ((Keep.refl _ _).alloc _).alloc _
  have hsz1 : W1.heap.size = w.heap.size + 2 := by rw [← hW1]; simp
  refine ⟨w.heap.size + 1, [{ target := .collected w.heap.size, args := #[] }], W1, { target := .fn (.func gf) lb, args := #[.func (.yield (w.heap.size + 1)) #[] #[]] }, W1, gf,
    #[.func (.yield (w.heap.size + 1)) #[] #[]] ++ lb, W1, ?_, ?_, fun _ _ => trivial, ?_, fun h => by simp [Fence.wide] at h, ?_⟩
  · rw [← hW1, hrec]; exact run_enterLoop_outer _ _ _ _ _
  · simp only [resolve, hg]
    simp [go_sem]
  · simp [invoke, go_sem, eg]
  · refine (hit W1 hkeep1 hsz1 (w.heap.size + 1)
      (fun k W => I k W ∧ W.heap[w.heap.size + 1]? = some (.loop (rec .ready none)) ∧ W.heap[w.heap.size]? = some (.deferred (some [])))
      (fun k W => ∃ c, Ix c k W ∧ W.heap[w.heap.size + 1]? = some (.loop (rec .done (some c))) ∧ W.heap[w.heap.size]? = some (.deferred (some [])))
      (fun k A B hs hk => ⟨hI k A B hs.1 (hk.mono fun i _ h hz => h (.inl hz)), hk.heap hs.2.1 hZl, hk.heap hs.2.2 hZD⟩)
      (fun k A B hs hk => by obtain ⟨c, hc, hl, hd⟩ := hs; exact ⟨c, hIx c k A B hc (hk.mono fun i _ h hz => h (.inl hz)), hk.heap hl hZl, hk.heap hd hZD⟩)
      ?_ ⟨hI 0 _ _ h0 (hkeep1.mono fun _ _ _ => trivial), hL1, hK1⟩).mono ?_
    · rintro k W args hk harg ⟨hi, hl, hd⟩
      have hlt : w.heap.size + 1 < W.heap.size := (Array.getElem?_eq_some_iff.1 hl).1
      have hsz := hps _ _ _ harg
      have hy := run_yield (P := P) (args := args) hl (by rw [hrec]; exact hsz)
      rw [hrec] at hy
      refine ⟨fn, _, assign, body, hy, roundIn_of_wpIn hfn (hassign _ args W _ hsz ⟨_, run_beginRound hl (by rw [hrec]), ?_⟩)⟩
      clear hy
      obtain ⟨W2, hW2⟩ : ∃ W2, W.putObj (w.heap.size + 1) (.loop { rec .ready none with state := .busy }) = W2 := ⟨_, rfl⟩
      rw [hW2]
      have hkW : Keep (fun i => i ≠ w.heap.size + 1) W W2 := by rw [← hW2]; exact (Keep.refl _ _).putObj (fun h => h rfl) _
      have hl2 : W2.heap[w.heap.size + 1]? = some (.loop { rec .ready none with state := .busy }) := by rw [← hW2]; exact World.putObj_heap_same hlt
      have hd2 : W2.heap[w.heap.size]? = some (.deferred (some [])) := hkW.heap hd (by omega)
      have hi2 : I k W2 := hI _ _ _ hi (hkW.mono fun i _ h hz => h (.inr (.inr hz)))
      refine wpIn_mono (hbody k W2 args hk (hArg _ _ _ _ harg hkW) hi2 (Nat.lt_of_lt_of_le hlt hkW.size)) ?_
      have fin : ∀ (jump : Option Code) (W3 : World), Keep (fun i => i = w.heap.size ∨ i = w.heap.size + 1) W2 W3 →
          ∃ W4, (Instr.endRound (w.heap.size + 1) jump).run P W3 = .ok (.bool jump.isNone) W4 ∧ Keep (fun i => i ≠ w.heap.size + 1) W3 W4 ∧
          W4.heap[w.heap.size + 1]? = some (.loop (rec (if jump.isNone then .ready else .done) jump)) ∧ W4.heap[w.heap.size]? = some (.deferred (some [])) := fun jump W3 hk3 => by
        have hl3 := hk3.heap hl2 (.inr rfl)
        have hd3 := hk3.heap hd2 (.inl rfl)
        have := run_endRound (P := P) jump hl3
        rw [hrec] at this ⊢
        exact ⟨_, this, (Keep.refl _ _).putObj (fun h => h rfl) _, World.putObj_heap_same (Array.getElem?_eq_some_iff.1 hl3).1, (World.putObj_heap_other (by omega)).trans hd3⟩
      have nZ : ∀ i, Z i → i ≠ w.heap.size + 1 := fun i hz e => hZl (e ▸ hz)
      rintro e a3 W3 hp
      cases e with
      | normal =>
        obtain ⟨hk3, hi3⟩ := hp
        obtain ⟨W4, hr, hk4, hl4, hd4⟩ := fin none W3 (hk3.mono fun i _ h => .inr h)
        refine ⟨_, _, hr, .inl ⟨rfl, ⟨hI _ _ _ hi3 (hk4.mono fun i _ h hz => h (.inr (.inr hz))), hl4, hd4⟩, ?_⟩⟩
        exact ((hkW.mono fun i _ h => nZ i h).trans (hk3.mono fun i _ h => .inl h)).trans (hk4.mono fun i _ h => nZ i h)
      | ret =>
        obtain ⟨hk3, hi3⟩ := hp
        obtain ⟨W4, hr, hk4, hl4, hd4⟩ := fin (some .ret) W3 (hk3.mono fun i _ h => .inr h)
        exact ⟨_, _, hr, .inr ⟨rfl, ⟨.ret, hIx _ _ _ _ hi3 (hk4.mono fun i _ h hz => h (.inr (.inr hz))), hl4, hd4⟩, ((hkW.mono fun i _ h => nZ i h).trans (hk3.mono fun i _ h => .inl h)).trans (hk4.mono fun i _ h => nZ i h)⟩⟩
      | exit id =>
        obtain ⟨hk3, hi3⟩ := hp
        obtain ⟨W4, hr, hk4, hl4, hd4⟩ := fin (some (.exit id)) W3 (hk3.mono fun i _ h => .inr h)
        exact ⟨_, _, hr, .inr ⟨rfl, ⟨.exit id, hIx _ _ _ _ hi3 (hk4.mono fun i _ h hz => h (.inr (.inr hz))), hl4, hd4⟩, ((hkW.mono fun i _ h => nZ i h).trans (hk3.mono fun i _ h => .inl h)).trans (hk4.mono fun i _ h => nZ i h)⟩⟩
      | goto t =>
        obtain ⟨hk3, hi3⟩ := hp
        obtain ⟨W4, hr, hk4, hl4, hd4⟩ := fin (some (.goto t)) W3 (hk3.mono fun i _ h => .inr h)
        exact ⟨_, _, hr, .inr ⟨rfl, ⟨.goto t, hIx _ _ _ _ hi3 (hk4.mono fun i _ h hz => h (.inr (.inr hz))), hl4, hd4⟩, ((hkW.mono fun i _ h => nZ i h).trans (hk3.mono fun i _ h => .inl h)).trans (hk4.mono fun i _ h => nZ i h)⟩⟩
      | panic ch => exact hp.elim
      | outgrown => exact hp.elim
    · rintro e W2 ⟨⟨v, rfl⟩, (⟨hi, hl, hk⟩ | ⟨k, hkN, c, hi, hl, hk⟩)⟩
      · have kp : ∀ o, Keep (fun i => ¬ (Z i ∨ i = w.heap.size ∨ i = w.heap.size + 1)) W2 (W2.putObj (w.heap.size + 1) o) := fun o => (Keep.refl _ _).putObj (fun h => h (.inr (.inr rfl))) o
        exact ⟨none, _, by have := run_endLoop (P := P) hl (by rw [hrec]; simp); rw [hrec] at this; exact this, hdone _ (hI _ _ _ hi (kp _)) ((World.putObj_heap_other (by omega)).trans hk)⟩
      · have kp : ∀ o, Keep (fun i => ¬ (Z i ∨ i = w.heap.size ∨ i = w.heap.size + 1)) W2 (W2.putObj (w.heap.size + 1) o) := fun o => (Keep.refl _ _).putObj (fun h => h (.inr (.inr rfl))) o
        exact ⟨some c, _, by have := run_endLoop (P := P) hl (by rw [hrec]; simp); rw [hrec] at this; exact this, hstop _ k _ hkN (hIx _ _ _ _ hi (kp _)) ((World.putObj_heap_other (by omega)).trans hk)⟩
end Go.Proofs.RA
end
