/- Several texts, joined. -/
import Derived.Test.YtlkhabdpancjjaaDoorQ03
import Derived.Test.YtlkhabdpancjjaaDoorQ01
import Derived.ProofKit
import Derived.OpenShut
import Derived.ChangeOld
import Derived.Below
import Derived.Deep.Grids
import Derived.Deep.Matrix
import Derived.Test.YtlkhabdpancjjaaDoorProg
import Derived.WalkKit
import Derived.Handy
import Derived.Lib.Hide
import Derived.WalkSpells
import Derived.WalkLawsBesides
import Derived.BigQuiet
import Derived.Deep.QuietTactic

/- Contracts of dimacs.separates, dimacs.lines, strings.Lines and its closure, dimacs.content. -/
section
namespace Go.Proofs.YtlkhabdpancjjaaDoor
open Go.RowKit PA RA
namespace L
open K

theorem sep_any (W : World) (r : Nat) : Calls Tryd.prog 46 #[.int .i32 r] W fun e w' => e = .returned (.bool (sepR r)) ∧ w' = W := by
  unfold sepR
  by_cases h1 : r = 32
  · subst h1
    go_enter Tryd.func46, Tryd.ntmps46
    go_wp2
    go_ret
    exact ⟨rfl, rfl⟩
  · by_cases h2 : r = 9
    · subst h2
      go_enter Tryd.func46, Tryd.ntmps46
      go_wp2
      go_ret
      exact ⟨rfl, rfl⟩
    · have e1 : (r == 32) = false := by simpa using h1
      have e2 : (r == 9) = false := by simpa using h2
      have f1 : ((r : Int) == 32) = false := beq_eq_false_iff_ne.2 (by omega)
      have f2 : ((r : Int) == 9) = false := beq_eq_false_iff_ne.2 (by omega)
      rw [e1, e2]
      clear h1 h2 e1 e2
      by_cases h3 : r = 10
      · subst h3
        go_enter Tryd.func46, Tryd.ntmps46
        go_wp2
        go_ret
        exact ⟨rfl, rfl⟩
      · have f3 : ((r : Int) == 10) = false := beq_eq_false_iff_ne.2 (by omega)
        have e3 : (r == 10) = false := by simpa using h3
        rw [e3]
        clear e3 h3
        go_enter Tryd.func46, Tryd.ntmps46
        go_wp2
        go_ret
        exact ⟨rfl, rfl⟩
theorem sep_at (w : World) : PredAt Tryd.prog 46 #[] encR sepR w := fun W r _ => (sep_any W r).mono fun e w' h => ⟨h.1, 0, by rw [h.2]; rfl⟩

/-- How many lines. -/
def linesN (l : List UInt8) : Nat := l.count 10 + if l = [] ∨ l.getLast? = some 10 then 0 else 1
theorem linesN_eq (l : List UInt8) : linesN l = (lns l).length := by
  unfold linesN lns
  rw [lgo_len]
  by_cases h : l = [] <;> simp [h]
theorem suffix_last (l : List UInt8) : Lib.hasSuffix l [10] = decide (l.getLast? = some 10) := by
  unfold Lib.hasSuffix
  rw [Bool.eq_iff_iff, List.isSuffixOf_iff_suffix, decide_eq_true_iff]
  constructor
  · rintro ⟨t, rfl⟩; simp
  · intro h
    obtain ⟨t, rfl⟩ := List.getLast?_eq_some_iff.1 h
    exact ⟨t, rfl⟩

set_option maxHeartbeats 1000000 in
theorem lines_any (s : ByteArray) (w : World) (hs : s.size ≤ 9223372036854775806) :
    Calls Tryd.prog 37 #[.string s] w fun e w' => e = .returned (.int .i64 (linesN s.data.toList)) ∧ w = w' := by
  have hcnt : s.data.toList.count 10 ≤ s.size := by rw [Lib.size_eq]; exact List.count_le_length
  have hc := Tryd.strings_Count_one s 10 w
  have hq := Tryd.strings_HasSuffix s ⟨#[10]⟩ w (by omega)
  rw [show (⟨#[10]⟩ : ByteArray).data.toList = [10] from rfl, suffix_last] at hq
  unfold Lib.countByte at hc
  unfold linesN
  by_cases h0 : s.data.toList = []
  · have h1 : s.toList = [] := by rw [ByteArray.toList_eq]; exact h0
    have h2 : s.toList.isEmpty = true := by rw [h1]; rfl
    have h3 : (!s.toList.isEmpty) = false := by rw [h2]; rfl
    rw [if_pos (.inl h0), Nat.add_zero]
    generalize s.data.toList.count 10 = n at *
    clear h0
    go_enter Tryd.func37, Tryd.ntmps37
    go_wp2_with fail
    refine hc.mono ?_
    rintro e w1 ⟨rfl, rfl⟩
    clear hc hq
    go_wp2
    go_ret
    exact ⟨rfl, rfl⟩
  · have h1 : ¬ s.toList = [] := by rw [ByteArray.toList_eq]; exact h0
    have h2 : s.toList.isEmpty = false := by simpa using h1
    have h3 : (!s.toList.isEmpty) = true := by rw [h2]; rfl
    by_cases hl : s.data.toList.getLast? = some 10
    · rw [if_pos (.inr hl), Nat.add_zero]
      have hd : decide (s.data.toList.getLast? = some 10) = true := by simpa using hl
      rw [hd] at hq
      generalize s.data.toList.count 10 = n at *
      clear h0 hl hd
      go_enter Tryd.func37, Tryd.ntmps37
      go_wp2_with fail
      refine hc.mono ?_
      rintro e w1 ⟨rfl, rfl⟩
      clear hc
      go_wp2_with fail
      refine hq.mono ?_
      rintro e w2 ⟨rfl, rfl⟩
      clear hq
      go_wp2
      go_ret
      exact ⟨rfl, rfl⟩
    · rw [if_neg (fun h => h.elim h0 hl)]
      have hd : decide (s.data.toList.getLast? = some 10) = false := by simpa using hl
      rw [hd] at hq
      generalize s.data.toList.count 10 = n at *
      clear h0 hl hd
      go_enter Tryd.func37, Tryd.ntmps37
      go_wp2_with fail
      refine hc.mono ?_
      rintro e w1 ⟨rfl, rfl⟩
      clear hc
      go_wp2_with fail
      refine hq.mono ?_
      rintro e w2 ⟨rfl, rfl⟩
      clear hq
      go_wp2
      go_ret
      exact ⟨ret_int (by omega), rfl⟩

theorem linesfn_any (s : ByteArray) (w : World) : Calls Tryd.prog 44 #[.string s] w fun e w' => e = .returned (.func (.func 55) #[] #[.pointer (some ⟨w.heap.size, 0, none⟩)]) ∧ w' = w.alloc (.cells #[.string s] 9) := by
  go_enter Tryd.func44, Tryd.ntmps44
  go_wp2
  go_ret
  exact ⟨rfl, rfl⟩
theorem content_any (s : ByteArray) (w : World) : Calls Tryd.prog 35 #[.string s] w fun e w' => e = .returned (.func (.func 43) #[] #[.pointer (some ⟨w.heap.size, 0, none⟩)]) ∧ w' = w.alloc (.cells #[.string s] 9) := by
  go_enter Tryd.func35, Tryd.ntmps35
  go_wp2
  go_ret
  exact ⟨rfl, rfl⟩
end L
end Go.Proofs.YtlkhabdpancjjaaDoor
end

/- How a row's slices come to the readings that the walks ask. -/
section
namespace Go.Proofs.YtlkhabdpancjjaaDoor
open Go.ChangeShapes Go.WideShapes Go.ChangeAt Go.RowKit
namespace K

/-- A slice value that reads as a list of numbers of a kind, of whatever length. -/
def IntsW (k : IntKind) (w : World) (v : Value) (l : List Int) : Prop :=
  ∃ p cap, v = .slice p l.length cap ∧ (l.length ≤ cap ∧ (p = none → cap = 0)) ∧ cap ≤ maxLen ∧ (∀ n ∈ l, (Lit.int k n).wf = true) ∧ (0 < l.length → ∃ b off, p = some ⟨b, off, none⟩ ∧ ∀ j, j < l.length → w.cell? ⟨b, off + j, none⟩ = some (.int k (l.getD j 0)))
/-- The same of bools. -/
def BoolsW (w : World) (v : Value) (l : List Bool) : Prop :=
  ∃ p cap, v = .slice p l.length cap ∧ l.length ≤ cap ∧ cap ≤ maxLen ∧ (0 < l.length → ∃ b off, p = some ⟨b, off, none⟩ ∧ ∀ j, j < l.length → w.cell? ⟨b, off + j, none⟩ = some (.bool (l.getD j false)))

theorem IntsW.ints {w : World} {v : Value} {l : List Int} (h : IntsW .i64 w v l) (hm : l.length * 8 ≤ 140737488351232) : Ints w v l := by
  obtain ⟨p, cap, hv, h1, _, _, h2⟩ := h
  exact ⟨p, cap, hv, h1.1, hm, h2⟩
theorem BoolsW.bools {w : World} {v : Value} {l : List Bool} (h : BoolsW w v l) (hm : l.length ≤ 140737488351232) : Bools w v l := by
  obtain ⟨p, cap, hv, h1, _, h2⟩ := h
  exact ⟨p, cap, hv, h1, hm, h2⟩

section
variable {H : Type} {enc : TypeId × Value → H} {P : Program} {w : World} {base : Nat} {held : Bool}

theorem cells_plain {a : Addr} (h : w.cell? (a.add 0) ≠ none) : a.spot = none := by
  cases hc : w.cell? (a.add 0) with
  | none => exact absurd hc h
  | some u => simpa [Addr.add] using World.cell?_spot hc

theorem row_ints {t e : TypeId} {k : IntKind} {fuel : Nat} {v : Value} {x : DataW H × List MemPlace} (ht : P.underlying t = some (.slice e)) (he : P.underlying e = some (.int k)) (hc : P.cellsOf e = 1)
    (p : Option Addr) (n cap : Nat) (hv : v = .slice p n cap) (h : DataW.trod enc P w base (fun _ => true) held fuel t v.cells.toList = some x) : ∃ l, IntsW k w v l := by
  subst hv
  rcases open_ints ht he hc h with ⟨hcs, _⟩ | ⟨a, l, c, zs, hcs, _, hl, hm, hz, _, hcell, hwz⟩
  · simp [Value.cells] at hcs
    obtain ⟨rfl, rfl, rfl⟩ := hcs
    exact ⟨[], none, 0, rfl, ⟨Nat.le_refl _, fun _ => rfl⟩, Nat.zero_le _, by simp, fun h => by simp at h⟩
  · simp [Value.cells] at hcs
    obtain ⟨rfl, rfl, rfl⟩ := hcs
    simp only [if_true] at hz
    have hlen : (zs.take n).length = n := by simp; omega
    refine ⟨zs.take n, some a, cap, by rw [hlen], ⟨by omega, fun h => by cases h⟩, hm, fun x hx => hwz x (List.mem_of_mem_take hx), fun h0 => ?_⟩
    have hsp : a.spot = none := cells_plain (w := w) (by rw [hcell 0 (by omega)]; simp)
    obtain ⟨b, off, spot⟩ := a
    simp only at hsp
    subst hsp
    refine ⟨b, off, rfl, fun j hj => ?_⟩
    have h2 := hcell j (by omega)
    have h3 : (⟨b, off, none⟩ : Addr).add j = ⟨b, off + j, none⟩ := by simp [Addr.add]
    rw [h3] at h2
    rw [h2]
    have hj' : j < n := by omega
    simp [List.getD, hj']

theorem row_bools {t e : TypeId} {fuel : Nat} {v : Value} {x : DataW H × List MemPlace} (ht : P.underlying t = some (.slice e)) (he : P.underlying e = some .bool) (hc : P.cellsOf e = 1)
    (p : Option Addr) (n cap : Nat) (hv : v = .slice p n cap) (h : DataW.trod enc P w base (fun _ => true) held fuel t v.cells.toList = some x) : ∃ l, BoolsW w v l := by
  subst hv
  rcases Go.Deep.open_bools ht he hc h with ⟨hcs, _⟩ | ⟨a, l, c, B, hcs, _, hl, hm, _, hcell⟩
  · simp [Value.cells] at hcs
    obtain ⟨rfl, rfl, rfl⟩ := hcs
    exact ⟨[], none, 0, rfl, Nat.le_refl _, Nat.zero_le _, fun h => by simp at h⟩
  · simp [Value.cells] at hcs
    obtain ⟨rfl, rfl, rfl⟩ := hcs
    have hlen : ((List.range n).map B).length = n := by simp
    refine ⟨(List.range n).map B, some a, cap, by rw [hlen], by omega, hm, fun h0 => ?_⟩
    have hsp : a.spot = none := cells_plain (w := w) (by rw [hcell 0 (by omega)]; simp)
    obtain ⟨b, off, spot⟩ := a
    simp only at hsp
    subst hsp
    refine ⟨b, off, rfl, fun j hj => ?_⟩
    have h2 := hcell j (by omega)
    have h3 : (⟨b, off, none⟩ : Addr).add j = ⟨b, off + j, none⟩ := by simp [Addr.add]
    rw [h3] at h2
    rw [h2]
    have hj' : j < n := by omega
    simp [List.getD, hj']
end
end K
end Go.Proofs.YtlkhabdpancjjaaDoor
end

/- Readings of slices of slices of ints, and how a row's argument comes to them. -/
section
namespace Go.Proofs.YtlkhabdpancjjaaDoor
open Go.ChangeShapes Go.WideShapes Go.ChangeAt Go.RowKit
namespace K

/-- A slice value that reads as a list of lists of ints. -/
def Lists (w : World) (v : Value) (L : List (List Int)) : Prop :=
  ∃ p cap, v = .slice p L.length cap ∧ L.length ≤ cap ∧ L.length * 24 ≤ 140737488351232 ∧ (0 < L.length → ∃ b off, p = some ⟨b, off, none⟩ ∧ ∀ j, j < L.length → ∃ u, w.cell? ⟨b, off + j, none⟩ = some u ∧ Ints w u (L.getD j []))

theorem Lists.below {w w' : World} {v : Value} {L : List (List Int)} (h : Lists w v L) (hb : Below w.heap.size w w') : Lists w' v L := by
  obtain ⟨p, cap, hv, hl, hm, hc⟩ := h
  refine ⟨p, cap, hv, hl, hm, fun h0 => ?_⟩
  obtain ⟨b, off, hp, hc⟩ := hc h0
  refine ⟨b, off, hp, fun j hj => ?_⟩
  obtain ⟨u, hu, hi⟩ := hc j hj
  exact ⟨u, (hb.cell (p := ⟨b, off + j, none⟩) (World.block_lt_of_cell? _ _ hu)).trans hu, hi.below hb⟩

theorem Lists.nil (w : World) (c : Nat) (p : Option Addr) : Lists w (.slice p 0 c) [] := ⟨p, c, rfl, Nat.zero_le _, by simp, fun h => absurd h (by simp)⟩

theorem IntsW.below {k : IntKind} {w w' : World} {v : Value} {l : List Int} (h : IntsW k w v l) (hb : Below w.heap.size w w') : IntsW k w' v l := by
  obtain ⟨p, cap, hv, hl, hm, hw, hc⟩ := h
  refine ⟨p, cap, hv, hl, hm, hw, fun h0 => ?_⟩
  obtain ⟨b, off, hp, hc⟩ := hc h0
  exact ⟨b, off, hp, fun j hj => (hb.cell (p := ⟨b, off + j, none⟩) (World.block_lt_of_cell? _ _ (hc j hj))).trans (hc j hj)⟩
/-- What a row gives. -/
def ListsW (k : IntKind) (w : World) (v : Value) (L : List (List Int)) : Prop :=
  ∃ p cap, v = .slice p L.length cap ∧ L.length ≤ cap ∧ cap ≤ maxLen ∧ (0 < L.length → ∃ b off, p = some ⟨b, off, none⟩ ∧ ∀ j, j < L.length → ∃ u, w.cell? ⟨b, off + j, none⟩ = some u ∧ IntsW k w u (L.getD j []))

theorem ListsW.lists {w : World} {v : Value} {L : List (List Int)} (h : ListsW .i64 w v L) (hm : L.length * 24 ≤ 140737488351232) (he : ∀ j, j < L.length → (L.getD j []).length * 8 ≤ 140737488351232) : Lists w v L := by
  obtain ⟨p, cap, hv, hl, _, hc⟩ := h
  refine ⟨p, cap, hv, hl, hm, fun h0 => ?_⟩
  obtain ⟨b, off, hp, hc⟩ := hc h0
  exact ⟨b, off, hp, fun j hj => (hc j hj).imp fun u hu => ⟨hu.1, hu.2.ints (he j hj)⟩⟩

/-- All numbers of a wide reading fit. -/
theorem ListsW.below {k : IntKind} {w w' : World} {v : Value} {L : List (List Int)} (h : ListsW k w v L) (hb : Below w.heap.size w w') : ListsW k w' v L := by
  obtain ⟨p, cap, hv, hl, hm, hc⟩ := h
  refine ⟨p, cap, hv, hl, hm, fun h0 => ?_⟩
  obtain ⟨b, off, hp, hc⟩ := hc h0
  refine ⟨b, off, hp, fun j hj => ?_⟩
  obtain ⟨u, hu, hi⟩ := hc j hj
  exact ⟨u, (hb.cell (p := ⟨b, off + j, none⟩) (World.block_lt_of_cell? _ _ hu)).trans hu, hi.below hb⟩
theorem ListsW.wf {k : IntKind} {w : World} {v : Value} {L : List (List Int)} (h : ListsW k w v L) : ∀ l ∈ L, ∀ x ∈ l, (Lit.int k x).wf = true := by
  obtain ⟨p, cap, hv, hl, _, hc⟩ := h
  intro l hl x hx
  obtain ⟨j, hj, rfl⟩ := List.getElem_of_mem hl
  obtain ⟨b, off, hp, hc⟩ := hc (by omega)
  obtain ⟨u, _, _, _, _, _, _, hw, _⟩ := hc j hj
  exact hw x (by simpa [List.getD, hj] using hx)

section
variable {H : Type} {enc : TypeId × Value → H} {P : Program} {w : World} {base : Nat} {held : Bool}

theorem rows_of_cells {t e q : TypeId} {k : IntKind} {fuel : Nat} {cs : List Value} {x : DataW H × List MemPlace} (ht : P.underlying t = some (.slice e)) (he : P.underlying e = some (.slice q)) (hq : P.underlying q = some (.int k))
    (ce : P.cellsOf e = 1) (cq : P.cellsOf q = 1) (v : Value) (hv : cs = [v]) (h : DataW.trod enc P w base (fun _ => true) held fuel t cs = some x) : ∃ L, ListsW k w v L := by
  subst hv
  rcases Go.Deep.open_int_rows ht he hq ce cq h with ⟨hcs, _⟩ | ⟨a, len, cap, A, Ln, C, Z, hcs, _, hl, hm, _, hr⟩
  · simp at hcs
    exact ⟨[], none, 0, hcs, Nat.le_refl _, Nat.zero_le _, fun h => by simp at h⟩
  · simp at hcs
    have hlen : ((List.range len).map fun r => (Z r).take (Ln r)).length = len := by simp
    refine ⟨(List.range len).map fun r => (Z r).take (Ln r), some a, cap, by rw [hlen]; exact hcs, by omega, hm, fun h0 => ?_⟩
    have hsp : a.spot = none := cells_plain (w := w) (by rw [(hr 0 (by omega)).1]; simp)
    obtain ⟨b, off, spot⟩ := a
    simp only at hsp
    subst hsp
    refine ⟨b, off, rfl, fun j hj => ?_⟩
    obtain ⟨h1, h2, h3, h4, h5, h6, h7⟩ := hr j (by omega)
    have h8 : (⟨b, off, none⟩ : Addr).add j = ⟨b, off + j, none⟩ := by simp [Addr.add]
    rw [h8] at h1
    have hj' : j < len := by omega
    have hg : ((List.range len).map fun r => (Z r).take (Ln r)).getD j [] = (Z j).take (Ln j) := by simp [List.getD, hj']
    have hlen2 : ((Z j).take (Ln j)).length = Ln j := by simp; omega
    refine ⟨_, h1, ?_⟩
    rw [hg]
    refine ⟨A j, C j, by rw [hlen2], ⟨by omega, h6⟩, h3, fun x hx => h5 x (List.mem_of_mem_take hx), fun h0 => ?_⟩
    cases hA : A j with
    | none => exact absurd (h6 hA) (by omega)
    | some a' =>
      obtain ⟨_, hcell⟩ := h7 a' hA
      have hsp' : a'.spot = none := cells_plain (w := w) (by rw [hcell 0 (by omega)]; simp)
      obtain ⟨b', off', spot'⟩ := a'
      simp only at hsp'
      subst hsp'
      refine ⟨b', off', rfl, fun i hi => ?_⟩
      have h9 := hcell i (by omega)
      have h10 : (⟨b', off', none⟩ : Addr).add i = ⟨b', off' + i, none⟩ := by simp [Addr.add]
      rw [h10] at h9
      rw [h9]
      have hi' : i < Ln j := by omega
      simp [List.getD, hi']
end
end K
end Go.Proofs.YtlkhabdpancjjaaDoor
end

/- Contracts of lit.variable and lit.Less (and the reference's size and Less): what they return, for numbers of 64 bits. -/
section
namespace Go.Proofs.YtlkhabdpancjjaaDoor
open Go.RowKit
namespace L

/-- A number of 64 bits. -/
def I64 (x : Int) : Prop := -9223372036854775808 ≤ x ∧ x ≤ 9223372036854775807
/-- Absolute value. -/
def av (x : Int) : Int := if x < 0 then -x else x

theorem ret_int {k : IntKind} {a b : Int} (h : a = b) : Ending.returned (.int k a) = .returned (.int k b) := by rw [h]
theorem ret_bool {a b : Bool} (h : a = b) : Ending.returned (.bool a) = .returned (.bool b) := by rw [h]
theorem wrap_pos (x : Int) (h : I64 x) (h0 : 0 ≤ x) : IntKind.u64.wrap x = x := by
  unfold I64 at h
  simp only [IntKind.wrap_u64]; omega
theorem wrap_neg (x : Int) (h : I64 x) (h0 : x < 0) : IntKind.u64.wrap (-IntKind.u64.wrap x) = -x := by
  unfold I64 at h
  simp only [IntKind.wrap_u64]; omega

set_option maxHeartbeats 400000 in
theorem variable_any (x : Int) (h : I64 x) (w : World) :
    Calls Tryd.prog 39 #[.int .i64 x] w fun e w' => e = .returned (.int .u64 (av x)) ∧ w = w' := by
  by_cases h0 : x < 0
  · have e1 := Lib.hid (wrap_neg x h h0)
    have e2 : av x = -x := by simp [av, h0]
    rw [e2]; clear e2
    go_enter Tryd.func39, Tryd.ntmps39
    go_wp2
    go_ret
    exact ⟨ret_int e1.out, rfl⟩
  · have e1 := Lib.hid (wrap_pos x h (by omega))
    have e2 : av x = x := by simp [av, h0]
    rw [e2]; clear e2
    go_enter Tryd.func39, Tryd.ntmps39
    go_wp2
    go_ret
    exact ⟨ret_int e1.out, rfl⟩

def lessB (a b : Int) : Bool := decide (av a < av b) || (decide (av a = av b) && decide (b < a))

end L
end Go.Proofs.YtlkhabdpancjjaaDoor
end

/- Contracts of the kit's EqualInts and CopyInts. -/
section
namespace Go.Proofs.YtlkhabdpancjjaaDoor
open Go.RowKit
namespace L
open K

theorem neq_at {l1 l2 : List Int} {k : Nat} (hne : l1.getD k 0 ≠ l2.getD k 0) : l1 ≠ l2 := by
  rintro rfl; exact hne rfl

set_option maxHeartbeats 1000000 in
theorem equal_any (v1 v2 : Value) (l1 l2 : List Int) (w : World) (h1 : Ints w v1 l1) (h2 : Ints w v2 l2) :
    Calls Tryd.prog 38 #[v1, v2] w fun e w' => e = .returned (.bool (decide (l1 = l2))) ∧ Below w.heap.size w w' := by
  obtain ⟨p1, c1, rfl, g1, m1, hc1⟩ := h1
  obtain ⟨p2, c2, rfl, g2, m2, hc2⟩ := h2
  by_cases hl : l1.length = l2.length
  · have hl1 : (l1.length == l2.length) = true := by simpa using hl
    have HL := Lib.hid hl
    go_enter Tryd.func38, Tryd.ntmps38
    go_wp2
    go_loopw [5] (fun i wr => ∃ k : Nat, k ≤ l1.length ∧ i = .int .i64 k ∧ (∀ j, j < k → l1.getD j 0 = l2.getD j 0) ∧ Below w.heap.size w wr) (fun i _ => l1.length - (intOf i).toNat)
    case atStart => exact ⟨0, Nat.zero_le _, rfl, fun j hj => absurd hj (Nat.not_lt_zero _), Below.refl _ _⟩
    case round =>
      obtain ⟨k, hk, rfl, heq, hb⟩ := hrel
      have HE := Lib.hid heq
      clear heq
      by_cases hlt : k < l1.length
      · obtain ⟨b1, o1, rfl, e1⟩ := hc1 (by omega)
        obtain ⟨b2, o2, rfl, e2⟩ := hc2 (by omega)
        have d1 := (hb.cell (p := ⟨b1, o1 + k, none⟩) (World.block_lt_of_cell? _ _ (e1 k hlt))).trans (e1 k hlt)
        have hlt2 : k < l2.length := by omega
        have d2 := (hb.cell (p := ⟨b2, o2 + k, none⟩) (World.block_lt_of_cell? _ _ (e2 k hlt2))).trans (e2 k hlt2)
        clear hc1 hc2 e1 e2
        have HL1 := Lib.hid hl1
        clear hl1
        generalize hx1 : l1.getD k 0 = x1 at d1
        generalize hx2 : l2.getD k 0 = x2 at d2
        have HX1 := Lib.hid hx1
        have HX2 := Lib.hid hx2
        clear hx1 hx2
        by_cases hne : x1 = x2
        · have hn : (x1 != x2) = false := by simpa using hne
          go_wp2
          go_quiet (fail)
          go_wp2
          go_roundw
          case rel =>
            refine ⟨k + 1, by omega, by go_num, fun j hj => ?_, ?_⟩
            · by_cases hjk : j = k
              · subst hjk; rw [HX1.out, HX2.out, hne]
              · exact HE.out j (by omega)
            · exact below_drewN hb _
          case measure => simp [intOf]; omega
        · have hn : (x1 != x2) = true := by simpa using hne
          go_wp2
          go_quiet (fail)
          go_wp2
          go_ret
          refine ⟨ret_bool ?_, below_drewN hb _⟩
          symm; rw [decide_eq_false_iff_not]
          exact neq_at (by rw [HX1.out, HX2.out]; exact hne)
      · go_wp2
        go_ret
        refine ⟨ret_bool ?_, hb⟩
        symm; rw [decide_eq_true_iff]
        have hkl : k = l1.length := by omega
        exact List.ext_getElem HL.out (fun i h1 h2 => by
          have := HE.out i (by omega)
          simpa [List.getD, h1, h2] using this)
  · have hl1 : (l1.length == l2.length) = false := by simpa using hl
    have hd : decide (l1 = l2) = false := by simp; intro h; exact hl (by rw [h])
    rw [hd]; clear hd
    go_enter Tryd.func38, Tryd.ntmps38
    go_wp2
    go_ret
    exact ⟨rfl, Below.refl _ _⟩
end L
end Go.Proofs.YtlkhabdpancjjaaDoor
end

/- Contract of the kit's CopyInts. -/
section
namespace Go.Proofs.YtlkhabdpancjjaaDoor
open Go.RowKit
namespace L
open K

theorem info3 : (Tryd.prog.info? 3).map (fun i => (i.zero, i.size, i.bytes)) = some (some (.int .i64 0), 1, 8) := by kernel_rfl

theorem take_succ' (zs : List Int) (k : Nat) (hk : k < zs.length) : zs.take (k + 1) = zs.take k ++ [zs.getD k 0] := by
  rw [List.take_add_one, List.getElem?_eq_getElem hk]; simp [List.getD, hk]

theorem owns_ints {w : World} {base : Nat} {v : Value} {l : List Int} (h : w.ownsRow base 3 1 v l.length (l.map (Value.int .i64))) (hm : l.length * 8 ≤ 140737488351232) : Ints w v l := by
  rcases h.2 with ⟨rfl, h0⟩ | ⟨g, cap, cur, rfl, hb, hg, hn, hcap, hsz, htake⟩
  · exact ⟨none, 0, by rw [h0], by omega, hm, fun h => by omega⟩
  · refine ⟨some ⟨g, 0, none⟩, cap, rfl, hn, hm, fun _ => ⟨g, 0, rfl, fun j hj => ?_⟩⟩
    have := h.cellAt j (by omega)
    rw [Nat.zero_add, this]
    simp [List.getD, hj]

end L
end Go.Proofs.YtlkhabdpancjjaaDoor
end
