/- Several texts, joined. -/
import Derived.Test.YtfhodbnhaaiceaaDoorQ01
import Derived.Deep.Matrix
import Derived.Test.YtfhodbnhaaiceaaDoorProg
import Derived.WalkKit
import Derived.Handy
import Derived.Lib.Hide
import Derived.WalkSpells
import Derived.WalkLawsBesides
import Derived.BigQuiet
import Derived.Deep.QuietTactic
import Derived.Laws.OwnMore
import Derived.Deep.Heap
import Derived.Deep.AppendLies

/- Readings of slices of slices of ints, and how a row's argument comes to them. -/
section
namespace Go.Proofs.YtfhodbnhaaiceaaDoor
open Go.ChangeShapes Go.WideShapes Go.ChangeAt Go.RowKit
namespace K

/-- A slice value that reads as a list of lists of ints. -/
def Lists (w : World) (v : Value) (L : List (List Int)) : Prop :=
  ∃ p cap, v = .slice p L.length cap ∧ L.length ≤ cap ∧ L.length * 24 ≤ 140737488351232 ∧ (0 < L.length → ∃ b off, p = some ⟨b, off, none⟩ ∧ ∀ j, j < L.length → ∃ u, w.cell? ⟨b, off + j, none⟩ = some u ∧ Ints w u (L.getD j []))

theorem Lists.below {w w' : World} {v : Value} {L : List (List Int)} (h : Lists w v L) (hb : Below w.heap.size w w') : Lists w' v L := by
  obtain ⟨p, cap, hv, hl, hm, hc⟩ := h
  refine ⟨p, cap, hv, hl, hm, fun h0 => ?_⟩
  obtain ⟨b, off, hp, hc⟩ := hc h0
  refine ⟨b, off, hp, fun j hj => ?_⟩
  obtain ⟨u, hu, hi⟩ := hc j hj
  exact ⟨u, (hb.cell (p := ⟨b, off + j, none⟩) (World.block_lt_of_cell? _ _ hu)).trans hu, hi.below hb⟩

theorem Lists.nil (w : World) (c : Nat) (p : Option Addr) : Lists w (.slice p 0 c) [] := ⟨p, c, rfl, Nat.zero_le _, by simp, fun h => absurd h (by simp)⟩

theorem IntsW.below {k : IntKind} {w w' : World} {v : Value} {l : List Int} (h : IntsW k w v l) (hb : Below w.heap.size w w') : IntsW k w' v l := by
  obtain ⟨p, cap, hv, hl, hm, hw, hc⟩ := h
  refine ⟨p, cap, hv, hl, hm, hw, fun h0 => ?_⟩
  obtain ⟨b, off, hp, hc⟩ := hc h0
  exact ⟨b, off, hp, fun j hj => (hb.cell (p := ⟨b, off + j, none⟩) (World.block_lt_of_cell? _ _ (hc j hj))).trans (hc j hj)⟩
/-- What a row gives. -/
def ListsW (k : IntKind) (w : World) (v : Value) (L : List (List Int)) : Prop :=
  ∃ p cap, v = .slice p L.length cap ∧ L.length ≤ cap ∧ cap ≤ maxLen ∧ (0 < L.length → ∃ b off, p = some ⟨b, off, none⟩ ∧ ∀ j, j < L.length → ∃ u, w.cell? ⟨b, off + j, none⟩ = some u ∧ IntsW k w u (L.getD j []))

theorem ListsW.lists {w : World} {v : Value} {L : List (List Int)} (h : ListsW .i64 w v L) (hm : L.length * 24 ≤ 140737488351232) (he : ∀ j, j < L.length → (L.getD j []).length * 8 ≤ 140737488351232) : Lists w v L := by
  obtain ⟨p, cap, hv, hl, _, hc⟩ := h
  refine ⟨p, cap, hv, hl, hm, fun h0 => ?_⟩
  obtain ⟨b, off, hp, hc⟩ := hc h0
  exact ⟨b, off, hp, fun j hj => (hc j hj).imp fun u hu => ⟨hu.1, hu.2.ints (he j hj)⟩⟩

/-- All numbers of a wide reading fit. -/
theorem ListsW.below {k : IntKind} {w w' : World} {v : Value} {L : List (List Int)} (h : ListsW k w v L) (hb : Below w.heap.size w w') : ListsW k w' v L := by
  obtain ⟨p, cap, hv, hl, hm, hc⟩ := h
  refine ⟨p, cap, hv, hl, hm, fun h0 => ?_⟩
  obtain ⟨b, off, hp, hc⟩ := hc h0
  refine ⟨b, off, hp, fun j hj => ?_⟩
  obtain ⟨u, hu, hi⟩ := hc j hj
  exact ⟨u, (hb.cell (p := ⟨b, off + j, none⟩) (World.block_lt_of_cell? _ _ hu)).trans hu, hi.below hb⟩
theorem ListsW.wf {k : IntKind} {w : World} {v : Value} {L : List (List Int)} (h : ListsW k w v L) : ∀ l ∈ L, ∀ x ∈ l, (Lit.int k x).wf = true := by
  obtain ⟨p, cap, hv, hl, _, hc⟩ := h
  intro l hl x hx
  obtain ⟨j, hj, rfl⟩ := List.getElem_of_mem hl
  obtain ⟨b, off, hp, hc⟩ := hc (by omega)
  obtain ⟨u, _, _, _, _, _, _, hw, _⟩ := hc j hj
  exact hw x (by simpa [List.getD, hj] using hx)

section
variable {H : Type} {enc : TypeId × Value → H} {P : Program} {w : World} {base : Nat} {held : Bool}

theorem rows_of_cells {t e q : TypeId} {k : IntKind} {fuel : Nat} {cs : List Value} {x : DataW H × List MemPlace} (ht : P.underlying t = some (.slice e)) (he : P.underlying e = some (.slice q)) (hq : P.underlying q = some (.int k))
    (ce : P.cellsOf e = 1) (cq : P.cellsOf q = 1) (v : Value) (hv : cs = [v]) (h : DataW.trod enc P w base (fun _ => true) held fuel t cs = some x) : ∃ L, ListsW k w v L := by
  subst hv
  rcases Go.Deep.open_int_rows ht he hq ce cq h with ⟨hcs, _⟩ | ⟨a, len, cap, A, Ln, C, Z, hcs, _, hl, hm, _, hr⟩
  · simp at hcs
    exact ⟨[], none, 0, hcs, Nat.le_refl _, Nat.zero_le _, fun h => by simp at h⟩
  · simp at hcs
    have hlen : ((List.range len).map fun r => (Z r).take (Ln r)).length = len := by simp
    refine ⟨(List.range len).map fun r => (Z r).take (Ln r), some a, cap, by rw [hlen]; exact hcs, by omega, hm, fun h0 => ?_⟩
    have hsp : a.spot = none := cells_plain (w := w) (by rw [(hr 0 (by omega)).1]; simp)
    obtain ⟨b, off, spot⟩ := a
    simp only at hsp
    subst hsp
    refine ⟨b, off, rfl, fun j hj => ?_⟩
    obtain ⟨h1, h2, h3, h4, h5, h6, h7⟩ := hr j (by omega)
    have h8 : (⟨b, off, none⟩ : Addr).add j = ⟨b, off + j, none⟩ := by simp [Addr.add]
    rw [h8] at h1
    have hj' : j < len := by omega
    have hg : ((List.range len).map fun r => (Z r).take (Ln r)).getD j [] = (Z j).take (Ln j) := by simp [List.getD, hj']
    have hlen2 : ((Z j).take (Ln j)).length = Ln j := by simp; omega
    refine ⟨_, h1, ?_⟩
    rw [hg]
    refine ⟨A j, C j, by rw [hlen2], ⟨by omega, h6⟩, h3, fun x hx => h5 x (List.mem_of_mem_take hx), fun h0 => ?_⟩
    cases hA : A j with
    | none => exact absurd (h6 hA) (by omega)
    | some a' =>
      obtain ⟨_, hcell⟩ := h7 a' hA
      have hsp' : a'.spot = none := cells_plain (w := w) (by rw [hcell 0 (by omega)]; simp)
      obtain ⟨b', off', spot'⟩ := a'
      simp only at hsp'
      subst hsp'
      refine ⟨b', off', rfl, fun i hi => ?_⟩
      have h9 := hcell i (by omega)
      have h10 : (⟨b', off', none⟩ : Addr).add i = ⟨b', off' + i, none⟩ := by simp [Addr.add]
      rw [h10] at h9
      rw [h9]
      have hi' : i < Ln j := by omega
      simp [List.getD, hi']
end
end K
end Go.Proofs.YtfhodbnhaaiceaaDoor
end

/- Contracts of lit.variable and lit.Less (and the reference's size and Less): what they return, for numbers of 64 bits. -/
section
namespace Go.Proofs.YtfhodbnhaaiceaaDoor
open Go.RowKit
namespace L

/-- A number of 64 bits. -/
def I64 (x : Int) : Prop := -9223372036854775808 ≤ x ∧ x ≤ 9223372036854775807
/-- Absolute value. -/
def av (x : Int) : Int := if x < 0 then -x else x

theorem ret_int {k : IntKind} {a b : Int} (h : a = b) : Ending.returned (.int k a) = .returned (.int k b) := by rw [h]
theorem ret_bool {a b : Bool} (h : a = b) : Ending.returned (.bool a) = .returned (.bool b) := by rw [h]
theorem wrap_pos (x : Int) (h : I64 x) (h0 : 0 ≤ x) : IntKind.u64.wrap x = x := by
  unfold I64 at h
  simp only [IntKind.wrap_u64]; omega
theorem wrap_neg (x : Int) (h : I64 x) (h0 : x < 0) : IntKind.u64.wrap (-IntKind.u64.wrap x) = -x := by
  unfold I64 at h
  simp only [IntKind.wrap_u64]; omega

set_option maxHeartbeats 400000 in
theorem variable_any (x : Int) (h : I64 x) (w : World) :
    Calls Tryd.prog 43 #[.int .i64 x] w fun e w' => e = .returned (.int .u64 (av x)) ∧ w = w' := by
  by_cases h0 : x < 0
  · have e1 := Lib.hid (wrap_neg x h h0)
    have e2 : av x = -x := by simp [av, h0]
    rw [e2]; clear e2
    go_enter Tryd.func43, Tryd.ntmps43
    go_wp2
    go_ret
    exact ⟨ret_int e1.out, rfl⟩
  · have e1 := Lib.hid (wrap_pos x h (by omega))
    have e2 : av x = x := by simp [av, h0]
    rw [e2]; clear e2
    go_enter Tryd.func43, Tryd.ntmps43
    go_wp2
    go_ret
    exact ⟨ret_int e1.out, rfl⟩

def lessB (a b : Int) : Bool := decide (av a < av b) || (decide (av a = av b) && decide (b < a))

end L
end Go.Proofs.YtfhodbnhaaiceaaDoor
end

/- Contracts of the kit's EqualInts and CopyInts. -/
section
namespace Go.Proofs.YtfhodbnhaaiceaaDoor
open Go.RowKit
namespace L
open K

theorem neq_at {l1 l2 : List Int} {k : Nat} (hne : l1.getD k 0 ≠ l2.getD k 0) : l1 ≠ l2 := by
  rintro rfl; exact hne rfl

set_option maxHeartbeats 1000000 in
theorem equal_any (v1 v2 : Value) (l1 l2 : List Int) (w : World) (h1 : Ints w v1 l1) (h2 : Ints w v2 l2) :
    Calls Tryd.prog 40 #[v1, v2] w fun e w' => e = .returned (.bool (decide (l1 = l2))) ∧ Below w.heap.size w w' := by
  obtain ⟨p1, c1, rfl, g1, m1, hc1⟩ := h1
  obtain ⟨p2, c2, rfl, g2, m2, hc2⟩ := h2
  by_cases hl : l1.length = l2.length
  · have hl1 : (l1.length == l2.length) = true := by simpa using hl
    have HL := Lib.hid hl
    go_enter Tryd.func40, Tryd.ntmps40
    go_wp2
    go_loopw [5] (fun i wr => ∃ k : Nat, k ≤ l1.length ∧ i = .int .i64 k ∧ (∀ j, j < k → l1.getD j 0 = l2.getD j 0) ∧ Below w.heap.size w wr) (fun i _ => l1.length - (intOf i).toNat)
    case atStart => exact ⟨0, Nat.zero_le _, rfl, fun j hj => absurd hj (Nat.not_lt_zero _), Below.refl _ _⟩
    case round =>
      obtain ⟨k, hk, rfl, heq, hb⟩ := hrel
      have HE := Lib.hid heq
      clear heq
      by_cases hlt : k < l1.length
      · obtain ⟨b1, o1, rfl, e1⟩ := hc1 (by omega)
        obtain ⟨b2, o2, rfl, e2⟩ := hc2 (by omega)
        have d1 := (hb.cell (p := ⟨b1, o1 + k, none⟩) (World.block_lt_of_cell? _ _ (e1 k hlt))).trans (e1 k hlt)
        have hlt2 : k < l2.length := by omega
        have d2 := (hb.cell (p := ⟨b2, o2 + k, none⟩) (World.block_lt_of_cell? _ _ (e2 k hlt2))).trans (e2 k hlt2)
        clear hc1 hc2 e1 e2
        have HL1 := Lib.hid hl1
        clear hl1
        generalize hx1 : l1.getD k 0 = x1 at d1
        generalize hx2 : l2.getD k 0 = x2 at d2
        have HX1 := Lib.hid hx1
        have HX2 := Lib.hid hx2
        clear hx1 hx2
        by_cases hne : x1 = x2
        · have hn : (x1 != x2) = false := by simpa using hne
          go_wp2
          go_quiet (fail)
          go_wp2
          go_roundw
          case rel =>
            refine ⟨k + 1, by omega, by go_num, fun j hj => ?_, ?_⟩
            · by_cases hjk : j = k
              · subst hjk; rw [HX1.out, HX2.out, hne]
              · exact HE.out j (by omega)
            · exact below_drewN hb _
          case measure => simp [intOf]; omega
        · have hn : (x1 != x2) = true := by simpa using hne
          go_wp2
          go_quiet (fail)
          go_wp2
          go_ret
          refine ⟨ret_bool ?_, below_drewN hb _⟩
          symm; rw [decide_eq_false_iff_not]
          exact neq_at (by rw [HX1.out, HX2.out]; exact hne)
      · go_wp2
        go_ret
        refine ⟨ret_bool ?_, hb⟩
        symm; rw [decide_eq_true_iff]
        have hkl : k = l1.length := by omega
        exact List.ext_getElem HL.out (fun i h1 h2 => by
          have := HE.out i (by omega)
          simpa [List.getD, h1, h2] using this)
  · have hl1 : (l1.length == l2.length) = false := by simpa using hl
    have hd : decide (l1 = l2) = false := by simp; intro h; exact hl (by rw [h])
    rw [hd]; clear hd
    go_enter Tryd.func40, Tryd.ntmps40
    go_wp2
    go_ret
    exact ⟨rfl, Below.refl _ _⟩
end L
end Go.Proofs.YtfhodbnhaaiceaaDoor
end

/- Contract of the kit's CopyInts. -/
section
namespace Go.Proofs.YtfhodbnhaaiceaaDoor
open Go.RowKit
namespace L
open K

theorem info3 : (Tryd.prog.info? 3).map (fun i => (i.zero, i.size, i.bytes)) = some (some (.int .i64 0), 1, 8) := by kernel_rfl

theorem take_succ' (zs : List Int) (k : Nat) (hk : k < zs.length) : zs.take (k + 1) = zs.take k ++ [zs.getD k 0] := by
  rw [List.take_add_one, List.getElem?_eq_getElem hk]; simp [List.getD, hk]

theorem owns_ints {w : World} {base : Nat} {v : Value} {l : List Int} (h : w.ownsRow base 3 1 v l.length (l.map (Value.int .i64))) (hm : l.length * 8 ≤ 140737488351232) : Ints w v l := by
  rcases h.2 with ⟨rfl, h0⟩ | ⟨g, cap, cur, rfl, hb, hg, hn, hcap, hsz, htake⟩
  · exact ⟨none, 0, by rw [h0], by omega, hm, fun h => by omega⟩
  · refine ⟨some ⟨g, 0, none⟩, cap, rfl, hn, hm, fun _ => ⟨g, 0, rfl, fun j hj => ?_⟩⟩
    have := h.cellAt j (by omega)
    rw [Nat.zero_add, this]
    simp [List.getD, hj]

set_option maxHeartbeats 1000000 in
theorem copy_any (v : Value) (l : List Int) (w : World) (h : Ints w v l) :
    Calls Tryd.prog 15 #[v] w fun e w' => ∃ v', e = .returned v' ∧ w'.ownsRow w.heap.size 3 1 v' l.length (l.map (Value.int .i64)) ∧ Below w.heap.size w w' := by
  obtain ⟨p, c, rfl, hg, hm, hc⟩ := h
  obtain ⟨i0, hi, hz0, hz1, hz2⟩ := info_parts info3
  go_enter Tryd.func15, Tryd.ntmps15
  go_wp2
  go_loopw [3, 4] (fun o i wr => ∃ k : Nat, k ≤ l.length ∧ i = .int .i64 k ∧ wr.ownsRow w.heap.size 3 1 o k ((l.take k).map (Value.int .i64)) ∧ Below w.heap.size w wr) (fun _ i _ => l.length - (intOf i).toNat)
  case atStart => exact ⟨0, Nat.zero_le _, rfl, World.ownsRow_nil _ _ _ _, Below.refl _ _⟩
  case round =>
    obtain ⟨k, hk, rfl, hown, hb⟩ := hrel
    by_cases hlt : k < l.length
    · obtain ⟨b1, o1, rfl, e1⟩ := hc (by omega)
      have d1 := (hb.cell (p := ⟨b1, o1 + k, none⟩) (World.block_lt_of_cell? _ _ (e1 k hlt))).trans (e1 k hlt)
      have HT := Lib.hid (take_succ' l k hlt)
      clear hc e1
      generalize hx1 : l.getD k 0 = x1 at d1 HT
      have HX1 := Lib.hid hx1
      clear hx1
      go_wp2_with (at_builtin; refine wpList_append_own _ rfl _ _ 23 rfl w.heap.size 3 i0 (.int .i64 0) 1 8 Tryd.underlying23 hi hz0 hz1 hz2 rfl (by decide) _ _ _ rfl (hown.alloc _) ⟨wr.heap.size, 0, none⟩ 1 1 [.int .i64 x1] rfl rfl ?c1 ?c2 ?c3 ?c4 ?c5 ?_)
      case c1 =>
        intro j u hj
        match j, hj with
        | 0, hj => simp at hj; subst hj; simp [Addr.add]
      case c2 => intro u hu; simp at hu; subst hu; rfl
      case c3 => unfold maxLen; omega
      case c4 => omega
      case c5 => have := hb.size; simp; omega
      intro v' w1 hown' hgrow _
      have hlt2 := fun k hk => (hown.lt k hk).1
      have hb' := (hb.alloc hb.size (.cells #[.int .i64 x1] 3)).grown hgrow (by have := hb.size; simp; omega) hlt2
      clear hown hgrow
      go_wp2
      go_roundw
      case rel => exact ⟨k + 1, by omega, by go_num, by rw [HT.out]; simpa using hown', hb'⟩
      case measure => simp [intOf]; omega
    · have hkl : k = l.length := by omega
      subst hkl
      go_wp2
      go_ret
      exact ⟨_, rfl, by simpa using hown, hb⟩
end L
end Go.Proofs.YtfhodbnhaaiceaaDoor
end

/- Memory that a call makes for itself: boxes, rows of ints, rows of rows. -/
section
namespace Go.Proofs.YtfhodbnhaaiceaaDoor
open Go.RowKit
namespace K

/-- Block b is a box with the cells cs. -/
def Box (w : World) (b : Nat) (T : TypeId) (cs : Array Value) : Prop := w.heap[b]? = some (.cells cs T (0, 0))
section
variable {w w' : World} {b : Nat} {T : TypeId} {cs : Array Value}
theorem Box.lt (h : Box w b T cs) : b < w.heap.size := by
  unfold Box at h
  by_cases hb : b < w.heap.size
  · exact hb
  · rw [Array.getElem?_eq_none (by omega)] at h; cases h
theorem Box.cell (h : Box w b T cs) (j : Nat) : w.cell? ⟨b, j, none⟩ = cs[j]? := cell_of_row w b j cs T (0, 0) h
theorem Box.frozen (h : Box w b T cs) (j : Nat) : w.frozen? ⟨b, j, none⟩ = false := frozen_of_row w b j cs T h
theorem Box.of_block (h : Box w b T cs) (e : w'.heap[b]? = w.heap[b]?) : Box w' b T cs := e.trans h
theorem Box.heap (h : Box w b T cs) (e : w'.heap = w.heap) : Box w' b T cs := by unfold Box at *; rw [e]; exact h
theorem Box.alloc (h : Box w b T cs) (o : Obj) : Box (w.alloc o) b T cs := h.of_block (Deep.blk_alloc_lt w o b h.lt)
theorem Box.new (w : World) (T : TypeId) (cs : Array Value) : Box (w.alloc (.cells cs T)) w.heap.size T cs := Deep.blk_alloc_new w _
theorem Box.at (w : World) (T : TypeId) (cs : Array Value) {b : Nat} (hb : b = w.heap.size) : Box (w.alloc (.cells cs T)) b T cs := by rw [hb]; exact Box.new w T cs
theorem Box.below {B : Nat} (h : Box w b T cs) (hb : Below B w w') (hlt : b < B) : Box w' b T cs := h.of_block (hb.block b hlt)
theorem Box.grown {row : Option Nat} (h : Box w b T cs) (hg : w.grownBy w' row) (hne : some b ≠ row) : Box w' b T cs := h.of_block (hg.block b h.lt hne)
theorem Box.setOther (h : Box w b T cs) (a : Addr) (hne : b ≠ a.block) (u : Value) : Box (w.setCell a u) b T cs := h.of_block (Deep.blk_setCell_other w a u b hne)
theorem Box.set (h : Box w b T cs) (j : Nat) (u : Value) : Box (w.setCell ⟨b, j, none⟩ u) b T (cs.setIfInBounds j u) := heap_setCell_same w b j cs T u h
end

section
variable {w w' : World} {base : Nat} {e : TypeId} {size n : Nat} {v : Value} {xs : List Value}
theorem owns_of_block (h : w.ownsRow base e size v n xs) (hb : ∀ k, v.ownBlock = some k → w'.heap[k]? = w.heap[k]?) : w'.ownsRow base e size v n xs := by
  rcases h with ⟨h0, ⟨rfl, h1⟩ | ⟨g, cap, cur, rfl, h1, hg, h2⟩⟩
  · exact ⟨h0, .inl ⟨rfl, h1⟩⟩
  · exact ⟨h0, .inr ⟨g, cap, cur, rfl, h1, (hb g rfl).trans hg, h2⟩⟩
theorem owns_below {B : Nat} (h : w.ownsRow base e size v n xs) (hb : Below B w w') (hlt : w.heap.size ≤ B) : w'.ownsRow base e size v n xs :=
  owns_of_block h fun k hk => hb.block k (Nat.lt_of_lt_of_le (h.lt k hk).2 hlt)
theorem owns_heap (h : w.ownsRow base e size v n xs) (hh : w'.heap = w.heap) : w'.ownsRow base e size v n xs := owns_of_block h fun _ _ => by rw [hh]
theorem owns_base {base' : Nat} (h : w.ownsRow base e size v n xs) (hb : base' ≤ base) : w.ownsRow base' e size v n xs := by
  rcases h with ⟨h0, ⟨rfl, h1⟩ | ⟨g, cap, cur, rfl, h1, hg, h2⟩⟩
  · exact ⟨h0, .inl ⟨rfl, h1⟩⟩
  · exact ⟨h0, .inr ⟨g, cap, cur, rfl, Nat.le_trans hb h1, hg, h2⟩⟩
/-- Rows of different types of elements lie in different blocks. -/
theorem owns_ne {base2 : Nat} {e2 : TypeId} {size2 n2 : Nat} {v2 : Value} {xs2 : List Value} (h : w.ownsRow base e size v n xs) (h2 : w.ownsRow base2 e2 size2 v2 n2 xs2) (hne : e ≠ e2) : v.ownBlock = none ∨ v.ownBlock ≠ v2.ownBlock := by
  rcases h with ⟨_, ⟨rfl, _⟩ | ⟨g, cap, cur, rfl, _, hg, _⟩⟩
  · exact .inl rfl
  · right
    rcases h2 with ⟨_, ⟨rfl, _⟩ | ⟨g2, cap2, cur2, rfl, _, hg2, _⟩⟩
    · simp [Value.ownBlock]
    · simp only [Value.ownBlock, ne_eq, Option.some.injEq]
      rintro rfl
      rw [hg] at hg2
      simp at hg2
      exact hne hg2.2
end

theorem owns_shape {w : World} {base : Nat} {e : TypeId} {size n : Nat} {v : Value} {xs : List Value} (h : w.ownsRow base e size v n xs) : ∃ p c, v = .slice p n c := by
  rcases h with ⟨_, ⟨rfl, rfl⟩ | ⟨g, cap, cur, rfl, _⟩⟩
  · exact ⟨_, _, rfl⟩
  · exact ⟨_, _, rfl⟩
theorem owns_form {w : World} {base : Nat} {e : TypeId} {size n : Nat} {v : Value} {xs : List Value} (h : w.ownsRow base e size v n xs) (hn : 0 < n) :
    ∃ g cap, v = .slice (some ⟨g, 0, none⟩) n cap ∧ base ≤ g ∧ g < w.heap.size := World.ownsRow.form h hn
/-- A row of ints of the call's own. -/
def OwnI (w : World) (base : Nat) (v : Value) (l : List Int) : Prop := w.ownsRow base 3 1 v l.length (l.map (Value.int .i64))
theorem OwnI.nil (w : World) (base : Nat) : OwnI w base (.slice none 0 0) [] := World.ownsRow_nil _ _ _ _
theorem OwnI.ints {w : World} {base : Nat} {v : Value} {l : List Int} (h : OwnI w base v l) (hm : l.length * 8 ≤ 140737488351232) : Ints w v l := L.owns_ints h hm

/-- A row of rows of ints of the call's own. -/
def OwnL (w : World) (base : Nat) (v : Value) (L : List (List Int)) : Prop :=
  ∃ us : List Value, us.length = L.length ∧ w.ownsRow base 23 1 v L.length us ∧ ∀ j, j < L.length → OwnI w base (us.getD j (.slice none 0 0)) (L.getD j [])
section
variable {w w' : World} {base : Nat} {v : Value} {L : List (List Int)}
theorem OwnL.nil (w : World) (base : Nat) : OwnL w base (.slice none 0 0) [] := ⟨[], rfl, World.ownsRow_nil _ _ _ _, fun j hj => by simp at hj⟩
theorem OwnL.below {B : Nat} (h : OwnL w base v L) (hb : Below B w w') (hlt : w.heap.size ≤ B) : OwnL w' base v L := by
  obtain ⟨us, h1, h2, h3⟩ := h
  exact ⟨us, h1, owns_below h2 hb hlt, fun j hj => owns_below (h3 j hj) hb hlt⟩
theorem OwnL.heap (h : OwnL w base v L) (hh : w'.heap = w.heap) : OwnL w' base v L := by
  obtain ⟨us, h1, h2, h3⟩ := h
  exact ⟨us, h1, owns_heap h2 hh, fun j hj => owns_heap (h3 j hj) hh⟩
theorem OwnL.grown {row : Option Nat} (h : OwnL w base v L) (hg : w.grownBy w' row) (hne : ∀ k, row = some k → ∃ cur e, w.heap[k]? = some (.cells cur e (0, 0)) ∧ e ≠ 3 ∧ e ≠ 23) : OwnL w' base v L := by
  have far : ∀ {e : TypeId} {u : Value} {n : Nat} {xs : List Value}, (e = 3 ∨ e = 23) → w.ownsRow base e 1 u n xs → w'.ownsRow base e 1 u n xs := by
    intro e u n xs he hu
    refine owns_of_block hu fun k hk => hg.block k (hu.lt k hk).2 fun hr => ?_
    obtain ⟨cur, e2, h1, h2, h3⟩ := hne k hr.symm
    rcases hu with ⟨_, ⟨rfl, _⟩ | ⟨g, cap, cur', rfl, _, hg', _⟩⟩
    · cases hk
    · simp only [Value.ownBlock, Option.some.injEq] at hk
      subst hk
      rw [hg'] at h1
      simp at h1
      rcases he with rfl | rfl
      · exact h2 h1.2.symm
      · exact h3 h1.2.symm
  obtain ⟨us, h1, h2, h3⟩ := h
  exact ⟨us, h1, far (.inr rfl) h2, fun j hj => far (.inl rfl) (h3 j hj)⟩
theorem owns_typed {e : TypeId} {size n : Nat} {u : Value} {xs : List Value} (h : w.ownsRow base e size u n xs) : ∀ k, u.ownBlock = some k → ∃ cur, w.heap[k]? = some (.cells cur e (0, 0)) := by
  intro k hk
  rcases h with ⟨_, ⟨rfl, _⟩ | ⟨g, cap, cur, rfl, _, hg, _⟩⟩
  · cases hk
  · simp only [Value.ownBlock, Option.some.injEq] at hk
    subst hk
    exact ⟨cur, hg⟩
theorem OwnL.shape (h : OwnL w base v L) : (v = .slice none 0 0 ∧ L.length = 0) ∨ ∃ g c, v = .slice (some ⟨g, 0, none⟩) L.length c := by
  obtain ⟨us, h1, h2, h3⟩ := h
  rcases h2.2 with ⟨rfl, h0⟩ | ⟨g, cap, cur, rfl, _⟩
  · exact .inl ⟨rfl, h0⟩
  · exact .inr ⟨g, cap, rfl⟩
theorem OwnL.down {base' : Nat} (h : OwnL w base v L) (hb : base' ≤ base) : OwnL w base' v L := by
  obtain ⟨us, h1, h2, h3⟩ := h
  exact ⟨us, h1, owns_base h2 hb, fun j hj => owns_base (h3 j hj) hb⟩
theorem OwnL.setCell (h : OwnL w base v L) {a : Addr} (ha : a.block < base) (u : Value) : OwnL (w.setCell a u) base v L := by
  obtain ⟨us, h1, h2, h3⟩ := h
  exact ⟨us, h1, owns_of_block h2 fun k hk => Deep.blk_setCell_other w a u k (by have := (h2.lt k hk).1; omega), fun j hj => owns_of_block (h3 j hj) fun k hk => Deep.blk_setCell_other w a u k (by have := ((h3 j hj).lt k hk).1; omega)⟩
theorem OwnL.alloc (h : OwnL w base v L) (o : Obj) : OwnL (w.alloc o) base v L := by
  obtain ⟨us, h1, h2, h3⟩ := h
  exact ⟨us, h1, h2.alloc o, fun j hj => (h3 j hj).alloc o⟩
/-- Behind an append of a row. -/
theorem OwnL.push {u v' : Value} {l : List Int} {us : List Value} (h1 : us.length = L.length) (h2 : w.ownsRow base 23 1 v L.length us) (h3 : ∀ j, j < L.length → OwnI w base (us.getD j (.slice none 0 0)) (L.getD j []))
    (hu : OwnI w base u l) (h' : w'.ownsRow base 23 1 v' (L.length + 1) (us ++ [u])) (hg : w.grownBy w' v.ownBlock) : OwnL w' base v' (L ++ [l]) := by
  have kept : ∀ {x : Value} {k : List Int}, OwnI w base x k → OwnI w' base x k := fun hx => World.ownsRow.kept hx hg (owns_ne hx h2 (by decide))
  refine ⟨us ++ [u], by simp [h1], by simpa using h', fun j hj => ?_⟩
  by_cases hjl : j < L.length
  · have e1 : (us ++ [u]).getD j (.slice none 0 0) = us.getD j (.slice none 0 0) := by simp [List.getD, List.getElem?_append_left (show j < us.length by omega)]
    have e2 : (L ++ [l]).getD j [] = L.getD j [] := by simp [List.getD, List.getElem?_append_left hjl]
    rw [e1, e2]
    exact kept (h3 j hjl)
  · have hj' : j = L.length := by simp at hj; omega
    subst hj'
    have e1 : (us ++ [u]).getD L.length (.slice none 0 0) = u := by rw [← h1]; simp [List.getD]
    have e2 : (L ++ [l]).getD L.length [] = l := by simp [List.getD]
    rw [e1, e2]
    exact kept hu
theorem OwnL.lists (h : OwnL w base v L) (hm : L.length * 24 ≤ 140737488351232) (he : ∀ j, j < L.length → (L.getD j []).length * 8 ≤ 140737488351232) : Lists w v L := by
  obtain ⟨us, h1, h2, h3⟩ := h
  rcases h2.2 with ⟨rfl, h0⟩ | ⟨g, cap, cur, rfl, hb, hg, hn, hcap, hsz, htake⟩
  · exact ⟨none, 0, by rw [h0], by omega, hm, fun h => by omega⟩
  · refine ⟨some ⟨g, 0, none⟩, cap, rfl, hn, hm, fun _ => ⟨g, 0, rfl, fun j hj => ?_⟩⟩
    have := h2.cellAt j (by omega)
    refine ⟨us.getD j (.slice none 0 0), ?_, (h3 j hj).ints (he j hj)⟩
    rw [Nat.zero_add, this]
    simp [List.getD, show j < us.length by omega]
end
end K
end Go.Proofs.YtfhodbnhaaiceaaDoor
end
