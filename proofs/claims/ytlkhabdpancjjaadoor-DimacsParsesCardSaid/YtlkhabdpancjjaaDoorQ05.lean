/- Several texts, joined. -/
import Derived.Test.YtlkhabdpancjjaaDoorQ04
import Derived.Laws.OwnMore
import Derived.Deep.Heap
import Derived.Deep.AppendLies
import Derived.Test.YtlkhabdpancjjaaDoorQ01

/- Memory that a call makes for itself: boxes, rows of ints, rows of rows. -/
section
namespace Go.Proofs.YtlkhabdpancjjaaDoor
open Go.RowKit
namespace K

/-- Block b is a box with the cells cs. -/
def Box (w : World) (b : Nat) (T : TypeId) (cs : Array Value) : Prop := w.heap[b]? = some (.cells cs T (0, 0))
section
variable {w w' : World} {b : Nat} {T : TypeId} {cs : Array Value}
theorem Box.lt (h : Box w b T cs) : b < w.heap.size := by
  unfold Box at h
  by_cases hb : b < w.heap.size
  · exact hb
  · rw [Array.getElem?_eq_none (by omega)] at h; cases h
theorem Box.cell (h : Box w b T cs) (j : Nat) : w.cell? ⟨b, j, none⟩ = cs[j]? := cell_of_row w b j cs T (0, 0) h
theorem Box.frozen (h : Box w b T cs) (j : Nat) : w.frozen? ⟨b, j, none⟩ = false := frozen_of_row w b j cs T h
theorem Box.of_block (h : Box w b T cs) (e : w'.heap[b]? = w.heap[b]?) : Box w' b T cs := e.trans h
theorem Box.heap (h : Box w b T cs) (e : w'.heap = w.heap) : Box w' b T cs := by unfold Box at *; rw [e]; exact h
theorem Box.alloc (h : Box w b T cs) (o : Obj) : Box (w.alloc o) b T cs := h.of_block (Deep.blk_alloc_lt w o b h.lt)
theorem Box.new (w : World) (T : TypeId) (cs : Array Value) : Box (w.alloc (.cells cs T)) w.heap.size T cs := Deep.blk_alloc_new w _
theorem Box.at (w : World) (T : TypeId) (cs : Array Value) {b : Nat} (hb : b = w.heap.size) : Box (w.alloc (.cells cs T)) b T cs := by rw [hb]; exact Box.new w T cs
theorem Box.below {B : Nat} (h : Box w b T cs) (hb : Below B w w') (hlt : b < B) : Box w' b T cs := h.of_block (hb.block b hlt)
theorem Box.grown {row : Option Nat} (h : Box w b T cs) (hg : w.grownBy w' row) (hne : some b ≠ row) : Box w' b T cs := h.of_block (hg.block b h.lt hne)
theorem Box.setOther (h : Box w b T cs) (a : Addr) (hne : b ≠ a.block) (u : Value) : Box (w.setCell a u) b T cs := h.of_block (Deep.blk_setCell_other w a u b hne)
theorem Box.set (h : Box w b T cs) (j : Nat) (u : Value) : Box (w.setCell ⟨b, j, none⟩ u) b T (cs.setIfInBounds j u) := heap_setCell_same w b j cs T u h
end

section
variable {w w' : World} {base : Nat} {e : TypeId} {size n : Nat} {v : Value} {xs : List Value}
theorem owns_of_block (h : w.ownsRow base e size v n xs) (hb : ∀ k, v.ownBlock = some k → w'.heap[k]? = w.heap[k]?) : w'.ownsRow base e size v n xs := by
  rcases h with ⟨h0, ⟨rfl, h1⟩ | ⟨g, cap, cur, rfl, h1, hg, h2⟩⟩
  · exact ⟨h0, .inl ⟨rfl, h1⟩⟩
  · exact ⟨h0, .inr ⟨g, cap, cur, rfl, h1, (hb g rfl).trans hg, h2⟩⟩
theorem owns_below {B : Nat} (h : w.ownsRow base e size v n xs) (hb : Below B w w') (hlt : w.heap.size ≤ B) : w'.ownsRow base e size v n xs :=
  owns_of_block h fun k hk => hb.block k (Nat.lt_of_lt_of_le (h.lt k hk).2 hlt)
theorem owns_heap (h : w.ownsRow base e size v n xs) (hh : w'.heap = w.heap) : w'.ownsRow base e size v n xs := owns_of_block h fun _ _ => by rw [hh]
theorem owns_base {base' : Nat} (h : w.ownsRow base e size v n xs) (hb : base' ≤ base) : w.ownsRow base' e size v n xs := by
  rcases h with ⟨h0, ⟨rfl, h1⟩ | ⟨g, cap, cur, rfl, h1, hg, h2⟩⟩
  · exact ⟨h0, .inl ⟨rfl, h1⟩⟩
  · exact ⟨h0, .inr ⟨g, cap, cur, rfl, Nat.le_trans hb h1, hg, h2⟩⟩
/-- Rows of different types of elements lie in different blocks. -/
theorem owns_ne {base2 : Nat} {e2 : TypeId} {size2 n2 : Nat} {v2 : Value} {xs2 : List Value} (h : w.ownsRow base e size v n xs) (h2 : w.ownsRow base2 e2 size2 v2 n2 xs2) (hne : e ≠ e2) : v.ownBlock = none ∨ v.ownBlock ≠ v2.ownBlock := by
  rcases h with ⟨_, ⟨rfl, _⟩ | ⟨g, cap, cur, rfl, _, hg, _⟩⟩
  · exact .inl rfl
  · right
    rcases h2 with ⟨_, ⟨rfl, _⟩ | ⟨g2, cap2, cur2, rfl, _, hg2, _⟩⟩
    · simp [Value.ownBlock]
    · simp only [Value.ownBlock, ne_eq, Option.some.injEq]
      rintro rfl
      rw [hg] at hg2
      simp at hg2
      exact hne hg2.2
end

theorem owns_shape {w : World} {base : Nat} {e : TypeId} {size n : Nat} {v : Value} {xs : List Value} (h : w.ownsRow base e size v n xs) : ∃ p c, v = .slice p n c := by
  rcases h with ⟨_, ⟨rfl, rfl⟩ | ⟨g, cap, cur, rfl, _⟩⟩
  · exact ⟨_, _, rfl⟩
  · exact ⟨_, _, rfl⟩
theorem owns_form {w : World} {base : Nat} {e : TypeId} {size n : Nat} {v : Value} {xs : List Value} (h : w.ownsRow base e size v n xs) (hn : 0 < n) :
    ∃ g cap, v = .slice (some ⟨g, 0, none⟩) n cap ∧ base ≤ g ∧ g < w.heap.size := World.ownsRow.form h hn
/-- A row of ints of the call's own. -/
def OwnI (w : World) (base : Nat) (v : Value) (l : List Int) : Prop := w.ownsRow base 3 1 v l.length (l.map (Value.int .i64))
theorem OwnI.nil (w : World) (base : Nat) : OwnI w base (.slice none 0 0) [] := World.ownsRow_nil _ _ _ _
theorem OwnI.ints {w : World} {base : Nat} {v : Value} {l : List Int} (h : OwnI w base v l) (hm : l.length * 8 ≤ 140737488351232) : Ints w v l := L.owns_ints h hm

/-- A row of rows of ints of the call's own. -/
def OwnL (w : World) (base : Nat) (v : Value) (L : List (List Int)) : Prop :=
  ∃ us : List Value, us.length = L.length ∧ w.ownsRow base 34 1 v L.length us ∧ ∀ j, j < L.length → OwnI w base (us.getD j (.slice none 0 0)) (L.getD j [])
section
variable {w w' : World} {base : Nat} {v : Value} {L : List (List Int)}
theorem OwnL.nil (w : World) (base : Nat) : OwnL w base (.slice none 0 0) [] := ⟨[], rfl, World.ownsRow_nil _ _ _ _, fun j hj => by simp at hj⟩
theorem OwnL.below {B : Nat} (h : OwnL w base v L) (hb : Below B w w') (hlt : w.heap.size ≤ B) : OwnL w' base v L := by
  obtain ⟨us, h1, h2, h3⟩ := h
  exact ⟨us, h1, owns_below h2 hb hlt, fun j hj => owns_below (h3 j hj) hb hlt⟩
theorem OwnL.heap (h : OwnL w base v L) (hh : w'.heap = w.heap) : OwnL w' base v L := by
  obtain ⟨us, h1, h2, h3⟩ := h
  exact ⟨us, h1, owns_heap h2 hh, fun j hj => owns_heap (h3 j hj) hh⟩
theorem OwnL.grown {row : Option Nat} (h : OwnL w base v L) (hg : w.grownBy w' row) (hne : ∀ k, row = some k → ∃ cur e, w.heap[k]? = some (.cells cur e (0, 0)) ∧ e ≠ 3 ∧ e ≠ 34) : OwnL w' base v L := by
  have far : ∀ {e : TypeId} {u : Value} {n : Nat} {xs : List Value}, (e = 3 ∨ e = 34) → w.ownsRow base e 1 u n xs → w'.ownsRow base e 1 u n xs := by
    intro e u n xs he hu
    refine owns_of_block hu fun k hk => hg.block k (hu.lt k hk).2 fun hr => ?_
    obtain ⟨cur, e2, h1, h2, h3⟩ := hne k hr.symm
    rcases hu with ⟨_, ⟨rfl, _⟩ | ⟨g, cap, cur', rfl, _, hg', _⟩⟩
    · cases hk
    · simp only [Value.ownBlock, Option.some.injEq] at hk
      subst hk
      rw [hg'] at h1
      simp at h1
      rcases he with rfl | rfl
      · exact h2 h1.2.symm
      · exact h3 h1.2.symm
  obtain ⟨us, h1, h2, h3⟩ := h
  exact ⟨us, h1, far (.inr rfl) h2, fun j hj => far (.inl rfl) (h3 j hj)⟩
theorem owns_typed {e : TypeId} {size n : Nat} {u : Value} {xs : List Value} (h : w.ownsRow base e size u n xs) : ∀ k, u.ownBlock = some k → ∃ cur, w.heap[k]? = some (.cells cur e (0, 0)) := by
  intro k hk
  rcases h with ⟨_, ⟨rfl, _⟩ | ⟨g, cap, cur, rfl, _, hg, _⟩⟩
  · cases hk
  · simp only [Value.ownBlock, Option.some.injEq] at hk
    subst hk
    exact ⟨cur, hg⟩
theorem OwnL.shape (h : OwnL w base v L) : (v = .slice none 0 0 ∧ L.length = 0) ∨ ∃ g c, v = .slice (some ⟨g, 0, none⟩) L.length c := by
  obtain ⟨us, h1, h2, h3⟩ := h
  rcases h2.2 with ⟨rfl, h0⟩ | ⟨g, cap, cur, rfl, _⟩
  · exact .inl ⟨rfl, h0⟩
  · exact .inr ⟨g, cap, rfl⟩
theorem OwnL.down {base' : Nat} (h : OwnL w base v L) (hb : base' ≤ base) : OwnL w base' v L := by
  obtain ⟨us, h1, h2, h3⟩ := h
  exact ⟨us, h1, owns_base h2 hb, fun j hj => owns_base (h3 j hj) hb⟩
theorem OwnL.setCell (h : OwnL w base v L) {a : Addr} (ha : a.block < base) (u : Value) : OwnL (w.setCell a u) base v L := by
  obtain ⟨us, h1, h2, h3⟩ := h
  exact ⟨us, h1, owns_of_block h2 fun k hk => Deep.blk_setCell_other w a u k (by have := (h2.lt k hk).1; omega), fun j hj => owns_of_block (h3 j hj) fun k hk => Deep.blk_setCell_other w a u k (by have := ((h3 j hj).lt k hk).1; omega)⟩
theorem OwnL.alloc (h : OwnL w base v L) (o : Obj) : OwnL (w.alloc o) base v L := by
  obtain ⟨us, h1, h2, h3⟩ := h
  exact ⟨us, h1, h2.alloc o, fun j hj => (h3 j hj).alloc o⟩
/-- Behind an append of a row. -/
theorem OwnL.push {u v' : Value} {l : List Int} {us : List Value} (h1 : us.length = L.length) (h2 : w.ownsRow base 34 1 v L.length us) (h3 : ∀ j, j < L.length → OwnI w base (us.getD j (.slice none 0 0)) (L.getD j []))
    (hu : OwnI w base u l) (h' : w'.ownsRow base 34 1 v' (L.length + 1) (us ++ [u])) (hg : w.grownBy w' v.ownBlock) : OwnL w' base v' (L ++ [l]) := by
  have kept : ∀ {x : Value} {k : List Int}, OwnI w base x k → OwnI w' base x k := fun hx => World.ownsRow.kept hx hg (owns_ne hx h2 (by decide))
  refine ⟨us ++ [u], by simp [h1], by simpa using h', fun j hj => ?_⟩
  by_cases hjl : j < L.length
  · have e1 : (us ++ [u]).getD j (.slice none 0 0) = us.getD j (.slice none 0 0) := by simp [List.getD, List.getElem?_append_left (show j < us.length by omega)]
    have e2 : (L ++ [l]).getD j [] = L.getD j [] := by simp [List.getD, List.getElem?_append_left hjl]
    rw [e1, e2]
    exact kept (h3 j hjl)
  · have hj' : j = L.length := by simp at hj; omega
    subst hj'
    have e1 : (us ++ [u]).getD L.length (.slice none 0 0) = u := by rw [← h1]; simp [List.getD]
    have e2 : (L ++ [l]).getD L.length [] = l := by simp [List.getD]
    rw [e1, e2]
    exact kept hu
theorem OwnL.lists (h : OwnL w base v L) (hm : L.length * 24 ≤ 140737488351232) (he : ∀ j, j < L.length → (L.getD j []).length * 8 ≤ 140737488351232) : Lists w v L := by
  obtain ⟨us, h1, h2, h3⟩ := h
  rcases h2.2 with ⟨rfl, h0⟩ | ⟨g, cap, cur, rfl, hb, hg, hn, hcap, hsz, htake⟩
  · exact ⟨none, 0, by rw [h0], by omega, hm, fun h => by omega⟩
  · refine ⟨some ⟨g, 0, none⟩, cap, rfl, hn, hm, fun _ => ⟨g, 0, rfl, fun j hj => ?_⟩⟩
    have := h2.cellAt j (by omega)
    refine ⟨us.getD j (.slice none 0 0), ?_, (h3 j hj).ints (he j hj)⟩
    rw [Nat.zero_add, this]
    simp [List.getD, show j < us.length by omega]
end
end K
end Go.Proofs.YtlkhabdpancjjaaDoor
end

/- The closure of strings.Lines as an iterator. -/
section
namespace Go.Proofs.YtlkhabdpancjjaaDoor
open Go.RowKit PA RA
namespace L
open K
attribute [local go_sem] Oper.semAt_some

def strLen (W : World) (B : Nat) : Nat := match W.cell? ⟨B, 0, none⟩ with | some (.string t) => t.size | _ => 0
theorem strLen_eq {W : World} {B : Nat} {t : ByteArray} (h : Box W B 9 #[.string t]) : strLen W B = t.size := by
  unfold strLen; rw [h.cell 0]; rfl
/-- Line k of a text. -/
def lineAt (s : ByteArray) (k : Nat) : ByteArray := ⟨((lns s.data.toList).getD k []).toArray⟩

theorem extract_take (t : ByteArray) (k : Nat) : (t.extract 0 k).data.toList = t.data.toList.take k := by
  rw [ByteArray.data_extract, Array.toList_extract, List.extract_eq_take_drop, Nat.sub_zero, List.drop_zero]
theorem getD_of_drop {L R : List (List UInt8)} {x : List UInt8} {k : Nat} (h : x :: R = L.drop k) : k < L.length ∧ L.getD k [] = x ∧ R = L.drop (k + 1) := by
  have hk : k < L.length := by
    by_cases hk : k < L.length
    · exact hk
    · rw [List.drop_eq_nil_of_le (by omega)] at h; cases h
  rw [List.drop_eq_getElem_cons hk] at h
  injection h with h1 h2
  exact ⟨hk, by rw [List.getD_eq_getElem?_getD, List.getElem?_eq_getElem hk]; exact h1.symm, h2⟩
theorem line_of {s : ByteArray} {t : ByteArray} {k : Nat} (h : (lns s.data.toList).getD k [] = t.data.toList) : lineAt s k = t := by
  unfold lineAt; rw [h]
theorem box_set {W : World} {B : Nat} {t u : ByteArray} (h : Box W B 9 #[.string t]) : Box (W.setCell ⟨B, 0, none⟩ (.string u)) B 9 #[.string u] := by
  have := h.set 0 (.string u)
  simpa using this
theorem box_keep {W W' : World} {B : Nat} {T : TypeId} {cs : Array Value} (h : Box W B T cs) {p : Nat → Prop} (hk : Keep p W W') (hp : p B) : Box W' B T cs := hk.heap h hp

set_option maxRecDepth 100000 in
set_option maxHeartbeats 2000000 in
theorem lines_iter (s : ByteArray) (B : Nat) (w : World) (hs : s.size ≤ 9223372036854775806) (hbox : Box w B 9 #[.string s]) :
    Iter Tryd.prog 55 #[.pointer (some ⟨B, 0, none⟩)] (lns s.data.toList).length (fun k _ args => args = #[.string (lineAt s k)]) (fun i => i = B) w := by
  intro l J Jx hJ hJx hY h0
  refine callsIn_of_wp Tryd.func55 rfl trivial ?_ rfl
  simp only [Tryd.ntmps55, List.size_toArray, List.length_cons, List.length_nil, Nat.reduceAdd, Nat.reduceSub, Array.replicate_succ, Array.replicate_zero, List.push_toArray, List.append_toArray, List.nil_append, List.cons_append]
  gi_wp2
  gi_loopw [3, 4] (fun _ _ wr => ∃ (k : Nat) (t : ByteArray), k ≤ (lns s.data.toList).length ∧ J k wr ∧ Box wr B 9 #[.string t] ∧ lns t.data.toList = (lns s.data.toList).drop k ∧ t.size ≤ s.size) (fun _ _ wr => strLen wr B)
  case atStart => exact ⟨0, s, Nat.zero_le _, h0, hbox, rfl, Nat.le_refl _⟩
  case round =>
    obtain ⟨k, t, hk, hj, hb, hl, ht⟩ := hrel
    have hc := hb.cell 0
    have hf := hb.frozen 0
    simp only [List.getElem?_toArray, List.getElem?_cons_zero] at hc
    have HB := Lib.hid hb
    have HL := Lib.hid hl
    have HM : Hid (strLen wr B = t.size) := strLen_eq hb
    clear hb hl
    by_cases h0 : t.size = 0
    · have hnil : t.data.toList = [] := List.eq_nil_of_length_eq_zero (by rw [← Lib.size_eq]; exact h0)
      have hkl : k = (lns s.data.toList).length := by
        have := HL.out
        rw [hnil, lns_nil] at this
        have h2 := List.drop_eq_nil_iff.1 this.symm
        omega
      clear hnil
      gi_wp2
      go_end0
      exact ⟨⟨_, rfl⟩, .inl (hkl ▸ hj)⟩
    · have hpos : 0 < t.size := by omega
      obtain ⟨i, hi⟩ : ∃ i, Lib.indexByte t.data.toList 10 = i := ⟨_, rfl⟩
      have hix := Tryd.strings_IndexByte t 10 wr
      rw [show (10 : Int).toNat.toUInt8 = 10 from rfl, hi] at hix
      have HI := Lib.hid hi
      clear hi
      by_cases hneg : i < 0
      · have hne : t.data.toList ≠ [] := by intro h; have := Lib.size_eq t; rw [h, List.length_nil] at this; omega
        have hl1 := lns_last t.data.toList (by rw [HI.out]; exact hneg) hne
        rw [HL.out] at hl1
        obtain ⟨hklt, hline, hrest⟩ := getD_of_drop hl1.symm
        have hline' := line_of hline
        have hb2 := box_set (u := ⟨#[]⟩) HB.out
        have hk2 : Keep (fun i => ¬ i = B) wr (wr.setCell ⟨B, 0, none⟩ (.string ⟨#[]⟩)) := (Keep.refl _ _).setCell (fun h => h rfl) _
        obtain ⟨fn, tmps, assign, body, hy, hR⟩ := hY k _ _ hklt rfl (hJ _ _ _ hj hk2)
        rw [hline'] at hy
        have HR := Lib.hid hrest
        have HKL := Lib.hid hklt
        have HB2 := Lib.hid hb2
        clear hne hl1 hline hline' hrest hklt hb2 hk2
        gi_wp2
        refine ⟨trivial, rfl, (callsIn_wide.2 hix).mono ?_⟩
        rintro e w' ⟨rfl, rfl⟩
        clear hix
        gi_wp2
        refine ⟨(by simp [Fence.wide]), hR.mono ?_⟩
        rintro e W3 (⟨rfl, hJ3, hk3⟩ | ⟨rfl, hJx3, _⟩)
        · have HB3 : Hid (Box W3 B 9 #[.string ⟨#[]⟩]) := Lib.hid (box_keep HB2.out hk3 rfl)
          gi_wp2
          go_roundw
          case rel => exact ⟨k + 1, ⟨#[]⟩, HKL.out, hJ3, HB3.out, HR.out, Nat.zero_le _⟩
          case measure => rw [strLen_eq HB3.out, HM.out]; exact hpos
        · gi_wp2
          refine bodyPost_ret (results_none rfl _ _ _) rfl ?_
          exact ⟨⟨_, rfl⟩, .inr ⟨k + 1, HKL.out, hJx3⟩⟩
      · have hnn : 0 ≤ i := by omega
        obtain ⟨q, rfl⟩ := Int.eq_ofNat_of_zero_le hnn
        have hcut := lns_cut t.data.toList q HI.out
        obtain ⟨hq1, _, _⟩ := index_some _ _ _ HI.out
        rw [← Lib.size_eq] at hq1
        rw [HL.out] at hcut
        obtain ⟨hklt, hline, hrest⟩ := getD_of_drop hcut.symm
        have hline' := line_of (t := t.extract 0 (q + 1)) (hline.trans (extract_take _ _).symm)
        rw [← Lib.extract_to_end] at hrest
        have hb2 := box_set (u := t.extract (q + 1) t.size) HB.out
        have hk2 : Keep (fun i => ¬ i = B) wr (wr.setCell ⟨B, 0, none⟩ (.string (t.extract (q + 1) t.size))).drew := ((Keep.refl _ _).setCell (fun h => h rfl) _).drew
        obtain ⟨fn, tmps, assign, body, hy, hR⟩ := hY k _ _ hklt rfl (hJ _ _ _ hj hk2)
        rw [hline'] at hy
        have HR := Lib.hid hrest
        have HKL := Lib.hid hklt
        have HB2 := Lib.hid hb2
        have hi1 : (q : Int) + 1 ≤ (t.size : Int) := by omega
        have hts : (((q : Int) + 1)).toNat = q + 1 := by omega
        have HTS := Lib.hid hts
        clear hcut hline hline' hrest hklt hb2 hk2 hts
        gi_wp2
        refine ⟨trivial, rfl, (callsIn_wide.2 hix).mono ?_⟩
        rintro e w' ⟨rfl, rfl⟩
        clear hix
        gi_wp2
        gi_region
        gi_wp2
        refine ⟨(by simp [Fence.wide]), hR.mono ?_⟩
        rintro e W3 (⟨rfl, hJ3, hk3⟩ | ⟨rfl, hJx3, _⟩)
        · have HB3 : Hid (Box W3 B 9 #[.string (t.extract (q + 1) t.size)]) := Lib.hid (hk3.heap (Box.heap HB2.out rfl) rfl)
          gi_wp2
          go_roundw
          case rel => exact ⟨k + 1, _, HKL.out, hJ3, HB3.out, HR.out, by rw [ByteArray.size_extract]; omega⟩
          case measure => rw [strLen_eq HB3.out, HM.out, ByteArray.size_extract]; omega
        · gi_wp2
          refine bodyPost_ret (results_none rfl _ _ _) rfl ?_
          exact ⟨⟨_, rfl⟩, .inr ⟨k + 1, HKL.out, hJx3⟩⟩
end L
end Go.Proofs.YtlkhabdpancjjaaDoor
end

/- Plain: the reader of a formula's text. No program. -/
section
namespace Go.Proofs.PA
open Go.Lib

structure RS where
  line : Int
  header : Bool
  vars : Int
  cls : List (List Int)
  left : Int
  cur : List Int
  first : Int

def num (w : List UInt8) : Int × Bool := numM 1048577 w
/-- A word of a clause. -/
def addS (r : RS) (w : List UInt8) : RS × Int :=
  if r.left = 0 ∨ (num w).2 = false then (r, 4)
  else if (num w).1 = 0 then ({ r with cls := r.cls ++ [r.cur], cur := [], left := r.left - 1 }, 0)
  else if r.vars < (num w).1 ∨ r.vars < -(num w).1 then (r, 3)
  else if r.cur.length = 4096 then (r, 5)
  else ({ r with cur := r.cur ++ [(num w).1] }, 0)
def wordsS (r : RS) : List (List UInt8) → RS × Int
  | [] => (r, 0)
  | w :: ws => if (addS r w).2 = 0 then wordsS (addS r w).1 ws else addS r w
/-- The words of the header. -/
def headS (ws : List (List UInt8)) : Int × Int × Int :=
  if ws.length ≠ 4 ∨ ws.getD 0 [] ≠ [112] ∨ ws.getD 1 [] ≠ [99, 110, 102] then (0, 0, 4)
  else
    let a := num (ws.getD 2 []); let b := num (ws.getD 3 [])
    if a.2 = false ∨ b.2 = false ∨ a.1 < 0 ∨ b.1 < 0 then (0, 0, 4)
    else if 1048576 < a.1 then (0, 0, 3)
    else if 1048576 < b.1 then (0, 0, 5)
    else (a.1, b.1, 0)
def beginS (r : RS) (ws : List (List UInt8)) : RS × Int :=
  if (headS ws).2.2 = 0 then ({ r with header := true, vars := (headS ws).1, left := (headS ws).2.1 }, 0) else (r, (headS ws).2.2)
def takeS (r : RS) (ws : List (List UInt8)) : RS × Int := if r.header then wordsS r ws else beginS r ws

/-- What a reader's state keeps. -/
structure Wf (r : RS) : Prop where
  v0 : 0 ≤ r.vars
  v1 : r.vars ≤ 1048576
  l0 : 0 ≤ r.left
  l1 : r.left + r.cls.length ≤ 1048576
  c1 : r.cur.length ≤ 4096
  h0 : r.header = false → r.cls = []

theorem num_bound (w : List UInt8) : -1048577 ≤ (num w).1 ∧ (num w).1 ≤ 1048577 := by
  unfold num numM
  simp only
  split
  · rename_i h
    have h2 : (trimPrefix w [45]).all digB = true := by simp only [Bool.and_eq_true] at h; exact h.2
    have := clamp_bound (M := 1048577) (x := 0) (l := trimPrefix w [45]) (by omega) (by omega) (by omega) (fun b hb => List.all_eq_true.1 h2 b hb)
    simp only
    split <;> omega
  · simp
theorem Wf.add {r : RS} (h : Wf r) (hh : r.header = true) (w : List UInt8) : Wf (addS r w).1 ∧ (addS r w).1.header = true := by
  obtain ⟨v0, v1, l0, l1, c1, h0⟩ := h
  unfold addS
  split
  · exact ⟨⟨v0, v1, l0, l1, c1, h0⟩, hh⟩
  · rename_i hn
    split
    · refine ⟨⟨v0, v1, ?_, ?_, by simp, fun h => by rw [hh] at h; cases h⟩, hh⟩
      · show 0 ≤ r.left - 1; omega
      · show r.left - 1 + ((r.cls ++ [r.cur]).length : Int) ≤ 1048576
        rw [List.length_append, List.length_singleton]; omega
    · split
      · exact ⟨⟨v0, v1, l0, l1, c1, h0⟩, hh⟩
      · split
        · exact ⟨⟨v0, v1, l0, l1, c1, h0⟩, hh⟩
        · refine ⟨⟨v0, v1, l0, l1, ?_, fun h => by rw [hh] at h; cases h⟩, hh⟩
          show (r.cur ++ [(num w).1]).length ≤ 4096
          rw [List.length_append, List.length_singleton]; omega
theorem Wf.words {r : RS} (h : Wf r) (hh : r.header = true) (ws : List (List UInt8)) : Wf (wordsS r ws).1 ∧ (wordsS r ws).1.header = true := by
  induction ws generalizing r with
  | nil => exact ⟨h, hh⟩
  | cons w ws ih =>
    unfold wordsS
    split
    · exact ih (h.add hh w).1 (h.add hh w).2
    · exact h.add hh w
theorem head_bound {ws : List (List UInt8)} (h : (headS ws).2.2 = 0) : 0 ≤ (headS ws).1 ∧ (headS ws).1 ≤ 1048576 ∧ 0 ≤ (headS ws).2.1 ∧ (headS ws).2.1 ≤ 1048576 := by
  unfold headS at *
  split at h
  · simp at h
  · rename_i h1
    rw [if_neg h1]
    simp only at h ⊢
    split at h
    · simp at h
    · rename_i h2
      rw [if_neg h2]
      split at h
      · simp at h
      · rename_i h3
        rw [if_neg h3]
        split at h
        · simp at h
        · rename_i h4
          rw [if_neg h4]
          refine ⟨?_, by simp only; omega, ?_, by simp only; omega⟩
          · simp only; by_cases hx : (num (ws.getD 2 [])).1 < 0
            · exact absurd (.inr (.inr (.inl hx))) h2
            · omega
          · simp only; by_cases hx : (num (ws.getD 3 [])).1 < 0
            · exact absurd (.inr (.inr (.inr hx))) h2
            · omega
theorem Wf.take {r : RS} (h : Wf r) (ws : List (List UInt8)) : Wf (takeS r ws).1 := by
  unfold takeS
  split
  · rename_i hh; exact (h.words hh ws).1
  · rename_i hh
    unfold beginS
    split
    · rename_i he
      obtain ⟨a1, a2, a3, a4⟩ := head_bound he
      refine ⟨a1, a2, a3, ?_, h.c1, fun h => by cases h⟩
      show (headS ws).2.1 + (r.cls.length : Int) ≤ 1048576
      rw [h.h0 (by simpa using hh)]
      simpa using a4
    · exact h

/-- The lines that are no comments: their numbers and words. -/
def contentS (n : Int) : List (List UInt8) → List (Int × List (List UInt8))
  | [] => []
  | t :: r => if words t = [] ∨ (words t).head? = some [99] then contentS (n + 1) r else (n + 1, words t) :: contentS (n + 1) r
/-- One line is read. -/
def lineS (r : RS) (x : Int × List (List UInt8)) : RS :=
  { (takeS { r with line := x.1 } x.2).1 with first := (takeS { r with line := x.1 } x.2).2 }
/-- The lines are read up to the first error. -/
def readS (r : RS) : List (Int × List (List UInt8)) → RS
  | [] => r
  | x :: xs => if (lineS r x).first = 0 then readS (lineS r x) xs else lineS r x
def start : RS := { line := 0, header := false, vars := 0, cls := [], left := 0, cur := [], first := 0 }
/-- What Parse returns: variables, clauses, line, error. -/
def endS (r : RS) (n : Int) : RS := if r.first = 0 ∧ (r.header = false ∨ 0 < r.left) then { r with line := n + 1, first := 4 } else r
def runS (l : List UInt8) : RS :=
  if 65536 < l.length then { start with first := 5 } else endS (readS start (contentS 0 (lns l))) (lns l).length
def parseS (l : List UInt8) : Int × List (List Int) × Int × Int :=
  if (runS l).first = 0 then ((runS l).vars, (runS l).cls, 0, 0) else (0, [], (runS l).line, (runS l).first)
theorem start_wf : Wf start := ⟨by decide, by decide, by decide, by decide, by decide, fun _ => rfl⟩
end Go.Proofs.PA
end
