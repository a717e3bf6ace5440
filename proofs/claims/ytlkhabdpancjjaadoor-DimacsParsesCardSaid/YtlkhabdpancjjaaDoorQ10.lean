/- Several texts, joined. -/
import Derived.Test.YtlkhabdpancjjaaDoorQ09
import Derived.Defers
import Derived.Test.YtlkhabdpancjjaaDoorQ05
import Derived.Lib.AppendStr
import Derived.Lib.ConvBytes
import Derived.Lib.AppendIntMem
import Derived.Lib.ItoaLen
import Derived.Test.YtlkhabdpancjjaaDoorQ02

/- Contract of dimacs.Parse. -/
section
namespace Go.Proofs.YtlkhabdpancjjaaDoor
open Go.RowKit PA RA
namespace L
open K

set_option maxHeartbeats 1000000 in
theorem close_ok (R E F L : Nat) (r : RS) (pv : Option Addr) (nv cv : Nat) (vk : Value) (u : FrameMode) (w : World) (_hu : u ≠ .run) (hR : Box w R 52 (rcells r (.slice pv nv cv) vk)) (hE : Box w E 27 #[.int .i64 0]) (hF : Box w F 24 #[.int .i64 0, .slice none 0 0])
    (_h1 : E ≠ R) (_h2 : F ≠ R) (h3 : F ≠ E) (h0 : r.first = 0) :
    CallsD Tryd.prog 25 #[.pointer (some ⟨R, 0, none⟩), .pointer (some ⟨E, 0, none⟩), .pointer (some ⟨F, 0, none⟩), .pointer (some ⟨L, 0, none⟩)] u w fun e u' w' => u' = u ∧ e = .returned (.tuple #[]) ∧
      w' = ((w.setCell ⟨E, 0, none⟩ (.int .i64 0)).setCell ⟨F, 0, none⟩ (.int .i64 r.vars)).setCell ⟨F, 1, none⟩ (.slice pv nv cv) := by
  have c2 := hR.cell 2; have c3 := hR.cell 3; have c6 := hR.cell 6
  unfold rcells at c2 c3 c6
  rw [h0] at c6
  have e0 := hE.cell 0; have f0 := hF.cell 0; have f1 := hF.cell 1
  have ez := hE.frozen 0; have fz0 := hF.frozen 0; have fz1 := hF.frozen 1
  simp only [List.getElem?_toArray, List.getElem?_cons_zero, List.getElem?_cons_succ] at c2 c3 c6 e0 f0 f1
  clear h0
  go_enter_d Tryd.func25, Tryd.ntmps25
  go_wp2
  go_end0
  exact ⟨rfl, rfl⟩
set_option maxHeartbeats 1000000 in
theorem close_err (R E F L : Nat) (r : RS) (vc vk : Value) (u : FrameMode) (w : World) (_hu : u ≠ .run) (hR : Box w R 52 (rcells r vc vk)) (hE : Box w E 27 #[.int .i64 0]) (hL : Box w L 3 #[.int .i64 0])
    (h1 : E ≠ R) (h2 : L ≠ R) (h3 : L ≠ E) (h0 : r.first ≠ 0) :
    CallsD Tryd.prog 25 #[.pointer (some ⟨R, 0, none⟩), .pointer (some ⟨E, 0, none⟩), .pointer (some ⟨F, 0, none⟩), .pointer (some ⟨L, 0, none⟩)] u w fun e u' w' => u' = u ∧ e = .returned (.tuple #[]) ∧
      w' = (w.setCell ⟨E, 0, none⟩ (.int .i64 r.first)).setCell ⟨L, 0, none⟩ (.int .i64 r.line) := by
  have c0 := hR.cell 0; have c6 := hR.cell 6
  unfold rcells at c0 c6
  have e0 := hE.cell 0; have l0 := hL.cell 0
  have ez := hE.frozen 0; have lz0 := hL.frozen 0
  simp only [List.getElem?_toArray, List.getElem?_cons_zero, List.getElem?_cons_succ] at c0 c6 e0 l0
  have hz : (r.first == 0) = false := by simpa using h0
  clear h0
  go_enter_d Tryd.func25, Tryd.ntmps25
  go_wp2
  go_end0
  exact ⟨rfl, rfl⟩

/-- How Parse ends. -/
def ParseEnd (w : World) (x : Int × List (List Int) × Int × Int) (e : Ending) (w' : World) : Prop :=
  ∃ v B, e = .returned (.tuple #[.agg #[.int .i64 x.1, v], .int .i64 x.2.2.1, .int .i64 x.2.2.2]) ∧ Below w.heap.size w w' ∧ w.heap.size ≤ B ∧ OwnL w' B v x.2.1

set_option maxRecDepth 100000 in
set_option maxHeartbeats 2000000 in
theorem parse_any (s : ByteArray) (w : World) (hs : s.size ≤ 9223372036854775807) :
    Calls Tryd.prog 15 #[.string s] w (ParseEnd w (parseS s.data.toList)) := by
  have hread := fun R W hb => callsIn_wide.1 (read_any R s W hs hb)
  obtain ⟨x, hx⟩ : ∃ x, parseS s.data.toList = x := ⟨_, rfl⟩
  rw [hx]
  unfold parseS at hx
  obtain ⟨r, hr⟩ : ∃ r, runS s.data.toList = r := ⟨_, rfl⟩
  rw [hr] at hread hx
  clear hr
  have HR := Lib.hid hread
  have HX := Lib.hid hx
  clear hread hx
  go_enter_defers Tryd.func15, Tryd.ntmps15
  go_wp2_with (go_at_call 26; refine (HR.out _ _ (Box.at _ _ _ (by simp))).mono ?_; rintro e W1 ⟨⟨v, rfl⟩, hk, hwf, B, C, hB, hrd⟩)
  have hF : Box W1 w.heap.size 24 #[.int .i64 0, .slice none 0 0] := box_keep ((((Box.new _ _ _).alloc _).alloc _).alloc _) hk (by omega)
  have hL : Box W1 (w.heap.size + 1) 3 #[.int .i64 0] := box_keep (((Box.at _ _ _ (by simp)).alloc _).alloc _) hk (by omega)
  have hE : Box W1 (w.heap.size + 2) 27 #[.int .i64 0] := box_keep ((Box.at _ _ _ (by simp)).alloc _) hk (by omega)
  have hbel : Below w.heap.size w W1 := ((((Below.refl _ w).alloc (Nat.le_refl _) _).alloc (by simp) _).alloc (by simp; omega) _ |>.alloc (by simp; omega) _).trans (Keep.to_below hk (by simp; omega) (fun k hk => by omega))
  obtain ⟨h1, h2, h3, vc, vk, us, hbR, hus, hoc, hin, hok⟩ := hrd
  simp only [World.size_alloc] at hB
  by_cases h0 : r.first = 0
  · have hx := HX.out
    rw [if_pos h0] at hx
    subst hx
    obtain ⟨pv, cv, rfl⟩ := owns_shape hoc
    refine leaves_cons (f := 25) (args := #[.pointer (some ⟨w.heap.size + 3, 0, none⟩), .pointer (some ⟨w.heap.size + 2, 0, none⟩), .pointer (some ⟨w.heap.size, 0, none⟩), .pointer (some ⟨w.heap.size + 1, 0, none⟩)]) (by simp) (by simp [go_sem]) ?_
    refine (close_ok _ _ _ _ r pv _ cv vk .returning W1 (by simp) hbR hE hF (by omega) (by omega) (by omega) h0).mono ?_
    rintro e u' w'' ⟨rfl, rfl, rfl⟩
    obtain ⟨W2, hW2⟩ : ∃ W2, ((W1.setCell ⟨w.heap.size + 2, 0, none⟩ (.int .i64 0)).setCell ⟨w.heap.size, 0, none⟩ (.int .i64 r.vars)).setCell ⟨w.heap.size, 1, none⟩ (.slice pv r.cls.length cv) = W2 := ⟨_, rfl⟩
    have bF : Box W2 w.heap.size 24 #[.int .i64 r.vars, .slice pv r.cls.length cv] := by
      rw [← hW2]
      have := ((hF.setOther ⟨w.heap.size + 2, 0, none⟩ (by simp) (.int .i64 0)).set 0 (.int .i64 r.vars)).set 1 (.slice pv r.cls.length cv)
      simpa using this
    have bL : Box W2 (w.heap.size + 1) 3 #[.int .i64 0] := by
      rw [← hW2]
      exact ((hL.setOther ⟨w.heap.size + 2, 0, none⟩ (by simp) _).setOther ⟨w.heap.size, 0, none⟩ (by simp) _).setOther ⟨w.heap.size, 1, none⟩ (by simp) _
    have bE : Box W2 (w.heap.size + 2) 27 #[.int .i64 0] := by
      rw [← hW2]
      have := ((hE.set 0 (.int .i64 0)).setOther ⟨w.heap.size, 0, none⟩ (by simp) (.int .i64 r.vars)).setOther ⟨w.heap.size, 1, none⟩ (by simp) (.slice pv r.cls.length cv)
      simpa using this
    have hbel2 : Below w.heap.size w W2 := by
      rw [← hW2]
      exact ((hbel.setCell (p := ⟨w.heap.size + 2, 0, none⟩) (by simp) _).setCell (p := ⟨w.heap.size, 0, none⟩) (by simp) _).setCell (p := ⟨w.heap.size, 1, none⟩) (by simp) _
    have hset : ∀ {base n : Nat} {e : TypeId} {v : Value} {xs : List Value}, w.heap.size + 3 ≤ base → W1.ownsRow base e 1 v n xs → W2.ownsRow base e 1 v n xs := fun hlt hx => by
      rw [← hW2]
      exact ownsRow_setCell_below (ownsRow_setCell_below (ownsRow_setCell_below hx (a := ⟨w.heap.size + 2, 0, none⟩) (by show w.heap.size + 2 < _; omega) _) (a := ⟨w.heap.size, 0, none⟩) (by show w.heap.size < _; omega) _) (a := ⟨w.heap.size, 1, none⟩) (by show w.heap.size < _; omega) _
    have hown : OwnL W2 B (.slice pv r.cls.length cv) r.cls := ⟨us, hus, hset (by omega) hoc, fun j hj => hset (by omega) (hin j hj).1⟩
    have f0 := bF.cell 0; have f1 := bF.cell 1; have l0 := bL.cell 0; have e0 := bE.cell 0
    simp only [List.getElem?_toArray, List.getElem?_cons_zero, List.getElem?_cons_succ] at f0 f1 l0 e0
    rw [hW2]
    refine ⟨.tuple #[.agg #[.int .i64 r.vars, .slice pv r.cls.length cv], .int .i64 0, .int .i64 0], ?_, ?_⟩
    · simp [results, Tryd.results15, go_sem, f0, f1, l0, e0]
    · exact ⟨_, B, rfl, hbel2, by omega, hown⟩
  · have hx := HX.out
    rw [if_neg h0] at hx
    subst hx
    refine leaves_cons (f := 25) (args := #[.pointer (some ⟨w.heap.size + 3, 0, none⟩), .pointer (some ⟨w.heap.size + 2, 0, none⟩), .pointer (some ⟨w.heap.size, 0, none⟩), .pointer (some ⟨w.heap.size + 1, 0, none⟩)]) (by simp) (by simp [go_sem]) ?_
    refine (close_err _ _ _ _ r vc vk .returning W1 (by simp) hbR hE hL (by omega) (by omega) (by omega) h0).mono ?_
    rintro e u' w'' ⟨rfl, rfl, rfl⟩
    obtain ⟨W2, hW2⟩ : ∃ W2, (W1.setCell ⟨w.heap.size + 2, 0, none⟩ (.int .i64 r.first)).setCell ⟨w.heap.size + 1, 0, none⟩ (.int .i64 r.line) = W2 := ⟨_, rfl⟩
    have bF : Box W2 w.heap.size 24 #[.int .i64 0, .slice none 0 0] := by
      rw [← hW2]
      exact (hF.setOther ⟨w.heap.size + 2, 0, none⟩ (by simp) _).setOther ⟨w.heap.size + 1, 0, none⟩ (by simp) _
    have bL : Box W2 (w.heap.size + 1) 3 #[.int .i64 r.line] := by
      rw [← hW2]
      have := (hL.setOther ⟨w.heap.size + 2, 0, none⟩ (by simp) (.int .i64 r.first)).set 0 (.int .i64 r.line)
      simpa using this
    have bE : Box W2 (w.heap.size + 2) 27 #[.int .i64 r.first] := by
      rw [← hW2]
      have := (hE.set 0 (.int .i64 r.first)).setOther ⟨w.heap.size + 1, 0, none⟩ (by simp) (.int .i64 r.line)
      simpa using this
    have hbel2 : Below w.heap.size w W2 := by
      rw [← hW2]
      exact (hbel.setCell (p := ⟨w.heap.size + 2, 0, none⟩) (by simp) _).setCell (p := ⟨w.heap.size + 1, 0, none⟩) (by simp) _
    have f0 := bF.cell 0; have f1 := bF.cell 1; have l0 := bL.cell 0; have e0 := bE.cell 0
    simp only [List.getElem?_toArray, List.getElem?_cons_zero, List.getElem?_cons_succ] at f0 f1 l0 e0
    rw [hW2]
    refine ⟨.tuple #[.agg #[.int .i64 0, .slice none 0 0], .int .i64 r.line, .int .i64 r.first], ?_, ?_⟩
    · simp [results, Tryd.results15, go_sem, f0, f1, l0, e0]
    · exact ⟨_, B, rfl, hbel2, by omega, OwnL.nil _ _⟩
end L
end Go.Proofs.YtlkhabdpancjjaaDoor
end

/- A row of bytes of the call's own, at whose end a conversion's mark may stand: appending to it. -/
section
namespace Go.Proofs.YtlkhabdpancjjaaDoor
open Go.RowKit
namespace L
open K

/-- The slice v owns the bytes l; what is marked lies behind its row's cells. -/
def OwnM (w : World) (B : Nat) (v : Value) (l : List UInt8) : Prop :=
  ∃ g cap cur fz, v = .slice (some ⟨g, 0, none⟩) l.length cap ∧ B ≤ g ∧ w.heap[g]? = some (.cells cur 5 fz) ∧ (∀ k, k < cap → ¬ (fz.1 ≤ k ∧ k < fz.2)) ∧ l.length ≤ cap ∧ cap ≤ maxLen ∧ cur.size = cap ∧ cur.toList.take l.length = Lib.byteCells l

theorem bytes_append (a b : List UInt8) : Lib.byteCells (a ++ b) = Lib.byteCells a ++ Lib.byteCells b := by simp [Lib.byteCells]
theorem bytes_one (l : List UInt8) : ∀ u ∈ Lib.byteCells l, u.oneCell' = true := by
  intro u hu
  obtain ⟨b, _, rfl⟩ := List.mem_map.1 hu
  rfl
theorem OwnM.cells {w : World} {B : Nat} {v : Value} {l : List UInt8} (h : OwnM w B v l) : ∃ g cap, v = .slice (some ⟨g, 0, none⟩) l.length cap ∧ B ≤ g ∧ g < w.heap.size ∧ l.length ≤ cap ∧ ∀ j u, (Lib.byteCells l)[j]? = some u → w.cell? ((⟨g, 0, none⟩ : Addr).add j) = some u := by
  obtain ⟨g, cap, cur, fz, rfl, hB, hg, hf, hl, hm, hs, ht⟩ := h
  refine ⟨g, cap, rfl, hB, (Array.getElem?_eq_some_iff.1 hg).1, hl, fun j u hu => ?_⟩
  have hadd : (⟨g, 0, none⟩ : Addr).add j = ⟨g, j, none⟩ := by unfold Addr.add; split <;> simp_all
  rw [hadd, cell_of_row w g j cur 5 fz hg]
  rw [← ht, List.getElem?_take] at hu
  split at hu
  · simpa using hu
  · cases hu
theorem OwnM.kept {w w' : World} {B : Nat} {v : Value} {l : List UInt8} (h : OwnM w B v l) (hk : ∀ k, v.ownBlock = some k → w'.heap[k]? = w.heap[k]?) : OwnM w' B v l := by
  obtain ⟨g, cap, cur, fz, rfl, hB, hg, rest⟩ := h
  exact ⟨g, cap, cur, fz, rfl, hB, (hk g rfl).trans hg, rest⟩
theorem OwnM.alloc {w : World} {B : Nat} {v : Value} {l : List UInt8} (h : OwnM w B v l) (o : Obj) : OwnM (w.alloc o) B v l := by
  obtain ⟨g, cap, cur, fz, rfl, hB, hg, rest⟩ := h
  exact ⟨g, cap, cur, fz, rfl, hB, (Below.heap_alloc _ _ _ (Array.getElem?_eq_some_iff.1 hg).1).trans hg, rest⟩
theorem OwnM.below {w w' : World} {B C : Nat} {v : Value} {l : List UInt8} (h : OwnM w B v l) (hb : Below C w w') (hC : w.heap.size ≤ C) : OwnM w' B v l := by
  obtain ⟨g, cap, cur, fz, rfl, hB, hg, rest⟩ := h
  exact ⟨g, cap, cur, fz, rfl, hB, (hb.block g (Nat.lt_of_lt_of_le (Array.getElem?_eq_some_iff.1 hg).1 hC)).trans hg, rest⟩

theorem stores_marked (P : Program) (g o : Nat) (t : TypeId) (fz : Nat × Nat) : ∀ (vs : List Value) (i : Nat) (cur : Array Value) (w : World), w.heap[g]? = some (.cells cur t fz) → (∀ k, k < cur.size → ¬ (fz.1 ≤ k ∧ k < fz.2)) → o + i + vs.length ≤ cur.size → (∀ v ∈ vs, v.oneCell' = true) →
    ∃ cur', (storeCells ⟨g, o, none⟩ vs i).run P w = .ok () (w.setRow g cur') ∧ cur'.size = cur.size ∧ cur'.toList = cur.toList.take (o + i) ++ vs ++ cur.toList.drop (o + i + vs.length)
  | [], i, cur, w, hg, _, _, _ => ⟨cur, by simp only [storeCells]; rw [setRow_self w g cur t fz hg]; rfl, rfl, by simp⟩
  | v :: rest, i, cur, w, hg, hf, hl, h1 => by
    have hi : o + i < cur.size := by simp at hl; omega
    have hadd : (⟨g, o, none⟩ : Addr).add i = ⟨g, o + i, none⟩ := by unfold Addr.add; split <;> simp_all
    have hcell : w.cell? ⟨g, o + i, none⟩ = some cur[o + i] := by simp [World.cell?, hg, hi]
    have hfro : w.frozen? ⟨g, o + i, none⟩ = false := by
      have := hf (o + i) hi
      simp only [World.frozen?, hg, Bool.and_eq_false_iff, decide_eq_false_iff_not]
      omega
    have hst : (store ((⟨g, o, none⟩ : Addr).add i) v).run P w = .ok () (w.setRow g (cur.setIfInBounds (o + i) v)) := by
      rw [hadd, run_store P w _ v _ (h1 v (by simp)), hcell]
      simp [hfro, setCell_eq_setRow w g (o + i) cur t fz v hg]
    obtain ⟨cur', hr, hs, ht⟩ := stores_marked P g o t fz rest (i + 1) (cur.setIfInBounds (o + i) v) (w.setRow g (cur.setIfInBounds (o + i) v)) (setRow_heap w g cur _ t _ hg) (by simpa using hf) (by simp at hl ⊢; omega) (fun x hx => h1 x (by simp [hx]))
    refine ⟨cur', ?_, by simpa using hs, ?_⟩
    · simp only [storeCells, Sem.run_bind, hst, Result.andThen_ok, hr, setRow_setRow]
    · have e := list_seg_step cur.toList (o + i) v rest (by simp at hl ⊢; omega)
      rw [ht]
      simpa [Array.toList_setIfInBounds, Nat.add_assoc] using e

/-- What an append leaves. -/
def AppM (w : World) (B : Nat) (v : Value) (l : List UInt8) (v' : Value) (w' : World) : Prop := OwnM w' B v' l ∧ w.grownBy w' v.ownBlock

theorem appm_room {w : World} {B g cap : Nat} {cur : Array Value} {fz : Nat × Nat} {l m : List UInt8} (hB : B ≤ g) (hg : w.heap[g]? = some (.cells cur 5 fz)) (hf : ∀ k, k < cap → ¬ (fz.1 ≤ k ∧ k < fz.2)) (hm : cap ≤ maxLen) (hs : cur.size = cap) (ht : cur.toList.take l.length = Lib.byteCells l)
    (hroom : l.length + m.length ≤ cap) {cur' : Array Value} (hs' : cur'.size = cur.size) (ht' : cur'.toList = cur.toList.take l.length ++ Lib.byteCells m ++ cur.toList.drop (l.length + (Lib.byteCells m).length)) :
    AppM w B (.slice (some ⟨g, 0, none⟩) l.length cap) (l ++ m) (.slice (some ⟨g, 0, none⟩) (l.length + m.length) cap) (w.setRow g cur') := by
  refine ⟨⟨g, cap, cur', fz, by rw [List.length_append], hB, setRow_heap w g cur _ 5 _ hg, hf, by rw [List.length_append]; exact hroom, hm, by omega, ?_⟩, ⟨rfl, rfl, rfl, by simp [World.setRow], fun k _ hk => setRow_other w g k _ (fun e => hk (by simp [Value.ownBlock, e]))⟩⟩
  rw [ht', ht, bytes_append]
  have : (l ++ m).length = (Lib.byteCells l ++ Lib.byteCells m).length := by simp [Lib.byteCells]
  rw [this, List.take_left]
theorem appm_grow {w : World} {B : Nat} {v : Value} {l m : List UInt8} (hB : B ≤ w.heap.size) (old : Nat) (hlen : l.length + m.length ≤ maxLen) (z : Nat) (hz : z = grownCap w (l.length + m.length) old 5 - (l.length + m.length)) :
    AppM w B v (l ++ m) (.slice (some ⟨w.heap.size, 0, none⟩) (l.length + m.length) (grownCap w (l.length + m.length) old 5))
      (w.drew.alloc (.cells ((Lib.byteCells l).toArray ++ (Lib.byteCells m).toArray ++ Builtin.zeroCells (Value.int .u8 0).cells z) 5)) := by
  have hge := grownCap_ge w (l.length + m.length) old 5
  refine ⟨⟨w.heap.size, _, _, (0, 0), by rw [List.length_append], hB, heap_alloc_new w.drew _, fun k _ h => by omega, by rw [List.length_append]; exact hge, grownCap_le_maxLen w _ old 5 hlen, ?_, ?_⟩, ⟨rfl, rfl, rfl, by simp, fun k hk _ => Below.heap_alloc w.drew _ k hk⟩⟩
  · have hz1 : (Value.int IntKind.u8 0).cells.size = 1 := rfl
    simp only [Array.size_append, List.size_toArray, size_zeroCells, hz1, Lib.byteCells_length]
    omega
  · simp only [Array.toList_append, List.append_assoc]
    rw [← List.append_assoc, ← bytes_append]
    have : (l ++ m).length = (Lib.byteCells (l ++ m)).length := by simp [Lib.byteCells]
    rw [this]
    exact List.take_left

theorem Tryd.info5 : (Tryd.prog.info? 5).map (fun i => (i.zero, i.size, i.bytes)) = some (some (.int .u8 0), 1, 1) := by kernel_rfl

theorem run_app_slice (w : World) (ty : TypeId) (B : Nat) (v : Value) (l m : List UInt8) (h : OwnM w B v l) (a : Addr) (c : Nat) (hm : ∀ j u, (Lib.byteCells m)[j]? = some u → w.cell? (a.add j) = some u) (hlen : l.length + m.length ≤ 140737488355328) (hB : B ≤ w.heap.size) :
    ∃ v' w', (Builtin.append_ #[37, 37] ty #[v, .slice (some a) m.length c]).run Tryd.prog w = .ok v' w' ∧ AppM w B v (l ++ m) v' w' := by
  obtain ⟨i, hi, hz, hs1, hb1⟩ := info_parts Tryd.info5
  have hown := h.cells
  obtain ⟨g, cap, cur, fz, rfl, hBg, hg, hf, hl, hcm, hs, ht⟩ := h
  have hml : maxLen = 9223372036854775807 := rfl
  by_cases hroom : l.length + m.length ≤ cap
  · obtain ⟨cur', hr, hs', ht'⟩ := stores_marked Tryd.prog g l.length 5 fz (Lib.byteCells m) 0 cur w hg (by rw [hs]; exact hf) (by rw [Lib.byteCells_length]; omega) (bytes_one m)
    simp only [Nat.add_zero] at ht' hr
    refine ⟨_, _, ?_, appm_room hBg hg hf hcm hs ht hroom hs' ht'⟩
    have hf' := run_firstCells_some (P := Tryd.prog) w i.size m.length a m.length c (Lib.byteCells m) (by rw [Lib.byteCells_length, hs1, Nat.mul_one]) hm
    rw [hs1] at hf'
    simp [Builtin.append_, run_underlying Tryd.underlying37, sizeOf, typeInfo, hi, hs1, Builtin.lenOf, hroom, hf', Addr.add_lit, hr]
  · obtain ⟨g', cap', he, _, _, _, hc⟩ := hown
    injection he with he1 he2 he3
    injection he1 with he1
    injection he1 with he1
    subst he1
    have hr := run_append_grow (P := Tryd.prog) w 37 ty 5 i (.int .u8 0) Tryd.underlying37 hi hz ⟨g, 0, none⟩ l.length cap (Lib.byteCells l) (by rw [Lib.byteCells_length, hs1, Nat.mul_one]) hc a m.length c (Lib.byteCells m) (by rw [Lib.byteCells_length, hs1, Nat.mul_one]) hm (by omega) (by omega) (by rw [hb1]; exact growslice_fits (by omega) (by omega))
    exact ⟨_, _, hr, appm_grow hB cap (by omega) _ rfl⟩

theorem run_app_string (w : World) (ty : TypeId) (B : Nat) (v : Value) (l : List UInt8) (h : OwnM w B v l) (s : ByteArray) (hlen : l.length + s.size ≤ 140737488355328) (hB : B ≤ w.heap.size) :
    ∃ v' w', (Builtin.append_ #[37, 9] ty #[v, .string s]).run Tryd.prog w = .ok v' w' ∧ AppM w B v (l ++ s.data.toList) v' w' := by
  obtain ⟨i, hi, hz, hs1, hb1⟩ := info_parts Tryd.info5
  have hsl : s.size = s.data.toList.length := Lib.size_eq s
  have hsc : Lib.strCells s = Lib.byteCells s.data.toList := rfl
  have hown := h.cells
  obtain ⟨g, cap, cur, fz, rfl, hBg, hg, hf, hl, hcm, hs, ht⟩ := h
  have hml : maxLen = 9223372036854775807 := rfl
  by_cases hroom : l.length + s.size ≤ cap
  · obtain ⟨cur', hr, hs', ht'⟩ := stores_marked Tryd.prog g l.length 5 fz (Lib.byteCells s.data.toList) 0 cur w hg (by rw [hs]; exact hf) (by rw [Lib.byteCells_length]; omega) (bytes_one _)
    simp only [Nat.add_zero] at ht' hr
    refine ⟨.slice (some ⟨g, 0, none⟩) (l.length + s.size) cap, _, ?_, by rw [hsl] at hroom ⊢; exact appm_room hBg hg hf hcm hs ht hroom hs' ht'⟩
    have hf' := Lib.run_firstCells_string (P := Tryd.prog) w 1 s
    rw [hsc] at hf'
    simp [Builtin.append_, run_underlying Tryd.underlying37, run_underlying Tryd.underlying9, sizeOf, typeInfo, hi, hs1, Builtin.lenOf, hroom, hf', Addr.add_lit, hr]
  · obtain ⟨g', cap', he, _, _, _, hc⟩ := hown
    injection he with he1 he2 he3
    injection he1 with he1
    injection he1 with he1
    subst he1
    have hr := Lib.run_append_grow_string (P := Tryd.prog) w 37 9 ty 5 i (.int .u8 0) Tryd.underlying37 Tryd.underlying9 hi hz ⟨g, 0, none⟩ l.length cap (Lib.byteCells l) (by rw [Lib.byteCells_length, hs1, Nat.mul_one]) hc s (by omega) (by omega) (by rw [hb1]; exact growslice_fits (by omega) (by omega))
    rw [hsc] at hr
    rw [hsl] at hr hlen
    exact ⟨_, _, hr, appm_grow hB cap (by omega) _ rfl⟩

theorem wpList_append_by {ops : Array Oper} {rest : List Oper} {o : Oper} {a : Act} {Q : Exit → Act → World → Prop} {w : World} (hgd : o.guard = none) (s x : Operand) (t u : TypeId)
    (ho : o.op = .call { callee := .builtin .append, args := #[s, x], argTypes := #[t, u] }) (v xv : Value) (hs : a.eval s = v) (hx : a.eval x = xv) (R : Value → World → Prop)
    (hr : ∃ v' w', (Builtin.append_ #[t, u] o.type #[v, xv]).run Tryd.prog w = .ok v' w' ∧ R v' w')
    (h : ∀ v' w', R v' w' → wpList Tryd.prog ops Q rest (a.put o.dst v') w') : wpList Tryd.prog ops Q (o :: rest) a w := by
  refine wpList_plain hgd fun K hK => ?_
  obtain ⟨v', w', hr, h2⟩ := hr
  unfold Oper.wp execOp
  simp only [ho, resolve, invoke, builtin, Sem.run_bind, Sem.run_pure, Result.andThen_ok, List.map_toArray, List.map_cons, List.map_nil, hs, hx, hr]
  exact hK _ _ (h v' w' h2)
end L
end Go.Proofs.YtlkhabdpancjjaaDoor
end
