/- Several texts, joined. -/
import Derived.Test.YtlkhabdpancjjaaDoorQ05
import Derived.Deep.RegionHeld3
import Derived.Maps.AppendAt
import Derived.RangeFuncBox

/- The reader in memory. -/
section
namespace Go.Proofs.YtlkhabdpancjjaaDoor
open Go.RowKit PA RA
namespace L
open K

/-- The reader's cells. -/
def rcells (r : RS) (vc vk : Value) : Array Value := #[.int .i64 r.line, .bool r.header, .int .i64 r.vars, vc, .int .i64 r.left, vk, .int .i64 r.first]
/-- The reader lies in block R; its rows from block B on; those of clauses that have ended below block C, the open one from C on. -/
def RdV (W : World) (R B C : Nat) (r : RS) (vc vk : Value) (us : List Value) : Prop :=
  Box W R 52 (rcells r vc vk) ∧ us.length = r.cls.length ∧ W.ownsRow B 34 1 vc r.cls.length us ∧
  (∀ j, j < r.cls.length → OwnI W B (us.getD j (.slice none 0 0)) (r.cls.getD j []) ∧ ∀ k, (us.getD j (.slice none 0 0)).ownBlock = some k → k < C) ∧ OwnI W C vk r.cur
def Rd (W : World) (R B C : Nat) (r : RS) : Prop := R < B ∧ B ≤ C ∧ C ≤ W.heap.size ∧ ∃ vc vk us, RdV W R B C r vc vk us

theorem owns_keep {W W' : World} {base : Nat} {e : TypeId} {size n : Nat} {v : Value} {xs : List Value} {p : Nat → Prop} (h : W.ownsRow base e size v n xs) (hk : Keep p W W') (hp : ∀ k, v.ownBlock = some k → p k) : W'.ownsRow base e size v n xs :=
  owns_of_block h fun k hv => hk.block k (h.lt k hv).2 (hp k hv)
theorem RdV.keep {W W' : World} {R B C : Nat} {r : RS} {vc vk : Value} {us : List Value} {p : Nat → Prop} (h : RdV W R B C r vc vk us) (hBC : B ≤ C) (hk : Keep p W W') (hR : p R) (hB : ∀ k, B ≤ k → p k) : RdV W' R B C r vc vk us := by
  obtain ⟨h1, h2, h3, h4, h5⟩ := h
  exact ⟨box_keep h1 hk hR, h2, owns_keep h3 hk fun k hv => hB k (h3.lt k hv).1, fun j hj => ⟨owns_keep (h4 j hj).1 hk fun k hv => hB k ((h4 j hj).1.lt k hv).1, (h4 j hj).2⟩, owns_keep h5 hk fun k hv => hB k (Nat.le_trans hBC (h5.lt k hv).1)⟩
theorem Rd.keep {W W' : World} {R B C : Nat} {r : RS} {p : Nat → Prop} (h : Rd W R B C r) (hk : Keep p W W') (hR : p R) (hB : ∀ k, B ≤ k → p k) : Rd W' R B C r := by
  obtain ⟨h1, h2, h3, vc, vk, us, h4⟩ := h
  exact ⟨h1, h2, Nat.le_trans h3 hk.size, vc, vk, us, h4.keep h2 hk hR hB⟩

/-- What a reader's methods leave alone: all below B but its own block. -/
def Chg (R B : Nat) (k : Nat) : Prop := k < B ∧ k ≠ R
/-- Rows of strings stay. -/
def StrKeep (W W' : World) : Prop := ∀ (k : Nat) (cur : Array Value), W.heap[k]? = some (.cells cur 9 (0, 0)) → W'.heap[k]? = some (.cells cur 9 (0, 0))
theorem StrKeep.refl (W : World) : StrKeep W W := fun _ _ h => h
theorem StrKeep.trans {a b c : World} (h : StrKeep a b) (k : StrKeep b c) : StrKeep a c := fun i cur hi => k i cur (h i cur hi)
theorem StrKeep.alloc {a b : World} (h : StrKeep a b) (o : Obj) : StrKeep a (b.alloc o) := fun i cur hi => by
  have := h i cur hi
  exact (Below.heap_alloc _ _ _ (Array.getElem?_eq_some_iff.1 this).1).trans this
theorem StrKeep.heap {a b c : World} (h : StrKeep a b) (hh : c.heap = b.heap) : StrKeep a c := fun i cur hi => by rw [hh]; exact h i cur hi
theorem StrKeep.grown {a b c : World} {row : Option Nat} (h : StrKeep a b) (hg : b.grownBy c row) (hne : ∀ k, row = some k → ∃ cur e, b.heap[k]? = some (.cells cur e (0, 0)) ∧ e ≠ 9) : StrKeep a c := fun i cur hi => by
  have h1 := h i cur hi
  refine (hg.block i (Array.getElem?_eq_some_iff.1 h1).1 fun hr => ?_).trans h1
  obtain ⟨cur2, e, h2, h3⟩ := hne i hr.symm
  rw [h1] at h2
  simp at h2
  exact h3 h2.2.symm
theorem StrKeep.set {a b : World} (h : StrKeep a b) {x : Addr} {cs : Array Value} {e : TypeId} (hx : Box b x.block e cs) (he : e ≠ 9) (u : Value) : StrKeep a (b.setCell x u) := fun i cur hi => by
  have h1 := h i cur hi
  refine (Below.heap_setCell _ _ _ _ fun hr => ?_).trans h1
  subst hr
  unfold Box at hx
  rw [h1] at hx
  simp at hx
  exact he hx.2.symm
theorem owns_strkeep {W W' : World} {base n : Nat} {v : Value} {xs : List Value} (h : W.ownsRow base 9 1 v n xs) (hk : StrKeep W W') : W'.ownsRow base 9 1 v n xs := by
  rcases h with ⟨h0, ⟨rfl, h1⟩ | ⟨g, cap, cur, rfl, h1, hg, h2⟩⟩
  · exact ⟨h0, .inl ⟨rfl, h1⟩⟩
  · exact ⟨h0, .inr ⟨g, cap, cur, rfl, h1, hk g cur hg, h2⟩⟩

/-- How a method of the reader ends. -/
def REnd (R B : Nat) (W : World) (x : RS × Int) (e : Ending) (W' : World) : Prop :=
  e = .returned (.int .i64 x.2) ∧ (∃ C, Rd W' R B C x.1) ∧ Keep (Chg R B) W W' ∧ StrKeep W W'
end L
end Go.Proofs.YtlkhabdpancjjaaDoor
end

/- What the reader's appends do to it. -/
section
namespace Go.Proofs.YtlkhabdpancjjaaDoor
open Go.RowKit PA RA
namespace L
open K

theorem keep_grown {p : Nat → Prop} {a b c : World} {row : Option Nat} (h : Keep p a b) (hg : b.grownBy c row) (hr : ∀ k, row = some k → ¬ p k) : Keep p a c :=
  h.trans ⟨hg.os, hg.tape, hg.output, hg.size, fun k hk hp => hg.block k hk fun e => hr k e.symm hp⟩
theorem keep_heap {p : Nat → Prop} {a b c : World} (h : Keep p a b) (hh : c.heap = b.heap) (h1 : c.os = b.os) (h2 : c.tape = b.tape) (h3 : c.output = b.output) : Keep p a c :=
  ⟨h1.trans h.os, h2.trans h.tape, h3.trans h.output, by rw [hh]; exact h.size, fun k hk hp => by rw [hh]; exact h.block k hk hp⟩

theorem rd_push {W w2 : World} {R B C : Nat} {r : RS} {vc vk v' : Value} {us : List Value} {o : Obj} {x : Int} (hR : R < B) (hBC : B ≤ C) (hC : C ≤ W.heap.size) (h : RdV W R B C r vc vk us)
    (hown : w2.ownsRow C 3 1 v' (r.cur.length + 1) (r.cur.map (Value.int .i64) ++ [.int .i64 x])) (hg : (W.alloc o).grownBy w2 vk.ownBlock) :
    (∃ C, Rd (w2.setCell ⟨R, 5, none⟩ v') R B C { r with cur := r.cur ++ [x] }) ∧ Keep (Chg R B) W (w2.setCell ⟨R, 5, none⟩ v') ∧ StrKeep W (w2.setCell ⟨R, 5, none⟩ v') := by
  obtain ⟨hb, hus, hoc, hin, hok⟩ := h
  have hvk : ∀ k, vk.ownBlock = some k → C ≤ k := fun k hk => (hok.lt k hk).1
  have hb2 : Box w2 R 52 (rcells r vc vk) := (hb.alloc o).grown hg (fun e => by have := hvk R e.symm; omega)
  have hset : ∀ {base n : Nat} {e : TypeId} {v : Value} {xs : List Value}, R < base → w2.ownsRow base e 1 v n xs → (w2.setCell ⟨R, 5, none⟩ v').ownsRow base e 1 v n xs :=
    fun hlt hx => ownsRow_setCell_below hx (a := ⟨R, 5, none⟩) hlt _
  refine ⟨⟨C, hR, hBC, ?_, vc, v', us, ?_, hus, ?_, fun j hj => ⟨?_, (hin j hj).2⟩, ?_⟩, ?_, ?_⟩
  · have := hg.size; simp [World.setCell] at this ⊢; omega
  · have := hb2.set 5 v'
    simpa [rcells] using this
  · exact hset hR (World.ownsRow.kept (hoc.alloc o) hg (owns_ne hoc hok (by decide)))
  · refine hset hR (World.ownsRow.kept ((hin j hj).1.alloc o) hg ?_)
    cases hu : (us.getD j (.slice none 0 0)).ownBlock with
    | none => exact .inl rfl
    | some k =>
      right
      intro e
      have h1 := (hin j hj).2 k hu
      have h2 := hvk k e.symm
      omega
  · have : OwnI (w2.setCell ⟨R, 5, none⟩ v') C v' (r.cur ++ [x]) := by
      unfold OwnI
      have := hset (by omega : R < C) hown
      simpa using this
    exact this
  · refine (keep_grown ((Keep.refl _ _).alloc o) hg fun k hk h => ?_).setCell (fun h => h.2 rfl) _
    have := hvk k hk
    have := h.1
    omega
  · refine StrKeep.set (e := 52) (StrKeep.grown ((StrKeep.refl _).alloc o) hg fun k hk => ?_) hb2 (by decide) _
    obtain ⟨cur, hcur⟩ := owns_typed (hok.alloc o) k hk
    exact ⟨cur, 3, hcur, by decide⟩

theorem rd_close {W w1 w2 : World} {R B C : Nat} {r : RS} {vc vk v' : Value} {us : List Value} {o : Obj} (hR : R < B) (hBC : B ≤ C) (hC : C ≤ W.heap.size) (h : RdV W R B C r vc vk us)
    (hw1 : w1.heap = (W.alloc o).heap) (h1 : w1.os = W.os) (h2 : w1.tape = W.tape) (h3 : w1.output = W.output)
    (hown : w2.ownsRow B 34 1 v' (r.cls.length + 1) (us ++ [vk])) (hg : w1.grownBy w2 vc.ownBlock) {w3 : World} (hw3 : w3.heap = (w2.setCell ⟨R, 3, none⟩ v').heap) (g1 : w3.os = w2.os) (g2 : w3.tape = w2.tape) (g3 : w3.output = w2.output) :
    Rd ((w3.setCell ⟨R, 5, none⟩ (.slice none 0 0)).setCell ⟨R, 4, none⟩ (.int .i64 (r.left - 1))) R B w3.heap.size { r with cls := r.cls ++ [r.cur], cur := [], left := r.left - 1 } ∧
    Keep (Chg R B) W ((w3.setCell ⟨R, 5, none⟩ (.slice none 0 0)).setCell ⟨R, 4, none⟩ (.int .i64 (r.left - 1))) ∧ StrKeep W ((w3.setCell ⟨R, 5, none⟩ (.slice none 0 0)).setCell ⟨R, 4, none⟩ (.int .i64 (r.left - 1))) ∧
    Box w3 R 52 (rcells r v' vk) := by
  obtain ⟨hb, hus, hoc, hin, hok⟩ := h
  have hoc1 := owns_heap (w' := w1) (hoc.alloc o) hw1
  have hok1 := owns_heap (w' := w1) (hok.alloc o) hw1
  have hvc : ∀ k, vc.ownBlock = some k → B ≤ k := fun k hk => (hoc.lt k hk).1
  have hb2 : Box w2 R 52 (rcells r vc vk) := ((hb.alloc o).heap hw1).grown hg (fun e => by have := hvc R e.symm; omega)
  have hb3 : Box w3 R 52 (rcells r v' vk) := by
    have := (hb2.set 3 v').heap hw3
    simpa [rcells] using this
  have hb5 := hb3.set 5 (.slice none 0 0)
  have hset : ∀ {base n : Nat} {e : TypeId} {v : Value} {xs : List Value}, R < base → w2.ownsRow base e 1 v n xs → ((w3.setCell ⟨R, 5, none⟩ (.slice none 0 0)).setCell ⟨R, 4, none⟩ (.int .i64 (r.left - 1))).ownsRow base e 1 v n xs :=
    fun hlt hx => ownsRow_setCell_below (ownsRow_setCell_below (owns_heap (ownsRow_setCell_below hx (a := ⟨R, 3, none⟩) hlt v') hw3) (a := ⟨R, 5, none⟩) hlt _) (a := ⟨R, 4, none⟩) hlt _
  have hsz2 : w2.heap.size = w3.heap.size := by rw [hw3]; simp [World.setCell]
  have hsz1 : C ≤ w1.heap.size := by rw [hw1]; simp; omega
  have hgs := hg.size
  refine ⟨⟨hR, ?_, ?_, v', .slice none 0 0, us ++ [vk], ?_, by simp [hus], ?_, fun j hj => ?_, OwnI.nil _ _⟩, ?_, ?_, hb3⟩
  · omega
  · simp [World.setCell]
  · have := hb5.set 4 (.int .i64 (r.left - 1))
    simpa [rcells] using this
  · have := hset hR hown
    simpa using this
  · by_cases hjl : j < r.cls.length
    · have e1 : (us ++ [vk]).getD j (.slice none 0 0) = us.getD j (.slice none 0 0) := by simp [List.getD, List.getElem?_append_left (show j < us.length by omega)]
      have e2 : (r.cls ++ [r.cur]).getD j [] = r.cls.getD j [] := by simp [List.getD, List.getElem?_append_left hjl]
      show OwnI _ B ((us ++ [vk]).getD j (.slice none 0 0)) ((r.cls ++ [r.cur]).getD j []) ∧ _
      rw [e1, e2]
      refine ⟨hset hR (World.ownsRow.kept (owns_heap (w' := w1) ((hin j hjl).1.alloc o) hw1) hg (owns_ne (hin j hjl).1 hoc (by decide))), fun k hk => ?_⟩
      have := (hin j hjl).2 k hk
      omega
    · have hj' : j = r.cls.length := by simp at hj; omega
      subst hj'
      have e1 : (us ++ [vk]).getD r.cls.length (.slice none 0 0) = vk := by rw [← hus]; simp [List.getD]
      have e2 : (r.cls ++ [r.cur]).getD r.cls.length [] = r.cur := by simp [List.getD]
      show OwnI _ B ((us ++ [vk]).getD r.cls.length (.slice none 0 0)) ((r.cls ++ [r.cur]).getD r.cls.length []) ∧ _
      rw [e1, e2]
      refine ⟨hset hR (World.ownsRow.kept (owns_base hok1 hBC) hg (owns_ne hok hoc (by decide))), fun k hk => ?_⟩
      have := (hok1.lt k hk).2
      omega
  · have k1 : Keep (Chg R B) W w1 := keep_heap ((Keep.refl _ _).alloc o) hw1 h1 h2 h3
    have k2 : Keep (Chg R B) W w2 := keep_grown k1 hg fun k hk h => by have := hvc k hk; have := h.1; omega
    have k3 : Keep (Chg R B) W w3 := keep_heap (k2.setCell (x := ⟨R, 3, none⟩) (fun h => h.2 rfl) v') hw3 g1 g2 g3
    exact (k3.setCell (fun h => h.2 rfl) _).setCell (fun h => h.2 rfl) _
  · have s1 : StrKeep W w1 := ((StrKeep.refl _).alloc o).heap hw1
    have s2 : StrKeep W w2 := s1.grown hg fun k hk => by obtain ⟨cur, hcur⟩ := owns_typed hoc1 k hk; exact ⟨cur, 34, hcur, by decide⟩
    have s3 : StrKeep W w3 := (s2.set (x := ⟨R, 3, none⟩) hb2 (by decide) v').heap hw3
    exact (s3.set (x := ⟨R, 5, none⟩) hb3 (by decide) _).set (x := ⟨R, 4, none⟩) hb5 (by decide) _
end L
end Go.Proofs.YtlkhabdpancjjaaDoor
end

/- Contracts of the reader's methods. -/
section
namespace Go.Proofs.YtlkhabdpancjjaaDoor
open Go.RowKit PA RA
namespace L
open K

theorem Tryd.info3 : (Tryd.prog.info? 3).map (fun i => (i.zero, i.size, i.bytes)) = some (some (.int .i64 0), 1, 8) := by kernel_rfl
theorem Tryd.info34 : (Tryd.prog.info? 34).map (fun i => (i.zero, i.size, i.bytes)) = some (some (.slice none 0 0), 1, 24) := by kernel_rfl

set_option maxRecDepth 100000 in
set_option maxHeartbeats 2000000 in
theorem add_any (R B C : Nat) (r : RS) (s : ByteArray) (W : World) (hs : s.size ≤ 9223372036854775807) (hwf : Wf r) (hrd : Rd W R B C r) :
    Calls Tryd.prog 48 #[.pointer (some ⟨R, 0, none⟩), .string s] W (REnd R B W (addS r s.data.toList)) := by
  have hnum := number_any s W hs
  have hnb := num_bound s.data.toList
  obtain ⟨h1, h2, h3, vc, vk, us, h4⟩ := hrd
  obtain ⟨hb, hus, hoc, hin, hok⟩ := h4
  have c0 := hb.cell 0; have c1 := hb.cell 1; have c2 := hb.cell 2; have c3 := hb.cell 3; have c4 := hb.cell 4; have c5 := hb.cell 5; have c6 := hb.cell 6
  unfold rcells at c0 c1 c2 c3 c4 c5 c6
  simp only [List.getElem?_toArray, List.getElem?_cons_zero, List.getElem?_cons_succ] at c0 c1 c2 c3 c4 c5 c6
  obtain ⟨v0, v1, l0, l1, k1, _⟩ := hwf
  unfold num at *
  obtain ⟨x, ok, hx⟩ : ∃ x ok, numM 1048577 s.data.toList = (x, ok) := ⟨_, _, rfl⟩
  rw [hx] at hnum hnb
  simp only at hnum hnb
  obtain ⟨y, hy⟩ : ∃ y, addS r s.data.toList = y := ⟨_, rfl⟩
  rw [hy]
  unfold addS num at hy
  rw [hx] at hy
  simp only at hy
  have f0 := hb.frozen 0; have f3 := hb.frozen 3; have f4 := hb.frozen 4; have f5 := hb.frozen 5
  have same : Hid ((∃ C, Rd W R B C r) ∧ Keep (Chg R B) W W ∧ StrKeep W W) := ⟨⟨C, h1, h2, h3, vc, vk, us, hb, hus, hoc, hin, hok⟩, Keep.refl _ _, StrKeep.refl _⟩
  by_cases e1 : r.left = 0 ∨ ok = false
  · rw [if_pos e1] at hy
    subst hy
    clear hx
    rcases e1 with e1 | e1
    · have e1' : (r.left == 0) = true := by simpa using e1
      go_enter Tryd.func48, Tryd.ntmps48
      go_wp2_with fail
      refine hnum.mono ?_
      rintro e w1 ⟨rfl, rfl⟩
      go_wp2
      go_ret
      exact ⟨rfl, same.out⟩
    · subst e1
      by_cases e2 : r.left = 0
      · have e1' : (r.left == 0) = true := by simpa using e2
        go_enter Tryd.func48, Tryd.ntmps48
        go_wp2_with fail
        refine hnum.mono ?_
        rintro e w1 ⟨rfl, rfl⟩
        go_wp2
        go_ret
        exact ⟨rfl, same.out⟩
      · have e1' : (r.left == 0) = false := by simpa using e2
        go_enter Tryd.func48, Tryd.ntmps48
        go_wp2_with fail
        refine hnum.mono ?_
        rintro e w1 ⟨rfl, rfl⟩
        go_wp2
        go_ret
        exact ⟨rfl, same.out⟩
  · rw [if_neg e1] at hy
    have e1' : (r.left == 0) = false := by simp only [not_or] at e1; simpa using e1.1
    obtain rfl : ok = true := by simp only [not_or] at e1; simpa using e1.2
    have e3 : 0 < r.left := by simp only [not_or] at e1; omega
    clear e1
    by_cases ex : x = 0
    · subst ex
      rw [if_pos rfl] at hy
      subst hy
      obtain ⟨i34, hi34, hz34, hs34, hb34⟩ := info_parts Tryd.info34
      have hty := owns_typed hoc
      obtain ⟨pk, ck, rfl⟩ := owns_shape hok
      go_enter Tryd.func48, Tryd.ntmps48
      go_wp2_with fail
      refine hnum.mono ?_
      rintro e w1 ⟨rfl, rfl⟩
      clear hnum
      go_wp2
      have HOK := Lib.hid hok
      have HIN := Lib.hid hin
      have HOC := Lib.hid hoc
      have HB := Lib.hid hb
      have HUS := Lib.hid hus
      have HTY := Lib.hid hty
      clear hok hin hoc hb hus hty hx
      have a3 := (Box.alloc HB.out (.cells #[.slice pk r.cur.length ck] 34)).cell 3
      unfold rcells at a3
      simp only [List.getElem?_toArray, List.getElem?_cons_zero, List.getElem?_cons_succ] at a3
      go_region_law
        ((refine step_append_lies _ (by rfl) _ _ _ (by rfl) B 34 i34 _ 1 24 Tryd.underlying22 hi34 hz34 hs34 hb34 rfl (by omega) vc r.cls.length us (by rfl) (owns_heap (World.ownsRow.alloc HOC.out (.cells #[.slice pk r.cur.length ck] 34)) rfl)
            ⟨W.heap.size, 0, none⟩ 1 1 [.slice pk r.cur.length ck] (by rfl) (by rfl) (World.news_of_block (cs := #[.slice pk r.cur.length ck]) (t := 34) (fr := (0, 0)) (heap_alloc_new W _)) (by simp [Value.oneCell'])
            (by omega) (by unfold maxLen; omega) (by omega) (by simp; omega) (W.heap.size + 1) (by simp) ?_; intro gg cap w2 hown2 hgrow hat hlt; have hb2 := Box.grown (Box.heap (w' := (W.alloc (.cells #[.slice pk r.cur.length ck] 34)).drew) (Box.alloc HB.out (.cells #[.slice pk r.cur.length ck] 34)) rfl) hgrow (fun e => by have := (HOC.out.lt R e.symm).1; omega); have g3 := hb2.frozen 3; have g5 := hb2.frozen 5; have g4 := hb2.frozen 4; have d3 := hb2.cell 3; unfold rcells at d3; simp only [List.getElem?_toArray, List.getElem?_cons_zero, List.getElem?_cons_succ] at d3; have HB2 := Lib.hid hb2; clear hb2))
      all_goals
        have HO := Lib.hid hown2
        have HG := Lib.hid hgrow
        clear hown2 hgrow a3 hat
        have hcl := rd_close h1 h2 h3 ⟨HB.out, HUS.out, HOC.out, HIN.out, HOK.out⟩ (w1 := (W.alloc (.cells #[.slice pk r.cur.length ck] 34)).drew) rfl rfl rfl rfl HO.out HG.out (w3 := w2.setCell ⟨R, 3, none⟩ (.slice (some ⟨gg, 0, none⟩) (r.cls.length + 1) cap)) rfl rfl rfl rfl
        have HCL := Lib.hid hcl
        clear hcl
        have d5 := HB2.out.cell 5
        have d4 := HB2.out.cell 4
        unfold rcells at d5 d4
        simp only [List.getElem?_toArray, List.getElem?_cons_zero, List.getElem?_cons_succ] at d5 d4
        go_wp2
        go_ret
        obtain ⟨q1, q2, q3, _⟩ := HCL.out
        exact ⟨rfl, ⟨_, q1⟩, q2, q3⟩
    · rw [if_neg ex] at hy
      have ex' : (x == 0) = false := by simpa using ex
      by_cases e4 : r.vars < x ∨ r.vars < -x
      · rw [if_pos e4] at hy
        subst hy
        clear hx
        by_cases e5 : r.vars < x
        · clear e4
          go_enter Tryd.func48, Tryd.ntmps48
          go_wp2_with fail
          refine hnum.mono ?_
          rintro e w1 ⟨rfl, rfl⟩
          go_wp2
          go_ret
          exact ⟨rfl, same.out⟩
        · have e6 : r.vars < -x := by rcases e4 with h | h; exact absurd h e5; exact h
          clear e4
          go_enter Tryd.func48, Tryd.ntmps48
          go_wp2_with fail
          refine hnum.mono ?_
          rintro e w1 ⟨rfl, rfl⟩
          go_wp2
          go_ret
          exact ⟨rfl, same.out⟩
      · rw [if_neg e4] at hy
        have e5 : ¬ r.vars < x := fun h => e4 (.inl h)
        have e6 : ¬ r.vars < -x := fun h => e4 (.inr h)
        clear e4
        obtain ⟨pk, ck, rfl⟩ := owns_shape hok
        by_cases e7 : r.cur.length = 4096
        · rw [if_pos e7] at hy
          subst hy
          have e7' : ((r.cur.length : Int) == 4096) = true := by rw [e7]; rfl
          have E7 := Lib.hid e7
          clear e7 hx
          go_enter Tryd.func48, Tryd.ntmps48
          go_wp2_with fail
          refine hnum.mono ?_
          rintro e w1 ⟨rfl, rfl⟩
          go_wp2
          go_ret
          exact ⟨rfl, same.out⟩
        · rw [if_neg e7] at hy
          subst hy
          have e7' : ((r.cur.length : Int) == 4096) = false := beq_eq_false_iff_ne.2 (by omega)
          clear hx
          have e8 : r.cur.length < 4096 := by omega
          clear e7
          obtain ⟨i3, hi3, hz3, hs3, hb3⟩ := info_parts Tryd.info3
          have HOK := Lib.hid hok
          have HIN := Lib.hid hin
          have HOC := Lib.hid hoc
          have HB := Lib.hid hb
          have HUS := Lib.hid hus
          clear hok hin hoc hb hus
          go_enter Tryd.func48, Tryd.ntmps48
          go_wp2_with fail
          refine hnum.mono ?_
          rintro e w1 ⟨rfl, rfl⟩
          clear hnum
          go_wp2_with (at_builtin; refine wpList_append_own _ rfl (.tmp 79) (.tmp 81) 34 rfl C 3 i3 (.int .i64 0) 1 8 Tryd.underlying34 hi3 hz3 hs3 hb3 rfl (by decide) (.slice pk r.cur.length ck) r.cur.length (r.cur.map (Value.int .i64)) rfl (World.ownsRow.alloc HOK.out _) ⟨W.heap.size, 0, none⟩ 1 1 [.int .i64 x] rfl rfl (cell_one_new _ _ _) (by simp [Value.oneCell']) (by unfold maxLen; omega) (by omega) (by simp; omega) ?_; intro v' w2 hown' hgrow _; obtain ⟨gg, cap, rfl⟩ := ownsRow_succ hown'; have hb2 := Box.grown (Box.alloc HB.out (.cells #[.int .i64 x] 3)) hgrow (fun e => by have := (HOK.out.lt R e.symm).1; omega); have d5 := hb2.cell 5; have g5 := hb2.frozen 5; unfold rcells at d5; simp only [List.getElem?_toArray, List.getElem?_cons_zero, List.getElem?_cons_succ] at d5; have HO := Lib.hid hown'; have HG := Lib.hid hgrow; clear hown' hgrow hb2)
          go_ret
          have hp := rd_push h1 h2 h3 ⟨HB.out, HUS.out, HOC.out, HIN.out, HOK.out⟩ HO.out HG.out
          exact ⟨rfl, hp⟩
end L
end Go.Proofs.YtlkhabdpancjjaaDoor
end
