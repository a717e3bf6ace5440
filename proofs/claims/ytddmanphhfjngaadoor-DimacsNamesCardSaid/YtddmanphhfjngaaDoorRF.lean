/- What the reader's appends do to it. -/
import Derived.Test.YtddmanphhfjngaaDoorRD
namespace Go.Proofs.YtddmanphhfjngaaDoor
open Go.RowKit PA RA
namespace L
open K

theorem keep_grown {p : Nat → Prop} {a b c : World} {row : Option Nat} (h : Keep p a b) (hg : b.grownBy c row) (hr : ∀ k, row = some k → ¬ p k) : Keep p a c :=
  h.trans ⟨hg.os, hg.tape, hg.output, hg.size, fun k hk hp => hg.block k hk fun e => hr k e.symm hp⟩
theorem keep_heap {p : Nat → Prop} {a b c : World} (h : Keep p a b) (hh : c.heap = b.heap) (h1 : c.os = b.os) (h2 : c.tape = b.tape) (h3 : c.output = b.output) : Keep p a c :=
  ⟨h1.trans h.os, h2.trans h.tape, h3.trans h.output, by rw [hh]; exact h.size, fun k hk hp => by rw [hh]; exact h.block k hk hp⟩

theorem rd_push {W w2 : World} {R B C : Nat} {r : RS} {vc vk v' : Value} {us : List Value} {o : Obj} {x : Int} (hR : R < B) (hBC : B ≤ C) (hC : C ≤ W.heap.size) (h : RdV W R B C r vc vk us)
    (hown : w2.ownsRow C 3 1 v' (r.cur.length + 1) (r.cur.map (Value.int .i64) ++ [.int .i64 x])) (hg : (W.alloc o).grownBy w2 vk.ownBlock) :
    (∃ C, Rd (w2.setCell ⟨R, 5, none⟩ v') R B C { r with cur := r.cur ++ [x] }) ∧ Keep (Chg R B) W (w2.setCell ⟨R, 5, none⟩ v') ∧ StrKeep W (w2.setCell ⟨R, 5, none⟩ v') := by
  obtain ⟨hb, hus, hoc, hin, hok⟩ := h
  have hvk : ∀ k, vk.ownBlock = some k → C ≤ k := fun k hk => (hok.lt k hk).1
  have hb2 : Box w2 R 52 (rcells r vc vk) := (hb.alloc o).grown hg (fun e => by have := hvk R e.symm; omega)
  have hset : ∀ {base n : Nat} {e : TypeId} {v : Value} {xs : List Value}, R < base → w2.ownsRow base e 1 v n xs → (w2.setCell ⟨R, 5, none⟩ v').ownsRow base e 1 v n xs :=
    fun hlt hx => ownsRow_setCell_below hx (a := ⟨R, 5, none⟩) hlt _
  refine ⟨⟨C, hR, hBC, ?_, vc, v', us, ?_, hus, ?_, fun j hj => ⟨?_, (hin j hj).2⟩, ?_⟩, ?_, ?_⟩
  · have := hg.size; simp [World.setCell] at this ⊢; omega
  · have := hb2.set 5 v'
    simpa [rcells] using this
  · exact hset hR (World.ownsRow.kept (hoc.alloc o) hg (owns_ne hoc hok (by decide)))
  · refine hset hR (World.ownsRow.kept ((hin j hj).1.alloc o) hg ?_)
    cases hu : (us.getD j (.slice none 0 0)).ownBlock with
    | none => exact .inl rfl
    | some k =>
      right
      intro e
      have h1 := (hin j hj).2 k hu
      have h2 := hvk k e.symm
      omega
  · have : OwnI (w2.setCell ⟨R, 5, none⟩ v') C v' (r.cur ++ [x]) := by
      unfold OwnI
      have := hset (by omega : R < C) hown
      simpa using this
    exact this
  · refine (keep_grown ((Keep.refl _ _).alloc o) hg fun k hk h => ?_).setCell (fun h => h.2 rfl) _
    have := hvk k hk
    have := h.1
    omega
  · refine StrKeep.set (e := 52) (StrKeep.grown ((StrKeep.refl _).alloc o) hg fun k hk => ?_) hb2 (by decide) _
    obtain ⟨cur, hcur⟩ := owns_typed (hok.alloc o) k hk
    exact ⟨cur, 3, hcur, by decide⟩

theorem rd_close {W w1 w2 : World} {R B C : Nat} {r : RS} {vc vk v' : Value} {us : List Value} {o : Obj} (hR : R < B) (hBC : B ≤ C) (hC : C ≤ W.heap.size) (h : RdV W R B C r vc vk us)
    (hw1 : w1.heap = (W.alloc o).heap) (h1 : w1.os = W.os) (h2 : w1.tape = W.tape) (h3 : w1.output = W.output)
    (hown : w2.ownsRow B 34 1 v' (r.cls.length + 1) (us ++ [vk])) (hg : w1.grownBy w2 vc.ownBlock) {w3 : World} (hw3 : w3.heap = (w2.setCell ⟨R, 3, none⟩ v').heap) (g1 : w3.os = w2.os) (g2 : w3.tape = w2.tape) (g3 : w3.output = w2.output) :
    Rd ((w3.setCell ⟨R, 5, none⟩ (.slice none 0 0)).setCell ⟨R, 4, none⟩ (.int .i64 (r.left - 1))) R B w3.heap.size { r with cls := r.cls ++ [r.cur], cur := [], left := r.left - 1 } ∧
    Keep (Chg R B) W ((w3.setCell ⟨R, 5, none⟩ (.slice none 0 0)).setCell ⟨R, 4, none⟩ (.int .i64 (r.left - 1))) ∧ StrKeep W ((w3.setCell ⟨R, 5, none⟩ (.slice none 0 0)).setCell ⟨R, 4, none⟩ (.int .i64 (r.left - 1))) ∧
    Box w3 R 52 (rcells r v' vk) := by
  obtain ⟨hb, hus, hoc, hin, hok⟩ := h
  have hoc1 := owns_heap (w' := w1) (hoc.alloc o) hw1
  have hok1 := owns_heap (w' := w1) (hok.alloc o) hw1
  have hvc : ∀ k, vc.ownBlock = some k → B ≤ k := fun k hk => (hoc.lt k hk).1
  have hb2 : Box w2 R 52 (rcells r vc vk) := ((hb.alloc o).heap hw1).grown hg (fun e => by have := hvc R e.symm; omega)
  have hb3 : Box w3 R 52 (rcells r v' vk) := by
    have := (hb2.set 3 v').heap hw3
    simpa [rcells] using this
  have hb5 := hb3.set 5 (.slice none 0 0)
  have hset : ∀ {base n : Nat} {e : TypeId} {v : Value} {xs : List Value}, R < base → w2.ownsRow base e 1 v n xs → ((w3.setCell ⟨R, 5, none⟩ (.slice none 0 0)).setCell ⟨R, 4, none⟩ (.int .i64 (r.left - 1))).ownsRow base e 1 v n xs :=
    fun hlt hx => ownsRow_setCell_below (ownsRow_setCell_below (owns_heap (ownsRow_setCell_below hx (a := ⟨R, 3, none⟩) hlt v') hw3) (a := ⟨R, 5, none⟩) hlt _) (a := ⟨R, 4, none⟩) hlt _
  have hsz2 : w2.heap.size = w3.heap.size := by rw [hw3]; simp [World.setCell]
  have hsz1 : C ≤ w1.heap.size := by rw [hw1]; simp; omega
  have hgs := hg.size
  refine ⟨⟨hR, ?_, ?_, v', .slice none 0 0, us ++ [vk], ?_, by simp [hus], ?_, fun j hj => ?_, OwnI.nil _ _⟩, ?_, ?_, hb3⟩
  · omega
  · simp [World.setCell]
  · have := hb5.set 4 (.int .i64 (r.left - 1))
    simpa [rcells] using this
  · have := hset hR hown
    simpa using this
  · by_cases hjl : j < r.cls.length
    · have e1 : (us ++ [vk]).getD j (.slice none 0 0) = us.getD j (.slice none 0 0) := by simp [List.getD, List.getElem?_append_left (show j < us.length by omega)]
      have e2 : (r.cls ++ [r.cur]).getD j [] = r.cls.getD j [] := by simp [List.getD, List.getElem?_append_left hjl]
      show OwnI _ B ((us ++ [vk]).getD j (.slice none 0 0)) ((r.cls ++ [r.cur]).getD j []) ∧ _
      rw [e1, e2]
      refine ⟨hset hR (World.ownsRow.kept (owns_heap (w' := w1) ((hin j hjl).1.alloc o) hw1) hg (owns_ne (hin j hjl).1 hoc (by decide))), fun k hk => ?_⟩
      have := (hin j hjl).2 k hk
      omega
    · have hj' : j = r.cls.length := by simp at hj; omega
      subst hj'
      have e1 : (us ++ [vk]).getD r.cls.length (.slice none 0 0) = vk := by rw [← hus]; simp [List.getD]
      have e2 : (r.cls ++ [r.cur]).getD r.cls.length [] = r.cur := by simp [List.getD]
      show OwnI _ B ((us ++ [vk]).getD r.cls.length (.slice none 0 0)) ((r.cls ++ [r.cur]).getD r.cls.length []) ∧ _
      rw [e1, e2]
      refine ⟨hset hR (World.ownsRow.kept (owns_base hok1 hBC) hg (owns_ne hok hoc (by decide))), fun k hk => ?_⟩
      have := (hok1.lt k hk).2
      omega
  · have k1 : Keep (Chg R B) W w1 := keep_heap ((Keep.refl _ _).alloc o) hw1 h1 h2 h3
    have k2 : Keep (Chg R B) W w2 := keep_grown k1 hg fun k hk h => by have := hvc k hk; have := h.1; omega
    have k3 : Keep (Chg R B) W w3 := keep_heap (k2.setCell (x := ⟨R, 3, none⟩) (fun h => h.2 rfl) v') hw3 g1 g2 g3
    exact (k3.setCell (fun h => h.2 rfl) _).setCell (fun h => h.2 rfl) _
  · have s1 : StrKeep W w1 := ((StrKeep.refl _).alloc o).heap hw1
    have s2 : StrKeep W w2 := s1.grown hg fun k hk => by obtain ⟨cur, hcur⟩ := owns_typed hoc1 k hk; exact ⟨cur, 34, hcur, by decide⟩
    have s3 : StrKeep W w3 := (s2.set (x := ⟨R, 3, none⟩) hb2 (by decide) v').heap hw3
    exact (s3.set (x := ⟨R, 5, none⟩) hb3 (by decide) _).set (x := ⟨R, 4, none⟩) hb5 (by decide) _
end L
end Go.Proofs.YtddmanphhfjngaaDoor
