/- What the reference's Parse keeps in memory. -/
import Derived.Test.YtlkhabdpancjjaaDoorJRM
import Derived.Test.YtlkhabdpancjjaaDoorQ10
namespace Go.Proofs.YtlkhabdpancjjaaDoor
open Go.RowKit PA RA
namespace L
open K

theorem set_grown (w : World) (b j : Nat) (u : Value) : w.grownBy (w.setCell ⟨b, j, none⟩ u) (some b) :=
  ⟨rfl, rfl, rfl, by simp, fun k _ hk => Deep.blk_setCell_other w ⟨b, j, none⟩ u k (fun e => hk (by rw [e]))⟩
/-- A row keeps what it holds where a block of another type changes. -/
theorem owns_apart {w w' : World} {base : Nat} {e : TypeId} {size n : Nat} {u : Value} {xs : List Value} {row : Option Nat} (hu : w.ownsRow base e size u n xs) (hg : w.grownBy w' row)
    (hne : ∀ k, row = some k → ∃ cur e2, w.heap[k]? = some (.cells cur e2 (0, 0)) ∧ e2 ≠ e) : w'.ownsRow base e size u n xs := by
  refine owns_of_block hu fun k hk => hg.block k (hu.lt k hk).2 fun hr => ?_
  obtain ⟨cur, e2, h1, h2⟩ := hne k hr.symm
  obtain ⟨cur', h3⟩ := owns_typed hu k hk
  rw [h1] at h3
  injection h3 with h3
  injection h3 with _ h3
  exact h2 h3
theorem box_far {w w' : World} {b : Nat} {T : TypeId} {cs : Array Value} {row : Option Nat} (hb : Box w b T cs) (hg : w.grownBy w' row)
    (hne : ∀ k, row = some k → ∃ cur e2, w.heap[k]? = some (.cells cur e2 (0, 0)) ∧ e2 ≠ T) : Box w' b T cs := by
  refine hb.grown hg fun e => ?_
  obtain ⟨cur, e2, h1, h2⟩ := hne b e.symm
  unfold Box at hb
  rw [hb] at h1
  injection h1 with h1
  injection h1 with _ h1
  exact h2 h1.symm
theorem typed_as {w : World} {base : Nat} {e : TypeId} {size n : Nat} {u : Value} {xs : List Value} (h : w.ownsRow base e size u n xs) {e1 : TypeId} (hne : e ≠ e1) : ∀ k, u.ownBlock = some k → ∃ cur e2, w.heap[k]? = some (.cells cur e2 (0, 0)) ∧ e2 ≠ e1 := by
  intro k hk
  obtain ⟨cur, hc⟩ := owns_typed h k hk
  exact ⟨cur, _, hc, hne⟩
theorem box_as {w : World} {b : Nat} {T : TypeId} {cs : Array Value} (h : Box w b T cs) {e1 : TypeId} (hne : T ≠ e1) : ∀ k, some b = some k → ∃ cur e2, w.heap[k]? = some (.cells cur e2 (0, 0)) ∧ e2 ≠ e1 := by
  intro k hk
  injection hk with hk
  subst hk
  exact ⟨cs, T, h, hne⟩
theorem OwnSS.far {w w' : World} {base h : Nat} {v : Value} {LL : List (List ByteArray)} {row : Option Nat} (a : OwnSS w base h v LL) (hg : w.grownBy w' row)
    (hne : ∀ e, (e = 9 ∨ e = 35) → ∀ k, row = some k → ∃ cur e2, w.heap[k]? = some (.cells cur e2 (0, 0)) ∧ e2 ≠ e) : OwnSS w' base h v LL := by
  obtain ⟨us, h1, h2, h3⟩ := a
  exact ⟨us, h1, owns_apart h2 hg (hne 35 (.inr rfl)), fun j hj => ⟨owns_apart (h3 j hj).1 hg (hne 9 (.inl rfl)), (h3 j hj).2⟩⟩

/-- A row of rows of numbers of the call's own, those within all below block h. -/
def OwnLH (w : World) (base h : Nat) (v : Value) (L : List (List Int)) : Prop :=
  ∃ us : List Value, us.length = L.length ∧ w.ownsRow base 34 1 v L.length us ∧ ∀ j, j < L.length → OwnI w base (us.getD j (.slice none 0 0)) (L.getD j []) ∧ ∀ k, (us.getD j (.slice none 0 0)).ownBlock = some k → k < h
section
variable {w w' : World} {base h : Nat} {v u v' : Value} {L : List (List Int)} {c : List Int}
theorem OwnLH.nil (w : World) (base h : Nat) : OwnLH w base h (.slice none 0 0) [] := ⟨[], rfl, World.ownsRow_nil _ _ _ _, fun j hj => by simp at hj⟩
theorem OwnLH.alloc (a : OwnLH w base h v L) (o : Obj) : OwnLH (w.alloc o) base h v L := by
  obtain ⟨us, h1, h2, h3⟩ := a
  exact ⟨us, h1, h2.alloc o, fun j hj => ⟨World.ownsRow.alloc (h3 j hj).1 o, (h3 j hj).2⟩⟩
theorem OwnLH.far {row : Option Nat} (a : OwnLH w base h v L) (hg : w.grownBy w' row)
    (hne : ∀ e, (e = 3 ∨ e = 34) → ∀ k, row = some k → ∃ cur e2, w.heap[k]? = some (.cells cur e2 (0, 0)) ∧ e2 ≠ e) : OwnLH w' base h v L := by
  obtain ⟨us, h1, h2, h3⟩ := a
  exact ⟨us, h1, owns_apart h2 hg (hne 34 (.inr rfl)), fun j hj => ⟨owns_apart (h3 j hj).1 hg (hne 3 (.inl rfl)), (h3 j hj).2⟩⟩
theorem OwnLH.own (a : OwnLH w base h v L) : OwnL w base v L := by
  obtain ⟨us, h1, h2, h3⟩ := a
  exact ⟨us, h1, h2, fun j hj => (h3 j hj).1⟩
/-- Behind an append to the clause, whose block lies at h or beyond. -/
theorem OwnLH.aside (a : OwnLH w base h v L) (hl : OwnI w h u c) (hg : w.grownBy w' u.ownBlock) : OwnLH w' base h v L := by
  obtain ⟨us, h1, h2, h3⟩ := a
  refine ⟨us, h1, World.ownsRow.kept h2 hg (owns_ne h2 hl (by decide)), fun j hj => ⟨World.ownsRow.kept (h3 j hj).1 hg ?_, (h3 j hj).2⟩⟩
  cases hb : (us.getD j (.slice none 0 0)).ownBlock with
  | none => exact .inl rfl
  | some k =>
    right
    intro e
    have h4 := (h3 j hj).2 k hb
    have h5 := (hl.lt k e.symm).1
    omega
/-- Behind an append of a clause. -/
theorem OwnLH.push {us : List Value} (h1 : us.length = L.length) (h2 : w.ownsRow base 34 1 v L.length us)
    (h3 : ∀ j, j < L.length → OwnI w base (us.getD j (.slice none 0 0)) (L.getD j []) ∧ ∀ k, (us.getD j (.slice none 0 0)).ownBlock = some k → k < h) (hl : OwnI w base u c) (hs : h ≤ w.heap.size)
    (h' : w'.ownsRow base 34 1 v' (L.length + 1) (us ++ [u])) (hg : w.grownBy w' v.ownBlock) : OwnLH w' base w'.heap.size v' (L ++ [c]) := by
  have kept : ∀ {x : Value} {k : List Int}, OwnI w base x k → OwnI w' base x k := fun hx => World.ownsRow.kept hx hg (owns_ne hx h2 (by decide))
  refine ⟨us ++ [u], by simp [h1], by simpa using h', fun j hj => ?_⟩
  by_cases hjl : j < L.length
  · have e1 : (us ++ [u]).getD j (.slice none 0 0) = us.getD j (.slice none 0 0) := by simp [List.getD, List.getElem?_append_left (show j < us.length by omega)]
    have e2 : (L ++ [c]).getD j [] = L.getD j [] := by simp [List.getD, List.getElem?_append_left hjl]
    rw [e1, e2]
    exact ⟨kept (h3 j hjl).1, fun k hk => by have := (h3 j hjl).2 k hk; have := hg.size; omega⟩
  · have hj' : j = L.length := by simp at hj; omega
    subst hj'
    have e1 : (us ++ [u]).getD L.length (.slice none 0 0) = u := by rw [← h1]; simp [List.getD]
    have e2 : (L ++ [c]).getD L.length [] = c := by simp [List.getD]
    rw [e1, e2]
    have hk := kept hl
    exact ⟨hk, fun k hb => (hk.lt k hb).2⟩
end

/-- Parse's memory in W, where it began in w: the answer's box, the formula's box, the lines, the clauses, the clause that grows. -/
structure RMem (w W : World) (h : Nat) (lv cv u : Value) (LL : List (List ByteArray)) (r : RS) : Prop where
  below : Below w.heap.size w W
  out : Box W w.heap.size 24 #[.int .i64 0, .slice none 0 0]
  form : Box W (w.heap.size + 1) 24 #[.int .i64 r.vars, cv]
  lines : ∃ hh, OwnSS W w.heap.size hh lv LL
  cls : OwnLH W w.heap.size h cv r.cls
  cur : OwnI W h u r.cur
  lo : w.heap.size ≤ h
  hi : h ≤ W.heap.size
section
variable {w W W' : World} {h : Nat} {lv cv u v' : Value} {LL : List (List ByteArray)} {r r' : RS}
theorem RMem.alloc (m : RMem w W h lv cv u LL r) (o : Obj) : RMem w (W.alloc o) h lv cv u LL r :=
  ⟨m.below.alloc m.below.size o, m.out.alloc o, m.form.alloc o, by obtain ⟨hh, x⟩ := m.lines; exact ⟨hh, x.alloc o⟩, m.cls.alloc o, World.ownsRow.alloc m.cur o, m.lo, Nat.le_trans m.hi (by simp)⟩
theorem RMem.same (m : RMem w W h lv cv u LL r) (e1 : r'.vars = r.vars) (e2 : r'.cls = r.cls) (e3 : r'.cur = r.cur) : RMem w W h lv cv u LL r' :=
  ⟨m.below, m.out, by rw [e1]; exact m.form, m.lines, by rw [e2]; exact m.cls, by rw [e3]; exact m.cur, m.lo, m.hi⟩
/-- Behind an append to the clause. -/
theorem RMem.word (m : RMem w W h lv cv u LL r) {x : Int} (hg : W.grownBy W' u.ownBlock) (ho : OwnI W' h v' (r.cur ++ [x])) (e1 : r'.vars = r.vars) (e2 : r'.cls = r.cls) (e3 : r'.cur = r.cur ++ [x]) : RMem w W' h lv cv v' LL r' :=
  ⟨m.below.grown hg m.below.size fun k hk => Nat.le_trans m.lo (m.cur.lt k hk).1, box_far m.out hg (typed_as m.cur (by decide)), by rw [e1]; exact box_far m.form hg (typed_as m.cur (by decide)),
    by obtain ⟨hh, y⟩ := m.lines; exact ⟨hh, y.far hg fun e he => typed_as m.cur (by rcases he with rfl | rfl <;> decide)⟩, by rw [e2]; exact m.cls.aside m.cur hg, by rw [e3]; exact ho, m.lo, Nat.le_trans m.hi hg.size⟩
/-- Behind an append of the clause, and the store. -/
theorem RMem.clause (m : RMem w W h lv cv u LL r) {us : List Value} (h1 : us.length = r.cls.length) (h2 : W.ownsRow w.heap.size 34 1 cv r.cls.length us)
    (h3 : ∀ j, j < r.cls.length → OwnI W w.heap.size (us.getD j (.slice none 0 0)) (r.cls.getD j []) ∧ ∀ k, (us.getD j (.slice none 0 0)).ownBlock = some k → k < h)
    (hg : W.grownBy W' cv.ownBlock) (ho : W'.ownsRow w.heap.size 34 1 v' (r.cls.length + 1) (us ++ [u])) (e1 : r'.vars = r.vars) (e2 : r'.cls = r.cls ++ [r.cur]) (e3 : r'.cur = []) :
    RMem w (W'.setCell ⟨w.heap.size + 1, 1, none⟩ v') W'.heap.size lv v' (.slice none 0 0) LL r' := by
  have hb : Below w.heap.size w W' := m.below.grown hg m.below.size fun k hk => (h2.lt k hk).1
  have hform := box_far m.form hg (typed_as h2 (by decide))
  have hpush := OwnLH.push h1 h2 h3 (owns_base m.cur m.lo) m.hi ho hg
  have hs := set_grown W' (w.heap.size + 1) 1 v'
  refine ⟨hb.setCell (by show w.heap.size ≤ w.heap.size + 1; omega) _, ?_, ?_, ?_, ?_, ?_, hb.size, by simp⟩
  · exact (box_far m.out hg (typed_as h2 (by decide))).setOther ⟨w.heap.size + 1, 1, none⟩ (by show w.heap.size ≠ w.heap.size + 1; omega) _
  · rw [e1]; exact hform.set 1 _
  · obtain ⟨hh, y⟩ := m.lines
    exact ⟨hh, (y.far hg fun e he => typed_as h2 (by rcases he with rfl | rfl <;> decide)).far hs fun e he => box_as hform (by rcases he with rfl | rfl <;> decide)⟩
  · rw [e2]; exact hpush.far hs fun e he => box_as hform (by rcases he with rfl | rfl <;> decide)
  · rw [e3]; exact OwnI.nil _ _
/-- Behind the header. -/
theorem RMem.head (m : RMem w W h lv cv u LL r) (n : Int) (e1 : r'.vars = n) (e2 : r'.cls = r.cls) (e3 : r'.cur = r.cur) : RMem w (W.setCell ⟨w.heap.size + 1, 0, none⟩ (.int .i64 n)) h lv cv u LL r' := by
  have hs := set_grown W (w.heap.size + 1) 0 (.int .i64 n)
  refine ⟨m.below.setCell (by show w.heap.size ≤ w.heap.size + 1; omega) _, m.out.setOther ⟨w.heap.size + 1, 0, none⟩ (by show w.heap.size ≠ w.heap.size + 1; omega) _, ?_, ?_, ?_, ?_, m.lo, Nat.le_trans m.hi (by simp)⟩
  · rw [e1]; exact m.form.set 0 _
  · obtain ⟨hh, y⟩ := m.lines
    exact ⟨hh, y.far hs fun e he => box_as m.form (by rcases he with rfl | rfl <;> decide)⟩
  · rw [e2]; exact m.cls.far hs fun e he => box_as m.form (by rcases he with rfl | rfl <;> decide)
  · rw [e3]; exact owns_apart m.cur hs (box_as m.form (by decide))
end

/-- The reference's reader between two lines: k of LL are read. -/
def RAt (L : List (List (List UInt8))) (k : Nat) (r : RS) : Prop := Wf r ∧ r.first = 0 ∧ readR PA.start 0 L = readR r k (L.drop k)
theorem rat_start (L : List (List (List UInt8))) : RAt L 0 PA.start := ⟨start_wf, rfl, by simp⟩
section
variable {L : List (List (List UInt8))} {k : Nat} {r : RS}
theorem drop_getDL (h : k < L.length) : L.drop k = L.getD k [] :: L.drop (k + 1) := by
  rw [List.drop_eq_getElem_cons h]; simp [List.getD, h]
theorem RAt.skip (a : RAt L k r) (hk : k < L.length) (h : L.getD k [] = [] ∨ (L.getD k []).head? = some [99]) : RAt L (k + 1) r := by
  obtain ⟨h1, h2, h3⟩ := a
  refine ⟨h1, h2, ?_⟩
  rw [h3, drop_getDL hk]
  conv => lhs; unfold readR
  rw [if_pos h]
  simp
theorem RAt.line (a : RAt L k r) (hk : k < L.length) (h : ¬ (L.getD k [] = [] ∨ (L.getD k []).head? = some [99])) (h0 : (takeS { r with line := (k : Int) + 1 } (L.getD k [])).2 = 0) :
    RAt L (k + 1) (lineS r ((k : Int) + 1, L.getD k [])) := by
  obtain ⟨h1, h2, h3⟩ := a
  have hw : Wf (lineS r ((k : Int) + 1, L.getD k [])) := by
    have hq : Wf { r with line := (k : Int) + 1 } := ⟨h1.v0, h1.v1, h1.l0, h1.l1, h1.c1, h1.h0⟩
    have := hq.take (L.getD k [])
    exact ⟨this.v0, this.v1, this.l0, this.l1, this.c1, this.h0⟩
  refine ⟨hw, h0, ?_⟩
  rw [h3, drop_getDL hk]
  conv => lhs; unfold readR
  rw [if_neg h, if_pos (show (lineS r ((k : Int) + 1, L.getD k [])).first = 0 from h0)]
  simp
theorem RAt.stop (a : RAt L k r) (hk : k < L.length) (h : ¬ (L.getD k [] = [] ∨ (L.getD k []).head? = some [99])) (h0 : (takeS { r with line := (k : Int) + 1 } (L.getD k [])).2 ≠ 0) :
    readR PA.start 0 L = lineS r ((k : Int) + 1, L.getD k []) := by
  obtain ⟨h1, h2, h3⟩ := a
  rw [h3, drop_getDL hk]
  conv => lhs; unfold readR
  rw [if_neg h, if_neg (show ¬ (lineS r ((k : Int) + 1, L.getD k [])).first = 0 from h0)]
theorem RAt.all (a : RAt L L.length r) : readR PA.start 0 L = r := by
  obtain ⟨h1, h2, h3⟩ := a
  rw [h3, List.drop_length]
  rfl
end
/-- Between two words of a line: j of them are read. -/
def WAt (r0 : RS) (ws : List (List UInt8)) (j : Nat) (r : RS) : Prop := Wf r ∧ r.header = true ∧ wordsS r0 ws = wordsS r (ws.drop j)
theorem wat_start {r0 : RS} (h : Wf r0) (hh : r0.header = true) (ws : List (List UInt8)) : WAt r0 ws 0 r0 := ⟨h, hh, by simp⟩
section
variable {r0 r : RS} {ws : List (List UInt8)} {j : Nat}
theorem drop_getDW (h : j < ws.length) : ws.drop j = ws.getD j [] :: ws.drop (j + 1) := by
  rw [List.drop_eq_getElem_cons h]; simp [List.getD, h]
theorem WAt.next (a : WAt r0 ws j r) (hj : j < ws.length) (h0 : (addR r (ws.getD j [])).2 = 0) : WAt r0 ws (j + 1) (addR r (ws.getD j [])).1 := by
  obtain ⟨h1, hh, h2⟩ := a
  rw [addR_eq h1] at h0 ⊢
  refine ⟨(h1.add hh _).1, (h1.add hh _).2, ?_⟩
  rw [h2, drop_getDW hj]
  conv => lhs; unfold wordsS
  rw [if_pos h0]
theorem WAt.stop (a : WAt r0 ws j r) (hj : j < ws.length) (h0 : (addR r (ws.getD j [])).2 ≠ 0) : (wordsS r0 ws).2 = (addR r (ws.getD j [])).2 := by
  obtain ⟨h1, hh, h2⟩ := a
  rw [addR_eq h1] at h0 ⊢
  rw [h2, drop_getDW hj]
  conv => lhs; unfold wordsS
  rw [if_neg h0]
theorem WAt.all (a : WAt r0 ws ws.length r) : wordsS r0 ws = (r, 0) := by
  obtain ⟨h1, hh, h2⟩ := a
  rw [h2, List.drop_length]
  rfl
end
end L
end Go.Proofs.YtlkhabdpancjjaaDoor
