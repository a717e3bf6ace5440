/- Several texts, joined. -/
import Derived.Test.YtfhodbnhaaiceaaDoorQ08

/- The state of a propagation in memory. -/
section
namespace Go.Proofs.YtfhodbnhaaiceaaDoor
open Go.RowKit Go.Conc
namespace K
open L

/-- Where its parts lie: behind block B, all ahead of block R; n variables, M clauses. -/
structure Bl where
  B : Nat
  n : Nat
  M : Nat
  pb : Nat
  kb : Nat
  qb : Nat
  cb : Nat
  mb : Nat
  R : Nat

def KC (n : Nat) (kn : Nat → Int) (cs : Array Value) : Prop := cs.size = n + 1 ∧ ∀ v, v ≤ n → cs[v]? = some (.int .i64 (kn v))
def CC (M : Nat) (al : Nat → Value) (nx : Nat → Nat) (b0 b1 : Nat → Int) (cs : Array Value) : Prop :=
  cs.size = 4 * M ∧ ∀ i, i < M → cs[4 * i]? = some (al i) ∧ cs[4 * i + 1]? = some (.int .i64 (nx i)) ∧ cs[4 * i + 2]? = some (.int .i64 (b0 i)) ∧ cs[4 * i + 3]? = some (.int .i64 (b1 i))

theorem KC.set {n : Nat} {kn : Nat → Int} {cs : Array Value} (h : KC n kn cs) (v : Nat) (x : Int) : KC n (U.upd kn v x) (cs.setIfInBounds v (.int .i64 x)) := by
  refine ⟨by simp [h.1], fun u hu => ?_⟩
  have h1 := h.2 u hu
  have hs := h.1
  rw [Array.getElem?_setIfInBounds]
  by_cases e : v = u
  · subst e
    rw [U.upd_same]
    simp
    omega
  · rw [U.upd_ne (fun e2 => e e2.symm), if_neg e]
    exact h1
section
variable {M : Nat} {al : Nat → Value} {nx : Nat → Nat} {b0 b1 : Nat → Int} {cs : Array Value}
theorem CC.setAl (h : CC M al nx b0 b1 cs) (i : Nat) (u : Value) : CC M (U.upd al i u) nx b0 b1 (cs.setIfInBounds (4 * i) u) := by
  refine ⟨by simp [h.1], fun j hj => ?_⟩
  obtain ⟨h0, h1, h2, h3⟩ := h.2 j hj
  have hs := h.1
  simp only [Array.getElem?_setIfInBounds]
  rw [if_neg (show ¬ 4 * i = 4 * j + 1 by omega), if_neg (show ¬ 4 * i = 4 * j + 2 by omega), if_neg (show ¬ 4 * i = 4 * j + 3 by omega)]
  refine ⟨?_, h1, h2, h3⟩
  by_cases e : i = j
  · subst e
    rw [U.upd_same, if_pos rfl, if_pos (by omega)]
  · rw [U.upd_ne (fun e2 => e e2.symm), if_neg (by omega)]
    exact h0
theorem CC.setNx (h : CC M al nx b0 b1 cs) (i : Nat) (u : Nat) : CC M al (U.upd nx i u) b0 b1 (cs.setIfInBounds (4 * i + 1) (.int .i64 u)) := by
  refine ⟨by simp [h.1], fun j hj => ?_⟩
  obtain ⟨h0, h1, h2, h3⟩ := h.2 j hj
  have hs := h.1
  simp only [Array.getElem?_setIfInBounds]
  rw [if_neg (show ¬ 4 * i + 1 = 4 * j by omega), if_neg (show ¬ 4 * i + 1 = 4 * j + 2 by omega), if_neg (show ¬ 4 * i + 1 = 4 * j + 3 by omega)]
  refine ⟨h0, ?_, h2, h3⟩
  by_cases e : i = j
  · subst e
    rw [U.upd_same, if_pos rfl, if_pos (by omega)]
  · rw [U.upd_ne (fun e2 => e e2.symm), if_neg (by omega)]
    exact h1
theorem CC.setB0 (h : CC M al nx b0 b1 cs) (i : Nat) (u : Int) : CC M al nx (U.upd b0 i u) b1 (cs.setIfInBounds (4 * i + 2) (.int .i64 u)) := by
  refine ⟨by simp [h.1], fun j hj => ?_⟩
  obtain ⟨h0, h1, h2, h3⟩ := h.2 j hj
  have hs := h.1
  simp only [Array.getElem?_setIfInBounds]
  rw [if_neg (show ¬ 4 * i + 2 = 4 * j by omega), if_neg (show ¬ 4 * i + 2 = 4 * j + 1 by omega), if_neg (show ¬ 4 * i + 2 = 4 * j + 3 by omega)]
  refine ⟨h0, h1, ?_, h3⟩
  by_cases e : i = j
  · subst e
    rw [U.upd_same, if_pos rfl, if_pos (by omega)]
  · rw [U.upd_ne (fun e2 => e e2.symm), if_neg (by omega)]
    exact h2
theorem CC.setB1 (h : CC M al nx b0 b1 cs) (i : Nat) (u : Int) : CC M al nx b0 (U.upd b1 i u) (cs.setIfInBounds (4 * i + 3) (.int .i64 u)) := by
  refine ⟨by simp [h.1], fun j hj => ?_⟩
  obtain ⟨h0, h1, h2, h3⟩ := h.2 j hj
  have hs := h.1
  simp only [Array.getElem?_setIfInBounds]
  rw [if_neg (show ¬ 4 * i + 3 = 4 * j by omega), if_neg (show ¬ 4 * i + 3 = 4 * j + 1 by omega), if_neg (show ¬ 4 * i + 3 = 4 * j + 2 by omega)]
  refine ⟨h0, h1, h2, ?_⟩
  by_cases e : i = j
  · subst e
    rw [U.upd_same, if_pos rfl, if_pos (by omega)]
  · rw [U.upd_ne (fun e2 => e e2.symm), if_neg (by omega)]
    exact h3
end

/-- What its pointer points to. -/
def fields (p : Bl) : Array Value := #[.slice (some ⟨p.kb, 0, none⟩) (p.n + 1) (p.n + 1), .chan (some p.qb), .slice (some ⟨p.cb, 0, none⟩) p.M p.M, .map (some p.mb)]
structure Mem (w : World) (p : Bl) (al : Nat → Value) (N : Nat) (vs : Int → Value) (s : U.St) : Prop where
  ord : (p.B ≤ p.pb ∧ p.B ≤ p.kb ∧ p.B ≤ p.qb ∧ p.B ≤ p.cb ∧ p.B ≤ p.mb) ∧ p.pb < p.R ∧ p.kb < p.R ∧ p.qb < p.R ∧ p.cb < p.R ∧ p.mb < p.R
  dif : p.pb ≠ p.kb ∧ p.pb ≠ p.qb ∧ p.pb ≠ p.cb ∧ p.pb ≠ p.mb ∧ p.kb ≠ p.qb ∧ p.kb ≠ p.cb ∧ p.kb ≠ p.mb ∧ p.qb ≠ p.cb ∧ p.qb ≠ p.mb ∧ p.cb ≠ p.mb
  siz : p.R ≤ w.heap.size
  lim : p.n ≤ 1048576 ∧ p.M ≤ 1048576
  box : Box w p.pb 99 (fields p)
  kno : ∃ cs, Box w p.kb 3 cs ∧ KC p.n s.kn cs
  que : ∃ a b, w.heap[p.qb]? = some (.chan p.n (s.q.map (Value.int .i64)).toArray false a b false)
  cla : ∃ cs, Box w p.cb 103 cs ∧ CC p.M al s.nx s.b0 s.b1 cs
  map : MapV w p.mb N (.slice none 0 0) vs
  row : ∀ z, w.ownsRow p.R 3 1 (vs z) (s.W z).length ((s.W z).map fun i : Nat => Value.int .i64 (i : Int))
  apt : ∀ z y, z ≠ y → (vs z).ownBlock = none ∨ (vs z).ownBlock ≠ (vs y).ownBlock

section
variable {w w' : World} {p : Bl} {al : Nat → Value} {N : Nat} {vs : Int → Value} {s : U.St}
theorem Mem.rowlt (h : Mem w p al N vs s) {z : Int} {k : Nat} (hk : (vs z).ownBlock = some k) : p.R ≤ k ∧ k < w.heap.size := (h.row z).lt k hk

theorem Mem.below (h : Mem w p al N vs s) (hb : Below w.heap.size w w') : Mem w' p al N vs s := by
  obtain ⟨o1, o2, o3, o4, o5, o6⟩ := h.ord
  have hs := h.siz
  have bl : ∀ k, k < w.heap.size → w'.heap[k]? = w.heap[k]? := fun k hk => hb.block k hk
  refine ⟨h.ord, h.dif, Nat.le_trans h.siz hb.size, h.lim, h.box.of_block (bl _ (by omega)), ?_, ?_, ?_, h.map.of_block (bl _ (by omega)), fun z => owns_of_block (h.row z) fun k hk => bl k (h.rowlt hk).2, h.apt⟩
  · obtain ⟨cs, h1, h2⟩ := h.kno
    exact ⟨cs, h1.of_block (bl _ (by omega)), h2⟩
  · obtain ⟨a, b, h1⟩ := h.que
    exact ⟨a, b, (bl _ (by omega)).trans h1⟩
  · obtain ⟨cs, h1, h2⟩ := h.cla
    exact ⟨cs, h1.of_block (bl _ (by omega)), h2⟩
theorem Mem.heap (h : Mem w p al N vs s) (e : w'.heap = w.heap) : Mem w' p al N vs s := by
  obtain ⟨o1, o2, o3, o4, o5, o6⟩ := h.ord
  have bl : ∀ k : Nat, w'.heap[k]? = w.heap[k]? := fun k => by rw [e]
  refine ⟨h.ord, h.dif, by rw [e]; exact h.siz, h.lim, h.box.of_block (bl _), ?_, ?_, ?_, h.map.of_block (bl _), fun z => owns_of_block (h.row z) fun k hk => bl k, h.apt⟩
  · obtain ⟨cs, h1, h2⟩ := h.kno
    exact ⟨cs, h1.of_block (bl _), h2⟩
  · obtain ⟨a, b, h1⟩ := h.que
    exact ⟨a, b, (bl _).trans h1⟩
  · obtain ⟨cs, h1, h2⟩ := h.cla
    exact ⟨cs, h1.of_block (bl _), h2⟩

/-- A variable becomes known. -/
theorem Mem.setKn (h : Mem w p al N vs s) (v : Nat) (x : Int) : Mem (w.setCell ⟨p.kb, v, none⟩ (.int .i64 x)) p al N vs { s with kn := U.upd s.kn v x } := by
  obtain ⟨o1, o2, o3, o4, o5, o6⟩ := h.ord
  obtain ⟨d1, d2, d3, d4, d5, d6, d7, d8, d9, d10⟩ := h.dif
  have bl : ∀ k, k ≠ p.kb → (w.setCell ⟨p.kb, v, none⟩ (.int .i64 x)).heap[k]? = w.heap[k]? := fun k hk => Deep.blk_setCell_other w _ _ k hk
  refine ⟨h.ord, h.dif, by simpa using h.siz, h.lim, h.box.of_block (bl _ d1), ?_, ?_, ?_, h.map.of_block (bl _ (Ne.symm d7)), fun z => owns_of_block (h.row z) fun k hk => bl k (by have := (h.rowlt hk).1; omega), h.apt⟩
  · obtain ⟨cs, h1, h2⟩ := h.kno
    exact ⟨_, h1.set v _, h2.set v x⟩
  · obtain ⟨a, b, h1⟩ := h.que
    exact ⟨a, b, (bl _ (Ne.symm d5)).trans h1⟩
  · obtain ⟨cs, h1, h2⟩ := h.cla
    exact ⟨cs, h1.of_block (bl _ (Ne.symm d6)), h2⟩
/-- A cell of a clause is written. -/
theorem Mem.setCl (h : Mem w p al N vs s) (j : Nat) (u : Value) {al' : Nat → Value} {nx' : Nat → Nat} {b0' b1' : Nat → Int} (hc : ∀ cs, CC p.M al s.nx s.b0 s.b1 cs → CC p.M al' nx' b0' b1' (cs.setIfInBounds j u)) :
    Mem (w.setCell ⟨p.cb, j, none⟩ u) p al' N vs { s with nx := nx', b0 := b0', b1 := b1' } := by
  obtain ⟨o1, o2, o3, o4, o5, o6⟩ := h.ord
  obtain ⟨d1, d2, d3, d4, d5, d6, d7, d8, d9, d10⟩ := h.dif
  have bl : ∀ k, k ≠ p.cb → (w.setCell ⟨p.cb, j, none⟩ u).heap[k]? = w.heap[k]? := fun k hk => Deep.blk_setCell_other w _ _ k hk
  refine ⟨h.ord, h.dif, by simpa using h.siz, h.lim, h.box.of_block (bl _ d3), ?_, ?_, ?_, h.map.of_block (bl _ (Ne.symm d10)), fun z => owns_of_block (h.row z) fun k hk => bl k (by have := (h.rowlt hk).1; omega), h.apt⟩
  · obtain ⟨cs, h1, h2⟩ := h.kno
    exact ⟨cs, h1.of_block (bl _ d6), h2⟩
  · obtain ⟨a, b, h1⟩ := h.que
    exact ⟨a, b, (bl _ d8).trans h1⟩
  · obtain ⟨cs, h1, h2⟩ := h.cla
    exact ⟨_, h1.set j u, hc cs h2⟩
theorem setChan_other (w : World) (c c' cap : Nat) (buf : Array Value) (closed : Bool) (s r : Nat) (tm : Bool) (h : c' ≠ c) : (w.setChan c cap buf closed s r tm).heap[c']? = w.heap[c']? := by
  simp only [World.setChan]
  exact Array.getElem?_setIfInBounds_ne (Ne.symm h)
/-- The queue changes. -/
theorem Mem.setQ (h : Mem w p al N vs s) (q : List Int) {buf : Array Value} (hbuf : buf = (q.map (Value.int .i64)).toArray) (a b : Nat) : Mem (w.setChan p.qb p.n buf false a b false) p al N vs { s with q := q } := by
  subst hbuf
  obtain ⟨o1, o2, o3, o4, o5, o6⟩ := h.ord
  obtain ⟨d1, d2, d3, d4, d5, d6, d7, d8, d9, d10⟩ := h.dif
  have hs := h.siz
  have bl : ∀ k, k ≠ p.qb → (w.setChan p.qb p.n (q.map (Value.int .i64)).toArray false a b false).heap[k]? = w.heap[k]? := fun k hk => setChan_other w _ _ _ _ _ _ _ _ hk
  refine ⟨h.ord, h.dif, by rw [size_setChan]; exact h.siz, h.lim, h.box.of_block (bl _ d2), ?_, ⟨a, b, heap_setChan _ _ _ _ _ _ _ _ (by omega)⟩, ?_, h.map.of_block (bl _ (Ne.symm d9)), fun z => owns_of_block (h.row z) fun k hk => bl k (by have := (h.rowlt hk).1; omega), h.apt⟩
  · obtain ⟨cs, h1, h2⟩ := h.kno
    exact ⟨cs, h1.of_block (bl _ d5), h2⟩
  · obtain ⟨cs, h1, h2⟩ := h.cla
    exact ⟨cs, h1.of_block (bl _ (Ne.symm d8)), h2⟩
/-- The index of a clause is put under a literal. -/
theorem Mem.push (h : Mem w p al N vs s) (z : Int) (i : Nat) {w1 w2 : World} {v' : Value} {g : Nat} (hg : w.grownBy w1 (vs z).ownBlock) (hown : w1.ownsRow p.R 3 1 v' ((s.W z).length + 1) ((s.W z).map (fun i : Nat => Value.int .i64 (i : Int)) ++ [.int .i64 (i : Int)]))
    (hv : v'.ownBlock = some g) (hat : (vs z).ownBlock = some g ∨ w.heap.size ≤ g) (hm : MapV w2 p.mb (N + 1) (.slice none 0 0) (U.upd vs z v')) (hg2 : w1.grownBy w2 (some p.mb)) : Mem w2 p al (N + 1) (U.upd vs z v') (U.push s i z) := by
  obtain ⟨o1, o2, o3, o4, o5, o6⟩ := h.ord
  obtain ⟨d1, d2, d3, d4, d5, d6, d7, d8, d9, d10⟩ := h.dif
  have hs := h.siz
  have hs1 := hg.size
  have bl1 : ∀ k, k < w.heap.size → some k ≠ (vs z).ownBlock → w1.heap[k]? = w.heap[k]? := fun k hk hne => hg.block k hk hne
  have bl2 : ∀ k, k < w1.heap.size → k ≠ p.mb → w2.heap[k]? = w1.heap[k]? := fun k hk hne => hg2.block k hk (by simpa using hne)
  have bl : ∀ k, k < p.R → k ≠ p.mb → w2.heap[k]? = w.heap[k]? := fun k hk hne => (bl2 k (by omega) hne).trans (bl1 k (by omega) (fun e => by have := (h.rowlt e.symm).1; omega))
  have hR : p.R ≤ g := by have := (hown.lt g hv).1; exact this
  refine ⟨h.ord, h.dif, Nat.le_trans h.siz (Nat.le_trans hg.size hg2.size), h.lim, h.box.of_block (bl _ (by omega) d4), ?_, ?_, ?_, hm, fun y => ?_, fun y y' hne => ?_⟩
  · obtain ⟨cs, h1, h2⟩ := h.kno
    exact ⟨cs, h1.of_block (bl _ (by omega) d7), h2⟩
  · obtain ⟨a, b, h1⟩ := h.que
    exact ⟨a, b, (bl _ (by omega) d9).trans h1⟩
  · obtain ⟨cs, h1, h2⟩ := h.cla
    exact ⟨cs, h1.of_block (bl _ (by omega) d10), h2⟩
  · simp only [U.push]
    by_cases e : y = z
    · subst e
      rw [U.upd_same, U.upd_same]
      simp only [List.length_append, List.length_singleton, List.map_append, List.map_cons, List.map_nil]
      exact owns_of_block hown fun k hk => bl2 k (hown.lt k hk).2 (by have := (hown.lt k hk).1; omega)
    · rw [U.upd_ne e, U.upd_ne e]
      refine owns_of_block (h.row y) fun k hk => ?_
      have hk1 := h.rowlt hk
      refine (bl2 k (by omega) (by omega)).trans (bl1 k hk1.2 fun e2 => ?_)
      rcases h.apt y z e with h3 | h3
      · rw [h3] at hk; cases hk
      · exact h3 (hk.trans e2)
  · by_cases e : y = z
    · subst e
      rw [U.upd_same, U.upd_ne (Ne.symm hne), hv]
      right
      rcases hat with h3 | h3
      · rcases h.apt y y' hne with h4 | h4
        · rw [h3] at h4; cases h4
        · rw [← h3]; exact h4
      · intro e2
        have := (h.rowlt e2.symm).2
        omega
    · rw [U.upd_ne e]
      by_cases e' : y' = z
      · subst e'
        rw [U.upd_same, hv]
        rcases hat with h3 | h3
        · rw [← h3]; exact h.apt y y' hne
        · right
          intro e2
          have := (h.rowlt e2).2
          omega
      · rw [U.upd_ne e']
        exact h.apt y y' hne
end
section
variable {w : World} {p : Bl} {al : Nat → Value} {N : Nat} {vs : Int → Value} {s : U.St}
theorem Mem.c (h : Mem w p al N vs s) : w.cell? ⟨p.pb, 0, none⟩ = some (.slice (some ⟨p.kb, 0, none⟩) (p.n + 1) (p.n + 1)) ∧ w.cell? ⟨p.pb, 1, none⟩ = some (.chan (some p.qb)) ∧ w.cell? ⟨p.pb, 2, none⟩ = some (.slice (some ⟨p.cb, 0, none⟩) p.M p.M) ∧ w.cell? ⟨p.pb, 3, none⟩ = some (.map (some p.mb)) :=
  ⟨h.box.cell 0, h.box.cell 1, h.box.cell 2, h.box.cell 3⟩
theorem Mem.k (h : Mem w p al N vs s) {v : Nat} (hv : v ≤ p.n) : w.cell? ⟨p.kb, v, none⟩ = some (.int .i64 (s.kn v)) ∧ w.frozen? ⟨p.kb, v, none⟩ = false := by
  obtain ⟨cs, h1, h2⟩ := h.kno
  exact ⟨(h1.cell v).trans (h2.2 v hv), h1.frozen v⟩
theorem Mem.l (h : Mem w p al N vs s) {i : Nat} (hi : i < p.M) : w.cell? ⟨p.cb, 4 * i, none⟩ = some (al i) ∧ w.cell? ⟨p.cb, 4 * i + 1, none⟩ = some (.int .i64 (s.nx i)) ∧ w.cell? ⟨p.cb, 4 * i + 2, none⟩ = some (.int .i64 (s.b0 i)) ∧ w.cell? ⟨p.cb, 4 * i + 3, none⟩ = some (.int .i64 (s.b1 i)) ∧ ∀ j, w.frozen? ⟨p.cb, j, none⟩ = false := by
  obtain ⟨cs, h1, h2⟩ := h.cla
  obtain ⟨a, b, c, d⟩ := h2.2 i hi
  exact ⟨(h1.cell _).trans a, (h1.cell _).trans b, (h1.cell _).trans c, (h1.cell _).trans d, fun j => h1.frozen j⟩
end
end K
end Go.Proofs.YtfhodbnhaaiceaaDoor
end

/- Contracts of prop: variable, holds, isFalse. -/
section
namespace Go.Proofs.YtfhodbnhaaiceaaDoor
open Go.RowKit
namespace L
open K

set_option maxHeartbeats 400000 in
theorem pvar_any (x : Int) (h : x.natAbs ≤ 1048576) (w : World) :
    Calls Tryd.prog 70 #[.int .i64 x] w fun e w' => e = .returned (.int .i64 (x.natAbs : Int)) ∧ w = w' := by
  by_cases h0 : x < 0
  · have e1 : (x.natAbs : Int) = -x := by omega
    rw [e1]; clear e1
    have hb : (-x) ≤ 1048576 := by omega
    clear h
    go_enter Tryd.func70, Tryd.ntmps70
    go_wp2
    go_ret
    exact ⟨ret_int (by first | omega | rfl | (simp <;> omega)), rfl⟩
  · have e1 : (x.natAbs : Int) = x := by omega
    rw [e1]; clear e1
    have hb : x ≤ 1048576 := by omega
    clear h
    go_enter Tryd.func70, Tryd.ntmps70
    go_wp2
    go_ret
    exact ⟨ret_int (by first | omega | rfl | (simp <;> omega)), rfl⟩

set_option maxHeartbeats 1000000 in
theorem isF_any {w : World} {p : Bl} {al : Nat → Value} {N : Nat} {vs : Int → Value} {s : U.St} (h : Mem w p al N vs s) (x : Int) (hx : x.natAbs ≤ p.n) :
    Calls Tryd.prog 68 #[.pointer (some ⟨p.pb, 0, none⟩), .int .i64 x] w fun e w' => e = .returned (.bool (decide (s.kn x.natAbs = -x))) ∧ Below w.heap.size w w' := by
  have hn := h.lim.1
  obtain ⟨c0, _⟩ := h.c
  have k0 := (h.k hx).1
  have hb : x.natAbs ≤ 1048576 := by omega
  have hpv := fun W => pvar_any x hb W
  have hneg : IntKind.i64.wrap (-x) = -x := by simp only [IntKind.wrap_i64]; omega
  generalize s.kn x.natAbs = y at *
  generalize hv : x.natAbs = v at *
  have h1 : (v : Int) < (p.n : Int) + 1 := by omega
  clear h hv hb
  go_enter Tryd.func68, Tryd.ntmps68
  go_wp2
  go_quiet ((go_at_call 70; exact Calls.quiet_of_same ((hpv _).mono fun _ _ h => ⟨h.1, h.2.symm⟩)))
  go_wp2
  go_ret
  exact ⟨ret_bool (by first | rfl | trace_state), below_drewN (Below.refl _ _) _⟩

set_option maxHeartbeats 1000000 in
theorem isT_any {w : World} {p : Bl} {al : Nat → Value} {N : Nat} {vs : Int → Value} {s : U.St} (h : Mem w p al N vs s) (x : Int) (hx : x.natAbs ≤ p.n) :
    Calls Tryd.prog 69 #[.pointer (some ⟨p.pb, 0, none⟩), .int .i64 x] w fun e w' => e = .returned (.bool (decide (s.kn x.natAbs = x))) ∧ Below w.heap.size w w' := by
  have hn := h.lim.1
  obtain ⟨c0, _⟩ := h.c
  have k0 := (h.k hx).1
  have hb : x.natAbs ≤ 1048576 := by omega
  have hpv := fun W => pvar_any x hb W
  generalize s.kn x.natAbs = y at *
  generalize hv : x.natAbs = v at *
  have h1 : (v : Int) < (p.n : Int) + 1 := by omega
  clear h hv hb
  go_enter Tryd.func69, Tryd.ntmps69
  go_wp2
  go_quiet ((go_at_call 70; exact Calls.quiet_of_same ((hpv _).mono fun _ _ h => ⟨h.1, h.2.symm⟩)))
  go_wp2
  go_ret
  exact ⟨ret_bool (by first | rfl | trace_state), below_drewN (Below.refl _ _) _⟩
end L
end Go.Proofs.YtfhodbnhaaiceaaDoor
end

/- A send into a channel with room, and a receive from one that holds something, inside the walk of code: own laws (one goroutine). -/
section
namespace Go.Proofs.YtfhodbnhaaiceaaDoor
open Go.RowKit Go.Conc
namespace K

/-- Code at which the walk stops. -/
@[irreducible] def Vc (c : Code) : Code := c
theorem Vc_eq (c : Code) : Vc c = c := by unfold Vc; rfl
theorem Vc_wp {P : Program} {c : Code} {Q : Exit → Act → World → Prop} {a : Act} {w : World} (h : c.wp P Q a w) : (Vc c).wp P Q a w := by rw [Vc_eq]; exact h

/-- From here on in a region. -/
def OpsWp (P : Program) (ops : Array Oper) (Q : Exit → Act → World → Prop) (l : List Nat) (a : Act) (w : World) : Prop :=
  ∀ (b : Frame) (k : List Item) (cs : List Frame), ∃ e a' w', Q e a' w' ∧ Arrives P (lone (b.at a (.inRegion ops l :: k)) cs w) b k cs e a' w'

section
variable {P : Program} {ops : Array Oper} {Q : Exit → Act → World → Prop} {a : Act} {w w' : World} {i : Nat} {rest : List Nat} {o : Oper}
theorem region_of_ops {id : Nat} (h : OpsWp P ops Q (List.range ops.size) a w) : (Code.region id ops false).wp P Q a w :=
  fun b k cs => let ⟨e, a', w', q, r⟩ := h b k cs; ⟨e, a', w', q, .of_steps (.one step_region) r⟩
theorem ops_nil (h : Q .normal a w) : OpsWp P ops Q [] a w := fun _ _ _ => ⟨.normal, a, w, h, .one step_region_end⟩
theorem wanted_of (hg : o.guard = none) : Region.wanted o (yielded ops a.tmps) = true := by simp [Region.wanted, hg]
theorem ops_value (ho : ops[i]? = some o) (hg : o.guard = none) (v : Value) (hr : (execOp a.eval o).run P w = .ok (.value v) w') (h : OpsWp P ops Q rest (a.put o.dst v) w') : OpsWp P ops Q (i :: rest) a w := by
  intro b k cs
  have hfin : (b.at a (.inRegion ops (i :: rest) :: k)).finish v = b.at (a.put o.dst v) (.inRegion ops rest :: k) := by rw [Frame.finish_at, ho]; rfl
  have hgo := stepG_op (P := P) (a := a) (b := b) (k := k) (cs := cs) (w := w) (rest := rest) ho (wanted_of hg)
  obtain ⟨e, a', w'', hq, harr⟩ := h b k cs
  refine ⟨e, a', w'', hq, .of_steps (.one (step_lone_go ?_)) harr⟩
  rw [hgo, ← hfin]; simp [stepG.apply, hr]
theorem ops_skip (ho : ops[i]? = some o) (hg : o.guard = none) (hr : (execOp a.eval o).run P w = .ok .skip w') (h : OpsWp P ops Q rest (a.put o.dst undef) w') : OpsWp P ops Q (i :: rest) a w := by
  intro b k cs
  have hfin : (b.at a (.inRegion ops (i :: rest) :: k)).finish undef = b.at (a.put o.dst undef) (.inRegion ops rest :: k) := by rw [Frame.finish_at, ho]; rfl
  have hgo := stepG_op (P := P) (a := a) (b := b) (k := k) (cs := cs) (w := w) (rest := rest) ho (wanted_of hg)
  obtain ⟨e, a', w'', hq, harr⟩ := h b k cs
  refine ⟨e, a', w'', hq, .of_steps (.one (step_lone_go ?_)) harr⟩
  rw [hgo, ← hfin]; simp [stepG.apply, hr]
theorem stepG_comm' {b : Frame} {k : List Item} {cs : List Frame} {cases : Array CommCase} {blocking : Bool} {shape : CommShape} (ho : ops[i]? = some o) (hg : o.guard = none) (hr : (execOp a.eval o).run P w = .ok (.comm cases blocking shape) w') :
    ∃ es, stepG P true (G (b.at a (.inRegion ops (i :: rest) :: k)) cs) w = .comm (G (b.at a (.inRegion ops (i :: rest) :: k)) cs) cases blocking shape w' es := by
  rw [stepG_oper ho (wanted_of hg)]
  simp [stepG.apply, hr, G, Frame.at, GStep.after]
theorem ops_send {c cap s r : Nat} {buf : Array Value} {tm : Bool} {v z : Value} (ho : ops[i]? = some o) (hg : o.guard = none) (hr : (execOp a.eval o).run P w = .ok (.comm #[scase c v z] true .send) w') (hc : w'.heap[c]? = some (.chan cap buf false s r tm)) (hroom : buf.size < cap)
    (h : OpsWp P ops Q rest (a.put o.dst undef) (w'.setChan c cap (buf.push v) false (s + 1) r tm)) : OpsWp P ops Q (i :: rest) a w := by
  intro b k cs
  obtain ⟨es, hs⟩ := stepG_comm' (P := P) (a := a) (b := b) (k := k) (cs := cs) (rest := rest) ho hg hr
  have hst := step_lone_send_room hs hc hroom
  have hfin : (b.at a (.inRegion ops (i :: rest) :: k)).finish undef = b.at (a.put o.dst undef) (.inRegion ops rest :: k) := by rw [Frame.finish_at, ho]; rfl
  rw [hfin] at hst
  obtain ⟨e, a', w'', hq, harr⟩ := h b k cs
  exact ⟨e, a', w'', hq, .of_steps (.one hst) harr⟩
theorem ops_recv {c cap s r : Nat} {buf : Array Value} {tm closed : Bool} {z : Value} (ho : ops[i]? = some o) (hg : o.guard = none) (hr : (execOp a.eval o).run P w = .ok (.comm #[rcase c z] true (.recv false)) w') (hc : w'.heap[c]? = some (.chan cap buf closed s r tm)) (hsome : 0 < buf.size)
    (h : OpsWp P ops Q rest (a.put o.dst (buf.getD 0 undef)) (w'.setChan c cap (buf.extract 1 buf.size) closed s (r + 1) tm)) : OpsWp P ops Q (i :: rest) a w := by
  intro b k cs
  obtain ⟨es, hs⟩ := stepG_comm' (P := P) (a := a) (b := b) (k := k) (cs := cs) (rest := rest) ho hg hr
  have hst := step_lone_recv_buf false hs hc hsome
  have hfin : (b.at a (.inRegion ops (i :: rest) :: k)).finish (got false (buf.getD 0 undef) true) = b.at (a.put o.dst (buf.getD 0 undef)) (.inRegion ops rest :: k) := by rw [Frame.finish_at, ho]; rfl
  rw [hfin] at hst
  obtain ⟨e, a', w'', hq, harr⟩ := h b k cs
  exact ⟨e, a', w'', hq, .of_steps (.one hst) harr⟩
end
end K
end Go.Proofs.YtfhodbnhaaiceaaDoor
end
