/- Several texts, joined. -/
import Derived.Test.YtlkhabdpancjjaaDoorQ08
import Derived.IntWalk

/- Contract of the reader's read. -/
section
namespace Go.Proofs.YtlkhabdpancjjaaDoor
open Go.RowKit PA RA
namespace L
open K
attribute [local go_sem] Oper.semAt_some

theorem carg_keep {cl : List (Int × List (List UInt8))} {H k : Nat} {A B : World} {args : Array Value} {p : Nat → Prop} (h : CArg cl H k A args) (hk : Keep p A B) (hp : ∀ i, H ≤ i → p i) : CArg cl H k B args := by
  obtain ⟨v, ws, bw, h1, h2, h3, h4, h5, h6, h7⟩ := h
  exact ⟨v, ws, bw, h1, h2, h3, owns_keep h4 hk fun k hv => hp k (Nat.le_trans h3 (h4.lt k hv).1), h5, h6, Nat.le_trans h7 hk.size⟩

/-- The reader in memory, where it may have no rows yet. -/
def RdJ (w W : World) (R B : Nat) (r : RS) : Prop :=
  Keep (fun k => k ≠ R) w W ∧ Wf r ∧ ∃ C vc vk us, B ≤ C ∧ (C ≤ W.heap.size ∨ C = B) ∧ RdV W R B C r vc vk us
theorem RdJ.rd {w W : World} {R B : Nat} {r : RS} (h : RdJ w W R B r) (hR : R < B) (hB : B ≤ W.heap.size) : ∃ C, Rd W R B C r := by
  obtain ⟨_, _, C, vc, vk, us, h1, h2, h3⟩ := h
  exact ⟨C, hR, h1, by omega, vc, vk, us, h3⟩
theorem RdJ.keep {w W W' : World} {R B : Nat} {r : RS} {p : Nat → Prop} (h : RdJ w W R B r) (hk : Keep p W W') (hR : p R) (hB : ∀ k, B ≤ k → p k) (hw : ∀ k, k < w.heap.size → p k) : RdJ w W' R B r := by
  obtain ⟨h0, h5, C, vc, vk, us, h1, h2, h3⟩ := h
  refine ⟨?_, h5, C, vc, vk, us, h1, ?_, h3.keep h1 hk hR hB⟩
  · exact ⟨hk.os.trans h0.os, hk.tape.trans h0.tape, hk.output.trans h0.output, Nat.le_trans h0.size hk.size, fun k hk1 hk2 => (hk.block k (Nat.lt_of_lt_of_le hk1 h0.size) (hw k hk1)).trans (h0.block k hk1 hk2)⟩
  · have := hk.size; omega

theorem Rd.heap {W W' : World} {R B C : Nat} {r : RS} (h : Rd W R B C r) (hh : W'.heap = W.heap) : Rd W' R B C r := by
  obtain ⟨h1, h2, h3, vc, vk, us, h4, h5, h6, h7, h8⟩ := h
  exact ⟨h1, h2, by rw [hh]; exact h3, vc, vk, us, h4.heap hh, h5, owns_heap h6 hh, fun j hj => ⟨owns_heap (h7 j hj).1 hh, (h7 j hj).2⟩, owns_heap h8 hh⟩
theorem rdv_set {W : World} {R B C : Nat} {r : RS} {vc vk : Value} {us : List Value} (h : RdV W R B C r vc vk us) (hR : R < B) (hBC : B ≤ C) (j : Nat) (u : Value) (r' : RS) (hc : (rcells r vc vk).setIfInBounds j u = rcells r' vc vk) (h1 : r'.cls = r.cls) (h2 : r'.cur = r.cur) :
    RdV (W.setCell ⟨R, j, none⟩ u) R B C r' vc vk us := by
  obtain ⟨hb, hus, hoc, hin, hok⟩ := h
  have hset : ∀ {base n : Nat} {e : TypeId} {v : Value} {xs : List Value}, R < base → W.ownsRow base e 1 v n xs → (W.setCell ⟨R, j, none⟩ u).ownsRow base e 1 v n xs := fun hlt hx => ownsRow_setCell_below hx (a := ⟨R, j, none⟩) hlt _
  refine ⟨by rw [← hc]; exact hb.set j u, by rw [h1]; exact hus, by rw [h1]; exact hset hR hoc, fun i hi => ?_, ?_⟩
  · rw [h1] at hi ⊢
    exact ⟨hset hR (hin i hi).1, (hin i hi).2⟩
  · have : OwnI (W.setCell ⟨R, j, none⟩ u) C vk r.cur := hset (by omega) hok
    rw [h2]; exact this
theorem rd_line {W : World} {R B C : Nat} {r : RS} (h : Rd W R B C r) (n : Int) : Rd (W.setCell ⟨R, 0, none⟩ (.int .i64 n)) R B C { r with line := n } := by
  obtain ⟨h1, h2, h3, vc, vk, us, h4⟩ := h
  exact ⟨h1, h2, by simpa [World.setCell] using h3, vc, vk, us, rdv_set h4 h1 h2 0 _ _ rfl rfl rfl⟩
theorem rd_first {W : World} {R B C : Nat} {r : RS} (h : Rd W R B C r) (n : Int) : Rd (W.setCell ⟨R, 6, none⟩ (.int .i64 n)) R B C { r with first := n } := by
  obtain ⟨h1, h2, h3, vc, vk, us, h4⟩ := h
  exact ⟨h1, h2, by simpa [World.setCell] using h3, vc, vk, us, rdv_set h4 h1 h2 6 _ _ rfl rfl rfl⟩
theorem Rd.box {W : World} {R B C : Nat} {r : RS} (h : Rd W R B C r) : ∃ vc vk, Box W R 52 (rcells r vc vk) := by
  obtain ⟨_, _, _, vc, vk, us, hb, _⟩ := h
  exact ⟨vc, vk, hb⟩
theorem Rd.cells {W : World} {R B C : Nat} {r : RS} (h : Rd W R B C r) :
    W.cell? ⟨R, 0, none⟩ = some (.int .i64 r.line) ∧ W.cell? ⟨R, 1, none⟩ = some (.bool r.header) ∧ W.cell? ⟨R, 4, none⟩ = some (.int .i64 r.left) ∧ W.cell? ⟨R, 6, none⟩ = some (.int .i64 r.first) ∧ ∀ j, W.frozen? ⟨R, j, none⟩ = false := by
  obtain ⟨vc, vk, hb⟩ := h.box
  exact ⟨hb.cell 0, hb.cell 1, hb.cell 4, hb.cell 6, hb.frozen⟩

/-- Between two rounds of read. -/
def RInv (w : World) (R b2 B : Nat) (cl : List (Int × List (List UInt8))) (k : Nat) (W : World) : Prop :=
  Box W b2 64 #[.pointer (some ⟨R, 0, none⟩)] ∧ ∃ rk, rk.first = 0 ∧ readS PA.start cl = readS rk (cl.drop k) ∧ RdJ w W R B rk
def RInvX (w : World) (R _b2 B : Nat) (cl : List (Int × List (List UInt8))) (c : Code) (_ : Nat) (W : World) : Prop :=
  c = .ret ∧ B ≤ W.heap.size ∧ ∃ rk, rk.first ≠ 0 ∧ readS PA.start cl = rk ∧ RdJ w W R B rk

theorem two_of {α : Type} {a : Array α} (h : a.size = 2) : ∃ x y, a = #[x, y] := by
  obtain ⟨l⟩ := a
  match l, h with
  | [x, y], _ => exact ⟨x, y, rfl⟩
theorem read_step {w W W2 W3 : World} {R C2 : Nat} {n e : Int} {q : RS} (_hRlt : R < w.heap.size) (hkw : Keep (fun k => k ≠ R) w W) (hk2 : Keep (Chg R (w.heap.size + 9)) (W.setCell ⟨R, 0, none⟩ (.int .i64 n)).drew W2)
    (hr2 : Rd W2 R (w.heap.size + 9) C2 q) (hwf : Wf q) (hW3 : W3.heap = (W2.setCell ⟨R, 6, none⟩ (.int .i64 e)).heap) (h1 : W3.os = W2.os) (h2 : W3.tape = W2.tape) (h3 : W3.output = W2.output) :
    Keep (Chg R (w.heap.size + 9)) W W3 ∧ RdJ w W3 R (w.heap.size + 9) { q with first := e } ∧ w.heap.size + 9 ≤ W3.heap.size := by
  have k1 : Keep (Chg R (w.heap.size + 9)) W (W.setCell ⟨R, 0, none⟩ (.int .i64 n)).drew := ((Keep.refl _ _).setCell (fun h => h.2 rfl) _).drew
  have k3 : Keep (Chg R (w.heap.size + 9)) W W3 := keep_heap ((k1.trans hk2).setCell (x := ⟨R, 6, none⟩) (fun h => h.2 rfl) (.int .i64 e)) hW3 h1 h2 h3
  have hr3 := (rd_first hr2 e).heap (W' := W3) hW3
  obtain ⟨g1, g2, g3, vc, vk, us, g4⟩ := hr3
  refine ⟨k3, ⟨?_, ⟨hwf.v0, hwf.v1, hwf.l0, hwf.l1, hwf.c1, hwf.h0⟩, C2, vc, vk, us, g2, .inl g3, g4⟩, Nat.le_trans g2 g3⟩
  exact ⟨k3.os.trans hkw.os, k3.tape.trans hkw.tape, k3.output.trans hkw.output, Nat.le_trans hkw.size k3.size, fun i hi hR => (k3.block i (Nat.lt_of_lt_of_le hi hkw.size) ⟨by omega, hR⟩).trans (hkw.block i hi hR)⟩
theorem owns_far {W : World} {base base' : Nat} {e : TypeId} {size n : Nat} {v : Value} {xs : List Value} (h : W.ownsRow base e size v n xs) (hb : W.heap.size ≤ base) : W.ownsRow base' e size v n xs := by
  rcases h with ⟨h0, h1 | ⟨g, cap, cur, rfl, h1, hg, h2⟩⟩
  · exact ⟨h0, .inl h1⟩
  · have := (Array.getElem?_eq_some_iff.1 hg).1
    omega
theorem RdJ.any {w W : World} {R B : Nat} {r : RS} (h : RdJ w W R B r) (hR : R < w.heap.size) (hB : w.heap.size ≤ B) : ∃ B C, w.heap.size ≤ B ∧ Rd W R B C r := by
  by_cases hz : B ≤ W.heap.size
  · obtain ⟨C, hC⟩ := h.rd (by omega) hz
    exact ⟨B, C, hB, hC⟩
  · obtain ⟨h0, h5, C, vc, vk, us, h1, h2, hb, hus, hoc, hin, hok⟩ := h
    refine ⟨w.heap.size, W.heap.size, Nat.le_refl _, hR, h0.size, Nat.le_refl _, vc, vk, us, hb, hus, owns_far hoc (by omega), fun j hj => ⟨owns_far (hin j hj).1 (by omega), fun k hk => ((hin j hj).1.lt k hk).2⟩, owns_far hok (by omega)⟩
theorem rdj_any {w W W' : World} {R B : Nat} {r : RS} (h : RdJ w W R B r) (hR : R < w.heap.size) (hB : w.heap.size ≤ B) {p : Nat → Prop} (hk : Keep p W W') (hpR : p R) (hpB : ∀ k, B ≤ k → p k) (hpw : ∀ k, k < w.heap.size → p k) :
    Keep (fun k => k ≠ R) w W' ∧ Wf r ∧ ∃ B C, w.heap.size ≤ B ∧ Rd W' R B C r := by
  have h2 := h.keep hk hpR hpB hpw
  exact ⟨h2.1, h2.2.1, h2.any hR hB⟩
theorem rdj_set {w W : World} {R B : Nat} {r r' : RS} (h : RdJ w W R B r) (hR : R < B) (j : Nat) (u : Value) (hc : ∀ vc vk, (rcells r vc vk).setIfInBounds j u = rcells r' vc vk) (h1 : r'.cls = r.cls) (h2 : r'.cur = r.cur) (hwf : Wf r') : RdJ w (W.setCell ⟨R, j, none⟩ u) R B r' := by
  obtain ⟨h0, _, C, vc, vk, us, h3, h4, h5⟩ := h
  exact ⟨h0.setCell (fun h => h rfl) _, hwf, C, vc, vk, us, h3, by simpa [World.setCell] using h4, rdv_set h5 hR h3 j u r' (hc vc vk) h1 h2⟩
theorem RdJ.heap {w W W' : World} {R B : Nat} {r : RS} (h : RdJ w W R B r) (hh : W'.heap = W.heap) (h1 : W'.os = W.os) (h2 : W'.tape = W.tape) (h3 : W'.output = W.output) : RdJ w W' R B r := by
  obtain ⟨h0, h5, C, vc, vk, us, h6, h7, hb, hus, hoc, hin, hok⟩ := h
  exact ⟨keep_heap h0 hh h1 h2 h3, h5, C, vc, vk, us, h6, by rw [hh]; exact h7, hb.heap hh, hus, owns_heap hoc hh, fun j hj => ⟨owns_heap (hin j hj).1 hh, (hin j hj).2⟩, owns_heap hok hh⟩
theorem RdJ.cells {w W : World} {R B : Nat} {r : RS} (h : RdJ w W R B r) :
    W.cell? ⟨R, 0, none⟩ = some (.int .i64 r.line) ∧ W.cell? ⟨R, 1, none⟩ = some (.bool r.header) ∧ W.cell? ⟨R, 4, none⟩ = some (.int .i64 r.left) ∧ W.cell? ⟨R, 6, none⟩ = some (.int .i64 r.first) ∧ ∀ j, W.frozen? ⟨R, j, none⟩ = false := by
  obtain ⟨_, _, C, vc, vk, us, _, _, hb, _⟩ := h
  exact ⟨hb.cell 0, hb.cell 1, hb.cell 4, hb.cell 6, hb.frozen⟩
theorem rdj_end {w W : World} {R : Nat} {r : RS} (h : RdJ w W R (w.heap.size + 9) r) (hR : R < w.heap.size) {W' : World} (hk : Keep (fun i => i ≠ w.heap.size + 2) W W') (hz : w.heap.size + 9 ≤ W'.heap.size) :
    Keep (fun k => k ≠ R) w W' ∧ Wf r ∧ ∃ B C, w.heap.size ≤ B ∧ Rd W' R B C r := by
  have h2 := h.keep hk (by omega) (fun k hk => by omega) (fun k hk => by omega)
  obtain ⟨C, hC⟩ := h2.rd (by omega) hz
  exact ⟨h2.1, h2.2.1, _, C, by omega, hC⟩

/-- How read ends. -/
def ReadEnd (w : World) (R : Nat) (r : RS) (e : Ending) (W : World) : Prop :=
  (∃ v, e = .returned v) ∧ Keep (fun k => k ≠ R) w W ∧ Wf r ∧ ∃ B C, w.heap.size ≤ B ∧ Rd W R B C r

set_option maxRecDepth 100000 in
set_option maxHeartbeats 4000000 in
theorem read_any (R : Nat) (s : ByteArray) (w : World) (hs : s.size ≤ 9223372036854775807) (hbox : Box w R 52 (rcells PA.start (.slice none 0 0) (.slice none 0 0))) :
    CallsIn Fence.wide 0 Tryd.prog 26 #[.pointer (some ⟨R, 0, none⟩), .string s] w (ReadEnd w R (runS s.data.toList)) := by
  have hRlt := hbox.lt
  refine callsIn_of_wp_marks Tryd.func26 rfl trivial ?_ rfl
  simp only [Tryd.ntmps26, List.size_toArray, List.length_cons, List.length_nil, Nat.reduceAdd, Nat.reduceSub, Array.replicate_succ, Array.replicate_zero, List.push_toArray, List.append_toArray, List.nil_append, List.cons_append]
  by_cases hlong : 65536 < s.size
  · have c6 := hbox.cell 6
    have f6 := hbox.frozen 6
    unfold rcells PA.start at c6
    simp only [List.getElem?_toArray, List.getElem?_cons_zero, List.getElem?_cons_succ] at c6
    gi_wp2
    have hfin : ReadEnd w R (runS s.data.toList) (.returned (.tuple #[])) ((w.setCell ⟨R, 6, none⟩ (.int .i64 5)).alloc (.cells #[.pointer (some ⟨R, 0, none⟩)] 64)) := by
      have hr : runS s.data.toList = { PA.start with first := 5 } := by unfold runS; rw [if_pos (by rw [← Lib.size_eq]; exact hlong)]
      rw [hr]
      have hz : w.heap.size < ((w.setCell ⟨R, 6, none⟩ (.int .i64 5)).alloc (.cells #[.pointer (some ⟨R, 0, none⟩)] 64)).heap.size := by simp [World.setCell]
      refine ⟨⟨_, rfl⟩, ((Keep.refl _ _).setCell (fun h => h rfl) _).alloc _, ⟨by decide, by decide, by decide, by decide, by decide, fun _ => rfl⟩, w.heap.size, w.heap.size, Nat.le_refl _, hRlt, Nat.le_refl _, by omega, .slice none 0 0, .slice none 0 0, [], (hbox.set 6 (.int .i64 5)).alloc _, rfl, World.ownsRow_nil _ _ _ _, fun j hj => by simp [PA.start] at hj, OwnI.nil _ _⟩
    refine ⟨_, results_none rfl _ _ _, ?_⟩
    exact hfin
  · have hle : s.size ≤ 65536 := by omega
    have hdc : decide ((65536 : Int) < s.size) = false := by rw [decide_eq_false_iff_not]; omega
    obtain ⟨cl, hcl⟩ : ∃ cl, contentS 0 (lns s.data.toList) = cl := ⟨_, rfl⟩
    have hrun : runS s.data.toList = endS (readS PA.start cl) (lns s.data.toList).length := by
      unfold runS; rw [hcl, if_neg (by rw [← Lib.size_eq]; omega)]
    rw [hrun]
    clear hrun
    gi_wp2
    refine ⟨trivial, rfl, (callsIn_wide.2 (content_any _ _)).mono ?_⟩
    rintro e w' ⟨rfl, rfl⟩
    gi_wp2
    have hb0 : Box ((w.alloc (.cells #[.pointer (some ⟨R, 0, none⟩)] 64)).alloc (.cells #[.string s] 9)) w.heap.size 64 #[.pointer (some ⟨R, 0, none⟩)] := (Box.new _ _ _).alloc _
    have hb1 : Box ((w.alloc (.cells #[.pointer (some ⟨R, 0, none⟩)] 64)).alloc (.cells #[.string s] 9)) (w.heap.size + 1) 9 #[.string s] := Box.at _ _ _ (by simp)
    have hbR := (hbox.alloc (.cells #[.pointer (some ⟨R, 0, none⟩)] 64)).alloc (.cells #[.string s] 9)
    have hk0 : Keep (fun k => k ≠ R) w ((w.alloc (.cells #[.pointer (some ⟨R, 0, none⟩)] 64)).alloc (.cells #[.string s] 9)) := ((Keep.refl _ _).alloc _).alloc _
    have hsz : ((w.alloc (.cells #[.pointer (some ⟨R, 0, none⟩)] 64)).alloc (.cells #[.string s] 9)).heap.size = w.heap.size + 2 := by simp
    generalize ((w.alloc (.cells #[.pointer (some ⟨R, 0, none⟩)] 64)).alloc (.cells #[.string s] 9)) = w0 at *
    refine wpIn_range (gf := 43) (lb := #[.pointer (some ⟨w.heap.size + 1, 0, none⟩)]) rfl (enters_of Tryd.func43 (by kernel_rfl) rfl) (N := cl.length) (Arg := CArg cl (w.heap.size + 4)) (Z := fun i => w.heap.size + 4 ≤ i ∧ i < w.heap.size + 4 + 5)
      (fun W hk hW => by rw [← hcl]; exact content_iter s (w.heap.size + 1) (w.heap.size + 4) W hle (box_keep hb1 hk trivial) (by omega)) (by omega) (by omega)
      (fun k A args h => by obtain ⟨v, ws, bw, rfl, _⟩ := h; rfl) (fun k A B args h hk => carg_keep h hk fun i hi => by omega)
      (RInv w R w.heap.size (w.heap.size + 9) cl) (RInvX w R w.heap.size (w.heap.size + 9) cl) ?hI ?hIx ?h0
      (fun args => { tmps := #[.pointer (some ⟨R, 0, none⟩), .string s, .pointer (some ⟨w.heap.size, 0, none⟩), undef, args.getD 0 undef, args.getD 1 undef, .string s, .int .i64 s.size, .bool false, undef, undef, undef, .string s, .func (.func 43) #[] #[.pointer (some ⟨w.heap.size + 1, 0, none⟩)], args.getD 0 undef, args.getD 1 undef, undef, undef, undef, undef, undef, undef, undef, undef, undef, undef, undef, undef, undef, undef, undef, undef, undef, undef, undef, undef, undef, undef, undef, undef, undef, undef, undef, undef, undef, undef, undef, undef, undef, undef, undef, undef], defers := [] }) ?assign ?body ?done ?stop
    case hI =>
      rintro k A B ⟨h1, rk, h2, h3, h4⟩ hkp
      exact ⟨box_keep h1 hkp (by omega), rk, h2, h3, h4.keep hkp (by omega) (fun i hi => by omega) (fun i hi => by omega)⟩
    case hIx =>
      rintro c k A B ⟨rfl, hz, rk, h2, h3, h4⟩ hkp
      exact ⟨rfl, Nat.le_trans hz hkp.size, rk, h2, h3, h4.keep hkp (by omega) (fun i hi => by omega) (fun i hi => by omega)⟩
    case h0 => exact ⟨hb0, PA.start, rfl, by simp, hk0, start_wf, w.heap.size + 9, .slice none 0 0, .slice none 0 0, [], Nat.le_refl _, .inr rfl, hbR, rfl, World.ownsRow_nil _ _ _ _, fun j hj => by simp [PA.start] at hj, OwnI.nil _ _⟩
    case assign =>
      intro l' args W K hsz1 hK
      obtain ⟨x, y, rfl⟩ := two_of hsz1
      gi_wp2
      exact hK
    case body =>
      rintro k W args hk ⟨v, ws, bw, rfl, hlw, hbw, hown, hwz, hwl, hsz9⟩ ⟨hbx, rk, hf0, hread, hrd⟩ hlt
      simp only [show (#[Value.int .i64 (cl.getD k (0, [])).1, v] : Array Value).getD 0 undef = .int .i64 (cl.getD k (0, [])).1 from rfl, show (#[Value.int .i64 (cl.getD k (0, [])).1, v] : Array Value).getD 1 undef = v from rfl]
      obtain ⟨C, hR⟩ := hrd.rd (by omega) (by omega)
      obtain ⟨hkw, hwf, _⟩ := hrd
      obtain ⟨n, W0', hx⟩ : ∃ n L, cl.getD k (0, []) = (n, L) := ⟨_, _, rfl⟩
      have hd := dropG ((0 : Int), ([] : List (List UInt8))) hk
      rw [hx] at hd hlw ⊢
      simp only at hlw ⊢
      have c0 := hR.cells.1
      have f0 := hR.cells.2.2.2.2 0
      have cb := hbx.cell 0
      simp only [List.getElem?_toArray, List.getElem?_cons_zero] at cb
      have hR1 := rd_line hR n
      have hown1 := ownsRow_setCell_below hown (a := ⟨R, 0, none⟩) (by show R < bw; omega) (.int .i64 n)
      have hbx1 := hbx.setOther ⟨R, 0, none⟩ (by show w.heap.size ≠ R; omega) (.int .i64 n)
      have cb1 := hbx1.cell 0
      simp only [List.getElem?_toArray, List.getElem?_cons_zero] at cb1
      have hkW1 : Keep (fun i => i ≠ R) W (W.setCell ⟨R, 0, none⟩ (.int .i64 n)) := (Keep.refl _ _).setCell (fun h => h rfl) _
      have hwf1 : Wf { rk with line := n } := ⟨hwf.v0, hwf.v1, hwf.l0, hwf.l1, hwf.c1, hwf.h0⟩
      have htk := take_any R (w.heap.size + 9) C bw { rk with line := n } v ws (W.setCell ⟨R, 0, none⟩ (.int .i64 n)).drew hwz hwf1 (hR1.heap rfl) (owns_heap hown1 rfl) hwl
      have hwf2 := hwf1.take (lst ws)
      rw [hlw] at htk hwf2
      have hls : Hid (lineS rk (n, W0') = { (takeS { rk with line := n } W0').1 with first := (takeS { rk with line := n } W0').2 }) := rfl
      have HREAD : Hid (readS PA.start cl = if (lineS rk (n, W0')).first = 0 then readS (lineS rk (n, W0')) (cl.drop (k + 1)) else lineS rk (n, W0')) := by
        show _ = _
        rw [hread, hd]; rfl
      generalize takeS { rk with line := n } W0' = q at *
      have HKW := Lib.hid hkw
      have HKW1 := Lib.hid hkW1
      have HD := Lib.hid hd
      have HX := Lib.hid hx
      have HBX1 := Lib.hid hbx1
      have HWF2 := Lib.hid hwf2
      have HK := Lib.hid hk
      clear hread hd hx hkw hkW1 hwf hwf1 hwf2 hR hR1 hown hown1 hbx hbx1 hlw hwz hb0 hb1 hbR hk0 hbox hcl hk
      gi_wp2
      have hmx : Tryd.prog.follows .mixedOrders = true := by kernel_rfl
      gi_region_with_o ((refine ⟨trivial, rfl, (CallsIn.inRound _ (callsIn_wide.2 htk)).mono ?_⟩; rintro e W2 ⟨rfl, ⟨C2, hr2⟩, hk2, hs2⟩; have cb2 := hk2.cell (x := ⟨w.heap.size, 0, none⟩) (a := (W.setCell ⟨R, 0, none⟩ (.int .i64 n)).drew) cb1 ⟨by show w.heap.size < w.heap.size + 9; omega, by show w.heap.size ≠ R; omega⟩; have c6 := hr2.cells.2.2.2.1; have f6 := hr2.cells.2.2.2.2 6; have HR2 := Lib.hid hr2; have HK2 := Lib.hid hk2; clear hr2 hk2))
      all_goals
        obtain ⟨s1, s2, s3⟩ := read_step (e := q.2) (W3 := (W2.setCell ⟨R, 6, none⟩ (.int .i64 q.2))) hRlt HKW.out HK2.out HR2.out HWF2.out rfl rfl rfl rfl
        have hstay : Keep (fun i => (w.heap.size + 4 ≤ i ∧ i < w.heap.size + 4 + 5) ∨ i = w0.heap.size ∨ i = w0.heap.size + 1) W (W2.setCell ⟨R, 6, none⟩ (.int .i64 q.2)) := s1.mono fun i _ h => ⟨by omega, by omega⟩
        have hbx3 : Box (W2.setCell ⟨R, 6, none⟩ (.int .i64 q.2)) w.heap.size 64 #[.pointer (some ⟨R, 0, none⟩)] := (box_keep (Box.heap (w' := (W.setCell ⟨R, 0, none⟩ (.int .i64 n)).drew) HBX1.out rfl) HK2.out ⟨by omega, by omega⟩).setOther ⟨R, 6, none⟩ (by show w.heap.size ≠ R; omega) _
        have hls' : { q.1 with first := q.2 } = lineS rk (n, W0') := hls.out.symm
        rw [hls'] at s2
        have hfe : (lineS rk (n, W0')).first = q.2 := by rw [hls.out]
        have HS2 := Lib.hid s2
        have HS3 := Lib.hid s3
        have HSTAY := Lib.hid hstay
        have HBX3 := Lib.hid hbx3
        have HFE := Lib.hid hfe
        clear s1 s2 s3 hstay hbx3 hls' hfe
        by_cases he : q.2 = 0
        · have he' : (q.2 != 0) = false := by simpa using he
          have HE := Lib.hid he
          clear he
          gi_wp2
          refine ⟨HSTAY.out, HBX3.out, lineS rk (n, W0'), by rw [HFE.out]; exact HE.out, ?_, HS2.out⟩
          have h := HREAD.out
          rw [if_pos (by rw [HFE.out]; exact HE.out)] at h
          exact h
        · have he' : (q.2 != 0) = true := by simpa using he
          have HE := Lib.hid he
          clear he
          gi_wp2
          refine ⟨HSTAY.out, rfl, HS3.out, lineS rk (n, W0'), by rw [HFE.out]; exact HE.out, ?_, HS2.out⟩
          have h := HREAD.out
          rw [if_neg (by rw [HFE.out]; exact HE.out)] at h
          exact h
    case done =>
      rintro W ⟨hbx, rk, hf0, hread, hrd⟩ hD
      rw [List.drop_length] at hread
      rw [hsz] at hD ⊢
      have hcell := hbx.cell 0
      simp only [List.getElem?_toArray, List.getElem?_cons_zero] at hcell
      have hrn : readS rk ([] : List (Int × List (List UInt8))) = rk := rfl
      rw [hrn] at hread
      obtain ⟨c0, c1, c4, c6, cf⟩ := hrd.cells
      have f0 := cf 0
      have f6 := cf 6
      clear cf
      have HRD := Lib.hid hrd
      by_cases hbad : rk.header = false ∨ 0 < rk.left
      · have hes : endS (readS PA.start cl) (lns s.data.toList).length = { rk with line := (linesN s.data.toList : Int) + 1, first := 4 } := by rw [hread, linesN_eq]; unfold endS; rw [if_pos ⟨hf0, hbad⟩]
        have HES := Lib.hid hes
        clear hread
        have hln := lines_any s
        have hwf := hrd.2.1
        have hlns : (lns s.data.toList).length ≤ 65537 := by have := lns_le s.data.toList; rw [← Lib.size_eq] at this; omega
        have HLN := Lib.hid hln
        rw [← linesN_eq] at hlns
        have fin1 : Hid (∀ X : World, X.heap = ((W.setCell ⟨R, 0, none⟩ (.int .i64 ((linesN s.data.toList : Int) + 1))).setCell ⟨R, 6, none⟩ (.int .i64 4)).heap → X.os = W.os → X.tape = W.tape → X.output = W.output →
            X.heap[w.heap.size + 2]? = some (.deferred (some [])) ∧ Keep (fun k => k ≠ R) w (X.putObj (w.heap.size + 2) (.deferred none)) ∧ Wf { rk with line := (linesN s.data.toList : Int) + 1, first := 4 } ∧ ∃ B C, w.heap.size ≤ B ∧ Rd (X.putObj (w.heap.size + 2) (.deferred none)) R B C { rk with line := (linesN s.data.toList : Int) + 1, first := 4 }) := by
          intro X hX o1 o2 o3
          have r1 := rdj_set HRD.out (by omega) 0 (.int .i64 ((linesN s.data.toList : Int) + 1)) (r' := { rk with line := (linesN s.data.toList : Int) + 1 }) (fun _ _ => rfl) rfl rfl ⟨hwf.v0, hwf.v1, hwf.l0, hwf.l1, hwf.c1, hwf.h0⟩
          have r2 := rdj_set r1 (by omega) 6 (.int .i64 4) (r' := { rk with line := (linesN s.data.toList : Int) + 1, first := 4 }) (fun _ _ => rfl) rfl rfl ⟨hwf.v0, hwf.v1, hwf.l0, hwf.l1, hwf.c1, hwf.h0⟩
          have r3 := r2.heap (W' := X) hX o1 o2 o3
          refine ⟨?_, rdj_any r3 hRlt (by omega) ((Keep.refl (fun i => i ≠ w.heap.size + 2) X).putObj (fun h => h rfl) _) (by show R ≠ w.heap.size + 2; omega) (fun k hk => by show k ≠ w.heap.size + 2; omega) (fun k hk => by show k ≠ w.heap.size + 2; omega)⟩
          have kk : Keep (fun i => i ≠ R) W X := keep_heap (((Keep.refl _ _).setCell (x := ⟨R, 0, none⟩) (fun h => h rfl) (.int .i64 ((linesN s.data.toList : Int) + 1))).setCell (x := ⟨R, 6, none⟩) (fun h => h rfl) (.int .i64 4)) hX o1 o2 o3
          exact kk.heap hD (by omega)
        have HCS1 : Hid (∀ u, (W.setCell ⟨R, 0, none⟩ u).cell? ⟨w.heap.size, 0, none⟩ = some (.pointer (some ⟨R, 0, none⟩))) := fun u => (hbx.setOther ⟨R, 0, none⟩ (by show w.heap.size ≠ R; omega) u).cell 0
        have HCS2 : Hid (∀ u v, ((W.setCell ⟨R, 0, none⟩ u).setCell ⟨R, 6, none⟩ v).cell? ⟨w.heap.size, 0, none⟩ = some (.pointer (some ⟨R, 0, none⟩))) := fun u v => ((hbx.setOther ⟨R, 0, none⟩ (by show w.heap.size ≠ R; omega) u).setOther ⟨R, 6, none⟩ (by show w.heap.size ≠ R; omega) v).cell 0
        have HWR : Hid (IntKind.i64.wrap ((linesN s.data.toList : Int) + 1) = (linesN s.data.toList : Int) + 1) := IntWalk.i64_in _ (by omega)
        generalize hN : linesN s.data.toList = N at *
        clear hln hrd hes hf0 hwf hN hbx
        by_cases hh : rk.header = false
        · rw [hh] at c1
          have HH := Lib.hid hh
          clear hh hbad
          gi_wp2
          refine wpIn_wide.2 ?_
          go_region_held3 (fun w' => w'.cell? ⟨w.heap.size, 0, none⟩ = some (.pointer (some ⟨R, 0, none⟩))) (first | (exact HCS1.out _) | (exact HCS2.out _ _) | go_keep) ((go_at_call 37; refine (HLN.out _ (by omega)).mono ?_; rintro e w' ⟨rfl, rfl⟩))
          all_goals
            rw [HWR.out]
            refine ⟨by simp, .inl ⟨_, _, rfl, run_takeDeferred (fin1.out (((W.setCell ⟨R, 0, none⟩ (.int .i64 ((N : Int) + 1))).setCell ⟨R, 6, none⟩ (.int .i64 4)).drew) rfl rfl rfl rfl).1, ?_⟩⟩
            exact ⟨_, results_none rfl _ _ _, ⟨_, rfl⟩, by rw [HES.out]; exact (fin1.out (((W.setCell ⟨R, 0, none⟩ (.int .i64 ((N : Int) + 1))).setCell ⟨R, 6, none⟩ (.int .i64 4)).drew) rfl rfl rfl rfl).2⟩
        · have hh' : rk.header = true := by simpa using hh
          rw [hh'] at c1
          have hl : 0 < rk.left := by rcases hbad with h | h; exact absurd h hh; exact h
          clear hh hbad hh'
          gi_wp2
          refine wpIn_wide.2 ?_
          go_region_held3 (fun w' => w'.cell? ⟨w.heap.size, 0, none⟩ = some (.pointer (some ⟨R, 0, none⟩))) (first | (exact HCS1.out _) | (exact HCS2.out _ _) | go_keep) ((go_at_call 37; refine (HLN.out _ (by omega)).mono ?_; rintro e w' ⟨rfl, rfl⟩))
          all_goals
            rw [HWR.out]
            refine ⟨by simp, .inl ⟨_, _, rfl, run_takeDeferred (fin1.out (((W.setCell ⟨R, 0, none⟩ (.int .i64 ((N : Int) + 1))).setCell ⟨R, 6, none⟩ (.int .i64 4)).drew) rfl rfl rfl rfl).1, ?_⟩⟩
            exact ⟨_, results_none rfl _ _ _, ⟨_, rfl⟩, by rw [HES.out]; exact (fin1.out (((W.setCell ⟨R, 0, none⟩ (.int .i64 ((N : Int) + 1))).setCell ⟨R, 6, none⟩ (.int .i64 4)).drew) rfl rfl rfl rfl).2⟩
      · have hes : endS (readS PA.start cl) (lns s.data.toList).length = rk := by rw [hread]; unfold endS; rw [if_neg (fun h => hbad h.2)]
        have HES := Lib.hid hes
        clear hread
        have hq := rdj_any hrd hRlt (by omega) (W' := W.putObj (w.heap.size + 2) (.deferred none)) ((Keep.refl (fun i => i ≠ w.heap.size + 2) W).putObj (fun h => h rfl) _) (by show R ≠ w.heap.size + 2; omega) (fun k hk => by show k ≠ w.heap.size + 2; omega) (fun k hk => by show k ≠ w.heap.size + 2; omega)
        have hh : rk.header = true := by
          cases h : rk.header with
          | true => rfl
          | false => exact absurd (.inl h) hbad
        have hl : ¬ 0 < rk.left := fun h => hbad (.inr h)
        rw [hh] at c1
        have HQ := Lib.hid hq
        clear hq hbad hes hh hrd hf0
        gi_wp2
        refine ⟨by simp, .inl ⟨_, _, rfl, run_takeDeferred hD, ?_⟩⟩
        exact ⟨_, results_none rfl _ _ _, ⟨_, rfl⟩, by rw [HES.out]; exact HQ.out⟩
    case stop =>
      rintro c k W hk ⟨rfl, hz, rk, hf0, hread, hrd⟩ hD
      rw [hread]
      have hq := rdj_end hrd hRlt (W' := W.putObj w0.heap.size (.deferred none)) ((Keep.refl _ _).putObj (fun h => h (by omega)) _) (by simpa using hz)
      have hes : endS rk (lns s.data.toList).length = rk := by unfold endS; rw [if_neg (fun h => hf0 h.1)]
      rw [hes]
      clear hes hread
      gi_wp2
      refine ⟨by simp, .inl ⟨_, _, rfl, run_takeDeferred hD, ?_⟩⟩
      exact ⟨_, results_none rfl _ _ _, ⟨_, rfl⟩, hq⟩
end L
end Go.Proofs.YtlkhabdpancjjaaDoor
end
