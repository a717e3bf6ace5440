/- Several texts, joined. -/
import Derived.Test.YtfhodbnhaaiceaaDoorQ11
import Derived.Deep.RegionHeld3
import Derived.WalkMore
import Derived.BigRegion

/- Contract of learn: a literal becomes known, and goes into the queue. -/
section
namespace Go.Proofs.YtfhodbnhaaiceaaDoor
open Go.RowKit Go.Conc
namespace L
open K

theorem setCell_frozen {w : World} {a b : Addr} {u : Value} {x : Bool} (h : w.frozen? b = x) : (w.setCell a u).frozen? b = x := (World.frozen?_setCell _ _ _ _).trans h

theorem below_setCell {B : Nat} {w0 w : World} (h : Below B w0 w) {a : Addr} (ha : B ≤ a.block) (u : Value) : Below B w0 (w.setCell a u) := by
  refine ⟨h.os, h.tape, h.output, by simpa using h.size, fun k hk => ?_⟩
  rw [Deep.blk_setCell_other w a u k (by omega)]
  exact h.block k hk

set_option maxHeartbeats 1000000 in
theorem learn_any {w : World} {p : Bl} {al : Nat → Value} {N : Nat} {vs : Int → Value} {s : U.St} (h : Mem w p al N vs s) (x : Int) (hx : x ≠ 0) (hn : x.natAbs ≤ p.n)
    (hd : s.kn x.natAbs = 0 ∨ s.kn x.natAbs = x ∨ s.kn x.natAbs = -x) (hroom : s.kn x.natAbs = 0 → s.q.length < p.n) :
    Calls Tryd.prog 59 #[.pointer (some ⟨p.pb, 0, none⟩), .int .i64 x] w fun e w' => e = .returned (.bool (U.learn s x).1) ∧ Mem w' p al N vs (U.learn s x).2 ∧ Below p.B w w' := by
  have hB : p.B ≤ w.heap.size := by have := h.ord; have := h.siz; omega
  by_cases h1 : s.kn x.natAbs = -x
  · have hc := isF_any h x hn
    rw [U.learn_no h1]
    rw [decide_eq_true h1] at hc
    have hM := Lib.hid h
    clear h h1 hd hroom hx hn
    go_enter Tryd.func59, Tryd.ntmps59
    go_wp2_with fail
    refine hc.mono ?_
    rintro e w1 ⟨rfl, hb⟩
    refine Hid.out ?_
    refine Lib.hid ?_
    go_wp2
    go_ret
    exact ⟨rfl, hM.out.below hb, hb.mono hB⟩
  · have hc := isF_any h x hn
    rw [decide_eq_false h1] at hc
    by_cases h2 : s.kn x.natAbs = x
    · have hc2 := fun W (hb : Below w.heap.size w W) => isT_any (h.below hb) x hn
      rw [decide_eq_true h2] at hc2
      rw [U.learn_yes hx h2]
      have hM := Lib.hid h
      have hC := Lib.hid hc2
      clear h h1 h2 hd hroom hx hn hc2
      go_enter Tryd.func59, Tryd.ntmps59
      go_wp2_with fail
      refine hc.mono ?_
      rintro e w1 ⟨rfl, hb⟩
      refine Hid.out ?_
      refine Lib.hid ?_
      go_wp2_with fail
      refine (hC.out w1 hb).mono ?_
      rintro e w2 ⟨rfl, hb2⟩
      refine Hid.out ?_
      refine Lib.hid ?_
      go_wp2
      go_ret
      have hb3 := hb.trans (hb2.mono hb.size)
      exact ⟨rfl, hM.out.below hb3, hb3.mono hB⟩
    · have h0 : s.kn x.natAbs = 0 := by omega
      have hr := hroom h0
      have hc2 := fun W (hb : Below w.heap.size w W) => isT_any (h.below hb) x hn
      rw [decide_eq_false h2] at hc2
      rw [U.learn_new h1 h2]
      have hM := Lib.hid h
      have hC := Lib.hid hc2
      have hlim := h.lim.1
      clear h h1 h2 hd hroom hx hc2 h0
      go_enter Tryd.func59, Tryd.ntmps59
      rw [← Vc_eq (Code.region 5 _ _)]
      go_wp2_with fail
      refine hc.mono ?_
      rintro e w1 ⟨rfl, hb⟩
      refine Hid.out ?_
      refine Lib.hid ?_
      clear hc
      go_wp2_with fail
      refine (hC.out w1 hb).mono ?_
      rintro e w2 ⟨rfl, hb2⟩
      refine Hid.out ?_
      refine Lib.hid ?_
      have hb3 := hb.trans (hb2.mono hb.size)
      have hm := hM.out.below hb3
      have HM2 := Lib.hid hm
      have HB3 := Lib.hid hb3
      have hc0 := hm.c.1
      have hk0 := (hm.k hn).2
      have hk1 : ∃ u, w2.cell? ⟨p.kb, x.natAbs, none⟩ = some u := ⟨_, (hm.k hn).1⟩
      obtain ⟨u, hk1⟩ := hk1
      have hpv := fun W => pvar_any x (by omega) W
      have HX := Lib.hid hn
      have hpk := hm.dif.1
      have hkp := Ne.symm hpk
      have hv1 : (x.natAbs : Int) < (p.n : Int) + 1 := by omega
      clear hm hb hb2 hb3 hC hM hn
      generalize hv : x.natAbs = v at hpv hk0 hk1 hv1
      have HV := Lib.hid hv
      clear hv
      go_wp2
      go_region_held3 (fun w' => w'.cell? ⟨p.pb, 0, none⟩ = some (.slice (some ⟨p.kb, 0, none⟩) (p.n + 1) (p.n + 1)))
        (go_keep)
        (first
          | (go_at_call 70
             refine (hpv _).mono ?_
             rintro e w3 ⟨rfl, rfl⟩))
      obtain ⟨w3, hw3⟩ : ∃ W, W = (w2.setCell ⟨p.kb, v, none⟩ (.int .i64 x)).drew := ⟨_, rfl⟩
      rw [← hw3]
      have hm3 : Mem w3 p al N vs { s with kn := U.upd s.kn v x } := (HM2.out.setKn v x).heap (by rw [hw3]; rfl)
      have hb3 : Below p.B w w3 := by
        rw [hw3]
        exact (below_setCell (HB3.out.mono hB) (HM2.out.ord.1.2.1) _).drew
      obtain ⟨qa, qb, hq⟩ := hm3.que
      have hc1 := hm3.c.2.1
      have hql : ((s.q.map (Value.int .i64)).toArray).size < p.n := by simpa using hr
      have HM3 := Lib.hid hm3
      have HB4 := Lib.hid hb3
      clear hw3 hm3 hb3 HM2 HB3 hpv hk0 hk1 hc0
      go_wp2
      refine Vc_wp (region_of_ops ?_)
      change OpsWp Tryd.prog _ _ [0, 1, 2, 3, 4, 5] _ _
      refine ops_value (w' := w3) rfl rfl (.pointer (some ⟨p.pb, 0, none⟩)) (by go_simp) ?_
      simp only [Act.put, List.getElem_toArray, List.getElem_cons_zero, List.setIfInBounds_toArray, List.set_cons_zero, List.set_cons_succ]
      refine ops_value (w' := w3) rfl rfl (.pointer (some ⟨p.pb, 0, none⟩)) (by go_simp) ?_
      simp only [Act.put, List.getElem_toArray, List.getElem_cons_succ, List.getElem_cons_zero, List.setIfInBounds_toArray, List.set_cons_zero, List.set_cons_succ]
      refine ops_value (w' := w3) rfl rfl (.pointer (some ⟨p.pb, 1, none⟩)) (by go_simp) ?_
      simp only [Act.put, List.getElem_toArray, List.getElem_cons_succ, List.getElem_cons_zero, List.setIfInBounds_toArray, List.set_cons_zero, List.set_cons_succ]
      refine ops_value (w' := w3) rfl rfl (.chan (some p.qb)) (by go_simp) ?_
      simp only [Act.put, List.getElem_toArray, List.getElem_cons_succ, List.getElem_cons_zero, List.setIfInBounds_toArray, List.set_cons_zero, List.set_cons_succ]
      refine ops_value (w' := w3) rfl rfl (.int .i64 x) (by go_simp) ?_
      simp only [Act.put, List.getElem_toArray, List.getElem_cons_succ, List.getElem_cons_zero, List.setIfInBounds_toArray, List.set_cons_zero, List.set_cons_succ]
      refine ops_send (w' := w3) (c := p.qb) (v := .int .i64 x) (z := .tuple #[]) rfl rfl (by simp [execOp, scase, Act.eval]) hq hql (ops_nil ?_)
      simp only [Act.put, List.getElem_toArray, List.getElem_cons_succ, List.getElem_cons_zero]
      refine Hid.out ?_
      refine Lib.hid ?_
      go_wp2
      go_ret
      subst v
      refine ⟨rfl, ?_, below_setChan HB4.out (HM3.out.ord.1.2.2.1) _ _ _ _ _ _⟩
      exact HM3.out.setQ (s.q ++ [x]) (by simp) _ _
end L
end Go.Proofs.YtfhodbnhaaiceaaDoor
end

/- Contract of start: nothing is known. -/
section
namespace Go.Proofs.YtfhodbnhaaiceaaDoor
open Go.RowKit Go.Conc
namespace L
open K

theorem infoCl : (Tryd.prog.info? 103).map (fun i => (i.zero, i.size, i.bytes)) = some (some (.agg #[.slice none 0 0, .int .i64 0, .int .i64 0, .int .i64 0]), 4, 48) := by kernel_rfl

theorem kc_start (n : Nat) : KC n (fun _ => 0) (madeCells #[.int .i64 0] ((n + 1) * 1)) := by
  refine ⟨by simp [madeCells], fun v hv => ?_⟩
  have hv' : v < n + 1 := by omega
  simp [madeCells, hv', Nat.mod_one]
theorem cc_start (M : Nat) : CC M (fun _ => .slice none 0 0) (fun _ => 0) (fun _ => 0) (fun _ => 0) (madeCells #[.slice none 0 0, .int .i64 0, .int .i64 0, .int .i64 0] (M * 4)) := by
  refine ⟨by simp [madeCells]; omega, fun i hi => ?_⟩
  have e0 : (4 * i) % 4 = 0 := by omega
  have e1 : (4 * i + 1) % 4 = 1 := by omega
  have e2 : (4 * i + 2) % 4 = 2 := by omega
  have e3 : (4 * i + 3) % 4 = 3 := by omega
  have g : ∀ k, k < M * 4 → (madeCells #[.slice none 0 0, .int .i64 0, .int .i64 0, .int .i64 0] (M * 4))[k]? = some (#[Value.slice none 0 0, .int .i64 0, .int .i64 0, .int .i64 0][k % 4]!) := fun k hk => by
    simp [madeCells, hk]
  refine ⟨?_, ?_, ?_, ?_⟩
  · rw [g _ (by omega), e0]; rfl
  · rw [g _ (by omega), e1]; rfl
  · rw [g _ (by omega), e2]; rfl
  · rw [g _ (by omega), e3]; rfl

/-- What it lays, wherever it lies. -/
theorem start_mem {w w' : World} {n M pb kb qb cb mb : Nat} (hn : n ≤ 1048576) (hM : M ≤ 1048576) (hs : w'.heap.size = w.heap.size + 6)
    (h1 : w.heap.size ≤ pb ∧ w.heap.size ≤ kb ∧ w.heap.size ≤ qb ∧ w.heap.size ≤ cb ∧ w.heap.size ≤ mb) (h2 : pb < w.heap.size + 6 ∧ kb < w.heap.size + 6 ∧ qb < w.heap.size + 6 ∧ cb < w.heap.size + 6 ∧ mb < w.heap.size + 6)
    (hd : pb ≠ kb ∧ pb ≠ qb ∧ pb ≠ cb ∧ pb ≠ mb ∧ kb ≠ qb ∧ kb ≠ cb ∧ kb ≠ mb ∧ qb ≠ cb ∧ qb ≠ mb ∧ cb ≠ mb)
    (gp : w'.heap[pb]? = some (.cells (fields ⟨w.heap.size, n, M, pb, kb, qb, cb, mb, w.heap.size + 6⟩) 99))
    (gk : w'.heap[kb]? = some (.cells (madeCells #[.int .i64 0] ((n + 1) * 1)) 3))
    (gq : w'.heap[qb]? = some (.chan n #[] false 0 0 false))
    (gc : w'.heap[cb]? = some (.cells (madeCells #[.slice none 0 0, .int .i64 0, .int .i64 0, .int .i64 0] (M * 4)) 103))
    (gm : w'.heap[mb]? = some (.map #[] 0)) : Mem w' ⟨w.heap.size, n, M, pb, kb, qb, cb, mb, w.heap.size + 6⟩ (fun _ => .slice none 0 0) 0 (fun _ => .slice none 0 0) U.start0 :=
  ⟨⟨h1, h2⟩, hd, Nat.le_of_eq hs.symm, ⟨hn, hM⟩, gp, ⟨_, gk, kc_start n⟩, ⟨0, 0, gq⟩, ⟨_, gc, cc_start M⟩, MapV.made_at gm _, fun _ => World.ownsRow_nil _ _ _ _, fun _ _ _ => .inl rfl⟩

theorem chain6 (w : World) (o0 o1 o2 o3 o4 o5 : Obj) (j : Nat) (o : Obj) (h : [o0, o1, o2, o3, o4, o5][j]? = some o) : ((((((w.alloc o0).alloc o1).alloc o2).alloc o3).alloc o4).alloc o5).heap[w.heap.size + j]? = some o := by
  have a := fun (W : World) (x : Obj) (b : Nat) (hb : b = W.heap.size) => show (W.alloc x).heap[b]? = some x by rw [hb]; exact heap_alloc_new W x
  have b := fun (W : World) (x : Obj) (k : Nat) (y : Obj) (hk : k < W.heap.size) (hy : W.heap[k]? = some y) => show (W.alloc x).heap[k]? = some y from (Deep.blk_alloc_lt W x k hk).trans hy
  match j, h with
  | 0, h => cases h; exact b _ _ _ _ (by simp <;> omega) (b _ _ _ _ (by simp <;> omega) (b _ _ _ _ (by simp <;> omega) (b _ _ _ _ (by simp <;> omega) (b _ _ _ _ (by simp <;> omega) (a _ _ _ (by simp))))))
  | 1, h => cases h; exact b _ _ _ _ (by simp <;> omega) (b _ _ _ _ (by simp <;> omega) (b _ _ _ _ (by simp <;> omega) (b _ _ _ _ (by simp <;> omega) (a _ _ _ (by simp)))))
  | 2, h => cases h; exact b _ _ _ _ (by simp <;> omega) (b _ _ _ _ (by simp <;> omega) (b _ _ _ _ (by simp <;> omega) (a _ _ _ (by simp))))
  | 3, h => cases h; exact b _ _ _ _ (by simp <;> omega) (b _ _ _ _ (by simp <;> omega) (a _ _ _ (by simp)))
  | 4, h => cases h; exact b _ _ _ _ (by simp <;> omega) (a _ _ _ (by simp))
  | 5, h => cases h; exact a _ _ _ (by simp)
  | j + 6, h => simp at h
theorem start_end {w : World} {n M : Nat} (hn : n ≤ 1048576) (hM : M ≤ 1048576) (o0 o1 o2 o3 o4 o5 : Obj) (k q c m : Nat)
    (gk : [o0, o1, o2, o3, o4][k]? = some (.cells (madeCells #[.int .i64 0] ((n + 1) * 1)) 3)) (gq : [o0, o1, o2, o3, o4][q]? = some (.chan n #[] false 0 0 false))
    (gc : [o0, o1, o2, o3, o4][c]? = some (.cells (madeCells #[.slice none 0 0, .int .i64 0, .int .i64 0, .int .i64 0] (M * 4)) 103)) (gm : [o0, o1, o2, o3, o4][m]? = some (.map #[] 0))
    (h2 : (0 < k ∧ k < 5) ∧ (0 < q ∧ q < 5) ∧ (0 < c ∧ c < 5) ∧ (0 < m ∧ m < 5)) (hd : k ≠ q ∧ k ≠ c ∧ k ≠ m ∧ q ≠ c ∧ q ≠ m ∧ c ≠ m)
    (ho : o5 = .cells (fields ⟨w.heap.size, n, M, w.heap.size + 5, w.heap.size + k, w.heap.size + q, w.heap.size + c, w.heap.size + m, w.heap.size + 6⟩) 99) :
    Mem ((((((w.alloc o0).alloc o1).alloc o2).alloc o3).alloc o4).alloc o5).drew ⟨w.heap.size, n, M, w.heap.size + 5, w.heap.size + k, w.heap.size + q, w.heap.size + c, w.heap.size + m, w.heap.size + 6⟩ (fun _ => .slice none 0 0) 0 (fun _ => .slice none 0 0) U.start0 := by
  subst ho
  have up : ∀ {j : Nat} {o x : Obj}, [o0, o1, o2, o3, o4][j]? = some o → [o0, o1, o2, o3, o4, x][j]? = some o := by
    intro j o x h
    match j, h with
    | 0, h => exact h
    | 1, h => exact h
    | 2, h => exact h
    | 3, h => exact h
    | 4, h => exact h
    | j + 5, h => simp at h
  refine start_mem hn hM (by simp) (by omega) (by omega) (by omega) ?_ ?_ ?_ ?_ ?_
  · exact chain6 w _ _ _ _ _ _ 5 _ rfl
  · exact chain6 w _ _ _ _ _ _ k _ (up gk)
  · exact chain6 w _ _ _ _ _ _ q _ (up gq)
  · exact chain6 w _ _ _ _ _ _ c _ (up gc)
  · exact chain6 w _ _ _ _ _ _ m _ (up gm)
theorem get1 (o0 o1 o2 o3 o4 : Obj) : [o0, o1, o2, o3, o4][1]? = some o1 := rfl
theorem get2 (o0 o1 o2 o3 o4 : Obj) : [o0, o1, o2, o3, o4][2]? = some o2 := rfl
theorem get3 (o0 o1 o2 o3 o4 : Obj) : [o0, o1, o2, o3, o4][3]? = some o3 := rfl
theorem get4 (o0 o1 o2 o3 o4 : Obj) : [o0, o1, o2, o3, o4][4]? = some o4 := rfl
theorem below6 (w : World) (o0 o1 o2 o3 o4 o5 : Obj) : Below w.heap.size w ((((((w.alloc o0).alloc o1).alloc o2).alloc o3).alloc o4).alloc o5).drew :=
  (((((((Below.refl _ w).alloc (Nat.le_refl _) _).alloc (by simp) _).alloc (by simp; omega) _).alloc (by simp; omega) _).alloc (by simp; omega) _).alloc (by simp; omega) _).drew

theorem start_fin {w : World} {n M : Nat} (hn : n ≤ 1048576) (hM : M ≤ 1048576) (o0 o1 o2 o3 o4 o5 : Obj)
    (H : ∃ k q c m, [o0, o1, o2, o3, o4][k]? = some (.cells (madeCells #[.int .i64 0] ((n + 1) * 1)) 3) ∧ [o0, o1, o2, o3, o4][q]? = some (.chan n #[] false 0 0 false) ∧
      [o0, o1, o2, o3, o4][c]? = some (.cells (madeCells #[.slice none 0 0, .int .i64 0, .int .i64 0, .int .i64 0] (M * 4)) 103) ∧ [o0, o1, o2, o3, o4][m]? = some (.map #[] 0) ∧
      ((0 < k ∧ k < 5) ∧ (0 < q ∧ q < 5) ∧ (0 < c ∧ c < 5) ∧ (0 < m ∧ m < 5)) ∧ (k ≠ q ∧ k ≠ c ∧ k ≠ m ∧ q ≠ c ∧ q ≠ m ∧ c ≠ m) ∧
      o5 = .cells (fields ⟨w.heap.size, n, M, w.heap.size + 5, w.heap.size + k, w.heap.size + q, w.heap.size + c, w.heap.size + m, w.heap.size + 6⟩) 99) :
    ∃ p : Bl, Ending.returned (.pointer (some ⟨w.heap.size + 1 + 1 + 1 + 1 + 1, 0, none⟩)) = .returned (.pointer (some ⟨p.pb, 0, none⟩)) ∧ (p.B = w.heap.size ∧ p.n = n ∧ p.M = M) ∧ Mem ((((((w.alloc o0).alloc o1).alloc o2).alloc o3).alloc o4).alloc o5).drew p (fun _ => .slice none 0 0) 0 (fun _ => .slice none 0 0) U.start0 ∧ Below w.heap.size w ((((((w.alloc o0).alloc o1).alloc o2).alloc o3).alloc o4).alloc o5).drew := by
  obtain ⟨k, q, c, m, gk, gq, gc, gm, h2, hd, ho⟩ := H
  exact ⟨_, rfl, ⟨rfl, rfl, rfl⟩, start_end hn hM o0 o1 o2 o3 o4 o5 k q c m gk gq gc gm h2 hd ho, below6 _ _ _ _ _ _ _⟩

set_option maxHeartbeats 40000000 in
set_option maxRecDepth 100000 in
theorem start_any (n M c : Nat) (pv : Option Addr) (w : World) (hn : n ≤ 1048576) (hM : M ≤ 1048576) :
    Calls Tryd.prog 45 #[.agg #[.int .i64 n, .slice pv M c]] w fun e w' => ∃ p : Bl, e = .returned (.pointer (some ⟨p.pb, 0, none⟩)) ∧ (p.B = w.heap.size ∧ p.n = n ∧ p.M = M) ∧ Mem w' p (fun _ => .slice none 0 0) 0 (fun _ => .slice none 0 0) U.start0 ∧ Below w.heap.size w w' := by
  obtain ⟨i0, hi0, hz0, hz1, hz2⟩ := info_parts info3
  obtain ⟨i1, hi1, hz3, hz4, hz5⟩ := info_parts infoCl
  have hmk : ∀ W : World, (Instr.makeSlice 23 (.int .i64 ((n : Int) + 1)) (.int .i64 ((n : Int) + 1))).run Tryd.prog W = .ok (.slice (some ⟨W.heap.size, 0, none⟩) (n + 1) (n + 1)) (W.alloc (.cells (madeCells #[.int .i64 0] ((n + 1) * 1)) 3)) := fun W => by
    have h := run_make (P := Tryd.prog) W 23 3 i0 _ Tryd.underlying23 hi0 hz0 .i64 .i64 ((n : Int) + 1) ((n : Int) + 1) (by omega) (by omega) (by rw [hz2]; omega) (by omega)
    rw [h, hz1, show ((n : Int) + 1).toNat = n + 1 by omega]
    rfl
  have hmc : ∀ W : World, (Instr.makeSlice 96 (.int .i64 (M : Int)) (.int .i64 (M : Int))).run Tryd.prog W = .ok (.slice (some ⟨W.heap.size, 0, none⟩) M M) (W.alloc (.cells (madeCells #[.slice none 0 0, .int .i64 0, .int .i64 0, .int .i64 0] (M * 4)) 103)) := fun W => by
    have h := run_make (P := Tryd.prog) W 96 103 i1 _ Tryd.underlying96 hi1 hz3 .i64 .i64 (M : Int) (M : Int) (by omega) (by omega) (by rw [hz5]; omega) (by omega)
    rw [h, hz4, show ((M : Int)).toNat = M by omega]
    rfl
  have hmq : ∀ W : World, (Instr.makeChan 95 (.int .i64 (n : Int))).run Tryd.prog W = .ok (.chan (some W.heap.size)) (W.alloc (.chan n #[] false 0 0 false)) := fun W =>
    run_makeChan Tryd.underlying95 hi0 .i64 n (by omega) (by rw [hz2]; omega)
  have hmm : ∀ (W : World) (k : Int), (Instr.makeMap 97 (some (.int .i64 k))).run Tryd.prog W = .ok (.map (some W.heap.size)) (W.alloc (.map #[] 0)) := fun W k => by
    simp [Instr.makeMap, run_underlying Tryd.underlying97, asInt, asIntOf, Result.andThen]
  obtain ⟨KA, hKA⟩ : ∃ K, madeCells #[Value.int .i64 0] ((n + 1) * 1) = K := ⟨_, rfl⟩
  obtain ⟨CA, hCA⟩ : ∃ K, madeCells #[Value.slice none 0 0, .int .i64 0, .int .i64 0, .int .i64 0] (M * 4) = K := ⟨_, rfl⟩
  rw [hKA] at hmk
  rw [hCA] at hmc
  have HKA := Lib.hid hKA
  have HCA := Lib.hid hCA
  have hw1 : IntKind.i64.wrap ((n : Int) + 1) = (n : Int) + 1 := by simp only [IntKind.wrap_i64]; omega
  clear hKA hCA hi0 hz0 hz1 hz2 hi1 hz3 hz4 hz5
  go_enter Tryd.func45, Tryd.ntmps45
  go_wp2
  go_region
  all_goals (go_wp2)
  all_goals (
    go_ret
    refine start_fin hn hM _ _ _ _ _ _ ?_
    first
      | exact ⟨1, 2, 3, 4, by rw [HKA.out]; rfl, rfl, by rw [HCA.out]; rfl, rfl, by decide, by decide, rfl⟩
      | exact ⟨1, 2, 4, 3, by rw [HKA.out]; rfl, rfl, by rw [HCA.out]; rfl, rfl, by decide, by decide, rfl⟩
      | exact ⟨1, 3, 2, 4, by rw [HKA.out]; rfl, rfl, by rw [HCA.out]; rfl, rfl, by decide, by decide, rfl⟩
      | exact ⟨1, 3, 4, 2, by rw [HKA.out]; rfl, rfl, by rw [HCA.out]; rfl, rfl, by decide, by decide, rfl⟩
      | exact ⟨1, 4, 2, 3, by rw [HKA.out]; rfl, rfl, by rw [HCA.out]; rfl, rfl, by decide, by decide, rfl⟩
      | exact ⟨1, 4, 3, 2, by rw [HKA.out]; rfl, rfl, by rw [HCA.out]; rfl, rfl, by decide, by decide, rfl⟩
      | exact ⟨2, 1, 3, 4, by rw [HKA.out]; rfl, rfl, by rw [HCA.out]; rfl, rfl, by decide, by decide, rfl⟩
      | exact ⟨2, 1, 4, 3, by rw [HKA.out]; rfl, rfl, by rw [HCA.out]; rfl, rfl, by decide, by decide, rfl⟩
      | exact ⟨2, 3, 1, 4, by rw [HKA.out]; rfl, rfl, by rw [HCA.out]; rfl, rfl, by decide, by decide, rfl⟩
      | exact ⟨2, 3, 4, 1, by rw [HKA.out]; rfl, rfl, by rw [HCA.out]; rfl, rfl, by decide, by decide, rfl⟩
      | exact ⟨2, 4, 1, 3, by rw [HKA.out]; rfl, rfl, by rw [HCA.out]; rfl, rfl, by decide, by decide, rfl⟩
      | exact ⟨2, 4, 3, 1, by rw [HKA.out]; rfl, rfl, by rw [HCA.out]; rfl, rfl, by decide, by decide, rfl⟩
      | exact ⟨3, 1, 2, 4, by rw [HKA.out]; rfl, rfl, by rw [HCA.out]; rfl, rfl, by decide, by decide, rfl⟩
      | exact ⟨3, 1, 4, 2, by rw [HKA.out]; rfl, rfl, by rw [HCA.out]; rfl, rfl, by decide, by decide, rfl⟩
      | exact ⟨3, 2, 1, 4, by rw [HKA.out]; rfl, rfl, by rw [HCA.out]; rfl, rfl, by decide, by decide, rfl⟩
      | exact ⟨3, 2, 4, 1, by rw [HKA.out]; rfl, rfl, by rw [HCA.out]; rfl, rfl, by decide, by decide, rfl⟩
      | exact ⟨3, 4, 1, 2, by rw [HKA.out]; rfl, rfl, by rw [HCA.out]; rfl, rfl, by decide, by decide, rfl⟩
      | exact ⟨3, 4, 2, 1, by rw [HKA.out]; rfl, rfl, by rw [HCA.out]; rfl, rfl, by decide, by decide, rfl⟩
      | exact ⟨4, 1, 2, 3, by rw [HKA.out]; rfl, rfl, by rw [HCA.out]; rfl, rfl, by decide, by decide, rfl⟩
      | exact ⟨4, 1, 3, 2, by rw [HKA.out]; rfl, rfl, by rw [HCA.out]; rfl, rfl, by decide, by decide, rfl⟩
      | exact ⟨4, 2, 1, 3, by rw [HKA.out]; rfl, rfl, by rw [HCA.out]; rfl, rfl, by decide, by decide, rfl⟩
      | exact ⟨4, 2, 3, 1, by rw [HKA.out]; rfl, rfl, by rw [HCA.out]; rfl, rfl, by decide, by decide, rfl⟩
      | exact ⟨4, 3, 1, 2, by rw [HKA.out]; rfl, rfl, by rw [HCA.out]; rfl, rfl, by decide, by decide, rfl⟩
      | exact ⟨4, 3, 2, 1, by rw [HKA.out]; rfl, rfl, by rw [HCA.out]; rfl, rfl, by decide, by decide, rfl⟩)
end L
end Go.Proofs.YtfhodbnhaaiceaaDoor
end
