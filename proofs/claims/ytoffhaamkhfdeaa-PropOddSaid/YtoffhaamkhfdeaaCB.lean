/- Contract of learn: a literal becomes known, and goes into the queue. -/
import Derived.Test.YtoffhaamkhfdeaaCM
import Derived.Deep.RegionHeld3
import Derived.WalkMore
namespace Go.Proofs.Ytoffhaamkhfdeaa
open Go.RowKit Go.Conc
namespace L
open K

theorem setCell_frozen {w : World} {a b : Addr} {u : Value} {x : Bool} (h : w.frozen? b = x) : (w.setCell a u).frozen? b = x := (World.frozen?_setCell _ _ _ _).trans h

theorem below_setCell {B : Nat} {w0 w : World} (h : Below B w0 w) {a : Addr} (ha : B ≤ a.block) (u : Value) : Below B w0 (w.setCell a u) := by
  refine ⟨h.os, h.tape, h.output, by simpa using h.size, fun k hk => ?_⟩
  rw [Deep.blk_setCell_other w a u k (by omega)]
  exact h.block k hk

set_option maxHeartbeats 1000000 in
theorem learn_any {w : World} {p : Bl} {al : Nat → Value} {N : Nat} {vs : Int → Value} {s : U.St} (h : Mem w p al N vs s) (x : Int) (hx : x ≠ 0) (hn : x.natAbs ≤ p.n)
    (hd : s.kn x.natAbs = 0 ∨ s.kn x.natAbs = x ∨ s.kn x.natAbs = -x) (hroom : s.kn x.natAbs = 0 → s.q.length < p.n) :
    Calls Try.prog 38 #[.pointer (some ⟨p.pb, 0, none⟩), .int .i64 x] w fun e w' => e = .returned (.bool (U.learn s x).1) ∧ Mem w' p al N vs (U.learn s x).2 ∧ Below p.B w w' := by
  have hB : p.B ≤ w.heap.size := by have := h.ord; have := h.siz; omega
  by_cases h1 : s.kn x.natAbs = -x
  · have hc := isF_any h x hn
    rw [U.learn_no h1]
    rw [decide_eq_true h1] at hc
    have hM := Lib.hid h
    clear h h1 hd hroom hx hn
    go_enter Try.func38, Try.ntmps38
    go_wp2_with fail
    refine hc.mono ?_
    rintro e w1 ⟨rfl, hb⟩
    refine Hid.out ?_
    refine Lib.hid ?_
    go_wp2
    go_ret
    exact ⟨rfl, hM.out.below hb, hb.mono hB⟩
  · have hc := isF_any h x hn
    rw [decide_eq_false h1] at hc
    by_cases h2 : s.kn x.natAbs = x
    · have hc2 := fun W (hb : Below w.heap.size w W) => isT_any (h.below hb) x hn
      rw [decide_eq_true h2] at hc2
      rw [U.learn_yes hx h2]
      have hM := Lib.hid h
      have hC := Lib.hid hc2
      clear h h1 h2 hd hroom hx hn hc2
      go_enter Try.func38, Try.ntmps38
      go_wp2_with fail
      refine hc.mono ?_
      rintro e w1 ⟨rfl, hb⟩
      refine Hid.out ?_
      refine Lib.hid ?_
      go_wp2_with fail
      refine (hC.out w1 hb).mono ?_
      rintro e w2 ⟨rfl, hb2⟩
      refine Hid.out ?_
      refine Lib.hid ?_
      go_wp2
      go_ret
      have hb3 := hb.trans (hb2.mono hb.size)
      exact ⟨rfl, hM.out.below hb3, hb3.mono hB⟩
    · have h0 : s.kn x.natAbs = 0 := by omega
      have hr := hroom h0
      have hc2 := fun W (hb : Below w.heap.size w W) => isT_any (h.below hb) x hn
      rw [decide_eq_false h2] at hc2
      rw [U.learn_new h1 h2]
      have hM := Lib.hid h
      have hC := Lib.hid hc2
      have hlim := h.lim.1
      clear h h1 h2 hd hroom hx hc2 h0
      go_enter Try.func38, Try.ntmps38
      rw [← Vc_eq (Code.region 5 _ _)]
      go_wp2_with fail
      refine hc.mono ?_
      rintro e w1 ⟨rfl, hb⟩
      refine Hid.out ?_
      refine Lib.hid ?_
      clear hc
      go_wp2_with fail
      refine (hC.out w1 hb).mono ?_
      rintro e w2 ⟨rfl, hb2⟩
      refine Hid.out ?_
      refine Lib.hid ?_
      have hb3 := hb.trans (hb2.mono hb.size)
      have hm := hM.out.below hb3
      have HM2 := Lib.hid hm
      have HB3 := Lib.hid hb3
      have hc0 := hm.c.1
      have hk0 := (hm.k hn).2
      have hk1 : ∃ u, w2.cell? ⟨p.kb, x.natAbs, none⟩ = some u := ⟨_, (hm.k hn).1⟩
      obtain ⟨u, hk1⟩ := hk1
      have hpv := fun W => pvar_any x (by omega) W
      have HX := Lib.hid hn
      have hpk := hm.dif.1
      have hkp := Ne.symm hpk
      have hv1 : (x.natAbs : Int) < (p.n : Int) + 1 := by omega
      clear hm hb hb2 hb3 hC hM hn
      generalize hv : x.natAbs = v at hpv hk0 hk1 hv1
      have HV := Lib.hid hv
      clear hv
      go_wp2
      go_region_held3 (fun w' => w'.cell? ⟨p.pb, 0, none⟩ = some (.slice (some ⟨p.kb, 0, none⟩) (p.n + 1) (p.n + 1)))
        (go_keep)
        (first
          | (go_at_call 46
             refine (hpv _).mono ?_
             rintro e w3 ⟨rfl, rfl⟩))
      obtain ⟨w3, hw3⟩ : ∃ W, W = (w2.setCell ⟨p.kb, v, none⟩ (.int .i64 x)).drew := ⟨_, rfl⟩
      rw [← hw3]
      have hm3 : Mem w3 p al N vs { s with kn := U.upd s.kn v x } := (HM2.out.setKn v x).heap (by rw [hw3]; rfl)
      have hb3 : Below p.B w w3 := by
        rw [hw3]
        exact (below_setCell (HB3.out.mono hB) (HM2.out.ord.1.2.1) _).drew
      obtain ⟨qa, qb, hq⟩ := hm3.que
      have hc1 := hm3.c.2.1
      have hql : ((s.q.map (Value.int .i64)).toArray).size < p.n := by simpa using hr
      have HM3 := Lib.hid hm3
      have HB4 := Lib.hid hb3
      clear hw3 hm3 hb3 HM2 HB3 hpv hk0 hk1 hc0
      go_wp2
      refine Vc_wp (region_of_ops ?_)
      change OpsWp Try.prog _ _ [0, 1, 2, 3, 4, 5] _ _
      refine ops_value (w' := w3) rfl rfl (.pointer (some ⟨p.pb, 0, none⟩)) (by go_simp) ?_
      simp only [Act.put, List.getElem_toArray, List.getElem_cons_zero, List.setIfInBounds_toArray, List.set_cons_zero, List.set_cons_succ]
      refine ops_value (w' := w3) rfl rfl (.pointer (some ⟨p.pb, 0, none⟩)) (by go_simp) ?_
      simp only [Act.put, List.getElem_toArray, List.getElem_cons_succ, List.getElem_cons_zero, List.setIfInBounds_toArray, List.set_cons_zero, List.set_cons_succ]
      refine ops_value (w' := w3) rfl rfl (.pointer (some ⟨p.pb, 1, none⟩)) (by go_simp) ?_
      simp only [Act.put, List.getElem_toArray, List.getElem_cons_succ, List.getElem_cons_zero, List.setIfInBounds_toArray, List.set_cons_zero, List.set_cons_succ]
      refine ops_value (w' := w3) rfl rfl (.chan (some p.qb)) (by go_simp) ?_
      simp only [Act.put, List.getElem_toArray, List.getElem_cons_succ, List.getElem_cons_zero, List.setIfInBounds_toArray, List.set_cons_zero, List.set_cons_succ]
      refine ops_value (w' := w3) rfl rfl (.int .i64 x) (by go_simp) ?_
      simp only [Act.put, List.getElem_toArray, List.getElem_cons_succ, List.getElem_cons_zero, List.setIfInBounds_toArray, List.set_cons_zero, List.set_cons_succ]
      refine ops_send (w' := w3) (c := p.qb) (v := .int .i64 x) (z := .tuple #[]) rfl rfl (by simp [execOp, scase, Act.eval]) hq hql (ops_nil ?_)
      simp only [Act.put, List.getElem_toArray, List.getElem_cons_succ, List.getElem_cons_zero]
      refine Hid.out ?_
      refine Lib.hid ?_
      go_wp2
      go_ret
      subst v
      refine ⟨rfl, ?_, below_setChan HB4.out (HM3.out.ord.1.2.2.1) _ _ _ _ _ _⟩
      exact HM3.out.setQ (s.q ++ [x]) (by simp) _ _
end L
end Go.Proofs.Ytoffhaamkhfdeaa
