/- Several texts, joined. -/
import Derived.Test.YtfhodbnhaaiceaaDoorQ12

/- Contract of seek: the next literal of a clause. -/
section
namespace Go.Proofs.YtfhodbnhaaiceaaDoor
open Go.RowKit Go.Conc
namespace L
open K

theorem upd_upd {β : Type} {f : Nat → β} {k : Nat} {a b : β} : U.upd (U.upd f k a) k b = U.upd f k b := by
  funext j
  by_cases h : j = k
  · subst h; rw [U.upd_same, U.upd_same]
  · rw [U.upd_ne h, U.upd_ne h, U.upd_ne h]
/-- The number in a cell. -/
def intAt (w : World) (a : Addr) : Int := (w.cell? a).elim 0 intOf

theorem seekL_at {kn : Nat → Int} {o : Int} {l : List Int} {m : Nat} (h : m < l.length) :
    U.seekL kn o (l.drop m) = if l.getD m 0 ≠ o ∧ kn (l.getD m 0).natAbs ≠ -(l.getD m 0) then (l.getD m 0, 1) else ((U.seekL kn o (l.drop (m + 1))).1, (U.seekL kn o (l.drop (m + 1))).2 + 1) := by
  have e : l.drop m = l.getD m 0 :: l.drop (m + 1) := by
    rw [List.drop_eq_getElem_cons h]
    simp [List.getD, h]
  rw [e]
  rfl

set_option maxHeartbeats 2000000 in
theorem seek_any {w : World} {p : Bl} {al : Nat → Value} {N : Nat} {vs : Int → Value} {s : U.St} (h : Mem w p al N vs s) {i j : Nat} (hi : i < p.M) (hj : j = 4 * i) (c : List Int) (hc : ∀ W, Below p.B w W → Ints W (al i) c) (hv : ∀ x ∈ c, x.natAbs ≤ p.n)
    (hnx : s.nx i ≤ c.length) (o : Int) :
    Calls Tryd.prog 71 #[.pointer (some ⟨p.pb, 0, none⟩), .pointer (some ⟨p.cb, j, none⟩), .int .i64 o] w fun e w' => e = .returned (.int .i64 (U.seekR s i c o)) ∧ Mem w' p al N vs (U.seekS s i c o) ∧ Below p.B w w' := by
  subst hj
  obtain ⟨pp, cap, hal, hcap, hlim, hcell⟩ := hc w (Below.refl _ _)
  have hB : p.B ≤ w.heap.size := by have := h.ord; have := h.siz; omega
  have HC := Lib.hid hc
  have HV := Lib.hid hv
  clear hc hv hcell
  have HR : Hid (U.seekR s i c o = (U.seekL s.kn o (c.drop (s.nx i))).1 ∧ U.seekS s i c o = { s with nx := U.upd s.nx i (s.nx i + (U.seekL s.kn o (c.drop (s.nx i))).2) }) := Lib.hid ⟨rfl, rfl⟩
  generalize U.seekR s i c o = r at *
  generalize U.seekS s i c o = sf at *
  have hM := Lib.hid h
  have hdif : p.cb ≠ p.pb := Ne.symm h.dif.2.2.1
  have hord := h.ord.1.2.2.2.1
  clear h
  go_enter Tryd.func71, Tryd.ntmps71
  go_wp2
  go_loopw [] (fun wr => ∃ m : Nat, s.nx i ≤ m ∧ m ≤ c.length ∧ Mem wr p al N vs { s with nx := U.upd s.nx i m } ∧ Below p.B w wr ∧ U.seekL s.kn o (c.drop (s.nx i)) = ((U.seekL s.kn o (c.drop m)).1, (m - s.nx i) + (U.seekL s.kn o (c.drop m)).2)) (fun wr => c.length - (intAt wr ⟨p.cb, 4 * i + 1, none⟩).toNat)
  case atStart =>
    refine ⟨s.nx i, Nat.le_refl _, hnx, ?_, Below.refl _ _, by simp⟩
    have e : U.upd s.nx i (s.nx i) = s.nx := by
      funext j
      by_cases e : j = i
      · subst e; rw [U.upd_same]
      · rw [U.upd_ne e]
    rw [e]
    exact hM.out
  case round =>
    obtain ⟨m, hm0, hm1, hm, hb, hs⟩ := hrel
    have HS := Lib.hid hs
    clear hs
    obtain ⟨l0, l1, _, _, lf⟩ := hm.l hi
    simp only [U.upd_same] at l1
    rw [hal] at l0
    have HM := Lib.hid hm
    have HB := Lib.hid hb
    have hmea : Hid ((intAt wr ⟨p.cb, 4 * i + 1, none⟩).toNat = m) := Lib.hid (by simp [intAt, l1, intOf])
    by_cases hlt : m < c.length
    · have hlt' : (m : Int) < (c.length : Int) := by omega
      obtain ⟨pp2, cap2, hal2, hcap2, hlim2, hcell0⟩ := HC.out wr hb
      rw [hal] at hal2
      cases hal2
      obtain ⟨b, off, rfl, hcell1⟩ := hcell0 (by omega)
      have hx := hcell1 m hlt
      clear hcell0 hcell1
      obtain ⟨x, ex⟩ : ∃ x, c.getD m 0 = x := ⟨_, rfl⟩
      rw [ex] at hx
      have hxn : x.natAbs ≤ p.n := HV.out x (by rw [← ex]; exact U.getD_mem hlt)
      have hstep := seekL_at (kn := s.kn) (o := o) hlt
      rw [ex] at hstep
      have HST := Lib.hid hstep
      clear hstep ex
      have f1 := lf (4 * i + 1)
      have hw1 : IntKind.i64.wrap ((m : Int) + 1) = (m : Int) + 1 := by simp only [IntKind.wrap_i64]; omega
      have hset : ∀ q, Mem ((wr.drewN q).setCell ⟨p.cb, 4 * i + 1, none⟩ (.int .i64 ((m : Int) + 1))) p al N vs { s with nx := U.upd s.nx i (m + 1) } := fun q => by
        have h1 := (hm.heap (w' := wr.drewN q) rfl).setCl (4 * i + 1) (.int .i64 ((m : Int) + 1)) (al' := al) (nx' := U.upd s.nx i (m + 1)) (b0' := s.b0) (b1' := s.b1) (fun cs h2 => by
          have h3 := h2.setNx i (m + 1)
          rw [upd_upd] at h3
          simpa using h3)
        exact h1
      have HSE := Lib.hid hset
      have HBE : Hid (∀ q, Below p.B w ((wr.drewN q).setCell ⟨p.cb, 4 * i + 1, none⟩ (.int .i64 ((m : Int) + 1)))) := Lib.hid fun q => below_setCell (below_drewN hb q) hord _
      have HIN : Hid (∀ q W, Below ((wr.drewN q).setCell ⟨p.cb, 4 * i + 1, none⟩ (.int .i64 ((m : Int) + 1))).heap.size ((wr.drewN q).setCell ⟨p.cb, 4 * i + 1, none⟩ (.int .i64 ((m : Int) + 1))) W → (intAt W ⟨p.cb, 4 * i + 1, none⟩).toNat = m + 1) := Lib.hid fun q W hW => by
        have h1 := ((hset q).below hW).l hi
        simp only [U.upd_same] at h1
        simp [intAt, h1.2.1, intOf]
      have HCA : Hid (∀ q, Calls Tryd.prog 68 #[.pointer (some ⟨p.pb, 0, none⟩), .int .i64 x] ((wr.drewN q).setCell ⟨p.cb, 4 * i + 1, none⟩ (.int .i64 ((m : Int) + 1))) fun e w' => e = .returned (.bool (decide (s.kn x.natAbs = -x))) ∧ Below ((wr.drewN q).setCell ⟨p.cb, 4 * i + 1, none⟩ (.int .i64 ((m : Int) + 1))).heap.size ((wr.drewN q).setCell ⟨p.cb, 4 * i + 1, none⟩ (.int .i64 ((m : Int) + 1))) w') := Lib.hid fun q => isF_any (hset q) x hxn
      clear hm hb lf hset
      by_cases hxo : x = o
      · have hne : (x != o) = false := by simp [hxo]
        have HXO := Lib.hid hxo
        clear hxo
        go_wp2
        go_quiet (fail)
        go_wp2
        go_quiet (fail)
        go_wp2
        go_roundw
        case rel =>
          refine ⟨m + 1, by omega, by omega, HSE.out _, HBE.out _, ?_⟩
          have h1 := HST.out
          rw [if_neg (fun h => h.1 HXO.out)] at h1
          rw [HS.out, h1]
          simp only [Prod.mk.injEq, true_and]
          omega
        case measure =>
          rw [HIN.out _ _ (Below.refl _ _), hmea.out]
          omega
      · have hne : (x != o) = true := by simp [hxo]
        have HXO := Lib.hid hxo
        clear hxo
        by_cases hF : s.kn x.natAbs = -x
        · have hd : decide (s.kn x.natAbs = -x) = true := decide_eq_true hF
          rw [hd] at HCA
          have HF := Lib.hid hF
          clear hF hd
          go_wp2
          go_quiet (fail)
          go_wp2
          go_quiet (fail)
          go_wp2_with fail
          refine (HCA.out _).mono ?_
          rintro e w3 ⟨rfl, hb3⟩
          refine Hid.out ?_
          refine Lib.hid ?_
          have HB3 := Lib.hid hb3
          clear hb3
          go_wp2
          go_roundw
          case rel =>
            refine ⟨m + 1, by omega, by omega, (HSE.out _).below HB3.out, (HBE.out _).trans (HB3.out.mono (Nat.le_trans hB (HBE.out _).size)), ?_⟩
            have h1 := HST.out
            rw [if_neg (fun h => h.2 HF.out)] at h1
            rw [HS.out, h1]
            simp only [Prod.mk.injEq, true_and]
            omega
          case measure =>
            rw [HIN.out _ _ HB3.out, hmea.out]
            omega
        · have hd : decide (s.kn x.natAbs = -x) = false := decide_eq_false hF
          rw [hd] at HCA
          have HF := Lib.hid hF
          clear hF hd
          go_wp2
          go_quiet (fail)
          go_wp2
          go_quiet (fail)
          go_wp2_with fail
          refine (HCA.out _).mono ?_
          rintro e w3 ⟨rfl, hb3⟩
          refine Hid.out ?_
          refine Lib.hid ?_
          have HB3 := Lib.hid hb3
          clear hb3
          go_wp2
          go_ret
          obtain ⟨r1, r2⟩ := HR.out
          have h1 := HST.out
          rw [if_pos ⟨HXO.out, HF.out⟩] at h1
          have h3 := HS.out
          rw [h1] at h3
          rw [h3] at r1 r2
          refine ⟨by rw [r1]; rfl, ?_, (HBE.out _).trans (HB3.out.mono (Nat.le_trans hB (HBE.out _).size))⟩
          rw [r2]
          have e : s.nx i + (m - s.nx i + 1) = m + 1 := by omega
          simp only [e]
          exact (HSE.out _).below HB3.out
    · have hlt' : ¬ ((m : Int) < (c.length : Int)) := by omega
      obtain rfl : m = c.length := by omega
      clear hm hb lf
      go_wp2
      go_quiet (fail)
      go_wp2
      go_ret
      obtain ⟨r1, r2⟩ := HR.out
      have h3 := HS.out
      simp only [List.drop_length, U.seekL] at h3
      rw [h3] at r1 r2
      refine ⟨by rw [r1]; rfl, ?_, below_drewN HB.out _⟩
      rw [r2]
      have e : s.nx i + (c.length - s.nx i + 0) = c.length := by omega
      simp only [e]
      exact HM.out.heap rfl
end L
end Go.Proofs.YtfhodbnhaaiceaaDoor
end

/- Steps of a region that draws its order: a look-up in a map, a store into one. -/
section
namespace Go.Proofs.YtfhodbnhaaiceaaDoor
open Go.RowKit Go.Conc
namespace K
section
variable {P : Program} {ops : Array Oper} {o : Oper} {a : Act} {w : World} {K : Act → World → Prop} {Q : Exit → Act → World → Prop} {E : Prop}
theorem step_look (hgd : o.guard = none) (m x : Operand) (t : TypeId) (ho : o.op = .lookup t m x false) (b : Nat) (hm : a.eval m = .map (some b)) (key : Value) (hx : a.eval x = key) (v : Value)
    (hrun : (Instr.lookup t (.map (some b)) key false).run P w = .ok v w) (h : K (a.put o.dst v) w) : if Region.wanted o (yielded ops a.tmps) = true then Oper.wp P o a w K Q else E := by
  rw [if_pos (by simp [Region.wanted, hgd])]
  unfold Oper.wp
  simp [execOp, ho, hm, hx, hrun, Result.andThen]
  exact h
theorem step_store (hgd : o.guard = none) (m x y : Operand) (t : TypeId) (ho : o.op = .mapUpdate t m x y) (b : Nat) (hm : a.eval m = .map (some b)) (key : Value) (hx : a.eval x = key) (v : Value) (hy : a.eval y = v) (R : World → Prop)
    (hrun : ∃ w', (Instr.mapUpdate t (.map (some b)) key v).run P w = .ok () w' ∧ R w') (h : ∀ w', R w' → K (a.put o.dst undef) w') : if Region.wanted o (yielded ops a.tmps) = true then Oper.wp P o a w K Q else E := by
  rw [if_pos (by simp [Region.wanted, hgd])]
  obtain ⟨w', hr, hR⟩ := hrun
  unfold Oper.wp
  simp [execOp, ho, hm, hx, hy, hr, Result.andThen]
  exact h w' hR
end
open L
section
variable {w w1 w2 : World} {p : Bl} {al : Nat → Value} {N : Nat} {vs : Int → Value} {s : U.St}
theorem zeroRow (W : World) : (zeroValue 23).run Tryd.prog W = .ok (.slice none 0 0) W := by kernel_rfl
theorem Mem.look (h : Mem w p al N vs s) {z : Int} (hz : I64 z) (W : World) (hW : W.heap[p.mb]? = w.heap[p.mb]?) :
    (Instr.lookup 97 (.map (some p.mb)) (.int .i64 z) false).run Tryd.prog W = .ok (vs z) W := (h.map.of_block hW).look Tryd.underlying97 (zeroRow W) hz
/-- A new slice is stored under a literal: what then stands. -/
theorem Mem.store (h : Mem w p al N vs s) {z : Int} (hz : I64 z) (hN : N < maxLen) (i : Nat) {v' : Value} {g : Nat} (hown : w1.ownsRow p.R 3 1 v' ((s.W z).length + 1) ((s.W z).map (fun i : Nat => Value.int .i64 (i : Int)) ++ [.int .i64 (i : Int)])) (hg : w.grownBy w1 (vs z).ownBlock)
    (hv : v'.ownBlock = some g) (hat : (vs z).ownBlock = some g ∨ w.heap.size ≤ g) :
    ∃ w2, (Instr.mapUpdate 97 (.map (some p.mb)) (.int .i64 z) v').run Tryd.prog w1 = .ok () w2 ∧ (Mem w2 p al (N + 1) (U.upd vs z v') (U.push s i z) ∧ w1.grownBy w2 (some p.mb)) := by
  have hlt : p.mb < w.heap.size := h.map.lt
  have hmr : p.mb < p.R := h.ord.2.2.2.2.2
  have hb : w1.heap[p.mb]? = w.heap[p.mb]? := hg.block _ hlt (fun e => by have := (h.rowlt e.symm).1; omega)
  obtain ⟨w2, hr, hm, hg2⟩ := (h.map.of_block hb).store Tryd.underlying97 hN hz v'
  exact ⟨w2, hr, h.push z i hg hown hv hat hm hg2, hg2⟩
theorem below_pushed {B0 : Nat} {w0 w3 w6 w7 W : World} {p : Bl} {al : Nat → Value} {N : Nat} {vs : Int → Value} {s : U.St} {z : Int} {va : Value} (hb : Below B0 w0 w3) (h : Mem w3 p al N vs s) (o : Obj) (hW : W.heap = (w3.alloc o).heap) (hos : W.os = w3.os) (htp : W.tape = w3.tape) (hou : W.output = w3.output) (hB : B0 ≤ p.B) (hs : B0 ≤ w3.heap.size) (hv : va = vs z) (hg : W.grownBy w6 va.ownBlock) (hg7 : w6.grownBy w7 (some p.mb)) : Below B0 w0 w7 := by
  subst hv
  have h1 := hb.alloc hs o
  have hW2 : Below B0 w0 W := ⟨hos.trans hb.os, htp.trans hb.tape, hou.trans hb.output, by rw [hW]; exact h1.size, fun k hk => by rw [hW]; exact h1.block k hk⟩
  have hsz : B0 ≤ W.heap.size := by rw [hW]; simp; omega
  have ho := h.ord
  exact (hW2.grown hg hsz (fun k hk => by have := (h.rowlt hk).1; omega)).grown hg7 (Nat.le_trans hsz hg.size) (fun k hk => by cases hk; omega)
end
end K
end Go.Proofs.YtfhodbnhaaiceaaDoor
end
