/- Steps of a region that draws its order: a look-up in a map, a store into one. -/
import Derived.Test.YtoffhaamkhfdeaaCD
namespace Go.Proofs.Ytoffhaamkhfdeaa
open Go.RowKit Go.Conc
namespace K
section
variable {P : Program} {ops : Array Oper} {o : Oper} {a : Act} {w : World} {K : Act → World → Prop} {Q : Exit → Act → World → Prop} {E : Prop}
theorem step_look (hgd : o.guard = none) (m x : Operand) (t : TypeId) (ho : o.op = .lookup t m x false) (b : Nat) (hm : a.eval m = .map (some b)) (key : Value) (hx : a.eval x = key) (v : Value)
    (hrun : (Instr.lookup t (.map (some b)) key false).run P w = .ok v w) (h : K (a.put o.dst v) w) : if Region.wanted o (yielded ops a.tmps) = true then Oper.wp P o a w K Q else E := by
  rw [if_pos (by simp [Region.wanted, hgd])]
  unfold Oper.wp
  simp [execOp, ho, hm, hx, hrun, Result.andThen]
  exact h
theorem step_store (hgd : o.guard = none) (m x y : Operand) (t : TypeId) (ho : o.op = .mapUpdate t m x y) (b : Nat) (hm : a.eval m = .map (some b)) (key : Value) (hx : a.eval x = key) (v : Value) (hy : a.eval y = v) (R : World → Prop)
    (hrun : ∃ w', (Instr.mapUpdate t (.map (some b)) key v).run P w = .ok () w' ∧ R w') (h : ∀ w', R w' → K (a.put o.dst undef) w') : if Region.wanted o (yielded ops a.tmps) = true then Oper.wp P o a w K Q else E := by
  rw [if_pos (by simp [Region.wanted, hgd])]
  obtain ⟨w', hr, hR⟩ := hrun
  unfold Oper.wp
  simp [execOp, ho, hm, hx, hy, hr, Result.andThen]
  exact h w' hR
end
open L
section
variable {w w1 w2 : World} {p : Bl} {al : Nat → Value} {N : Nat} {vs : Int → Value} {s : U.St}
theorem zeroRow (W : World) : (zeroValue 23).run Try.prog W = .ok (.slice none 0 0) W := by kernel_rfl
theorem Mem.look (h : Mem w p al N vs s) {z : Int} (hz : I64 z) (W : World) (hW : W.heap[p.mb]? = w.heap[p.mb]?) :
    (Instr.lookup 71 (.map (some p.mb)) (.int .i64 z) false).run Try.prog W = .ok (vs z) W := (h.map.of_block hW).look Try.underlying71 (zeroRow W) hz
/-- A new slice is stored under a literal: what then stands. -/
theorem Mem.store (h : Mem w p al N vs s) {z : Int} (hz : I64 z) (hN : N < maxLen) (i : Nat) {v' : Value} {g : Nat} (hown : w1.ownsRow p.R 3 1 v' ((s.W z).length + 1) ((s.W z).map (fun i : Nat => Value.int .i64 (i : Int)) ++ [.int .i64 (i : Int)])) (hg : w.grownBy w1 (vs z).ownBlock)
    (hv : v'.ownBlock = some g) (hat : (vs z).ownBlock = some g ∨ w.heap.size ≤ g) :
    ∃ w2, (Instr.mapUpdate 71 (.map (some p.mb)) (.int .i64 z) v').run Try.prog w1 = .ok () w2 ∧ (Mem w2 p al (N + 1) (U.upd vs z v') (U.push s i z) ∧ w1.grownBy w2 (some p.mb)) := by
  have hlt : p.mb < w.heap.size := h.map.lt
  have hmr : p.mb < p.R := h.ord.2.2.2.2.2
  have hb : w1.heap[p.mb]? = w.heap[p.mb]? := hg.block _ hlt (fun e => by have := (h.rowlt e.symm).1; omega)
  obtain ⟨w2, hr, hm, hg2⟩ := (h.map.of_block hb).store Try.underlying71 hN hz v'
  exact ⟨w2, hr, h.push z i hg hown hv hat hm hg2, hg2⟩
theorem below_pushed {B0 : Nat} {w0 w3 w6 w7 W : World} {p : Bl} {al : Nat → Value} {N : Nat} {vs : Int → Value} {s : U.St} {z : Int} {va : Value} (hb : Below B0 w0 w3) (h : Mem w3 p al N vs s) (o : Obj) (hW : W.heap = (w3.alloc o).heap) (hos : W.os = w3.os) (htp : W.tape = w3.tape) (hou : W.output = w3.output) (hB : B0 ≤ p.B) (hs : B0 ≤ w3.heap.size) (hv : va = vs z) (hg : W.grownBy w6 va.ownBlock) (hg7 : w6.grownBy w7 (some p.mb)) : Below B0 w0 w7 := by
  subst hv
  have h1 := hb.alloc hs o
  have hW2 : Below B0 w0 W := ⟨hos.trans hb.os, htp.trans hb.tape, hou.trans hb.output, by rw [hW]; exact h1.size, fun k hk => by rw [hW]; exact h1.block k hk⟩
  have hsz : B0 ≤ W.heap.size := by rw [hW]; simp; omega
  have ho := h.ord
  exact (hW2.grown hg hsz (fun k hk => by have := (h.rowlt hk).1; omega)).grown hg7 (Nat.le_trans hsz hg.size) (fun k hk => by cases hk; omega)
end
end K
end Go.Proofs.Ytoffhaamkhfdeaa
