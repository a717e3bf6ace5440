/- word.takes, word.Apply. -/
import Derived.Test.YtmplmpiljjilnaaDoorQD
import Derived.Test.YtmplmpiljjilnaaDoorOB
namespace Go.Proofs.YtmplmpiljjilnaaDoor
open Go.RowKit
open L
namespace W9
set_option maxRecDepth 100000

/-- A slice value that reads as a list of words of 64 bits. -/
def Words (w : World) (v : Value) (l : List Nat) : Prop :=
  ∃ p cap, v = .slice p l.length cap ∧ l.length ≤ cap ∧ l.length ≤ 1000000 ∧ (∀ x ∈ l, x < 18446744073709551616) ∧ (0 < l.length → ∃ b off, p = some ⟨b, off, none⟩ ∧ ∀ j, j < l.length → w.cell? ⟨b, off + j, none⟩ = some (.int .u64 ((l.getD j 0 : Nat) : Int)))
theorem Words.below {w w' : World} {v : Value} {l : List Nat} (h : Words w v l) (hb : Below w.heap.size w w') : Words w' v l := by
  obtain ⟨p, cap, hv, hl, hm, hx, hc⟩ := h
  refine ⟨p, cap, hv, hl, hm, hx, fun h0 => ?_⟩
  obtain ⟨b, off, hp, hc⟩ := hc h0
  exact ⟨b, off, hp, fun j hj => (hb.cell (p := ⟨b, off + j, none⟩) (World.block_lt_of_cell? _ _ (hc j hj))).trans (hc j hj)⟩
theorem getD_lt {l : List Nat} (h : ∀ x ∈ l, x < 18446744073709551616) (j : Nat) : l.getD j 0 < 18446744073709551616 := by
  by_cases hj : j < l.length
  · rw [List.getD_eq_getElem?_getD, List.getElem?_eq_getElem hj]; exact h _ (List.getElem_mem hj)
  · rw [List.getD_eq_getElem?_getD, List.getElem?_eq_none (by omega)]; decide

/-! A world that is as 'w' below a block: regions that draw and whose callees allocate. -/
structure Later (B : Nat) (w : World) where
  W : World
  ok : Below B w W
instance (B : Nat) (w : World) : Nonempty (Later B w) := ⟨⟨w, Below.refl _ _⟩⟩
theorem wp_region_later {P : Program} {B : Nat} {w0 : World} {id : Nat} {Q : Exit → Act → World → Prop} {a : Act} {w : World} {l : List Oper} (hm : P.follows .mixedOrders = true) (hB : Region.lexB .any l.toArray = true) (hC : Below B w0 w)
    (h : wpQuiet P l.toArray (fun w' => ∃ x : Later B w0, w' = x.W) (fun a' => ∀ w', (∃ x : Later B w0, w' = x.W) → Q .normal a' w') l a) : (Code.region id l.toArray true).wp P Q a w :=
  wp_region_quiet hm hB ⟨⟨_, hC.drew⟩, rfl⟩ h
theorem later_of {P : Program} {B : Nat} {w0 : World} {f : FuncId} {args : Array Value} {v : Value} (x : Later B w0) (h : Calls P f args x.W fun e w' => e = .returned v ∧ Below B x.W w') :
    Calls P f args x.W fun e w'' => e = .returned v ∧ ∃ y : Later B w0, w'' = y.W :=
  h.mono fun _ _ ⟨he, hb⟩ => ⟨he, ⟨_, x.ok.trans hb⟩, rfl⟩
theorem later_mono {P : Program} {B : Nat} {w0 : World} {f : FuncId} {args : Array Value} {v : Value} (x : Later B w0) (hB : B ≤ w0.heap.size) (h : Calls P f args x.W fun e w' => e = .returned v ∧ Below x.W.heap.size x.W w') :
    Calls P f args x.W fun e w'' => e = .returned v ∧ ∃ y : Later B w0, w'' = y.W :=
  later_of x (h.mono fun _ _ ⟨he, hb⟩ => ⟨he, hb.mono (Nat.le_trans hB x.ok.size)⟩)
theorem later_same {P : Program} {B : Nat} {w0 : World} {f : FuncId} {args : Array Value} {v : Value} (x : Later B w0) (h : Calls P f args x.W fun e w' => e = .returned v ∧ x.W = w') :
    Calls P f args x.W fun e w'' => e = .returned v ∧ ∃ y : Later B w0, w'' = y.W :=
  h.mono fun _ _ ⟨he, hb⟩ => ⟨he, x, hb.symm⟩
theorem cell_old {w : World} {o : Obj} {p : Addr} {x : Option Value} (h : p.block < w.heap.size) (hx : w.cell? p = x) : (w.alloc o).cell? p = x := (((Below.refl _ w).alloc (Nat.le_refl _) o).cell h).trans hx

theorem tk_eq (o n : Nat) (ho : o < 256) : (o < 2 ∧ tkE o n = 3) ∨ (21 < o ∧ tkE o n = 3) ∨ (2 ≤ o ∧ o ≤ 21 ∧ arE o = 0 ∧ tkE o n = if (n : Int) = arA o then 0 else 2) := by
  by_cases h1 : o < 2
  · exact .inl ⟨h1, by unfold tkE; rw [if_pos (.inl h1)]⟩
  · by_cases h2 : 21 < o
    · exact .inr (.inl ⟨h2, by unfold tkE; rw [if_pos (.inr h2)]⟩)
    · exact .inr (.inr ⟨by omega, by omega, by unfold arE; rw [if_pos (by omega)], by unfold tkE; rw [if_neg (by omega)]⟩)

set_option maxHeartbeats 1000000 in
theorem takes_any (o n : Nat) (ho : o < 256) (w : World) (hT : OpTab w) :
    Calls Tryd.prog 28 #[.int .u8 (o : Int), .int .i64 (n : Int)] w fun e w' => e = .returned (.int .i64 (tkE o n)) ∧ w = w' := by
  have C := Lib.hid (arity_any o w ho hT)
  rcases tk_eq o n ho with ⟨h1, e⟩ | ⟨h1, e⟩ | ⟨h1, h2, h3, e⟩ <;> rw [e] <;> clear e
  · have h : (o : Int) < 2 := by omega
    go_enter Tryd.func28, Tryd.ntmps28
    go_wp2
    go_ret
    exact ⟨rfl, rfl⟩
  · have h : ¬ (o : Int) < 2 := by omega
    have h' : (o : Int) > 21 := by omega
    go_enter Tryd.func28, Tryd.ntmps28
    go_wp2
    go_ret
    exact ⟨rfl, rfl⟩
  · have h : ¬ (o : Int) < 2 := by omega
    have h' : ¬ (o : Int) > 21 := by omega
    rw [h3] at C
    generalize arA o = q at *
    by_cases hq : (n : Int) = q
    · have e2 : ((n : Int) != q) = false := by simp [hq]
      rw [if_pos hq]
      clear hq h3 h1 h2
      go_enter Tryd.func28, Tryd.ntmps28
      go_wp2_with (go_at_call 27; refine (C.out).mono ?_; rintro e w' ⟨rfl, rfl⟩)
      go_ret
      exact ⟨rfl, rfl⟩
    · have e2 : ((n : Int) != q) = true := by simp [hq]
      rw [if_neg hq]
      clear hq h3 h1 h2
      go_enter Tryd.func28, Tryd.ntmps28
      go_wp2_with (go_at_call 27; refine (C.out).mono ?_; rintro e w' ⟨rfl, rfl⟩)
      go_ret
      exact ⟨rfl, rfl⟩

/-- Each operator's function, and what it answers. -/
def fnL : List Nat := [0, 0, 36, 37, 38, 39, 40, 41, 42, 43, 44, 45, 46, 47, 48, 49, 50, 51, 52, 53, 54, 55]
theorem cases20 {p : Nat → Prop} (h2 : p 2) (h3 : p 3) (h4 : p 4) (h5 : p 5) (h6 : p 6) (h7 : p 7) (h8 : p 8) (h9 : p 9) (h10 : p 10) (h11 : p 11) (h12 : p 12) (h13 : p 13) (h14 : p 14) (h15 : p 15) (h16 : p 16) (h17 : p 17) (h18 : p 18) (h19 : p 19) (h20 : p 20) (h21 : p 21) (o : Nat) (a : 2 ≤ o) (b : o ≤ 21) : p o := by
  have : o = 2 ∨ o = 3 ∨ o = 4 ∨ o = 5 ∨ o = 6 ∨ o = 7 ∨ o = 8 ∨ o = 9 ∨ o = 10 ∨ o = 11 ∨ o = 12 ∨ o = 13 ∨ o = 14 ∨ o = 15 ∨ o = 16 ∨ o = 17 ∨ o = 18 ∨ o = 19 ∨ o = 20 ∨ o = 21 := by omega
  rcases this with rfl | rfl | rfl | rfl | rfl | rfl | rfl | rfl | rfl | rfl | rfl | rfl | rfl | rfl | rfl | rfl | rfl | rfl | rfl | rfl <;> assumption
theorem op_any (o W a b c : Nat) (h1 : 1 ≤ W) (h2 : W ≤ 64) (ha : a < 2 ^ W) (hb : b < 2 ^ W) (o1 : 2 ≤ o) (o2 : o ≤ 21) (w : World) :
    Calls Tryd.prog (fnL.getD o 0) #[opnd W a b c] w fun e w' => e = .returned (.int .u64 ((ap W 64 o a b c : Nat) : Int)) ∧ Below w.heap.size w w' :=
  cases20 (p := fun o => Calls Tryd.prog (fnL.getD o 0) #[opnd W a b c] w fun e w' => e = .returned (.int .u64 ((ap W 64 o a b c : Nat) : Int)) ∧ Below w.heap.size w w')
    (op2_any W a b c h1 h2 ha hb w) (op3_any W a b c h1 h2 ha hb w) (op4_any W a b c h1 h2 ha hb w) (op5_any W a b c h1 h2 ha hb w) (op6_any W a b c h1 h2 ha hb w) (op7_any W a b c h1 h2 ha hb w) (op8_any W a b c h1 h2 ha hb w) (op9_any W a b c h1 h2 ha hb w) (op10_any W a b c h1 h2 ha hb w) (op11_any W a b c h1 h2 ha hb w) (op12_any W a b c h1 h2 ha hb w) (op13_any W a b c h1 h2 ha hb w) (op14_any W a b c h1 h2 ha hb w) (op15_any W a b c h1 h2 ha hb w) (op16_any W a b c h1 h2 ha hb w) (op17_any W a b c h1 h2 ha hb w) (op18_any W a b c h1 h2 ha hb w) (op19_any W a b c h1 h2 ha hb w) (op20_any W a b c h1 h2 ha hb w) (op21_any W a b c h1 h2 ha hb w) o o1 o2
theorem idx_any (o : Nat) (o1 : 2 ≤ o) (o2 : o ≤ 21) (w : World) :
    (Instr.index 62 (.agg tabL.toArray) (.int .u8 (o : Int))).run Tryd.prog w = .ok (.agg #[.func (.func (fnL.getD o 0)) #[] #[]]) w := by
  refine cases20 (p := fun o => (Instr.index 62 (.agg tabL.toArray) (.int .u8 (o : Int))).run Tryd.prog w = .ok (.agg #[.func (.func (fnL.getD o 0)) #[] #[]]) w) ?_ ?_ ?_ ?_ ?_ ?_ ?_ ?_ ?_ ?_ ?_ ?_ ?_ ?_ ?_ ?_ ?_ ?_ ?_ ?_ o o1 o2 <;> kernel_rfl
end W9
end Go.Proofs.YtmplmpiljjilnaaDoor
