/- The laws' calculator: with, of, trim. -/
import Derived.Test.YtmplmpiljjilnaaDoorQL
namespace Go.Proofs.YtmplmpiljjilnaaDoor
open Go.RowKit
open L
namespace W9
set_option maxRecDepth 100000

abbrev calcC (W : Nat) : Array Value := #[.int .i64 (W : Int), .bool false]
/-- A world of a law behind w0: the calculator in block b, nothing bad; the table; what lies below. -/
structure St (w0 : World) (b W : Nat) (w : World) : Prop where
  below : Below w0.heap.size w0 w
  box : w.heap[b]? = some (.cells (calcC W) 48 (0, 0))
  tab : OpTab w
  own : w0.heap.size ≤ b
theorem St.lt {w0 w : World} {b W : Nat} (h : St w0 b W w) : b < w.heap.size := by
  have h := h.box
  by_cases hb : b < w.heap.size
  · exact hb
  · rw [Array.getElem?_eq_none (by omega)] at h; cases h
theorem St.next {w0 w w' : World} {b W : Nat} (h : St w0 b W w) (hb : Below w.heap.size w w') : St w0 b W w' :=
  ⟨h.below.trans (hb.mono h.below.size), (hb.block b h.lt).trans h.box, h.tab.below hb, h.own⟩
theorem St.cell0 {w0 w : World} {b W : Nat} (h : St w0 b W w) : w.cell? ⟨b, 0, none⟩ = some (.int .i64 (W : Int)) := cell_of_row w b 0 _ _ (0, 0) h.box
theorem St.cell1 {w0 w : World} {b W : Nat} (h : St w0 b W w) : w.cell? ⟨b, 1, none⟩ = some (.bool false) := cell_of_row w b 1 _ _ (0, 0) h.box
theorem St.froz {w0 w : World} {b W : Nat} (h : St w0 b W w) (j : Nat) : w.frozen? ⟨b, j, none⟩ = false := frozen_of_row w b j _ _ h.box
/-- Storing what is there changes nothing. -/
theorem St.same {w0 w : World} {b W : Nat} (h : St w0 b W w) : St w0 b W (w.setCell ⟨b, 1, none⟩ (.bool false)) := by
  have hb := heap_setCell_same w b 1 _ _ (.bool false) h.box
  have h2 : ∀ k, (w.setCell ⟨b, 1, none⟩ (.bool false)).heap[k]? = w.heap[k]? := fun k => by
    by_cases hk : k = b
    · subst hk; rw [hb, h.box]; rfl
    · exact Below.heap_setCell _ _ _ _ hk
  refine h.next ⟨rfl, rfl, rfl, by simp [World.setCell], fun k _ => h2 k⟩

theorem apE_ok {o W : Nat} {l : List Nat} (h1 : 1 ≤ W) (h2 : W ≤ 64) (o1 : 2 ≤ o) (o2 : o ≤ 21) (hl : (l.length : Int) = arA o) : apE o W l = 0 := by
  have h : chkE (W : Int) = 0 := if_neg (by omega)
  rw [apE_good h]
  unfold tkE
  rw [if_neg (by omega), if_pos hl]

set_option maxHeartbeats 1000000 in
theorem with_any (k : Nat) (w : World) (hk : k < 256) (hT : OpTab w) :
    Calls Tryd.prog 23 #[.int .u8 (k : Int)] w fun e w' => ∃ b, e = .returned (.pointer (some ⟨b, 0, none⟩)) ∧ St w b (1 + k % 64) w' := by
  have e1 : (1 : Int) + (k : Int) % 64 = ((1 + k % 64 : Nat) : Int) := by omega
  have e2 : IntKind.i64.wrap (1 + (k : Int) % 64) = ((1 + k % 64 : Nat) : Int) := by rw [IntKind.wrap_i64]; omega
  have HT := Lib.hid hT
  clear hT
  generalize 1 + k % 64 = m at *
  go_enter Tryd.func23, Tryd.ntmps23
  go_wp2
  go_ret
  exact ⟨_, rfl, ⟨below_box _ _, Deep.blk_alloc_new w _, HT.out.below (below_box _ _), Nat.le_refl _⟩⟩

set_option maxHeartbeats 1000000 in
theorem of_any (w0 w : World) (b W o : Nat) (l : List Nat) (v : Value) (ho : o < 256) (hS : St w0 b W w) (hv : Words w v l) (he : apE o W l = 0) :
    Calls Tryd.prog 25 #[.pointer (some ⟨b, 0, none⟩), .int .u8 (o : Int), v] w fun e w' => e = .returned (uv (apV o W l)) ∧ St w0 b W w' := by
  have C := apply_any o W l v w ho hS.tab hv
  rw [he] at C
  have HC := Lib.hid C
  have HS := Lib.hid hS
  have c0 := hS.cell0
  clear C he hv
  clear hS
  generalize apV o W l = q at *
  go_enter Tryd.func25, Tryd.ntmps25
  go_wp2_with (go_at_call 13; refine (HC.out).mono ?_; rintro e w1 ⟨rfl, hb⟩; refine Hid.out ?_)
  have S1 := HS.out.next hb
  have HS1 := Lib.hid S1
  have c1 := S1.cell1
  have f1 := S1.froz 1
  clear S1 hb
  refine Lib.hid ?_
  go_wp2
  go_ret
  exact ⟨rfl, HS1.out.same⟩
set_option maxHeartbeats 1000000 in
theorem ctrim_any (w0 w : World) (b W v : Nat) (h1 : 1 ≤ W) (h2 : W ≤ 64) (hS : St w0 b W w) (hv : v < 18446744073709551616) :
    Calls Tryd.prog 26 #[.pointer (some ⟨b, 0, none⟩), uv v] w fun e w' => e = .returned (uv (v % 2 ^ W)) ∧ St w0 b W w' := by
  have C := trimW_any W v hv w
  have h : chkE (W : Int) = 0 := if_neg (by omega)
  rw [show tmV W v = v % 2 ^ W from if_pos h, h] at C
  have HC := Lib.hid C
  have HS := Lib.hid hS
  have c0 := hS.cell0
  have c1 := hS.cell1
  have f1 := hS.froz 1
  clear C h hS
  generalize v % 2 ^ W = q at *
  go_enter Tryd.func26, Tryd.ntmps26
  go_wp2_with (go_at_call 16; refine (HC.out).mono ?_; rintro e w1 ⟨rfl, rfl⟩)
  go_ret
  exact ⟨rfl, HS.out.same⟩
theorem St.known {w0 w : World} {b W : Nat} (h : St w0 b W w) :
    Calls Tryd.prog 12 #[] w fun e w' => e = .returned (.bool true) ∧ St w0 b W w' :=
  (known9_any w h.tab).mono fun _ _ ⟨h1, h2⟩ => ⟨h1, h.next h2⟩

/-- The result of an operator for any numbers: they are taken modulo 2^W. -/
def wd (W o x y z : Nat) : Nat := ap W W o (x % 2 ^ W) (y % 2 ^ W) (z % 2 ^ W)
theorem wd_lt {W o x y z : Nat} (h1 : 1 ≤ W) : wd W o x y z < 2 ^ W := ap_lt h1 (Nat.mod_lt _ (pow_pos W)) (Nat.mod_lt _ (pow_pos W)) (Nat.mod_lt _ (pow_pos W))
theorem apV_wd {o W : Nat} {l : List Nat} (h : apE o W l = 0) : apV o W l = wd W o (l.getD 0 0) (l.getD 1 0) (l.getD 2 0) := by
  rw [apV_good h]; rfl
/-! The calls as the laws write them: the arguments in a new row. -/
section
variable {w0 w : World} {b W o x y z : Nat}
theorem of1 (hS : St w0 b W w) (h1 : 1 ≤ W) (h2 : W ≤ 64) (ho : 2 ≤ o ∧ o ≤ 3) (hx : x < 18446744073709551616) :
    Calls Tryd.prog 25 #[.pointer (some ⟨b, 0, none⟩), .int .u8 (o : Int), .slice (some ⟨w.heap.size, 0, none⟩) 1 1] (w.alloc (.cells #[uv x] 24)) fun e w' => e = .returned (uv (wd W o x 0 0)) ∧ St w0 b W w' := by
  have he : apE o W [x] = 0 := apE_ok h1 h2 (by omega) (by omega) (by
    have : o = 2 ∨ o = 3 := by omega
    rcases this with rfl | rfl <;> rfl)
  have := of_any w0 _ b W o [x] _ (by omega) (hS.next (below_box w (.cells #[uv x] 24))) (words1 w 24 hx) he
  rw [apV_wd he] at this
  exact this
theorem ar2 (o : Nat) (h : 4 ≤ o ∧ o ≤ 20) : arA o = 2 := by
  have : ∀ o : Fin 21, 4 ≤ o.val → arA o.val = 2 := by decide +kernel
  exact this ⟨o, by omega⟩ h.1
theorem of2 (hS : St w0 b W w) (h1 : 1 ≤ W) (h2 : W ≤ 64) (ho : 4 ≤ o ∧ o ≤ 20) (hx : x < 18446744073709551616) (hy : y < 18446744073709551616) :
    Calls Tryd.prog 25 #[.pointer (some ⟨b, 0, none⟩), .int .u8 (o : Int), .slice (some ⟨w.heap.size, 0, none⟩) 2 2] (w.alloc (.cells #[uv x, uv y] 24)) fun e w' => e = .returned (uv (wd W o x y 0)) ∧ St w0 b W w' := by
  have he : apE o W [x, y] = 0 := apE_ok h1 h2 (by omega) (by omega) (by rw [ar2 o ho]; rfl)
  have := of_any w0 _ b W o [x, y] _ (by omega) (hS.next (below_box w (.cells #[uv x, uv y] 24))) (words2 w 24 hx hy) he
  rw [apV_wd he] at this
  exact this
end

/-! The same as functions of the world. -/
abbrev Of1C (w0 : World) (b W : Nat) (o : Int) (x r : Nat) : Prop := ∀ w1, St w0 b W w1 →
  Calls Tryd.prog 25 #[.pointer (some ⟨b, 0, none⟩), .int .u8 o, .slice (some ⟨w1.heap.size, 0, none⟩) 1 1] (w1.alloc (.cells #[.int .u64 (x : Int)] 24)) fun e w' => e = .returned (.int .u64 (r : Int)) ∧ St w0 b W w'
abbrev Of2C (w0 : World) (b W : Nat) (o : Int) (x y : Value) (r : Nat) : Prop := ∀ w1, St w0 b W w1 →
  Calls Tryd.prog 25 #[.pointer (some ⟨b, 0, none⟩), .int .u8 o, .slice (some ⟨w1.heap.size, 0, none⟩) 2 2] (w1.alloc (.cells #[x, y] 24)) fun e w' => e = .returned (.int .u64 (r : Int)) ∧ St w0 b W w'
abbrev TrC (w0 : World) (b W : Nat) (x : Value) (r : Nat) : Prop := ∀ w1, St w0 b W w1 →
  Calls Tryd.prog 26 #[.pointer (some ⟨b, 0, none⟩), x] w1 fun e w' => e = .returned (.int .u64 (r : Int)) ∧ St w0 b W w'
section
variable {w0 : World} {b W : Nat}
theorem of1c (o x : Nat) (h1 : 1 ≤ W) (h2 : W ≤ 64) (ho : 2 ≤ o ∧ o ≤ 3) (hx : x < 18446744073709551616) : Of1C w0 b W (o : Int) x (wd W o x 0 0) := fun _ h => of1 h h1 h2 ho hx
theorem of2c (o x y : Nat) (h1 : 1 ≤ W) (h2 : W ≤ 64) (ho : 4 ≤ o ∧ o ≤ 20) (hx : x < 18446744073709551616) (hy : y < 18446744073709551616) : Of2C w0 b W (o : Int) (uv x) (uv y) (wd W o x y 0) := fun _ h => of2 h h1 h2 ho hx hy
theorem trc (x : Nat) (h1 : 1 ≤ W) (h2 : W ≤ 64) (hx : x < 18446744073709551616) : TrC w0 b W (uv x) (x % 2 ^ W) := fun w1 h => ctrim_any w0 w1 b W x h1 h2 h hx
theorem wd64 {o x y z : Nat} (h1 : 1 ≤ W) (h2 : W ≤ 64) : wd W o x y z < 18446744073709551616 := lt64 h2 (wd_lt h1)
theorem md64 {x : Nat} (h2 : W ≤ 64) : x % 2 ^ W < 18446744073709551616 := lt64 h2 (Nat.mod_lt _ (pow_pos W))
end
end W9
end Go.Proofs.YtmplmpiljjilnaaDoor
