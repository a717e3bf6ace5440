/- The heap's New. -/
import Derived.Test.YtenmgkomffnjaaaHI
import Derived.Test.YtenmgkomffnjaaaHJ
import Derived.Deep.OwnRows
import Derived.Laws.EntriesVeiled
import Derived.Deep.CutRange
import Derived.Deep.RegionHeld3
namespace Go.Proofs.Ytenmgkomffnjaaa
open Go.RowKit
namespace L
open K HP
set_option maxRecDepth 100000

theorem res_cell {fn : Func} {t : Tmp} {T : TypeId} (h : fn.results = #[.cell t T]) {tmps : Array Value} {P : Program} {w : World} {a : Addr} {v : Value} (ht : tmps.getD t undef = .pointer (some a)) (hl : (loadVar T a).run P w = .ok v w) : (results fn tmps).run P w = .ok v w := by
  have ht' : tmps[t]?.getD undef = .pointer (some a) := by simpa using ht
  simp [results, h, ht', hl, asAddr]
theorem cell_past {w : World} {o : Obj} {b j : Nat} (h : b < w.heap.size) : (w.alloc o).cell? ⟨b, j, none⟩ = w.cell? ⟨b, j, none⟩ := World.cell?_of_block (w := w) (Below.heap_alloc w o b h)
theorem cell_at {w : World} {cs : Array Value} {T : TypeId} {b j : Nat} (h : b = w.heap.size) : (w.alloc (.cells cs T)).cell? ⟨b, j, none⟩ = cs[j]? := (Box.at w T cs h).cell j
theorem cell_drew {w : World} {p : Addr} : w.drew.cell? p = w.cell? p := rfl
/-- What start has made, at the head of its loop. -/
def Start (n : Nat) (ga : Nat) (w w' : World) (v : Value) : Prop :=
  ∃ s : Spot, v = .pointer (some ⟨s.g, 0, none⟩) ∧ s.ga = ga ∧ s.ct = n ∧ Mem 60 w.heap.size w'.heap.size w' s (List.replicate n 0) [] (List.replicate n (-1)) ∧ Below w.heap.size w w'
section
variable {n ga : Nat} {w0 W w3 : World} {gq gt g3 : Nat}
theorem Box.drew {w : World} {b : Nat} {T : TypeId} {cs : Array Value} (h : Box w b T cs) : Box w.drew b T cs := h
theorem box4 {w : World} {b : Nat} {T : TypeId} {c0 c1 c2 c3 d0 d1 d2 d3 : Value} (h : Box w b T #[c0, c1, c2, c3]) :
    Box ((((w.setCell ⟨b, 0, none⟩ d0).setCell ⟨b, 1, none⟩ d1).setCell ⟨b, 2, none⟩ d2).setCell ⟨b, 3, none⟩ d3) b T #[d0, d1, d2, d3] := by
  have := (((h.set 0 d0).set 1 d1).set 2 d2).set 3 d3
  simpa using this
theorem four_other {w : World} {b k : Nat} {d0 d1 d2 d3 : Value} (h : k ≠ b) : ((((w.setCell ⟨b, 0, none⟩ d0).setCell ⟨b, 1, none⟩ d1).setCell ⟨b, 2, none⟩ d2).setCell ⟨b, 3, none⟩ d3).heap[k]? = w.heap[k]? := by
  rw [Deep.blk_setCell_other _ _ _ _ h, Deep.blk_setCell_other _ _ _ _ h, Deep.blk_setCell_other _ _ _ _ h, Deep.blk_setCell_other _ _ _ _ h]
theorem four_below {B b : Nat} {w0 w : World} {d0 d1 d2 d3 : Value} (h : Below B w0 w) (hB : B ≤ b) : Below B w0 ((((w.setCell ⟨b, 0, none⟩ d0).setCell ⟨b, 1, none⟩ d1).setCell ⟨b, 2, none⟩ d2).setCell ⟨b, 3, none⟩ d3) :=
  (((h.setCell (p := ⟨b, 0, none⟩) hB _).setCell (p := ⟨b, 1, none⟩) hB _).setCell (p := ⟨b, 2, none⟩) hB _).setCell (p := ⟨b, 3, none⟩) hB _
abbrev zeroQ : Array Value := #[.slice none 0 0, .nilFunc, .slice none 0 0, .slice none 0 0]
abbrev fullQ (n ga gt g3 : Nat) : Array Value := #[.slice (some ⟨ga, 0, none⟩) n n, .func (.func 30) #[] #[], .slice (some ⟨gt, 0, none⟩) 0 n, .slice (some ⟨g3, 0, none⟩) n n]

theorem start_of (hn : n ≤ 1048576) (hga : ga < w0.heap.size) (hown : w0.ownsRow 0 57 2 (.slice (some ⟨ga, 0, none⟩) n n) n (vcells (List.replicate n 0)))
    (hq : Box W gq 60 (fullQ n ga gt g3)) (ht : Box W gt 3 (madeCells #[.int .i64 0] n)) (hp : W.ownsRow w0.heap.size 3 1 (.slice (some ⟨g3, 0, none⟩) n n) n (icells (List.replicate n (-1))))
    (hb : Below w0.heap.size w0 W) (h1 : w0.heap.size ≤ gq) (h2 : w0.heap.size ≤ gt) (n1 : gq ≠ gt) (n2 : gq ≠ g3) (n3 : gt ≠ g3) : Start n ga w0 W (.pointer (some ⟨gq, 0, none⟩)) := by
  have h3 : w0.heap.size ≤ g3 ∧ g3 < W.heap.size := hp.lt _ rfl
  have hl : (List.replicate n (0 : Int)).length = n := by simp
  refine ⟨⟨gq, ga, gt, g3, n, n, n⟩, rfl, rfl, rfl, ⟨?_, ?_, ?_, ?_, by simp, h1, hq.lt, ?_, ht.lt, h3.2, Nat.le_refl _, ?_, n1, n2, ?_, ?_, n3, by rw [hl]; exact hn⟩, hb⟩
  · rw [hl]; exact hq
  · rw [hl]; exact owns_below hown hb (Nat.le_refl _)
  · exact ⟨rfl, .inr ⟨gt, n, _, rfl, by omega, ht, Nat.zero_le _, by unfold maxLen; omega, by rw [size_madeCells]; omega, by simp [ncells]⟩⟩
  · rw [hl]; exact hp
  · have := hb.size; show ga < _; omega
  · show gq ≠ ga; omega
  · show ga ≠ gt; omega
  · show ga ≠ g3; omega

variable (hn : n ≤ 1048576) (hga : ga < w0.heap.size) (hown : w0.ownsRow 0 57 2 (.slice (some ⟨ga, 0, none⟩) n n) n (vcells (List.replicate n 0)))
  (hb3 : Below W.heap.size W w3) (ho3 : w3.ownsRow W.heap.size 3 1 (.slice (some ⟨g3, 0, none⟩) n n) n (icells (List.replicate n (-1)))) (hbW : Below w0.heap.size w0 W)
include hn hga hown hb3 ho3 hbW
theorem start_A (hq : Box W gq 60 zeroQ) (ht : Box W gt 3 (madeCells #[.int .i64 0] n)) (n1 : gq ≠ gt) (h1 : w0.heap.size ≤ gq) (h2 : w0.heap.size ≤ gt) :
    Start n ga w0 ((((w3.setCell ⟨gq, 0, none⟩ (.slice (some ⟨ga, 0, none⟩) n n)).setCell ⟨gq, 1, none⟩ (.func (.func 30) #[] #[])).setCell ⟨gq, 2, none⟩ (.slice (some ⟨gt, 0, none⟩) 0 n)).setCell ⟨gq, 3, none⟩ (.slice (some ⟨g3, 0, none⟩) n n)) (.pointer (some ⟨gq, 0, none⟩)) := by
  have l1 := hq.lt
  have l2 := ht.lt
  have l3 : W.heap.size ≤ g3 ∧ g3 < w3.heap.size := ho3.lt _ rfl
  have e : Below w0.heap.size w0 w3 := hbW.trans (hb3.mono hbW.size)
  exact start_of hn hga hown (box4 (hq.below hb3 l1)) ((ht.below hb3 l2).of_block (four_other (fun e => n1 e.symm))) (owns_of_block (owns_base ho3 hbW.size) fun k hk => by cases hk; exact four_other (show g3 ≠ gq by omega)) (four_below e h1) h1 h2 n1 (by omega) (by omega)
theorem start_B (hq : Box W gq 60 zeroQ) (h1 : w0.heap.size ≤ gq) :
    Start n ga w0 (((((w3.setCell ⟨gq, 0, none⟩ (.slice (some ⟨ga, 0, none⟩) n n)).setCell ⟨gq, 1, none⟩ (.func (.func 30) #[] #[])).setCell ⟨gq, 2, none⟩ (.slice (some ⟨w3.heap.size, 0, none⟩) 0 n)).setCell ⟨gq, 3, none⟩ (.slice (some ⟨g3, 0, none⟩) n n)).alloc (.cells (madeCells #[.int .i64 0] n) 3)) (.pointer (some ⟨gq, 0, none⟩)) := by
  have l1 := hq.lt
  have l3 : W.heap.size ≤ g3 ∧ g3 < w3.heap.size := ho3.lt _ rfl
  have l4 := hb3.size
  have l5 := hbW.size
  have e : Below w0.heap.size w0 w3 := hbW.trans (hb3.mono hbW.size)
  refine start_of hn hga hown ((box4 (hq.below hb3 l1)).alloc _) (Box.at _ _ _ (by simp)) ((owns_of_block (owns_base ho3 hbW.size) fun k hk => by cases hk; exact four_other (show g3 ≠ gq by omega)).alloc _) ((four_below e h1).alloc (by simp; omega) _) h1 (by omega) (by omega) (by omega) (by omega)
theorem start_C (ht : Box W gt 3 (madeCells #[.int .i64 0] n)) (h2 : w0.heap.size ≤ gt) :
    Start n ga w0 (w3.alloc (.cells (fullQ n ga gt g3) 60)) (.pointer (some ⟨w3.heap.size, 0, none⟩)) := by
  have l2 := ht.lt
  have l3 : W.heap.size ≤ g3 ∧ g3 < w3.heap.size := ho3.lt _ rfl
  have l4 := hb3.size
  have l5 := hbW.size
  have e : Below w0.heap.size w0 w3 := hbW.trans (hb3.mono hbW.size)
  exact start_of hn hga hown (Box.new _ _ _) ((ht.below hb3 l2).alloc _) ((owns_base ho3 hbW.size).alloc _) (e.alloc (by omega) _) (by omega) h2 (by omega) (by omega) (by omega)
theorem start_D :
    Start n ga w0 ((w3.alloc (.cells (madeCells #[.int .i64 0] n) 3)).alloc (.cells (fullQ n ga w3.heap.size g3) 60)) (.pointer (some ⟨w3.heap.size + 1, 0, none⟩)) := by
  have l3 : W.heap.size ≤ g3 ∧ g3 < w3.heap.size := ho3.lt _ rfl
  have l4 := hb3.size
  have l5 := hbW.size
  have e : Below w0.heap.size w0 w3 := hbW.trans (hb3.mono hbW.size)
  exact start_of hn hga hown (Box.at _ _ _ (by simp)) ((Box.new _ _ _).alloc _) (((owns_base ho3 hbW.size).alloc _).alloc _) ((e.alloc (by omega) _).alloc (by simp; omega) _) (by omega) (by omega) (by omega) (by omega) (by omega)
theorem start_E :
    Start n ga w0 ((w3.alloc (.cells (fullQ n ga (w3.heap.size + 1) g3) 60)).alloc (.cells (madeCells #[.int .i64 0] n) 3)) (.pointer (some ⟨w3.heap.size, 0, none⟩)) := by
  have l3 : W.heap.size ≤ g3 ∧ g3 < w3.heap.size := ho3.lt _ rfl
  have l4 := hb3.size
  have l5 := hbW.size
  have e : Below w0.heap.size w0 w3 := hbW.trans (hb3.mono hbW.size)
  exact start_of hn hga hown ((Box.new _ _ _).alloc _) (Box.at _ _ _ (by simp)) (((owns_base ho3 hbW.size).alloc _).alloc _) ((e.alloc (by omega) _).alloc (by simp; omega) _) (by omega) (by omega) (by omega) (by omega) (by omega)
end

end L
end Go.Proofs.Ytenmgkomffnjaaa
