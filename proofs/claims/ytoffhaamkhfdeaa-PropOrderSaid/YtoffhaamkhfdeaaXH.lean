/- Contracts of three and known. -/
import Derived.Test.YtoffhaamkhfdeaaXG
namespace Go.Proofs.Ytoffhaamkhfdeaa
open Go.RowKit
namespace K
theorem res_cell {fn : Func} {t : Tmp} {T : TypeId} (h : fn.results = #[.cell t T]) {tmps : Array Value} {P : Program} {w : World} {a : Addr} {v : Value} (ht : tmps.getD t undef = .pointer (some a)) (hl : (loadVar T a).run P w = .ok v w) : (results fn tmps).run P w = .ok v w := by
  have ht' : tmps[t]?.getD undef = .pointer (some a) := by simpa using ht
  simp [results, h, ht', hl, asAddr]
theorem res_cell_tmp {fn : Func} {t u : Tmp} {T : TypeId} (h : fn.results = #[.cell t T, .tmp u]) {tmps : Array Value} {P : Program} {w : World} {a : Addr} {v : Value} (ht : tmps.getD t undef = .pointer (some a)) (hl : (loadVar T a).run P w = .ok v w) : (results fn tmps).run P w = .ok (.tuple #[v, tmps.getD u undef]) w := by
  have ht' : tmps[t]?.getD undef = .pointer (some a) := by simpa using ht
  simp [results, h, ht', hl, asAddr]
theorem cell_old {w : World} {o : Obj} {p : Addr} {x : Option Value} (h : p.block < w.heap.size) (hx : w.cell? p = x) : (w.alloc o).cell? p = x := (((Below.refl _ w).alloc (Nat.le_refl _) o).cell h).trans hx
theorem cell_new {w : World} {cs : Array Value} {T : TypeId} {b j : Nat} {x : Option Value} (h : b = w.heap.size) (hx : cs[j]? = x) : (w.alloc (.cells cs T)).cell? ⟨b, j, none⟩ = x := (World.cell?_alloc_at _ _ _ _ (by rw [h])).trans hx
end K
namespace L
open K

theorem three_ok : checkF 3 [[1, 2], [-1, 3], [-2, -3]] = 0 ∧ firstI [true, false, true] [[1, 2], [-1, 3], [-2, -3]] = -1 := by decide
theorem three_i64 : ∀ l ∈ [[1, 2], [-1, 3], [-2, -3]], ∀ x ∈ (l : List Int), I64 x := by simp [I64]

end L
end Go.Proofs.Ytoffhaamkhfdeaa
