/- The table of word's operators. -/
import Derived.Test.YtmplmpiljjilnaaDoorQC
import Derived.Deep.WholeRow
namespace Go.Proofs.YtmplmpiljjilnaaDoor
open Go.RowKit
open L
namespace W9
set_option maxRecDepth 100000

def tabL : List Value := [.nilFunc, .nilFunc, .func (.func 36) #[] #[], .func (.func 37) #[] #[], .func (.func 38) #[] #[], .func (.func 39) #[] #[], .func (.func 40) #[] #[], .func (.func 41) #[] #[], .func (.func 42) #[] #[], .func (.func 43) #[] #[], .func (.func 44) #[] #[], .func (.func 45) #[] #[], .func (.func 46) #[] #[], .func (.func 47) #[] #[], .func (.func 48) #[] #[], .func (.func 49) #[] #[], .func (.func 50) #[] #[], .func (.func 51) #[] #[], .func (.func 52) #[] #[], .func (.func 53) #[] #[], .func (.func 54) #[] #[], .func (.func 55) #[] #[]]
def zerL : List Value := [.nilFunc, .nilFunc, .nilFunc, .nilFunc, .nilFunc, .nilFunc, .nilFunc, .nilFunc, .nilFunc, .nilFunc, .nilFunc, .nilFunc, .nilFunc, .nilFunc, .nilFunc, .nilFunc, .nilFunc, .nilFunc, .nilFunc, .nilFunc, .nilFunc, .nilFunc]
theorem info62 : (Tryd.prog.info? 62).map (·.size) = some 22 := by kernel_rfl
theorem arr62 : Tryd.prog.underlying 62 = some (.array 22 61) := by kernel_rfl
theorem res_cell9 {fn : Func} {t : Tmp} {T : TypeId} (h : fn.results = #[.cell t T]) {tmps : Array Value} {P : Program} {w : World} {a : Addr} {v : Value} (ht : tmps.getD t undef = .pointer (some a)) (hl : (loadVar T a).run P w = .ok v w) : (results fn tmps).run P w = .ok v w := by
  have ht' : tmps[t]?.getD undef = .pointer (some a) := by simpa using ht
  simp [results, h, ht', hl, asAddr]

theorem andThen_unit (x : Result Unit) : x.andThen (fun _ w => .ok () w) = x := by cases x <;> rfl
set_option maxHeartbeats 1000000 in
theorem table_any (w : World) :
    Calls Tryd.prog 30 #[] w fun e w' => e = .returned (.agg tabL.toArray) ∧ Below w.heap.size w w' := by
  have hst := run_storeCells_new (P := Tryd.prog) w 62 zerL.toArray tabL.toArray info62 rfl (by decide +kernel)
  have hld := run_loadVar_new (P := Tryd.prog) w 62 tabL.toArray 22 61 arr62 info62
  have HL := Lib.hid hld
  clear hld
  replace hst : (storeCells ⟨w.heap.size, 0, none⟩ [.nilFunc, .nilFunc, .func (.func 36) #[] #[], .func (.func 37) #[] #[], .func (.func 38) #[] #[], .func (.func 39) #[] #[], .func (.func 40) #[] #[], .func (.func 41) #[] #[], .func (.func 42) #[] #[], .func (.func 43) #[] #[], .func (.func 44) #[] #[], .func (.func 45) #[] #[], .func (.func 46) #[] #[], .func (.func 47) #[] #[], .func (.func 48) #[] #[], .func (.func 49) #[] #[], .func (.func 50) #[] #[], .func (.func 51) #[] #[], .func (.func 52) #[] #[], .func (.func 53) #[] #[], .func (.func 54) #[] #[], .func (.func 55) #[] #[]] 0).run Tryd.prog (w.alloc (.cells #[.nilFunc, .nilFunc, .nilFunc, .nilFunc, .nilFunc, .nilFunc, .nilFunc, .nilFunc, .nilFunc, .nilFunc, .nilFunc, .nilFunc, .nilFunc, .nilFunc, .nilFunc, .nilFunc, .nilFunc, .nilFunc, .nilFunc, .nilFunc, .nilFunc, .nilFunc] 62)) = .ok () (w.alloc (.cells tabL.toArray 62)) := hst
  simp only [storeCells, Sem.run_bind, Sem.run_pure, Addr.add, Nat.zero_add, Nat.reduceAdd, ↓reduceIte, Nat.succ_ne_self, Nat.reduceEqDiff, andThen_unit] at hst
  have HS := Lib.hid hst
  clear hst
  go_enter Tryd.func30, Tryd.ntmps30
  go_wp2
  rw [HS.out]
  go_wp2
  (try simp only [Exit.inBlock, Exit.then])
  refine bodyPost_ret (res_cell9 rfl rfl HL.out) rfl ?_
  exact ⟨rfl, below_box _ _⟩
end W9
end Go.Proofs.YtmplmpiljjilnaaDoor
