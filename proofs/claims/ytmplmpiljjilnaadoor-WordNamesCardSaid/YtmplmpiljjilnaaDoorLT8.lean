/- What the listed table gives a walk; a start that meets the condition. -/
import Derived.Test.YtmplmpiljjilnaaDoorRows
import Derived.Test.YtmplmpiljjilnaaDoorOA
import Derived.LaidMore
import Derived.LaidLaws
import Derived.LaidHandle
import Derived.MakeChecks
import Derived.Lib.LaidTab
import Derived.ChangeSame
import Derived.OpenShut
import Derived.Stop.LaidErr
import Derived.Stop.Joined
namespace Go.Proofs.YtmplmpiljjilnaaDoor
open Go Go.ChangeShapes Go.WideShapes Go.ChangeAt Go.RowKit
abbrev laid3 : List (String × DataW Unit) := [("weephole/op.operators", Rows.laid_weephole_op_operators)]
theorem door_met (os : Os) (args : Array Value) : laidMetH Tryd.prog laid3 ((World.doorLaid Tryd.prog 45 os).forCall (fun _ _ => 0) ⟨#[], args, []⟩).memory :=
  laidMetH_of_parts3 (fuel := 8) (laidMet_of_run' 8 (by kernel_rfl) (by kernel_rfl)) (by kernel_rfl) (by kernel_rfl)
theorem gop : Tryd.prog.globalNamed "weephole/op.operators" = some 0 := by kernel_rfl
theorem op_data : (Rows.laid_weephole_op_operators : DataW Unit) = .agg ((List.range 22).map fun k => .agg [.lit (.int .i64 (L.arL.getD k 0)), .lit (.string (L.nameL.getD k []))]) := by kernel_rfl
theorem tab_of_laid {W : World} (h : laidMetH Tryd.prog laid3 W) : L.OpTab W := by
  rw [MakeChecks.laidMetH_plain _ _ _ (by kernel_rfl)] at h
  obtain ⟨ps, ⟨g', t', cs, fuel, p, q, hg', ht', hvar, hd, _, _⟩, _⟩ := h
  obtain rfl := Option.some.inj (gop.symm.trans hg')
  obtain rfl := Option.some.inj ((show (Tryd.prog.globals[0]?).map (·.type) = some 68 by kernel_rfl).symm.trans ht')
  rw [op_data] at hd
  obtain ⟨xs, m, rfl, hx, hlen, hxl, hf⟩ := DataW.trod_array Tryd.underlying68 hd
  have hc2 : Tryd.prog.cellsOf 67 = 2 := by kernel_rfl
  rw [hc2] at hf
  have hxs : xs.map (·.1) = (List.range 22).map fun k => (.agg [.lit (.int .i64 (L.arL.getD k 0)), .lit (.string (L.nameL.getD k []))] : DataW Unit) := by
    have := congrArg Prod.fst hx
    simpa using this.symm
  have hl44 : cs.toList.length = 44 := by rw [hlen]; kernel_rfl
  intro k hk
  have h1 := hf k hk
  obtain ⟨x, hxk⟩ : ∃ x, xs[k]? = some x := ⟨xs[k]'(by omega), List.getElem?_eq_getElem (by omega)⟩
  have h2 : (xs.map (·.1))[k]? = some (.agg [.lit (.int .i64 (L.arL.getD k 0)), .lit (.string (L.nameL.getD k []))] : DataW Unit) := by
    rw [hxs]; simp [hk]
  rw [List.getElem?_map, hxk] at h2
  simp only [Option.map_some, Option.some.injEq] at h2
  rw [hxk] at h1
  obtain ⟨y0, y1, n, rfl, hl2, hy0, hy1⟩ := trod_struct2 (show Tryd.prog.underlying 67 = some (.struct _) from Tryd.underlying67) h1
  obtain ⟨z, hz, rfl, _⟩ := DataW.trod_int Tryd.underlying3 hy0
  obtain ⟨s, hs, rfl, _⟩ := DataW.trod_string Tryd.underlying9 hy1
  simp at h2
  obtain ⟨rfl, h3⟩ := h2
  have q1 : Tryd.prog.cellsOf 3 = 1 := by kernel_rfl
  have q2 : Tryd.prog.cellsOf 9 = 1 := by kernel_rfl
  simp only [q1, q2] at hz hs
  have a1 : cs.toList[k * 2]? = some (Value.int .i64 (L.arL.getD k 0)) := by
    have := congrArg (·[0]?) hz
    simpa [List.getElem?_take, List.getElem?_drop] using this
  have a2 : cs.toList[k * 2 + 1]? = some (L.str (L.nameL.getD k [])) := by
    have := congrArg (·[0]?) hs
    have h4 : s = ⟨(L.nameL.getD k []).toArray⟩ := by
      obtain ⟨⟨b⟩⟩ := s
      simp at h3
      rw [h3]; simp
    rw [h4] at this
    simpa [List.getElem?_take, List.getElem?_drop, L.str] using this
  exact ⟨(World.var?_cell gop hvar _).trans (by simpa using a1), (World.var?_cell gop hvar _).trans (by simpa using a2)⟩
end Go.Proofs.YtmplmpiljjilnaaDoor
