/- Contract of Model. -/
import Derived.Test.YtddmanphhfjngaaDoorYB
namespace Go.Proofs.YtddmanphhfjngaaDoor
open Go.RowKit
namespace L
open K

theorem info4 : (Tryd.prog.info? 4).map (fun i => (i.zero, i.size, i.bytes)) = some (some (.bool false), 1, 1) := by kernel_rfl

theorem owns_bools {w : World} {base : Nat} {v : Value} {l : List Bool} (h : w.ownsRow base 4 1 v l.length (l.map Value.bool)) (hm : l.length ≤ 140737488351232) : Bools w v l := by
  rcases h.2 with ⟨rfl, h0⟩ | ⟨g, cap, cur, rfl, hb, hg, hn, hcap, hsz, htake⟩
  · exact ⟨none, 0, by rw [h0], by omega, hm, fun h => by omega⟩
  · refine ⟨some ⟨g, 0, none⟩, cap, rfl, hn, hm, fun _ => ⟨g, 0, rfl, fun j hj => ?_⟩⟩
    have := h.cellAt j (by omega)
    rw [Nat.zero_add, this]
    simp [List.getD, hj]

/-- The value of a variable. -/
def modelB (b : Int) (i : Nat) : Bool := bits BinOp.and IntKind.u16 (b / 2 ^ min i 16) 1 == 1
def modelR (n : Nat) (b : Int) : List Bool := (List.range n).map (modelB b)
theorem modelR_len (n : Nat) (b : Int) : (modelR n b).length = n := by simp [modelR]
theorem modelR_of {n : Nat} {b : Int} {bs : List Bool} (hl : bs.length = n) (h : ∀ j, j < n → bs.getD j false = modelB b j) : bs = modelR n b := by
  refine List.ext_getElem (by simp [modelR, hl]) fun i h1 h2 => ?_
  have := h i (by omega)
  simp only [List.getD_eq_getElem?_getD, List.getElem?_eq_getElem h1, Option.getD_some] at this
  simpa [modelR] using this

end L
end Go.Proofs.YtddmanphhfjngaaDoor
