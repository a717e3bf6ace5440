/- Contract of known: the clause of three literals. -/
import Derived.Test.YtoffhaamkhfdeaaE
namespace Go.Proofs.Ytoffhaamkhfdeaa
open Go.RowKit
namespace L
open K

theorem ints_lit (w : World) (l : List Int) (cs : Array Value) (n b : Nat) (hb : b = w.heap.size) (h : cs = (l.map (Value.int .i64)).toArray) (hn : n = l.length) (hm : l.length * 8 ≤ 140737488351232) : Ints (w.alloc (.cells cs 3)) (.slice (some ⟨b, 0, none⟩) n n) l := by
  subst h; subst hn; subst hb
  refine ⟨_, l.length, rfl, Nat.le_refl _, hm, fun _ => ⟨_, _, rfl, fun j hj => ?_⟩⟩
  rw [World.cell?_alloc_at _ _ _ _ rfl]
  simp [List.getD, hj]
theorem bools_lit (w : World) (l : List Bool) (cs : Array Value) (n b : Nat) (T : TypeId) (hb : b = w.heap.size) (h : cs = (l.map Value.bool).toArray) (hn : n = l.length) (hm : l.length ≤ 140737488351232) : Bools (w.alloc (.cells cs T)) (.slice (some ⟨b, 0, none⟩) n n) l := by
  subst h; subst hn; subst hb
  refine ⟨_, l.length, rfl, Nat.le_refl _, hm, fun _ => ⟨_, _, rfl, fun j hj => ?_⟩⟩
  rw [World.cell?_alloc_at _ _ _ _ rfl]
  simp [List.getD, hj]

end L
end Go.Proofs.Ytoffhaamkhfdeaa
