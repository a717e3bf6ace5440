/- Maps of the call's own whose elements are values as they are; the state of a propagation in memory. -/
import Derived.Test.YtoffhaamkhfdeaaYA
import Derived.Test.YtoffhaamkhfdeaaUD
import Derived.Maps.OwnSet
import Derived.Maps.AppendAt
import Derived.Conc.LoneCalls
import Derived.Conc.LoneSelectN
namespace Go.Proofs.Ytoffhaamkhfdeaa
open Go.RowKit Go.Conc
open Go.Maps (Keyed)
open Go.ChangeMaps Go.MapKept Go.Maps
namespace K
open L

theorem keyI : Keyed Try.prog 3 := Go.Maps.int_keyed Try.underlying3
theorem key_int {x : Int} (h : I64 x) : keyOf Try.prog 3 (.int .i64 x) = some (.int .i64 x) := keyOf_int_mk Try.underlying3 (WalkArith.wf_i64 h)

/-- An element reads as the value that it is. -/
def heldR (v : Value) : Option (DataW Value × List MemPlace) := some (.held v, [])
/-- Block b is a map of at most N entries, from ints: f says what a look-up gives; z: where there is no entry. -/
def MapV (w : World) (b N : Nat) (z : Value) (f : Int → Value) : Prop := ∃ D : DataW Value, w.ownsMap Try.prog 3 heldR b N D ∧ ∀ k, I64 k → D.atKey (.int .i64 k) (.held z) = .held (f k)

section
variable {w w' : World} {b N : Nat} {z : Value} {f : Int → Value} {t e : TypeId}
theorem MapV.made (w : World) (z : Value) : MapV (w.alloc (.map #[] 0)) w.heap.size 0 z (fun _ => z) := ⟨_, World.ownsMap_made w _ _ _, fun _ _ => rfl⟩
theorem MapV.made_at {w : World} {b : Nat} (hb : w.heap[b]? = some (.map #[] 0)) (z : Value) : MapV w b 0 z (fun _ => z) := ⟨.map [], ⟨#[], 0, hb, ⟨by simp, stamped_empty 0, by simp⟩, Nat.le_refl _, rfl⟩, fun k _ => rfl⟩
theorem MapV.lt (h : MapV w b N z f) : b < w.heap.size := by obtain ⟨D, h, _⟩ := h; exact h.lt
theorem MapV.of_block (h : MapV w b N z f) (e : w'.heap[b]? = w.heap[b]?) : MapV w' b N z f := by
  obtain ⟨D, ⟨es, clock, hb, F, hs, hD⟩, h2⟩ := h
  exact ⟨D, ⟨es, clock, e.trans hb, F, hs, hD⟩, h2⟩
theorem MapV.mono (h : MapV w b N z f) {N' : Nat} (hn : N ≤ N') : MapV w b N' z f := by obtain ⟨D, h, h2⟩ := h; exact ⟨D, h.mono hn, h2⟩
theorem MapV.look (h : MapV w b N z f) (ht : Try.prog.underlying t = some (.map 3 e)) (hz : (zeroValue e).run Try.prog w = .ok z w) {k : Int} (hk : I64 k) :
    (Instr.lookup t (.map (some b)) (.int .i64 k) false).run Try.prog w = .ok (f k) w := by
  obtain ⟨D, h, h2⟩ := h
  obtain ⟨v, ps, hr, hv⟩ := h.lookup keyI ht hz (zd := .held z) (zp := []) rfl (key_int hk)
  rw [h2 k hk] at hv
  simp only [heldR, Option.some.injEq, Prod.mk.injEq, DataW.held.injEq] at hv
  rw [hr, hv.1]
theorem MapV.store (h : MapV w b N z f) (ht : Try.prog.underlying t = some (.map 3 e)) (hn : N < maxLen) {k : Int} (hk : I64 k) (v : Value) :
    ∃ w', (Instr.mapUpdate t (.map (some b)) (.int .i64 k) v).run Try.prog w = .ok () w' ∧ MapV w' b (N + 1) z (U.upd f k v) ∧ w.grownBy w' (some b) := by
  obtain ⟨D, h, h2⟩ := h
  obtain ⟨w', hr, hm, hg⟩ := h.update keyI ht hn (key_int hk) (val := v) (d := .held v) (ps := []) rfl
  refine ⟨w', hr, ⟨_, hm, fun k' hk' => ?_⟩, hg⟩
  by_cases e : k' = k
  · subst e
    rw [U.upd_same]
    exact Go.Maps.atKey_put_same h.isMap (by simp [WideAt.IsKeyLit]) _ _
  · rw [U.upd_ne e, Go.Maps.atKey_put_other (by simpa using e)]
    exact h2 k' hk'
end
end K
end Go.Proofs.Ytoffhaamkhfdeaa
