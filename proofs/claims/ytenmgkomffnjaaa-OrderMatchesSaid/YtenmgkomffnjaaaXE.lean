/- Regions that draw their order and whose callees may allocate: one walk, in the class of the worlds that are as this one below a block. -/
import Derived.Test.YtenmgkomffnjaaaXA
namespace Go.Proofs.Ytenmgkomffnjaaa
open Go.RowKit
namespace K

/-- A world that is as 'w' below block B. -/
structure Later (B : Nat) (w : World) where
  W : World
  ok : Below B w W

instance (B : Nat) (w : World) : Nonempty (Later B w) := ⟨⟨w, Below.refl _ _⟩⟩

theorem wp_region_later {P : Program} {B : Nat} {w0 : World} {id : Nat} {Q : Exit → Act → World → Prop} {a : Act} {w : World} {l : List Oper} (hm : P.follows .mixedOrders = true) (hB : Region.lexB .any l.toArray = true) (hC : Below B w0 w)
    (h : wpQuiet P l.toArray (fun w' => ∃ x : Later B w0, w' = x.W) (fun a' => ∀ w', (∃ x : Later B w0, w' = x.W) → Q .normal a' w') l a) : (Code.region id l.toArray true).wp P Q a w :=
  wp_region_quiet hm hB ⟨⟨_, hC.drew⟩, rfl⟩ h

theorem later_of {P : Program} {B : Nat} {w0 : World} {f : FuncId} {args : Array Value} {v : Value} (x : Later B w0) (h : Calls P f args x.W fun e w' => e = .returned v ∧ Below B x.W w') :
    Calls P f args x.W fun e w'' => e = .returned v ∧ ∃ y : Later B w0, w'' = y.W :=
  h.mono fun _ _ ⟨he, hb⟩ => ⟨he, ⟨_, x.ok.trans hb⟩, rfl⟩
theorem later_mono {P : Program} {B : Nat} {w0 : World} {f : FuncId} {args : Array Value} {v : Value} (x : Later B w0) (hB : B ≤ w0.heap.size) (h : Calls P f args x.W fun e w' => e = .returned v ∧ Below x.W.heap.size x.W w') :
    Calls P f args x.W fun e w'' => e = .returned v ∧ ∃ y : Later B w0, w'' = y.W :=
  later_of x (h.mono fun _ _ ⟨he, hb⟩ => ⟨he, hb.mono (Nat.le_trans hB x.ok.size)⟩)
theorem later_same {P : Program} {B : Nat} {w0 : World} {f : FuncId} {args : Array Value} {v : Value} (x : Later B w0) (h : Calls P f args x.W fun e w' => e = .returned v ∧ x.W = w') :
    Calls P f args x.W fun e w'' => e = .returned v ∧ ∃ y : Later B w0, w'' = y.W :=
  h.mono fun _ _ ⟨he, hb⟩ => ⟨he, x, hb.symm⟩
theorem Later.cell {B : Nat} {w0 : World} (x : Later B w0) {p : Addr} (h : p.block < B) : x.W.cell? p = w0.cell? p := x.ok.cell h
theorem Ints.later {B : Nat} {w0 : World} {v : Value} {l : List Int} (h : Ints w0 v l) (hB : w0.heap.size ≤ B) (x : Later B w0) : Ints x.W v l := h.below (x.ok.mono hB)
theorem Bools.later {B : Nat} {w0 : World} {v : Value} {l : List Bool} (h : Bools w0 v l) (hB : w0.heap.size ≤ B) (x : Later B w0) : Bools x.W v l := h.below (x.ok.mono hB)
theorem Lists.later {B : Nat} {w0 : World} {v : Value} {l : List (List Int)} (h : Lists w0 v l) (hB : w0.heap.size ≤ B) (x : Later B w0) : Lists x.W v l := h.below (x.ok.mono hB)
end K
end Go.Proofs.Ytenmgkomffnjaaa
